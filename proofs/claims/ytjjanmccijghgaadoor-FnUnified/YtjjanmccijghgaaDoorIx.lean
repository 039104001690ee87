/-
  Types as they landed: a shape comes to stand for another one. Conditions: written at each theorem.
-/
import Derived.Test.YtjjanmccijghgaaDoorIw
namespace Go.Proofs.YtjjanmccijghgaaDoor
open Go.ChangeShapes Go.WideShapes Go.ChangeAt Go.RowKit
set_option linter.unusedVariables false

/-- An entry that is not free comes to stand for another one that is the same. -/
theorem Ok.point2 {ts : List Typ} {r : Nat → Nat} {ρ : Nat → Tr} (h : Ok ts r ρ) {x y : Nat} (hx : x < ts.length) (hy : y < ts.length) (kx : freeT (ts.getD x noTyp) = false) (ky : (ts.getD y noTyp).kind ≠ 0) (hne : x ≠ y) (he : ρ x = ρ y) :
    (∃ r', Ok (ts.set x (linkT y)) r' ρ) ∧ nfT (ts.set x (linkT y)) = nfT ts := by
  have hl : (ts.set x (linkT y)).length = ts.length := by simp
  refine ⟨⟨fun i => if sizeT (ρ i) < sizeT (ρ x) ∨ i = y then r i else r i + r y + 1, ?_, ?_, ?_, ?_⟩, nf_link_con hx kx⟩
  · intro i hi
    rw [hl] at hi ⊢
    rw [set_at _ _ _ _ hx]
    split
    · exact ent_link _ _ hy
    · exact h.ent i hi
  · intro i hi k hk
    rw [hl] at hi
    rw [set_at _ _ _ _ hx] at hk
    show (if sizeT (ρ k.toNat) < sizeT (ρ x) ∨ k.toNat = y then r k.toNat else r k.toNat + r y + 1) < if sizeT (ρ i) < sizeT (ρ x) ∨ i = y then r i else r i + r y + 1
    split at hk
    · rename_i e
      rw [kid_link] at hk
      simp at hk
      subst hk e
      rw [if_pos (Or.inr (by simp)), if_neg (fun q => q.elim (fun q => by omega) hne)]
      simp
      omega
    · have h1 := h.rk i hi k hk
      have hsz : (ts.getD i noTyp).kind ≠ 0 → sizeT (ρ k.toNat) < sizeT (ρ i) := fun h0 => by
        rw [h.con hi h0]
        exact rhs_kid_size h0 hk
      by_cases hk1 : sizeT (ρ k.toNat) < sizeT (ρ x) ∨ k.toNat = y
      · rw [if_pos hk1]
        split <;> omega
      · rw [if_neg hk1]
        have hki : ¬ (sizeT (ρ i) < sizeT (ρ x) ∨ i = y) := fun q => by
          rcases q with q | q
          · by_cases h0 : (ts.getD i noTyp).kind = 0
            · obtain ⟨hka, hk2⟩ := kid_var h0 hk
              rw [h.bound hi h0 hka, ← hk2] at q
              exact hk1 (Or.inl q)
            · have := hsz h0
              exact hk1 (Or.inl (by omega))
          · subst q
            have := hsz ky
            rw [← he] at this
            exact hk1 (Or.inl this)
        rw [if_neg hki]
        omega
  · intro i hi
    rw [hl] at hi
    rw [set_at _ _ _ _ hx]
    split
    · rename_i e
      subst e
      simpa [eqnT, linkT] using he
    · exact h.sat i hi
  · intro i hi
    rw [hl] at hi
    rw [set_at _ _ _ _ hx]
    split
    · intro _ q
      simp [linkT] at q
      omega
    · exact h.free i hi

/-- Of the blocks that were there, none but shapes have turned. -/
structure Shm (bl : Nat → Nat) (n : Nat) (w w' : World) : Prop where
  os : w'.os = w.os
  tape : w'.tape = w.tape
  output : w'.output = w.output
  size : w.heap.size ≤ w'.heap.size
  block : ∀ k, k < w.heap.size → (∀ i, i < n → bl i ≠ k) → w'.heap[k]? = w.heap[k]?

theorem Shm.of_below {bl : Nat → Nat} {n : Nat} {w w' : World} (h : Below w.heap.size w w') : Shm bl n w w' := ⟨h.os, h.tape, h.output, h.size, fun k hk _ => h.block k hk⟩

theorem Shm.trans {bl : Nat → Nat} {n : Nat} {a b c : World} (h : Shm bl n a b) (k : Shm bl n b c) : Shm bl n a c :=
  ⟨k.os.trans h.os, k.tape.trans h.tape, k.output.trans h.output, Nat.le_trans h.size k.size, fun i hi hn => (k.block i (Nat.lt_of_lt_of_le hi h.size) hn).trans (h.block i hi hn)⟩

theorem Shm.set {bl : Nat → Nat} {n : Nat} {a w : World} (h : Shm bl n a w) {x : Nat} (hx : x < n) (j : Nat) (v : Value) : Shm bl n a (w.setCell ⟨bl x, j, none⟩ v) := by
  have hb : Below 0 w (w.setCell ⟨bl x, j, none⟩ v) := (Below.refl _ _).setCell (Nat.zero_le _) v
  exact ⟨hb.os.trans h.os, hb.tape.trans h.tape, hb.output.trans h.output, Nat.le_trans h.size hb.size, fun k hk hn => (heap_setCell_other w ⟨bl x, j, none⟩ k v (fun e => hn x hx e.symm)).trans (h.block k hk hn)⟩

theorem Shm.below {bl : Nat → Nat} {n B : Nat} {w w' : World} (h : Shm bl n w w') (hB : B ≤ w.heap.size) (hb : ∀ i, i < n → B ≤ bl i) : Below B w w' :=
  ⟨h.os, h.tape, h.output, h.size, fun k hk => h.block k (Nat.lt_of_lt_of_le hk hB) (fun i hi e => by have := hb i hi; omega)⟩

theorem link_row (bl : Nat → Nat) (y : Nat) : shRow bl (linkT y) = #[.int .i64 0, shP bl y, .pointer none] := by
  unfold shRow
  rw [kid_link]
  simp [shX, linkT]

/-- A shape is written over by one that stands for another. -/
theorem Shp.link {w : World} {bl : Nat → Nat} {ts : List Typ} (h : Shp w bl ts) {x : Nat} (hx : x < ts.length) (y : Nat) :
    Shp (((w.setCell ⟨bl x, 0, none⟩ (.int .i64 0)).setCell ⟨bl x, 1, none⟩ (shP bl y)).setCell ⟨bl x, 2, none⟩ (.pointer none)) bl (ts.set x (linkT y)) := by
  refine ⟨fun i hi => ?_, fun i j hi hj => h.inj i j (by simpa using hi) (by simpa using hj)⟩
  have hi' : i < ts.length := by simpa using hi
  rw [set_at _ _ _ _ hx]
  by_cases e : i = x
  · subst e
    rw [if_pos rfl, link_row]
    rw [heap_setCell_same _ _ _ _ _ _ (heap_setCell_same _ _ _ _ _ _ (heap_setCell_same _ _ _ _ _ _ (h.row i hi')))]
    rfl
  · have hne : bl i ≠ bl x := fun q => e (h.inj i x hi' hx q)
    rw [if_neg e, heap_setCell_other _ ⟨bl x, 2, none⟩ _ _ hne, heap_setCell_other _ ⟨bl x, 1, none⟩ _ _ hne, heap_setCell_other _ ⟨bl x, 0, none⟩ _ _ hne]
    exact h.row i hi'

set_option maxHeartbeats 1000000 in
set_option maxRecDepth 20000 in
theorem impl_pointTo (bl : Nat → Nat) (ts : List Typ) (x y : Nat) (hx : x < ts.length) (w : World) (hS : Shp w bl ts) :
    Calls Tryd.prog 42 #[shP bl x, shP bl y] w fun e w' => e = .returned (.tuple #[]) ∧ Shp w' bl (ts.set x (linkT y)) ∧ Shm bl ts.length w w' := by
  obtain ⟨c0, c1, c2, f⟩ := hS.cells hx
  have f0 := f 0
  have f1 := f 1
  have f2 := f 2
  have HN : Hid (Shp (((w.setCell ⟨bl x, 0, none⟩ (.int .i64 0)).setCell ⟨bl x, 1, none⟩ (shP bl y)).setCell ⟨bl x, 2, none⟩ (.pointer none)) bl (ts.set x (linkT y))) := hS.link hx y
  have HM : Hid (Shm bl ts.length w (((w.setCell ⟨bl x, 0, none⟩ (.int .i64 0)).setCell ⟨bl x, 1, none⟩ (shP bl y)).setCell ⟨bl x, 2, none⟩ (.pointer none))) := (((Shm.of_below (Below.refl _ w)).set hx 0 _).set hx 1 _).set hx 2 _
  clear hS f
  go_enter Tryd.func42, Tryd.ntmps42
  go_wp2
  go_end0
  exact ⟨rfl, HN.out, HM.out⟩

/-- What is known where two shapes were tried to be made one. -/
structure MkOk (u : List Typ) (ρ : Nat → Tr) (x y : Nat) (v : Bool) (u' : List Typ) : Prop where
  len : u'.length = u.length
  free : ∀ i, freeT (u.getD i noTyp) = false → freeT (u'.getD i noTyp) = false
  yes : v = true → (∃ r' ρ', Ok u' r' ρ' ∧ (nfT u' < nfT u ∨ ∀ i, i < u.length → ρ' i = ρ i)) ∧ (∀ τ, Sat u' τ ↔ Sat u τ ∧ τ x = τ y) ∧ ∀ z, z < u.length → (u.getD z noTyp).kind ≠ 0 → (u'.getD z noTyp).kind = 0 → ∀ τ, Sat u' τ → sizeT (τ z) ≤ sizeT (τ x)
  no : v = false → ∀ τ, Sat u τ → τ x = τ y → 60 < sizeT (τ x)

theorem mk_bind {u : List Typ} {r : Nat → Nat} {ρ : Nat → Tr} (h : Ok u r ρ) {i j : Nat} (hi : i < u.length) (hj : j < u.length) (h0 : (u.getD i noTyp).kind = 0) (hf : (u.getD i noTyp).a < 0) (ho : occT i (ρ j) = false) : MkOk u ρ i j true (u.set i (linkT j)) := by
  obtain ⟨⟨r', ρ', h1⟩, h2⟩ := h.bind hi hj h0 hf ho
  have hn := nf_link (b := j) hi (by unfold freeT; rw [decide_eq_true h0, decide_eq_true hf]; rfl)
  refine ⟨by simp, fun k hk => ?_, fun _ => ⟨⟨r', ρ', h1, Or.inl (by omega)⟩, h2, fun z hz hk hk' => ?_⟩, fun q => by cases q⟩
  · rw [set_at _ _ _ _ hi]
    split
    · exact free_link j
    · exact hk
  · rw [set_at _ _ _ _ hi] at hk'
    split at hk'
    · rename_i e
      rw [e] at hk
      exact absurd h0 hk
    · exact absurd hk' hk

theorem mk_occ {u : List Typ} {r : Nat → Nat} {ρ : Nat → Tr} (h : Ok u r ρ) {i j : Nat} (hi : i < u.length) (hj : j < u.length) (hne : i ≠ j) (h0 : (u.getD i noTyp).kind = 0) (hf : (u.getD i noTyp).a < 0) (hup : (u.getD j noTyp).kind = 0 → (u.getD j noTyp).a < 0) (ho : occT i (ρ j) = true) : MkOk u ρ i j false u :=
  ⟨rfl, fun _ h => h, fun q => (by cases q), fun _ τ hs he => absurd he ((uni_occ h hi hj hne h0 hf hup ho).no rfl τ hs)⟩

theorem mk_great {u : List Typ} {r : Nat → Nat} {ρ : Nat → Tr} (h : Ok u r ρ) {i j : Nat} (hj : j < u.length) (hz : 60 < sizeT (ρ j)) : MkOk u ρ i j false u :=
  ⟨rfl, fun _ h => h, fun q => (by cases q), fun _ τ hs he => by
    have h1 := (h.sat_iff τ).1 hs j hj
    have h2 := size_sub τ (ρ j)
    rw [← h1] at h2
    rw [he]
    omega⟩

theorem mk_eq {u : List Typ} {r : Nat → Nat} {ρ : Nat → Tr} (h : Ok u r ρ) {a b : Nat} (ha : a < u.length) (hb : b < u.length) (he : ρ a = ρ b) : MkOk u ρ a b true u :=
  ⟨rfl, fun _ h => h, fun _ => ⟨⟨r, ρ, h, Or.inr fun _ _ => rfl⟩, fun τ => ⟨fun hs => ⟨hs, h.same hs ha hb he⟩, fun hs => hs.1⟩, fun z _ h1 h2 => absurd h2 h1⟩, fun q => by cases q⟩
end Go.Proofs.YtjjanmccijghgaaDoor
