/-
  Types as they landed: shapes in memory; what a shape stands for, its parts, its size. Conditions: written at each theorem.
-/
import Derived.Test.YtjjanmccijghgaaDoorHc
namespace Go.Proofs.YtjjanmccijghgaaDoor
open Go.ChangeShapes Go.WideShapes Go.ChangeAt Go.RowKit
set_option linter.unusedVariables false

abbrev shP (bl : Nat → Nat) (i : Nat) : Value := .pointer (some ⟨bl i, 0, none⟩)
/-- What the pointers of a shape are: those of the entries to which it leads. -/
def shX (bl : Nat → Nat) (q : Nat) (ks : List Int) : Value := if q < ks.length then shP bl (ks.getD q 0).toNat else .pointer none
def shRow (bl : Nat → Nat) (t : Typ) : Array Value := #[.int .i64 t.kind, shX bl 0 (kidZ t), shX bl 1 (kidZ t)]

/-- The shapes of a table, each in a block of its own. -/
structure Shp (w : World) (bl : Nat → Nat) (ts : List Typ) : Prop where
  row : ∀ i, i < ts.length → w.heap[bl i]? = some (.cells (shRow bl (ts.getD i noTyp)) 60 (0, 0))
  inj : ∀ i j, i < ts.length → j < ts.length → bl i = bl j → i = j

theorem Shp.lt {w : World} {bl : Nat → Nat} {ts : List Typ} (h : Shp w bl ts) {i : Nat} (hi : i < ts.length) : bl i < w.heap.size := (Array.getElem?_eq_some_iff.1 (h.row i hi)).1

theorem Shp.below {w w' : World} {bl : Nat → Nat} {ts : List Typ} (h : Shp w bl ts) (hb : Below w.heap.size w w') : Shp w' bl ts :=
  ⟨fun i hi => (hb.block _ (h.lt hi)).trans (h.row i hi), h.inj⟩

theorem Shp.cells {w : World} {bl : Nat → Nat} {ts : List Typ} (h : Shp w bl ts) {i : Nat} (hi : i < ts.length) :
    w.cell? ⟨bl i, 0, none⟩ = some (.int .i64 (ts.getD i noTyp).kind) ∧ w.cell? ⟨bl i, 1, none⟩ = some (shX bl 0 (kidZ (ts.getD i noTyp))) ∧ w.cell? ⟨bl i, 2, none⟩ = some (shX bl 1 (kidZ (ts.getD i noTyp))) ∧ ∀ j, w.frozen? ⟨bl i, j, none⟩ = false := by
  have hr := h.row i hi
  refine ⟨?_, ?_, ?_, fun j => frozen_of_row w _ j _ _ hr⟩ <;> rw [cell_of_row _ _ _ _ _ _ hr] <;> rfl

/-- Which shape lies in a block. -/
def unB (bl : Nat → Nat) : Nat → Nat → Nat
  | 0, _ => 0
  | n + 1, g => if bl n = g then n else unB bl n g
def ptrOf : Value → Nat
  | .pointer (some a) => a.block
  | _ => 0

theorem ks_mem (ks : List Int) (q : Nat) (h : q < ks.length) : ks.getD q 0 ∈ ks := by simp [List.getD, h]

theorem unB_bl {bl : Nat → Nat} : ∀ {n j : Nat}, (∀ i j, i < n → j < n → bl i = bl j → i = j) → j < n → unB bl n (bl j) = j
  | 0, j, _, h => absurd h (by omega)
  | n + 1, j, hi, h => by
    rw [unB]
    by_cases e : bl n = bl j
    · rw [if_pos e]
      exact hi n j (by omega) h e
    · rw [if_neg e]
      have : j ≠ n := fun q => e (by rw [q])
      exact unB_bl (fun i j h1 h2 => hi i j (by omega) (by omega)) (by omega)

theorem shX_bound {t : Typ} (bl : Nat → Nat) (h0 : t.kind = 0) (ha : 0 ≤ t.a) : shX bl 0 (kidZ t) = shP bl t.a.toNat := by simp [shX, kidZ, h0, ha]
theorem shX_free {t : Typ} (bl : Nat → Nat) (h0 : t.kind = 0) (ha : t.a < 0) : shX bl 0 (kidZ t) = .pointer none := by simp [shX, kidZ, h0, show ¬ 0 ≤ t.a by omega]

set_option maxHeartbeats 1000000 in
set_option maxRecDepth 20000 in
theorem impl_follow {ts : List Typ} {r : Nat → Nat} {ρ : Nat → Tr} (h : Ok ts r ρ) (bl : Nat → Nat) (i : Nat) (hi : i < ts.length) (w : World) (hS : Shp w bl ts) :
    Calls Tryd.prog 31 #[shP bl i] w fun e w' => (∃ j : Nat, e = .returned (shP bl j) ∧ Found ts r ρ i j) ∧ w' = w := by
  have HA : Hid (Shp w bl ts) := hS
  have HH : Hid (Ok ts r ρ) := h
  clear hS h
  go_enter Tryd.func31, Tryd.ntmps31
  go_wp2
  go_loop [0] (fun v => ∃ j : Nat, v = shP bl j ∧ j < ts.length ∧ Hid (ρ j = ρ i) ∧ Hid (r j ≤ r i)) (fun v => r (unB bl ts.length (ptrOf v)))
  case atStart => exact ⟨i, rfl, hi, rfl, Nat.le_refl _⟩
  case round =>
    obtain ⟨j, rfl, hj, HS, HR⟩ := hrel
    obtain ⟨c0, c1, _, _⟩ := HA.out.cells hj
    have HU : Hid (unB bl ts.length (bl j) = j) := unB_bl HA.out.inj hj
    by_cases h0 : (ts.getD j noTyp).kind = 0
    · rw [h0] at c0
      by_cases ha : 0 ≤ (ts.getD j noTyp).a
      · rw [shX_bound bl h0 ha] at c1
        have h3 := HH.out.bound hj h0 ha
        have h1 := HH.out.rk j hj _ (kid_bound h0 ha)
        have h2 := (HH.out.ent j hj).kids _ (kid_bound h0 ha)
        have hm : (ts.getD j noTyp).a.toNat < ts.length := by omega
        generalize (ts.getD j noTyp).a.toNat = m at *
        have HS' : Hid (ρ m = ρ i) := by show _ = _; rw [← HS.out, h3]
        have HR' : Hid (r m ≤ r i) := by show _ ≤ _; have := HR.out; omega
        have HU' : Hid (unB bl ts.length (bl m) = m) := unB_bl HA.out.inj hm
        have HM : Hid (r m < r j) := h1
        clear h1 h2 h3 h0 ha HS HR
        go_wp2
        go_round
        case rel => exact ⟨m, rfl, hm, HS', HR'⟩
        case measure =>
          show r (unB bl ts.length (bl m)) < r (unB bl ts.length (bl j))
          rw [HU.out, HU'.out]
          exact HM.out
      · rw [shX_free bl h0 (by omega)] at c1
        have HF : Hid (Found ts r ρ i j) := ⟨hj, HS.out, HR.out, fun _ => by omega⟩
        clear h0 ha
        go_wp2
        go_ret
        exact ⟨⟨j, rfl, HF.out⟩, rfl⟩
    · have HF : Hid (Found ts r ρ i j) := ⟨hj, HS.out, HR.out, fun q => absurd q h0⟩
      generalize (ts.getD j noTyp).kind = k at c0 h0
      go_wp2
      go_ret
      exact ⟨⟨j, rfl, HF.out⟩, rfl⟩

/-- Pointers to shapes that lie in a block. -/
def PtrAt (w : World) (g : Nat) (bl : Nat → Nat) (ks : List Int) : Prop := ∀ q, q < ks.length → w.cell? ⟨g, q, none⟩ = some (shP bl (ks.getD q 0).toNat)

theorem PtrAt.lt {w : World} {g : Nat} {bl : Nat → Nat} {ks : List Int} (h : PtrAt w g bl ks) (hl : 0 < ks.length) : g < w.heap.size := typ_lt (h 0 hl)

theorem PtrAt.below {w w' : World} {g B : Nat} {bl : Nat → Nat} {ks : List Int} (h : PtrAt w g bl ks) (hb : Below B w w') (hg : 0 < ks.length → g < B) : PtrAt w' g bl ks :=
  fun i hi => (World.cell?_of_block (hb.block g (hg (by omega)))).trans (h i hi)

def ParEnd (w : World) (bl : Nat → Nat) (ks : List Int) (e : Ending) (w' : World) : Prop :=
  ∃ (a : Option Addr) (G c : Nat), e = .returned (.slice a ks.length c) ∧ (0 < ks.length → a = some ⟨G, 0, none⟩) ∧ PtrAt w' G bl ks ∧ Below w.heap.size w w'

theorem ptr_new {w : World} {N : Nat} (hN : w.heap.size = N) (bl : Nat → Nat) (ks : List Int) (cs : Array Value) (hcs : cs = (ks.map (fun k => shP bl k.toNat)).toArray) (t : TypeId) : PtrAt (w.alloc (.cells cs t)) N bl ks := by
  subst hN hcs
  intro q hq
  rw [cell_of_row _ _ _ _ _ _ (MapKept.heap_alloc w _).1]
  simp [List.getD, hq]

set_option maxHeartbeats 1000000 in
set_option maxRecDepth 20000 in
theorem impl_parts (bl : Nat → Nat) (ts : List Typ) (j : Nat) (hj : j < ts.length) (hup : (ts.getD j noTyp).kind = 0 → (ts.getD j noTyp).a < 0) (w : World) (hS : Shp w bl ts) :
    Calls Tryd.prog 43 #[shP bl j] w (ParEnd w bl (kidZ (ts.getD j noTyp))) := by
  obtain ⟨c0, c1, c2, _⟩ := hS.cells hj
  clear hS
  generalize ts.getD j noTyp = t at *
  obtain ⟨k, x, y⟩ := t
  rcases (by omega : k = 0 ∨ k = 2 ∨ k = 3 ∨ k = 4 ∨ k = 5 ∨ (k ≠ 0 ∧ k ≠ 2 ∧ k ≠ 3 ∧ k ≠ 4 ∧ k ≠ 5)) with rfl | rfl | rfl | rfl | rfl | ⟨h0, h2, h3, h4, h5⟩
  · have hx : ¬ 0 ≤ x := by have := hup rfl; simp at this; omega
    have e : kidZ ⟨0, x, y⟩ = [] := by simp [kidZ, hx]
    rw [e]
    clear c1 c2 hup hx
    go_enter Tryd.func43, Tryd.ntmps43
    go_wp2
    go_ret
    exact ⟨_, 0, _, rfl, fun h => absurd h (by simp), fun q hq => absurd hq (by simp), Below.refl _ _⟩
  · have e : kidZ ⟨2, x, y⟩ = [x, y] := by simp [kidZ]
    rw [e] at c1 c2 ⊢
    change w.cell? ⟨bl j, 1, none⟩ = some (shP bl x.toNat) at c1
    change w.cell? ⟨bl j, 2, none⟩ = some (shP bl y.toNat) at c2
    go_enter Tryd.func43, Tryd.ntmps43
    go_wp2
    go_region_law (fail)
    all_goals
      go_wp2
      go_ret
      exact ⟨_, _, _, rfl, fun _ => rfl, ptr_new rfl bl [x, y] _ rfl _, (Below.refl _ w).drew.alloc (by simp) _⟩
  · have e : kidZ ⟨3, x, y⟩ = [x, y] := by simp [kidZ]
    rw [e] at c1 c2 ⊢
    change w.cell? ⟨bl j, 1, none⟩ = some (shP bl x.toNat) at c1
    change w.cell? ⟨bl j, 2, none⟩ = some (shP bl y.toNat) at c2
    go_enter Tryd.func43, Tryd.ntmps43
    go_wp2
    go_region_law (fail)
    all_goals
      go_wp2
      go_ret
      exact ⟨_, _, _, rfl, fun _ => rfl, ptr_new rfl bl [x, y] _ rfl _, (Below.refl _ w).drew.alloc (by simp) _⟩
  · have e : kidZ ⟨4, x, y⟩ = [x] := by simp [kidZ]
    rw [e] at c1 c2 ⊢
    change w.cell? ⟨bl j, 1, none⟩ = some (shP bl x.toNat) at c1
    go_enter Tryd.func43, Tryd.ntmps43
    go_wp2
    go_ret
    exact ⟨_, _, _, rfl, fun _ => rfl, ptr_new rfl bl [x] _ rfl _, (Below.refl _ w).alloc (by simp) _⟩
  · have e : kidZ ⟨5, x, y⟩ = [x] := by simp [kidZ]
    rw [e] at c1 c2 ⊢
    change w.cell? ⟨bl j, 1, none⟩ = some (shP bl x.toNat) at c1
    go_enter Tryd.func43, Tryd.ntmps43
    go_wp2
    go_ret
    exact ⟨_, _, _, rfl, fun _ => rfl, ptr_new rfl bl [x] _ rfl _, (Below.refl _ w).alloc (by simp) _⟩
  · have e : kidZ ⟨k, x, y⟩ = [] := by simp [kidZ, h0, h2, h3, h4, h5]
    rw [e]
    clear c1 c2 hup
    go_enter Tryd.func43, Tryd.ntmps43
    go_wp2
    go_ret
    exact ⟨_, 0, _, rfl, fun h => absurd h (by simp), fun q hq => absurd hq (by simp), Below.refl _ _⟩

set_option maxHeartbeats 2000000 in
set_option maxRecDepth 20000 in
theorem impl_sizeUp {ts : List Typ} {r : Nat → Nat} {ρ : Nat → Tr} (h : Ok ts r ρ) (bl : Nat → Nat) : ∀ (K i most : Nat), i < ts.length → r i < K → most ≤ 1000 → ∀ w : World, Shp w bl ts →
    Calls Tryd.prog 36 #[shP bl i, .int .i64 most] w fun e w' => e = .returned (.int .i64 ((min (sizeT (ρ i)) most : Nat) : Int)) ∧ Below w.heap.size w w' := by
  intro K
  induction K with
  | zero => intro i most _ h; omega
  | succ K ih =>
    intro i most hi hK hm w hA
    have HA : Hid (Shp w bl ts) := hA
    have HH : Hid (Ok ts r ρ) := h
    have IH : Hid (_) := ih
    clear hA h ih
    by_cases hm0 : most = 0
    · subst hm0
      go_enter Tryd.func36, Tryd.ntmps36
      go_wp2
      go_ret
      exact ⟨by simp, Below.refl _ _⟩
    · have hm1 : ¬ (most : Int) ≤ 0 := by omega
      go_enter Tryd.func36, Tryd.ntmps36
      go_wp2_with fail
      refine (impl_follow HH.out bl i hi w HA.out).mono ?_
      rintro e w1 ⟨⟨j, rfl, hf⟩, rfl⟩
      have HF : Hid (Found ts r ρ i j) := hf
      have HP : Hid (Calls _ _ _ _ _) := impl_parts bl ts j hf.lt hf.up w1 HA.out
      have hkl := kidZ_length (ts.getD j noTyp)
      have hsz : sizeT (ρ i) = 1 + sumK ρ (kidZ (ts.getD j noTyp)) (kidZ (ts.getD j noTyp)).length := by
        by_cases h0 : (ts.getD j noTyp).kind = 0
        · have hup := hf.up h0
          rw [← hf.same, HH.out.free j hf.lt h0 hup, show kidZ (ts.getD j noTyp) = [] by unfold kidZ; rw [if_pos h0, if_neg (by omega)]]
          rfl
        · rw [← hf.same, HH.out.con hf.lt h0]
          exact size_rhs _ _ h0
      have hks : ∀ q, q < (kidZ (ts.getD j noTyp)).length → ((kidZ (ts.getD j noTyp)).getD q 0).toNat < ts.length ∧ r ((kidZ (ts.getD j noTyp)).getD q 0).toNat < K := fun q hq => by
        have hmem := ks_mem _ q hq
        have h1 := HH.out.rk j hf.lt _ hmem
        have h2 := (HH.out.ent j hf.lt).kids _ hmem
        have h3 := hf.rk
        exact ⟨by omega, by omega⟩
      unfold ParEnd at HP
      generalize kidZ (ts.getD j noTyp) = ks at *
      have HSZ : Hid (sizeT (ρ i) = 1 + sumK ρ ks ks.length) := hsz
      have HKS : Hid (∀ q, q < ks.length → (ks.getD q 0).toNat < ts.length ∧ r (ks.getD q 0).toNat < K) := hks
      clear hsz hks hf
      go_wp2_with fail
      refine HP.out.mono ?_
      rintro e w2 ⟨ka, G, kc, rfl, hka, hkA, kb⟩
      have HKA : Hid (PtrAt w2 G bl ks) := hkA
      have HKB : Hid (Below w1.heap.size w1 w2) := kb
      have HA2 : Hid (Shp w2 bl ts) := HA.out.below kb
      have sz2 := kb.size
      clear hkA kb HP
      go_wp2
      go_loopw [5, 14] (fun nv jv wr => ∃ n q : Nat, nv = .int .i64 n ∧ jv = .int .i64 q ∧ q ≤ ks.length ∧ n ≤ most ∧ Hid (n = min (1 + sumK ρ ks q) most) ∧ Below w2.heap.size w2 wr) (fun _ jv _ => ks.length - (intOf jv).toNat)
      case atStart => exact ⟨1, 0, rfl, rfl, by omega, by omega, by show 1 = min (1 + 0) most; omega, Below.refl _ _⟩
      case round =>
        obtain ⟨n, q, rfl, rfl, hq, hn, HN, hb⟩ := hrel
        have hbs := hb.size
        by_cases hin : q < ks.length
        · have hin' : (q : Int) < ks.length := by omega
          obtain rfl := hka (by omega)
          obtain ⟨hm2, hm3⟩ := HKS.out q hin
          have ck := (HKA.out.below hb (fun h => HKA.out.lt h)) q hin
          have HS2 : Hid (sumK ρ ks (q + 1) = sumK ρ ks q + sizeT (ρ (ks.getD q 0).toNat)) := rfl
          generalize (ks.getD q 0).toNat = m at *
          have HAr : Hid (Shp wr bl ts) := HA2.out.below hb
          have e5 : (most : Int) - n = ((most - n : Nat) : Int) := by omega
          go_wp2_with fail
          refine (IH.out m (most - n) hm2 hm3 (by omega) wr HAr.out).mono ?_
          rintro e w3 ⟨rfl, b3⟩
          have hb3 : Below w2.heap.size w2 w3 := hb.trans (b3.mono hbs)
          have HN3 : Hid (n + min (sizeT (ρ m)) (most - n) = min (1 + sumK ρ ks (q + 1)) most) := by
            show n + min (sizeT (ρ m)) (most - n) = _
            have := HN.out
            rw [HS2.out]
            omega
          clear HN b3 hb ck
          generalize min (sizeT (ρ m)) (most - n) = d at HN3
          have hd : n + d ≤ most := by have := HN3.out; omega
          go_wp2
          go_roundw
          case rel => exact ⟨n + d, q + 1, by go_num, by go_num, by omega, by omega, HN3, hb3⟩
          case measure => simp [intOf]; omega
        · obtain rfl : q = ks.length := by omega
          have HV : Hid (n = min (sizeT (ρ i)) most) := by show n = _; rw [HSZ.out]; exact HN.out
          clear HN
          go_wp2
          go_ret
          exact ⟨by rw [← HV.out] <;> rfl, HKB.out.trans (hb.mono sz2)⟩

theorem impl_size {ts : List Typ} {r : Nat → Nat} {ρ : Nat → Tr} (h : Ok ts r ρ) (bl : Nat → Nat) (i : Nat) (hi : i < ts.length) (w : World) (hS : Shp w bl ts) :
    Calls Tryd.prog 21 #[shP bl i] w fun e w' => e = .returned (.int .i64 ((min (sizeT (ρ i)) 61 : Nat) : Int)) ∧ Below w.heap.size w w' := by
  have HC : Hid (Calls Tryd.prog 36 #[shP bl i, .int .i64 61] w fun e w' => e = .returned (.int .i64 ((min (sizeT (ρ i)) 61 : Nat) : Int)) ∧ Below w.heap.size w w') := impl_sizeUp h bl (r i + 1) i 61 hi (by omega) (by omega) w hS
  clear h hS
  go_enter Tryd.func21, Tryd.ntmps21
  go_wp2_with fail
  refine HC.out.mono ?_
  rintro e w1 ⟨rfl, b1⟩
  go_wp2
  go_ret
  exact ⟨rfl, b1⟩
end Go.Proofs.YtjjanmccijghgaaDoor
