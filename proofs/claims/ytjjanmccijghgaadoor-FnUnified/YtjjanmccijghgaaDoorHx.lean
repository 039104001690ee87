/-
  The writer of types as it landed: its free variables, its texts. Conditions: written at each theorem.
-/
import Derived.Test.YtjjanmccijghgaaDoorHw
import Derived.Test.YtjjanmccijghgaaDoorHl
import Derived.Test.YtjjanmccijghgaaDoorHj
import Derived.Test.YtjjanmccijghgaaDoorDi
import Derived.LaidEqlPtr
namespace Go.Proofs.YtjjanmccijghgaaDoor
open Go.ChangeShapes Go.WideShapes Go.ChangeAt Go.RowKit
set_option linter.unusedVariables false

theorem shp_info : (Tryd.prog.info? 60).map (fun i => (i.zero, i.size, i.bytes)) = some (some (.agg #[.int .i64 0, .pointer none, .pointer none]), 3, 24) := by kernel_rfl
theorem ptr_info : (Tryd.prog.info? 47).map (fun i => (i.zero, i.size, i.bytes)) = some (some (.pointer none), 1, 8) := by kernel_rfl

theorem Shp.keep {w w' : World} {bl : Nat → Nat} {ts : List Typ} {B : Nat} (h : Shp w bl ts) (hb : Below B w w') (hlt : ∀ i, i < ts.length → bl i < B) : Shp w' bl ts :=
  ⟨fun i hi => (hb.block _ (hlt i hi)).trans (h.row i hi), h.inj⟩

/-- Two pointers to shapes, held against each other. -/
theorem ptr_eq {w : World} {bl : Nat → Nat} {ts : List Typ} (h : Shp w bl ts) {i j : Nat} (hi : i < ts.length) (hj : j < ts.length) :
    (binOp .eql 47 (shP bl i) (shP bl j)).run Tryd.prog w = .ok (.bool (decide (i = j))) w := by
  obtain ⟨k, hk, hz0, hz1, hz2⟩ := info_parts shp_info
  by_cases e : i = j
  · subst e
    rw [decide_eq_true rfl]
    exact run_eql_ptr_same w _ Tryd.underlying47 hk
  · rw [decide_eq_false e]
    refine run_eql_ptr_other w Tryd.underlying47 hk (by rw [hz1]; decide) (fun q => e (h.inj i j hi hj (by simpa using q))) (h.row i hi) (h.row j hj)

theorem Ok.occ {ts : List Typ} {r : Nat → Nat} {ρ : Nat → Tr} (h : Ok ts r ρ) : ∀ (n i : Nat), r i < n → i < ts.length → ∀ v, occT v (ρ i) = true → v < ts.length
  | 0, i, hn, _ => absurd hn (by omega)
  | n + 1, i, hn, hi => by
    intro v ho
    have hk : ∀ k ∈ kidZ (ts.getD i noTyp), occT v (ρ k.toNat) = true → v < ts.length := fun k hk ho => by
      have h1 := h.rk i hi k hk
      have h2 := (h.ent i hi).kids k hk
      exact h.occ n _ (by omega) (by omega) v ho
    by_cases h0 : (ts.getD i noTyp).kind = 0
    · by_cases ha : 0 ≤ (ts.getD i noTyp).a
      · rw [h.bound hi h0 ha] at ho
        exact hk _ (kid_bound h0 ha) ho
      · rw [h.free i hi h0 (by omega)] at ho
        simp [varT, occT] at ho
        omega
    · rw [h.con hi h0] at ho
      unfold rhsT at ho
      unfold kidZ at hk
      rw [if_neg h0] at hk
      split at ho
      · rename_i h2
        rw [if_pos h2] at hk
        rw [occT, occT, Bool.or_eq_true] at ho
        rcases ho with ho | ho
        · exact hk _ (by simp) ho
        · exact hk _ (by simp) ho
      · rename_i h2
        rw [if_neg h2] at hk
        split at ho
        · rename_i h4
          rw [if_pos h4] at hk
          rw [occT] at ho
          exact hk _ (by simp) ho
        · simp [occT] at ho

/-- A writer of types in block b: its text so far, its free variables so far. -/
def TW (B b n : Nat) (bs : List UInt8) (bl : Nat → Nat) (l : List Nat) (w : World) : Prop :=
  (∃ fv, PrS B b bs fv w ∧ w.ownsRow B 47 1 fv l.length (l.map (shP bl))) ∧ ∀ v ∈ l, v < n

theorem own_p_below {w w' : World} {B : Nat} {v : Value} {n : Nat} {xs : List Value} (h : w.ownsRow B 47 1 v n xs) (hb : Below w.heap.size w w') : w'.ownsRow B 47 1 v n xs := by
  refine ⟨h.1, ?_⟩
  rcases h.2 with hn | ⟨g, cap, cur, hv, hbg, hg, rest⟩
  · exact Or.inl hn
  · exact Or.inr ⟨g, cap, cur, hv, hbg, (hb.block g (Array.getElem?_eq_some_iff.1 hg).1).trans hg, rest⟩

theorem own_p_fr {w w' : World} {B b : Nat} {q bv fv v : Value} {n : Nat} {xs : List Value} (hk : w.heap[b]? = some (.cells #[q, bv, fv] 72 (0, 0))) (h : w.ownsRow B 47 1 v n xs) (hf : Fr B b w w') : w'.ownsRow B 47 1 v n xs := by
  refine ⟨h.1, ?_⟩
  rcases h.2 with hn | ⟨g, cap, cur, hv, hbg, hg, rest⟩
  · exact Or.inl hn
  · refine Or.inr ⟨g, cap, cur, hv, hbg, hf.row hg (fun e => ?_) (by decide), rest⟩
    rw [e, hk] at hg
    simp at hg

theorem TW.below {B b n : Nat} {bs : List UInt8} {bl : Nat → Nat} {l : List Nat} {w w' : World} (h : TW B b n bs bl l w) (hb : Below w.heap.size w w') : TW B b n bs bl l w' := by
  obtain ⟨⟨fv, hp, ho⟩, hl⟩ := h
  exact ⟨⟨fv, hp.below hb, own_p_below ho hb⟩, hl⟩

theorem tw_byte {B b n : Nat} {bs : List UInt8} {bl : Nat → Nat} {l : List Nat} (c : UInt8) (w : World) (h : TW B b n bs bl l w) (hlen : bs.length ≤ 1000000) (hBw : B ≤ w.heap.size) :
    Calls Tryd.prog 57 #[.pointer (some ⟨b, 0, none⟩), .int .u8 c.toNat] w fun e w' => e = .returned .nilIface ∧ TW B b n (bs ++ [c]) bl l w' ∧ Below B w w' := by
  obtain ⟨⟨fv, hp, ho⟩, hl⟩ := h
  refine (wr_byte B b bs fv c w hp (by omega) hBw).mono ?_
  rintro e w' ⟨rfl, hp', hf⟩
  obtain ⟨q, _, v, hk, _⟩ := hp.at
  exact ⟨rfl, ⟨⟨fv, hp', own_p_fr hk ho hf⟩, hl⟩, hf.bel⟩

theorem tw_text {B b n : Nat} {bs : List UInt8} {bl : Nat → Nat} {l : List Nat} (s : ByteArray) (w : World) (h : TW B b n bs bl l w) (hlen : bs.length ≤ 1000000) (hs : s.size ≤ 100) (hBw : B ≤ w.heap.size) :
    Calls Tryd.prog 45 #[.pointer (some ⟨b, 0, none⟩), .string s] w fun e w' => e = .returned (.tuple #[.int .i64 s.size, .nilIface]) ∧ TW B b n (bs ++ s.data.toList) bl l w' ∧ Below B w w' := by
  obtain ⟨⟨fv, hp, ho⟩, hl⟩ := h
  refine (wr_text B b bs fv s w hp (by omega) hBw).mono ?_
  rintro e w' ⟨rfl, hp', hf⟩
  obtain ⟨q, _, v, hk, _⟩ := hp.at
  exact ⟨rfl, ⟨⟨fv, hp', own_p_fr hk ho hf⟩, hl⟩, hf.bel⟩

def placeT (j : Nat) (l : List Nat) : Int := if j ∈ l then (idxT j l : Int) else -1

set_option maxHeartbeats 1000000 in
set_option maxRecDepth 20000 in
theorem lib_indexP {ts : List Typ} (B n : Nat) (bl : Nat → Nat) (l : List Nat) (fv : Value) (j : Nat) (hj : j < ts.length) (hl : ∀ v ∈ l, v < ts.length) (hll : l.length ≤ 1000) (w : World) (hS : Shp w bl ts) (ho : w.ownsRow B 47 1 fv l.length (l.map (shP bl))) :
    Calls Tryd.prog 54 #[fv, shP bl j] w fun e w' => e = .returned (.int .i64 (placeT j l)) ∧ w' = w := by
  have hform : ∃ (a : Option Addr) (g cap : Nat), fv = .slice a l.length cap ∧ (0 < l.length → a = some ⟨g, 0, none⟩) ∧ ∀ q, q < l.length → w.cell? ⟨g, q, none⟩ = some (shP bl (l.getD q 0)) := by
    rcases ho.2 with ⟨rfl, hz⟩ | ⟨g, cap, cur, rfl, hb, hg, hn, hm, hs, ht⟩
    · exact ⟨none, 0, 0, by rw [hz], fun h => absurd h (by omega), fun q h => absurd h (by omega)⟩
    · refine ⟨_, g, cap, rfl, fun _ => rfl, fun q hq => ?_⟩
      rw [cell_of_row _ _ _ _ _ _ hg, ← Array.getElem?_toList]
      have : (cur.toList.take (l.length * 1))[q]? = (l.map (shP bl))[q]? := by rw [ht]
      rw [List.getElem?_take_of_lt (by omega)] at this
      rw [this]
      simp [List.getD, hq]
  obtain ⟨a, g, cap, rfl, ha, hc⟩ := hform
  have HC : Hid (∀ q, q < l.length → w.cell? ⟨g, q, none⟩ = some (shP bl (l.getD q 0))) := hc
  have HE : Hid (∀ v, v < ts.length → (binOp .eql 47 (shP bl j) (shP bl v)).run Tryd.prog w = .ok (.bool (decide (j = v))) w) := fun v hv => ptr_eq hS hj hv
  have HL : Hid (∀ v ∈ l, v < ts.length) := hl
  clear hc hS ho hl
  go_enter Tryd.func54, Tryd.ntmps54
  go_wp2
  go_loop [8, 5] (fun iv _ => ∃ q : Nat, iv = .int .i64 q ∧ q ≤ l.length ∧ Hid (∀ p, p < q → l.getD p 0 ≠ j)) (fun iv _ => l.length - (intOf iv).toNat)
  case atStart => exact ⟨0, rfl, by omega, fun p hp => absurd hp (by omega)⟩
  case round =>
    obtain ⟨q, rfl, hq, HP⟩ := hrel
    by_cases hin : q < l.length
    · have e1 : (q : Int) < l.length := by omega
      obtain rfl := ha (by omega)
      have ck := HC.out q hin
      have hm : l.getD q 0 ∈ l := by simp [List.getD, hin]
      have heq := HE.out _ (HL.out _ hm)
      have HG : Hid (j = l.getD q 0 → placeT j l = q) := fun e => by
        rw [placeT, if_pos (by rw [e]; exact hm), idx_at j l q hin e.symm HP.out]
      have HP2 : Hid (¬ j = l.getD q 0 → ∀ p, p < q + 1 → l.getD p 0 ≠ j) := fun h p hp => by
        by_cases e : p = q
        · subst e; exact fun x => h x.symm
        · exact HP.out p (by omega)
      generalize l.getD q 0 = v at *
      clear hm
      by_cases hv : j = v
      · have HV : Hid (_) := HG.out hv
        rw [decide_eq_true hv] at heq
        clear hv HG HP2 HP
        go_wp2
        go_ret
        exact ⟨by rw [HV.out] <;> rfl, rfl⟩
      · have HP3 : Hid (_) := HP2.out hv
        rw [decide_eq_false hv] at heq
        clear hv HG HP2 HP
        go_wp2
        go_round
        case rel => exact ⟨q + 1, by go_num, by omega, HP3⟩
        case measure => simp [intOf]; omega
    · have HV : Hid (placeT j l = -1) := by
        show _ = _
        rw [placeT, if_neg]
        intro hm
        obtain ⟨p, hp, e⟩ := List.getElem_of_mem hm
        exact HP.out p (by omega) (by simp [List.getD, hp, e])
      clear HP
      go_wp2
      go_ret
      exact ⟨by rw [HV.out] <;> rfl, rfl⟩

theorem vd_name : (Tryd.f55.name == "runtime.NumGoroutine") = false := by kernel_rfl
theorem vd_body : Tryd.f55.body.isNone = false := by kernel_rfl
theorem vs_name : (Tryd.f45.name == "runtime.NumGoroutine") = false := by kernel_rfl
theorem vs_body : Tryd.f45.body.isNone = false := by kernel_rfl

/-- What a call that writes a type ends with. -/
def TEnd (B b n : Nat) (bl : Nat → Nat) (bs : List UInt8) (l : List Nat) (t : Tr) (w : World) (e : Ending) (w' : World) : Prop :=
  e = .returned (.tuple #[]) ∧ TW B b n (bs ++ (shoT 0 t l).1) bl (shoT 0 t l).2 w' ∧ Below B w w'

theorem TW.at {B b n : Nat} {bs : List UInt8} {bl : Nat → Nat} {l : List Nat} {w : World} (h : TW B b n bs bl l w) : B ≤ b ∧ b < w.heap.size ∧ ∃ fv, w.cell? ⟨b, 2, none⟩ = some fv ∧ w.frozen? ⟨b, 2, none⟩ = false ∧ PrS B b bs fv w ∧ w.ownsRow B 47 1 fv l.length (l.map (shP bl)) := by
  obtain ⟨⟨fv, hp, ho⟩, hl⟩ := h
  exact ⟨hp.lt.1, hp.lt.2, fv, hp.cells.1, hp.cells.2, hp, ho⟩

theorem PrS.grown {B b : Nat} {bs : List UInt8} {nv fv : Value} {n : Nat} {xs : List Value} {w w' : World} (h : PrS B b bs nv w) (ho : w.ownsRow B 47 1 fv n xs) (hg : w.grownBy w' fv.ownBlock) : PrS B b bs nv w' := by
  have hne : ∀ (k : Nat) (cs : Array Value) (t : TypeId) (z : Nat × Nat), w.heap[k]? = some (.cells cs t z) → t ≠ 47 → some k ≠ fv.ownBlock := fun k cs t z hk ht e => by
    rcases ho.2 with ⟨rfl, _⟩ | ⟨g, cap, cur, rfl, _, hg', _⟩
    · simp [Value.ownBlock] at e
    · simp only [Value.ownBlock, Option.some.injEq] at e
      subst e
      rw [hk] at hg'
      simp at hg'
      exact ht hg'.2.1
  have key : ∀ q, PrA q B b bs nv w → PrA q B b bs nv w' := fun q h => by
    obtain ⟨hB, v, hk, hof⟩ := h
    refine ⟨hB, v, (hg.block b (Array.getElem?_eq_some_iff.1 hk).1 (hne _ _ _ _ hk (by decide))).trans hk, hof.1, ?_⟩
    rcases hof.2 with hn | ⟨g, cap, cur, fz, hv, hbg, hgg, rest⟩
    · exact Or.inl hn
    · exact Or.inr ⟨g, cap, cur, fz, hv, hbg, (hg.block g (Array.getElem?_eq_some_iff.1 hgg).1 (hne _ _ _ _ hgg (by decide))).trans hgg, rest⟩
  exact h.elim (fun x => Or.inl (key _ x)) (fun x => Or.inr (key _ x))

theorem own_p_store {B b : Nat} {v x : Value} {n : Nat} {xs : List Value} {bs : List UInt8} {nv : Value} {w : World} (h : w.ownsRow B 47 1 v n xs) (hp : PrS B b bs nv w) : (w.setCell ⟨b, 2, none⟩ x).ownsRow B 47 1 v n xs := by
  refine ⟨h.1, ?_⟩
  rcases h.2 with hn | ⟨g, cap, cur, hv, hbg, hg, rest⟩
  · exact Or.inl hn
  · refine Or.inr ⟨g, cap, cur, hv, hbg, (heap_setCell_other w ⟨b, 2, none⟩ g x (fun e => ?_)).trans hg, rest⟩
    obtain ⟨q, _, u, hk, _⟩ := hp.at
    change g = b at e
    rw [e, hk] at hg
    simp at hg

end Go.Proofs.YtjjanmccijghgaaDoor
