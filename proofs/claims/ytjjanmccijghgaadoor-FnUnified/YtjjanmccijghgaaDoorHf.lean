/-
  Types as they landed: the rows of bools that tell which entries end. Conditions: written at each theorem.
-/
import Derived.Test.YtjjanmccijghgaaDoorHe
namespace Go.Proofs.YtjjanmccijghgaaDoor
open Go.ChangeShapes Go.WideShapes Go.ChangeAt Go.RowKit
set_option linter.unusedVariables false

/-- The variable that holds the row of bools. -/
def EndsAt (w : World) (E G : Nat) (n : Nat) (l : List Bool) : Prop := w.cell? ⟨E, 0, none⟩ = some (.slice (some ⟨G, 0, none⟩) n n) ∧ BoolAt w G l ∧ l.length = n

theorem EndsAt.below {w w' : World} {E G n : Nat} {l : List Bool} (h : EndsAt w E G n l) (hb : Below w.heap.size w w') : EndsAt w' E G n l :=
  ⟨(World.cell?_of_block (hb.block E (typ_lt h.1))).trans h.1, h.2.1.below hb h.2.1.lt, h.2.2⟩

theorem impl_notEnd (m : Nat) (E G n : Nat) (l : List Bool) (hm : m < n) (w : World) (h : EndsAt w E G n l) :
    Calls Tryd.prog 50 #[.int .i64 m, .pointer (some ⟨E, 0, none⟩)] w fun e w' => e = .returned (.bool (!l.getD m false)) ∧ w' = w := by
  obtain ⟨c0, hb, hl⟩ := h
  have cb := hb.cell m (by omega)
  have hm' : (m : Int) < n := by omega
  generalize l.getD m false = b at cb
  clear hb
  go_enter Tryd.func50, Tryd.ntmps50
  go_wp2
  go_ret
  exact ⟨rfl, rfl⟩

theorem all_drop (g : List Bool) (ks : List Int) (q : Nat) (h : q < ks.length) : allG g (ks.drop q) = (g.getD (ks.getD q 0).toNat false && allG g (ks.drop (q + 1))) := by
  unfold allG
  have e : ks.getD q 0 = ks[q] := by simp [List.getD, h]
  rw [List.drop_eq_getElem_cons h, List.all_cons, e]

set_option maxHeartbeats 1000000 in
set_option maxRecDepth 20000 in
theorem lib_firstNot (a : Option Addr) (K c : Nat) (ks : List Int) (E G n : Nat) (l : List Bool) (hl : ks.length ≤ 1000) (ha : 0 < ks.length → a = some ⟨K, 0, none⟩) (hks : ∀ q, q < ks.length → 0 ≤ ks.getD q 0 ∧ ks.getD q 0 < n) (w : World) (hK : IntAt w K ks) (h : EndsAt w E G n l) :
    Calls Tryd.prog 58 #[.slice a ks.length c, .func (.func 50) #[] #[.pointer (some ⟨E, 0, none⟩)]] w fun e w' => (∃ r : Int, e = .returned (.int .i64 r) ∧ (decide (r ≥ 0) = !allG l ks)) ∧ w' = w := by
  have HK : Hid (IntAt w K ks) := hK
  have HE : Hid (EndsAt w E G n l) := h
  have HKS : Hid (∀ q, q < ks.length → 0 ≤ ks.getD q 0 ∧ ks.getD q 0 < n) := hks
  clear hK h hks
  go_enter Tryd.func58, Tryd.ntmps58
  go_wp2
  go_loop [8, 5] (fun iv _ => ∃ q : Nat, iv = .int .i64 q ∧ q ≤ ks.length ∧ Hid (allG l ks = allG l (ks.drop q))) (fun iv _ => ks.length - (intOf iv).toNat)
  case atStart => exact ⟨0, rfl, by omega, rfl⟩
  case round =>
    obtain ⟨q, rfl, hq, HA⟩ := hrel
    by_cases hin : q < ks.length
    · have e1 : (q : Int) < ks.length := by omega
      obtain rfl := ha (by omega)
      have ck := HK.out q hin
      have HS : Hid (_) := all_drop l ks q hin
      obtain ⟨hk1, hk2⟩ := HKS.out q hin
      generalize ks.getD q 0 = kv at ck HS hk1 hk2
      obtain ⟨m, rfl⟩ := Int.eq_ofNat_of_zero_le hk1
      have hm : m < n := by omega
      have HS' : Hid (allG l (ks.drop q) = (l.getD m false && allG l (ks.drop (q + 1)))) := HS.out
      have HC : Hid (Calls _ _ _ _ _) := impl_notEnd m E G n l hm w HE.out
      clear HS hk1
      generalize l.getD m false = bm at HS' HC
      cases bm
      · have HV : Hid (allG l ks = false) := by show _ = _; rw [HA.out, HS'.out]; rfl
        clear HA HS'
        go_wp2_with fail
        refine HC.out.mono ?_
        rintro e w2 ⟨rfl, rfl⟩
        go_wp2
        go_ret
        exact ⟨⟨_, rfl, by rw [HV.out]; exact decide_eq_true (by omega)⟩, rfl⟩
      · have HV : Hid (allG l ks = allG l (ks.drop (q + 1))) := by show _ = _; rw [HA.out, HS'.out]; rfl
        clear HA HS'
        go_wp2_with fail
        refine HC.out.mono ?_
        rintro e w2 ⟨rfl, rfl⟩
        go_wp2
        go_round
        case rel => exact ⟨q + 1, by go_num, by omega, HV⟩
        case measure => simp [intOf]; omega
    · have HV : Hid (allG l ks = true) := by
        show _ = _
        rw [HA.out, List.drop_eq_nil_of_le (by omega)]
        rfl
      clear HA
      go_wp2
      go_ret
      exact ⟨⟨_, rfl, by rw [HV.out]; rfl⟩, rfl⟩

theorem lib_anyNot (a : Option Addr) (K c : Nat) (ks : List Int) (E G n : Nat) (l : List Bool) (hl : ks.length ≤ 1000) (ha : 0 < ks.length → a = some ⟨K, 0, none⟩) (hks : ∀ q, q < ks.length → 0 ≤ ks.getD q 0 ∧ ks.getD q 0 < n) (w : World) (hK : IntAt w K ks) (h : EndsAt w E G n l) :
    Calls Tryd.prog 49 #[.slice a ks.length c, .func (.func 50) #[] #[.pointer (some ⟨E, 0, none⟩)]] w fun e w' => e = .returned (.bool (!allG l ks)) ∧ w' = w := by
  have HC : Hid (Calls _ _ _ _ _) := lib_firstNot a K c ks E G n l hl ha hks w hK h
  clear hK h hks
  go_enter Tryd.func49, Tryd.ntmps49
  go_wp2_with fail
  refine HC.out.mono ?_
  rintro e w2 ⟨⟨r, rfl, hr⟩, rfl⟩
  have HR : Hid (decide (r ≥ 0) = !allG l ks) := hr
  clear hr
  go_wp2
  go_ret
  exact ⟨by rw [← HR.out] <;> rfl, rfl⟩

set_option maxHeartbeats 1000000 in
theorem lib_indexFalse (G n : Nat) (l : List Bool) (hn : l.length = n) (hl : n ≤ 1000) (w : World) (h : BoolAt w G l) :
    Calls Tryd.prog 59 #[.slice (some ⟨G, 0, none⟩) n n, .bool false] w fun e w' => (∃ r : Int, e = .returned (.int .i64 r) ∧ (decide (r ≥ 0) = !l.all id)) ∧ w' = w := by
  have HB : Hid (BoolAt w G l) := h
  have HN : Hid (l.length = n) := hn
  clear h hn
  go_enter Tryd.func59, Tryd.ntmps59
  go_wp2
  go_loop [8, 5] (fun iv _ => ∃ q : Nat, iv = .int .i64 q ∧ q ≤ n ∧ Hid (l.all id = (l.drop q).all id)) (fun iv _ => n - (intOf iv).toNat)
  case atStart => exact ⟨0, rfl, by omega, rfl⟩
  case round =>
    obtain ⟨q, rfl, hq, HA⟩ := hrel
    by_cases hin : q < n
    · have e1 : (q : Int) < n := by omega
      have hql : q < l.length := by rw [HN.out]; exact hin
      have cb := HB.out.cell q hql
      have HS : Hid ((l.drop q).all id = (l.getD q false && (l.drop (q + 1)).all id)) := by
        show _ = _
        have e : l.getD q false = l[q] := by simp [List.getD, hql]
        rw [List.drop_eq_getElem_cons hql, List.all_cons, e]
        rfl
      clear hql
      generalize l.getD q false = bm at HS cb
      cases bm
      · have HV : Hid (l.all id = false) := by show _ = _; rw [HA.out, HS.out]; rfl
        clear HA HS
        go_wp2
        go_ret
        exact ⟨⟨_, rfl, by rw [HV.out]; exact decide_eq_true (by omega)⟩, rfl⟩
      · have HV : Hid (l.all id = (l.drop (q + 1)).all id) := by show _ = _; rw [HA.out, HS.out]; rfl
        clear HA HS
        go_wp2
        go_round
        case rel => exact ⟨q + 1, by go_num, by omega, HV⟩
        case measure => simp [intOf]; omega
    · have HV : Hid (l.all id = true) := by
        show _ = _
        rw [HA.out, List.drop_eq_nil_of_le (by rw [HN.out]; omega)]
        rfl
      clear HA
      go_wp2
      go_ret
      exact ⟨⟨_, rfl, by rw [HV.out]; rfl⟩, rfl⟩

theorem lib_hasFalse (G n : Nat) (l : List Bool) (hn : l.length = n) (hl : n ≤ 1000) (w : World) (h : BoolAt w G l) :
    Calls Tryd.prog 51 #[.slice (some ⟨G, 0, none⟩) n n, .bool false] w fun e w' => e = .returned (.bool (!l.all id)) ∧ w' = w := by
  have HC : Hid (Calls _ _ _ _ _) := lib_indexFalse G n l hn hl w h
  clear h
  go_enter Tryd.func51, Tryd.ntmps51
  go_wp2_with fail
  refine HC.out.mono ?_
  rintro e w2 ⟨⟨r, rfl, hr⟩, rfl⟩
  have HR : Hid (decide (r ≥ 0) = !l.all id) := hr
  clear hr
  go_wp2
  go_ret
  exact ⟨by rw [← HR.out] <;> rfl, rfl⟩
end Go.Proofs.YtjjanmccijghgaaDoor
