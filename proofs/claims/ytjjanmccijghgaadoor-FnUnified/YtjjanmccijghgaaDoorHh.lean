/-
  Types, the specification's SizeOf. Conditions: written at each theorem.
-/
import Derived.Test.YtjjanmccijghgaaDoorHd
import Derived.Test.YtjjanmccijghgaaDoorHb
namespace Go.Proofs.YtjjanmccijghgaaDoor
open Go.ChangeShapes Go.WideShapes Go.ChangeAt Go.RowKit
set_option linter.unusedVariables false

set_option maxHeartbeats 1000000 in
set_option maxRecDepth 20000 in
theorem spec_sizeOf (a : Option Addr) (g cap : Nat) (ts : List Typ) (i : Int) (hne : 0 < ts.length → a = some ⟨g, 0, none⟩) (hl : ts.length ≤ 1048576) (w : World) (hA : TypAt w g ts) :
    Calls Tryd.prog 9 #[.slice a ts.length cap, .int .i64 i] w fun e w' => e = .returned (.int .i64 ((sizB ts i : Nat) : Int)) ∧ Below w.heap.size w w' := by
  have HA : Hid (TypAt w g ts) := hA
  obtain ⟨tb, htb⟩ : ∃ tb, tabB ts = tb := ⟨_, rfl⟩
  have HC : Hid (Calls _ _ _ _ _) := spec_table a g cap ts hne hl w hA
  rw [htb] at HC
  have HT : Hid (tabB ts = tb) := htb
  clear hA htb
  go_enter Tryd.func9, Tryd.ntmps9
  go_wp2_with fail
  refine HC.out.mono ?_
  rintro e w1 ⟨rfl, b1⟩
  cases tb
  · have HV : Hid (sizB ts i = 0) := by show _ = _; unfold sizB; rw [if_neg (by rw [HT.out]; simp)]
    go_wp2
    go_ret
    exact ⟨by rw [HV.out] <;> rfl, b1⟩
  · obtain ⟨h40, r, hok⟩ := tab_ok HT.out
    have HO : Hid (Ok ts r (solB ts)) := hok
    have A1 : Hid (TypAt w1 g ts) := HA.out.below b1 (fun h => HA.out.lt h)
    clear hok HC
    go_wp2_with fail
    refine (ty_in i 0 (ts.length - 1) _).mono ?_
    rintro e w2 ⟨rfl, rfl⟩
    by_cases hr : 0 ≤ i ∧ i < ts.length
    · rw [decide_eq_true hr.1, decide_eq_true (show i ≤ (ts.length : Int) - 1 by omega)]
      obtain ⟨m, rfl⟩ := Int.eq_ofNat_of_zero_le hr.1
      have hm : m < ts.length := by omega
      have HV : Hid (sizB ts m = min (sizeT (solB ts m)) 61) := by show _ = _; unfold sizB; rw [if_pos ⟨HT.out, hr⟩]; simp
      have HS : Hid (∀ w : World, TypAt w g ts → Calls Tryd.prog 23 #[.slice a ts.length cap, .int .i64 m, .int .i64 60] w fun e w' => e = .returned (.int .i64 ((min (sizeT (solB ts m)) (60 + 1) : Nat) : Int)) ∧ Below w.heap.size w w') := fun w hA => spec_size HO.out a g cap hne (by omega) (r m + 1) m 60 hm (by omega) (by omega) w hA
      clear hr
      go_wp2_with fail
      refine (HS.out w2 A1.out).mono ?_
      rintro e w3 ⟨rfl, b3⟩
      have B3 : Below w.heap.size w w3 := b1.trans (b3.mono b1.size)
      go_wp2
      go_ret
      exact ⟨by rw [HV.out] <;> rfl, B3⟩
    · have HV : Hid (sizB ts i = 0) := by show _ = _; unfold sizB; rw [if_neg (fun q => hr q.2)]
      rw [show (decide (0 ≤ i) && decide (i ≤ (ts.length : Int) - 1)) = false by
        rw [Bool.and_eq_false_iff]
        rcases Int.lt_or_le i 0 with h | h
        · exact Or.inl (decide_eq_false (by omega))
        · exact Or.inr (decide_eq_false (by omega))]
      clear hr
      go_wp2
      go_ret
      exact ⟨by rw [HV.out] <;> rfl, b1⟩
end Go.Proofs.YtjjanmccijghgaaDoor
