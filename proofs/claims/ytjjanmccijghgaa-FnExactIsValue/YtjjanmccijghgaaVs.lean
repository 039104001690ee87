/-
  Values, the specification's: which nodes of a program are values. Conditions: written at each theorem.
-/
import Derived.Test.YtjjanmccijghgaaVp
import Derived.Test.YtjjanmccijghgaaNt
namespace Go.Proofs.Ytjjanmccijghgaa
open Go.ChangeShapes Go.WideShapes Go.ChangeAt Go.RowKit
set_option linter.unusedVariables false

set_option maxRecDepth 20000 in
set_option maxHeartbeats 1000000 in
theorem spec_val (g cap : Nat) (ts : List Nod) (hl : ts.length ≤ 1048576) (hT : Two ts) : ∀ (F i : Nat), i < F → i < ts.length → ∀ (w : World), NodAt w g ts →
    Calls Try.prog 12 #[.slice (some ⟨g, 0, none⟩) ts.length cap, .int .i64 i] w fun e w' => e = .returned (.bool (valF ts F i)) ∧ Below w.heap.size w w'
  | 0, i, hF, hi, w, hA => absurd hF (by omega)
  | F + 1, i, hF, hi, w, hA => by
    have HA : Hid (NodAt w g ts) := hA
    have IH : Hid (∀ (j : Nat), j < F → j < ts.length → ∀ (w : World), NodAt w g ts → Calls Try.prog 12 #[.slice (some ⟨g, 0, none⟩) ts.length cap, .int .i64 j] w fun e w' => e = .returned (.bool (valF ts F j)) ∧ Below w.heap.size w w') := fun j h1 h2 w hA => spec_val g cap ts hl hT F j h1 h2 w hA
    have hi' : (i : Int) < ts.length := by omega
    have t := hA i hi
    have HK : Hid (arN (ts.getD i noNod).kind = 2 → ∃ a b : Nat, (ts.getD i noNod).a = a ∧ (ts.getD i noNod).b = b ∧ a < i ∧ b < i) := hT i hi
    by_cases hk : (ts.getD i noNod).kind = 1 ∨ (ts.getD i noNod).kind = 2 ∨ (ts.getD i noNod).kind = 3 ∨ (ts.getD i noNod).kind = 12
    · rw [valF_plain hk]
      have c0 := t.c0
      clear hA t HK IH
      generalize (ts.getD i noNod).kind = k0 at *
      go_enter Try.func12, Try.ntmps12
      rcases hk with rfl | rfl | rfl | rfl <;> (go_wp2; go_ret; exact ⟨rfl, by first | exact Below.refl _ _ | exact (Below.refl _ _).alloc (Nat.le_refl _) _⟩)
    · by_cases hk2 : (ts.getD i noNod).kind = 9 ∨ (ts.getD i noNod).kind = 13
      · rw [valF_two hk2]
        obtain ⟨a, b, ea, eb, ha, hb⟩ := HK.out (by rcases hk2 with e | e <;> rw [e] <;> rfl)
        have c0 := t.c0
        have c1 := t.c1
        have c2 := t.c2
        rw [ea] at c1
        rw [eb] at c2
        rw [ea, eb]
        have HI1 : Hid (∀ (w : World), NodAt w g ts → Calls Try.prog 12 #[.slice (some ⟨g, 0, none⟩) ts.length cap, .int .i64 a] w fun e w' => e = .returned (.bool (valF ts F a)) ∧ Below w.heap.size w w') := IH.out a (by omega) (by omega)
        have HI2 : Hid (∀ (w : World), NodAt w g ts → Calls Try.prog 12 #[.slice (some ⟨g, 0, none⟩) ts.length cap, .int .i64 b] w fun e w' => e = .returned (.bool (valF ts F b)) ∧ Below w.heap.size w w') := IH.out b (by omega) (by omega)
        have HLT := NodAt.lt hA (by omega)
        clear hA t HK IH ea eb ha hb
        rw [show (a : Int).toNat = a from rfl, show (b : Int).toNat = b from rfl]
        generalize valF ts F a = va at *
        generalize valF ts F b = vb at *
        generalize (ts.getD i noNod).kind = k0 at *
        go_enter Try.func12, Try.ntmps12
        have step : ∀ k, k0 = k → (k = 9 ∨ k = 13) → True := fun _ _ _ => trivial
        rcases hk2 with rfl | rfl <;>
        · go_wp2_with fail
          refine (HI1.out w HA.out).mono ?_
          rintro e w1 ⟨rfl, b1⟩
          have A1 : Hid (NodAt w1 g ts) := HA.out.below b1 (fun _ => HLT)
          have s1 := b1.size
          have d0 : w1.cell? ⟨g, i * 7 + 2, none⟩ = some (.int .i64 b) := (World.cell?_of_block (b1.block g HLT)).trans c2
          cases va
          · go_wp2
            go_ret
            exact ⟨rfl, b1⟩
          · go_wp2_with fail
            refine (HI2.out w1 A1.out).mono ?_
            rintro e w2 ⟨rfl, b2⟩
            go_wp2
            go_ret
            exact ⟨rfl, b1.trans (b2.mono s1)⟩
      · rw [valF_not hk hk2]
        have c0 := t.c0
        have e1 : (ts.getD i noNod).kind ≠ 1 := fun e => hk (by omega)
        have e2 : (ts.getD i noNod).kind ≠ 2 := fun e => hk (by omega)
        have e3 : (ts.getD i noNod).kind ≠ 3 := fun e => hk (by omega)
        have e12 : (ts.getD i noNod).kind ≠ 12 := fun e => hk (by omega)
        have e9 : (ts.getD i noNod).kind ≠ 9 := fun e => hk2 (by omega)
        have e13 : (ts.getD i noNod).kind ≠ 13 := fun e => hk2 (by omega)
        clear hA t HK IH hk hk2
        generalize (ts.getD i noNod).kind = k0 at *
        go_enter Try.func12, Try.ntmps12
        go_wp2
        go_ret
        exact ⟨rfl, by first | exact Below.refl _ _ | exact (Below.refl _ _).alloc (Nat.le_refl _) _⟩

theorem val_in (x lo hi : Int) (w : World) : Calls Try.prog 11 #[.int .i64 x, .int .i64 lo, .int .i64 hi] w fun e w' => e = .returned (.bool (decide (lo ≤ x) && decide (x ≤ hi))) ∧ w' = w := by
  by_cases h : lo ≤ x
  · go_enter Try.func11, Try.ntmps11
    go_wp2
    go_ret
    exact ⟨by simp [h], rfl⟩
  · go_enter Try.func11, Try.ntmps11
    go_wp2
    go_ret
    exact ⟨by rw [decide_eq_false (show ¬ lo ≤ x by omega)] <;> rfl, rfl⟩

set_option maxRecDepth 20000 in
set_option maxHeartbeats 1000000 in
theorem spec_valB (a : Option Addr) (g cap : Nat) (ts : List Nod) (i : Int) (hne : 0 < ts.length → a = some ⟨g, 0, none⟩) (hl : ts.length ≤ 1048576)
    (hst : ∀ i, i < ts.length → (ts.getD i noNod).name.size ≤ maxLen ∧ (ts.getD i noNod).other.size ≤ maxLen) (w : World) (hA : NodAt w g ts) :
    Calls Try.prog 5 #[.slice a ts.length cap, .int .i64 i] w fun e w' => e = .returned (.bool (valB ts i)) ∧ Below w.heap.size w w' := by
  have HA : Hid (NodAt w g ts) := hA
  have HC : Hid (Calls _ _ _ _ _) := spec_nodes a g cap ts hne hl hst w hA
  clear hA hst
  by_cases hok : nodesB ts = true
  · have HO : Hid (nodesB ts = true) := hok
    have HV0 : Hid (valB ts i = (decide (0 ≤ i) && (decide (i < ts.length) && valF ts ts.length i.toNat))) := by show valB ts i = _; unfold valB; rw [hok]; rfl
    have HT : Hid (Two ts) := nodes_two hok
    clear hok
    go_enter Try.func5, Try.ntmps5
    go_wp2_with fail
    refine Calls.mono HC.out ?_
    rintro e w1 ⟨rfl, b1⟩
    rw [HO.out]
    have B1 : Hid (Below w.heap.size w w1) := b1
    have s1 := b1.size
    by_cases hin : 0 ≤ i ∧ i < ts.length
    · obtain ⟨k, rfl⟩ := Int.eq_ofNat_of_zero_le hin.1
      obtain rfl := hne (by omega)
      have A1 : Hid (NodAt w1 g ts) := HA.out.below b1 (fun h => HA.out.lt h)
      have hz : (0 : Int) ≤ k := by omega
      have hkl : (k : Int) < ts.length := hin.2
      have hkm : (k : Int) ≤ (ts.length : Int) - 1 := by omega
      clear b1
      go_wp2_with fail
      refine (val_in _ _ _ _).mono ?_
      rintro e w1 ⟨rfl, rfl⟩
      rw [decide_eq_true hz, decide_eq_true hkm]
      go_wp2_with fail
      refine (spec_val g cap ts hl HT.out ts.length k (by omega) (by omega) w1 A1.out).mono ?_
      rintro e w2 ⟨rfl, b2⟩
      have HV : Hid (valB ts k = valF ts ts.length k) := by
        show valB ts k = _
        rw [HV0.out, decide_eq_true hz, decide_eq_true hkl]
        rfl
      go_wp2
      go_ret
      exact ⟨by rw [HV.out] <;> rfl, B1.out.trans (b2.mono s1)⟩
    · have HV : Hid (valB ts i = false) := by
        show valB ts i = false
        rw [HV0.out]
        by_cases hz : 0 ≤ i
        · rw [decide_eq_true hz, decide_eq_false fun q => hin ⟨hz, q⟩]
          rfl
        · rw [decide_eq_false (show ¬ (0 : Int) ≤ i by omega)]
          rfl
      clear b1
      by_cases hz : 0 ≤ i
      · have hz2 : ¬ i < ts.length := fun q => hin ⟨hz, q⟩
        have hz3 : ¬ i ≤ (ts.length : Int) - 1 := by omega
        go_wp2_with fail
        refine (val_in _ _ _ _).mono ?_
        rintro e w1 ⟨rfl, rfl⟩
        rw [decide_eq_true hz, decide_eq_false (show ¬ i ≤ (ts.length : Int) - 1 by omega)]
        go_wp2
        go_ret
        exact ⟨by rw [HV.out] <;> rfl, B1.out⟩
      · skip
        go_wp2_with fail
        refine (val_in _ _ _ _).mono ?_
        rintro e w1 ⟨rfl, rfl⟩
        rw [decide_eq_false (show ¬ (0 : Int) ≤ i by omega)]
        go_wp2
        go_ret
        exact ⟨by rw [HV.out] <;> rfl, B1.out⟩
  · have HO : Hid (nodesB ts = false) := by show nodesB ts = false; simpa using hok
    have HV : Hid (valB ts i = false) := by show valB ts i = false; unfold valB; rw [HO.out]; rfl
    clear hok
    go_enter Try.func5, Try.ntmps5
    go_wp2_with fail
    refine Calls.mono HC.out ?_
    rintro e w1 ⟨rfl, b1⟩
    rw [HO.out]
    go_wp2
    go_ret
    exact ⟨by rw [HV.out] <;> rfl, b1⟩
end Go.Proofs.Ytjjanmccijghgaa
