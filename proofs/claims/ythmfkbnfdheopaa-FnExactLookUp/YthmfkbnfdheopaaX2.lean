/-
  Values: what makes one right in a heap: ValOk, of the specification and as it landed. Conditions: written at each theorem.
-/
import Derived.Test.YthmfkbnfdheopaaX1
namespace Go.Proofs.Ythmfkbnfdheopaa
open Go.ChangeShapes Go.WideShapes Go.ChangeAt Go.RowKit
set_option linter.unusedVariables false

/-- Is it right where there are so many of Clos, Twos and Refs? -/
def valB (m1 m2 m3 : Nat) (k n : Int) : Bool :=
  if k = 0 then decide (0 ≤ n) && decide (n ≤ 65535)
  else if k = 1 then decide (0 ≤ n) && decide (n < m1)
  else if k = 2 then decide (n = 0)
  else if k = 3 ∨ k = 4 then decide (0 ≤ n) && decide (n < m2)
  else if k = 5 then decide (0 ≤ n) && decide (n < m3)
  else false

theorem hp_in (n lo hi : Int) (w : World) : Calls Try.prog 22 #[.int .i64 n, .int .i64 lo, .int .i64 hi] w fun e w' => e = .returned (.bool (decide (lo ≤ n) && decide (n ≤ hi))) ∧ w' = w := by
  by_cases h1 : lo ≤ n
  · go_enter Try.func22, Try.ntmps22
    go_wp2
    go_ret
    exact ⟨by simp [h1], rfl⟩
  · go_enter Try.func22, Try.ntmps22
    go_wp2
    go_ret
    exact ⟨by rw [decide_eq_false (show ¬ lo ≤ n by omega)]; rfl, rfl⟩

theorem lt_pred (n : Int) (m : Nat) : decide (n ≤ (m : Int) - 1) = decide (n < m) := decide_eq_decide.mpr (by omega)

set_option maxRecDepth 20000 in
theorem spec_val (a0 a1 a2 a3 : Option Addr) (m0 m1 m2 m3 c0 c1 c2 c3 : Nat) (l1 : m1 ≤ 1048576) (l2 : m2 ≤ 1048576) (l3 : m3 ≤ 1048576) (k n : Int) (w : World) :
    Calls Try.prog 11 #[.agg #[.slice a0 m0 c0, .slice a1 m1 c1, .slice a2 m2 c2, .slice a3 m3 c3], .agg #[.int .i64 k, .int .i64 n]] w fun e w' => e = .returned (.bool (valB m1 m2 m3 k n)) ∧ Below w.heap.size w w' := by
  have HB : Hid (Below w.heap.size w ((w.alloc (.cells #[.slice a0 m0 c0, .slice a1 m1 c1, .slice a2 m2 c2, .slice a3 m3 c3] 35)).alloc (.cells #[.int .i64 k, .int .i64 n] 42))) := ((Below.refl _ w).alloc (Nat.le_refl _) _).alloc (by simp) _
  by_cases k0 : k = 0
  · subst k0
    go_enter Try.func11, Try.ntmps11
    go_wp2_with (go_at_call 22; refine (hp_in _ _ _ _).mono ?_; rintro e w' ⟨rfl, rfl⟩)
    go_ret
    exact ⟨by simp [valB], HB.out⟩
  · by_cases k1 : k = 1
    · subst k1
      go_enter Try.func11, Try.ntmps11
      go_wp2_with (go_at_call 22; refine (hp_in _ _ _ _).mono ?_; rintro e w' ⟨rfl, rfl⟩)
      go_ret
      exact ⟨by rw [lt_pred]; simp [valB], HB.out⟩
    · by_cases k2 : k = 2
      · subst k2
        go_enter Try.func11, Try.ntmps11
        go_wp2
        go_ret
        exact ⟨by simp [valB]; rfl, HB.out⟩
      · by_cases k3 : k = 3
        · subst k3
          go_enter Try.func11, Try.ntmps11
          go_wp2_with (go_at_call 22; refine (hp_in _ _ _ _).mono ?_; rintro e w' ⟨rfl, rfl⟩)
          go_ret
          exact ⟨by rw [lt_pred]; simp [valB], HB.out⟩
        · by_cases k4 : k = 4
          · subst k4
            go_enter Try.func11, Try.ntmps11
            go_wp2_with (go_at_call 22; refine (hp_in _ _ _ _).mono ?_; rintro e w' ⟨rfl, rfl⟩)
            go_ret
            exact ⟨by rw [lt_pred]; simp [valB], HB.out⟩
          · by_cases k5 : k = 5
            · subst k5
              go_enter Try.func11, Try.ntmps11
              go_wp2_with (go_at_call 22; refine (hp_in _ _ _ _).mono ?_; rintro e w' ⟨rfl, rfl⟩)
              go_ret
              exact ⟨by rw [lt_pred]; simp [valB], HB.out⟩
            · have HV : Hid (valB m1 m2 m3 k n = false) := by show valB m1 m2 m3 k n = false; simp [valB, k0, k1, k2, k3, k4, k5]
              have q0 : (k == 0) = false := by simpa using k0
              have q1 : (k == 1) = false := by simpa using k1
              have q2 : (k == 2) = false := by simpa using k2
              have q3 : (k == 3) = false := by simpa using k3
              have q4 : (k == 4) = false := by simpa using k4
              have q5 : (k == 5) = false := by simpa using k5
              clear k0 k1 k2 k3 k4 k5
              go_enter Try.func11, Try.ntmps11
              go_wp2
              go_ret
              exact ⟨by rw [HV.out]; rfl, HB.out⟩

set_option maxRecDepth 20000 in
theorem impl_val (a0 a1 a2 a3 : Option Addr) (m0 m1 m2 m3 c0 c1 c2 c3 : Nat) (l1 : m1 ≤ 1048576) (l2 : m2 ≤ 1048576) (l3 : m3 ≤ 1048576) (k n : Int) (w : World) :
    Calls Try.prog 13 #[.agg #[.slice a0 m0 c0, .slice a1 m1 c1, .slice a2 m2 c2, .slice a3 m3 c3], .agg #[.int .i64 k, .int .i64 n]] w fun e w' => e = .returned (.bool (valB m1 m2 m3 k n)) ∧ Below w.heap.size w w' := by
  have HB : Hid (Below w.heap.size w ((w.alloc (.cells #[.slice a0 m0 c0, .slice a1 m1 c1, .slice a2 m2 c2, .slice a3 m3 c3] 35)).alloc (.cells #[.int .i64 k, .int .i64 n] 42))) := ((Below.refl _ w).alloc (Nat.le_refl _) _).alloc (by simp) _
  by_cases hn : 0 ≤ n
  · by_cases k0 : k = 0
    · subst k0
      go_enter Try.func13, Try.ntmps13
      go_wp2
      go_ret
      exact ⟨by simp [valB, hn], HB.out⟩
    · by_cases k1 : k = 1
      · subst k1
        go_enter Try.func13, Try.ntmps13
        go_wp2
        go_ret
        exact ⟨by simp [valB, hn], HB.out⟩
      · by_cases k2 : k = 2
        · subst k2
          by_cases hz : n = 0
          · subst hz
            go_enter Try.func13, Try.ntmps13
            go_wp2
            go_ret
            exact ⟨by simp [valB], HB.out⟩
          · have HV : Hid (valB m1 m2 m3 2 n = false) := by show valB m1 m2 m3 2 n = false; simp [valB, hz]
            go_enter Try.func13, Try.ntmps13
            go_wp2
            go_ret
            exact ⟨by rw [HV.out]; rfl, HB.out⟩
        · by_cases k3 : k = 3
          · subst k3
            go_enter Try.func13, Try.ntmps13
            go_wp2
            go_ret
            exact ⟨by simp [valB, hn], HB.out⟩
          · by_cases k4 : k = 4
            · subst k4
              go_enter Try.func13, Try.ntmps13
              go_wp2
              go_ret
              exact ⟨by simp [valB, hn], HB.out⟩
            · by_cases k5 : k = 5
              · subst k5
                go_enter Try.func13, Try.ntmps13
                go_wp2
                go_ret
                exact ⟨by simp [valB, hn], HB.out⟩
              · have HV : Hid (valB m1 m2 m3 k n = false) := by show valB m1 m2 m3 k n = false; simp [valB, k0, k1, k2, k3, k4, k5]
                have q0 : (k == 0) = false := by simpa using k0
                have q1 : (k == 1) = false := by simpa using k1
                have q2 : (k == 2) = false := by simpa using k2
                have q3 : (k == 3) = false := by simpa using k3
                have q4 : (k == 4) = false := by simpa using k4
                have q5 : (k == 5) = false := by simpa using k5
                clear k0 k1 k2 k3 k4 k5
                go_enter Try.func13, Try.ntmps13
                go_wp2
                go_ret
                exact ⟨by rw [HV.out]; rfl, HB.out⟩
  · have n0 : ¬ n = 0 := by omega
    by_cases k0 : k = 0
    · subst k0
      go_enter Try.func13, Try.ntmps13
      go_wp2
      go_ret
      exact ⟨by simp [valB]; omega, HB.out⟩
    · by_cases k1 : k = 1
      · subst k1
        go_enter Try.func13, Try.ntmps13
        go_wp2
        go_ret
        exact ⟨by simp [valB]; omega, HB.out⟩
      · by_cases k2 : k = 2
        · subst k2
          by_cases hz : n = 0
          · exact absurd hz n0
          · have HV : Hid (valB m1 m2 m3 2 n = false) := by show valB m1 m2 m3 2 n = false; simp [valB, hz]
            go_enter Try.func13, Try.ntmps13
            go_wp2
            go_ret
            exact ⟨by rw [HV.out]; rfl, HB.out⟩
        · by_cases k3 : k = 3
          · subst k3
            go_enter Try.func13, Try.ntmps13
            go_wp2
            go_ret
            exact ⟨by simp [valB]; omega, HB.out⟩
          · by_cases k4 : k = 4
            · subst k4
              go_enter Try.func13, Try.ntmps13
              go_wp2
              go_ret
              exact ⟨by simp [valB]; omega, HB.out⟩
            · by_cases k5 : k = 5
              · subst k5
                go_enter Try.func13, Try.ntmps13
                go_wp2
                go_ret
                exact ⟨by simp [valB]; omega, HB.out⟩
              · have HV : Hid (valB m1 m2 m3 k n = false) := by show valB m1 m2 m3 k n = false; simp [valB, k0, k1, k2, k3, k4, k5]
                have q0 : (k == 0) = false := by simpa using k0
                have q1 : (k == 1) = false := by simpa using k1
                have q2 : (k == 2) = false := by simpa using k2
                have q3 : (k == 3) = false := by simpa using k3
                have q4 : (k == 4) = false := by simpa using k4
                have q5 : (k == 5) = false := by simpa using k5
                clear k0 k1 k2 k3 k4 k5
                go_enter Try.func13, Try.ntmps13
                go_wp2
                go_ret
                exact ⟨by rw [HV.out]; rfl, HB.out⟩
end Go.Proofs.Ythmfkbnfdheopaa
