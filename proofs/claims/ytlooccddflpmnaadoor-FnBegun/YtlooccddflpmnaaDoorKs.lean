/-
  KeyOf, the specification's. Conditions: written at each theorem.
-/
import Derived.Test.YtlooccddflpmnaaDoorKn
import Derived.Below
namespace Go.Proofs.YtlooccddflpmnaaDoor
open Go.ChangeShapes Go.WideShapes Go.ChangeAt Go.RowKit
set_option linter.unusedVariables false

theorem key_in (x lo hi : Int) (w : World) : Calls Tryd.prog 19 #[.int .i64 x, .int .i64 lo, .int .i64 hi] w fun e w' => e = .returned (.bool (decide (lo ≤ x) && decide (x ≤ hi))) ∧ w' = w := by
  by_cases h : lo ≤ x
  · have hv : (decide (lo ≤ x) && decide (x ≤ hi)) = decide (x ≤ hi) := by simp [h]
    rw [hv]
    go_enter Tryd.func19, Tryd.ntmps19
    go_wp2
    go_ret
    exact ⟨rfl, rfl⟩
  · have hv : (decide (lo ≤ x) && decide (x ≤ hi)) = false := by simp [h]
    rw [hv]
    go_enter Tryd.func19, Tryd.ntmps19
    go_wp2
    go_ret
    exact ⟨rfl, rfl⟩

set_option maxHeartbeats 2000000 in
theorem spec_keyOf (k a b c n : Int) (s o : ByteArray) (w : World) : Calls Tryd.prog 23 #[.agg #[.int .i64 k, .int .i64 a, .int .i64 b, .int .i64 c, .int .i64 n, .string s, .string o]] w fun e w' => e = .returned (.string (keyN k n)) ∧ Below w.heap.size w w' := by
  have HB : Hid (Below w.heap.size w (w.alloc (.cells #[.int .i64 k, .int .i64 a, .int .i64 b, .int .i64 c, .int .i64 n, .string s, .string o] 46))) := (Below.refl _ w).alloc (Nat.le_refl _) _
  by_cases h8 : k = 8
  · subst h8
    by_cases m0 : n = 0
    · subst m0
      go_enter Tryd.func23, Tryd.ntmps23
      go_wp2_with fail
      refine (key_in 0 0 3 _).mono ?_
      rintro e w1 ⟨rfl, rfl⟩
      go_wp2
      go_ret
      exact ⟨rfl, HB.out.alloc (by simp) _⟩
    by_cases m1 : n = 1
    · subst m1
      go_enter Tryd.func23, Tryd.ntmps23
      go_wp2_with fail
      refine (key_in 1 0 3 _).mono ?_
      rintro e w1 ⟨rfl, rfl⟩
      go_wp2
      go_ret
      exact ⟨rfl, HB.out.alloc (by simp) _⟩
    by_cases m2 : n = 2
    · subst m2
      go_enter Tryd.func23, Tryd.ntmps23
      go_wp2_with fail
      refine (key_in 2 0 3 _).mono ?_
      rintro e w1 ⟨rfl, rfl⟩
      go_wp2
      go_ret
      exact ⟨rfl, HB.out.alloc (by simp) _⟩
    by_cases m3 : n = 3
    · subst m3
      go_enter Tryd.func23, Tryd.ntmps23
      go_wp2_with fail
      refine (key_in 3 0 3 _).mono ?_
      rintro e w1 ⟨rfl, rfl⟩
      go_wp2
      go_ret
      exact ⟨rfl, HB.out.alloc (by simp) _⟩
    have hv : Hid (keyN 8 n = ⟨#[]⟩) := keyN_prim_no (by omega)
    have hd : (decide (0 ≤ n) && decide (n ≤ 3)) = false := by simp; omega
    clear m0 m1 m2 m3
    go_enter Tryd.func23, Tryd.ntmps23
    go_wp2_with fail
    refine (key_in n 0 3 _).mono ?_
    rintro e w1 ⟨rfl, rfl⟩
    rw [hd]
    clear hd
    go_wp2
    go_ret
    exact ⟨by rw [hv.out]; rfl, HB.out⟩
  by_cases h3 : k = 3
  · subst h3
    clear h8
    go_enter Tryd.func23, Tryd.ntmps23
    go_wp2_with fail
    refine (key_in 3 3 19 _).mono ?_
    rintro e w1 ⟨rfl, rfl⟩
    go_wp2
    go_ret
    exact ⟨rfl, HB.out.alloc (by simp) _⟩
  by_cases h4 : k = 4
  · subst h4
    clear h8
    go_enter Tryd.func23, Tryd.ntmps23
    go_wp2_with fail
    refine (key_in 4 3 19 _).mono ?_
    rintro e w1 ⟨rfl, rfl⟩
    go_wp2
    go_ret
    exact ⟨rfl, HB.out.alloc (by simp) _⟩
  by_cases h5 : k = 5
  · subst h5
    clear h8
    go_enter Tryd.func23, Tryd.ntmps23
    go_wp2_with fail
    refine (key_in 5 3 19 _).mono ?_
    rintro e w1 ⟨rfl, rfl⟩
    go_wp2
    go_ret
    exact ⟨rfl, HB.out.alloc (by simp) _⟩
  by_cases h6 : k = 6
  · subst h6
    clear h8
    go_enter Tryd.func23, Tryd.ntmps23
    go_wp2_with fail
    refine (key_in 6 3 19 _).mono ?_
    rintro e w1 ⟨rfl, rfl⟩
    go_wp2
    go_ret
    exact ⟨rfl, HB.out.alloc (by simp) _⟩
  by_cases h7 : k = 7
  · subst h7
    clear h8
    go_enter Tryd.func23, Tryd.ntmps23
    go_wp2_with fail
    refine (key_in 7 3 19 _).mono ?_
    rintro e w1 ⟨rfl, rfl⟩
    go_wp2
    go_ret
    exact ⟨rfl, HB.out.alloc (by simp) _⟩
  by_cases h9 : k = 9
  · subst h9
    clear h8
    go_enter Tryd.func23, Tryd.ntmps23
    go_wp2_with fail
    refine (key_in 9 3 19 _).mono ?_
    rintro e w1 ⟨rfl, rfl⟩
    go_wp2
    go_ret
    exact ⟨rfl, HB.out.alloc (by simp) _⟩
  by_cases h10 : k = 10
  · subst h10
    clear h8
    go_enter Tryd.func23, Tryd.ntmps23
    go_wp2_with fail
    refine (key_in 10 3 19 _).mono ?_
    rintro e w1 ⟨rfl, rfl⟩
    go_wp2
    go_ret
    exact ⟨rfl, HB.out.alloc (by simp) _⟩
  by_cases h11 : k = 11
  · subst h11
    clear h8
    go_enter Tryd.func23, Tryd.ntmps23
    go_wp2_with fail
    refine (key_in 11 3 19 _).mono ?_
    rintro e w1 ⟨rfl, rfl⟩
    go_wp2
    go_ret
    exact ⟨rfl, HB.out.alloc (by simp) _⟩
  by_cases h12 : k = 12
  · subst h12
    clear h8
    go_enter Tryd.func23, Tryd.ntmps23
    go_wp2_with fail
    refine (key_in 12 3 19 _).mono ?_
    rintro e w1 ⟨rfl, rfl⟩
    go_wp2
    go_ret
    exact ⟨rfl, HB.out.alloc (by simp) _⟩
  by_cases h13 : k = 13
  · subst h13
    clear h8
    go_enter Tryd.func23, Tryd.ntmps23
    go_wp2_with fail
    refine (key_in 13 3 19 _).mono ?_
    rintro e w1 ⟨rfl, rfl⟩
    go_wp2
    go_ret
    exact ⟨rfl, HB.out.alloc (by simp) _⟩
  by_cases h14 : k = 14
  · subst h14
    clear h8
    go_enter Tryd.func23, Tryd.ntmps23
    go_wp2_with fail
    refine (key_in 14 3 19 _).mono ?_
    rintro e w1 ⟨rfl, rfl⟩
    go_wp2
    go_ret
    exact ⟨rfl, HB.out.alloc (by simp) _⟩
  by_cases h15 : k = 15
  · subst h15
    clear h8
    go_enter Tryd.func23, Tryd.ntmps23
    go_wp2_with fail
    refine (key_in 15 3 19 _).mono ?_
    rintro e w1 ⟨rfl, rfl⟩
    go_wp2
    go_ret
    exact ⟨rfl, HB.out.alloc (by simp) _⟩
  by_cases h16 : k = 16
  · subst h16
    clear h8
    go_enter Tryd.func23, Tryd.ntmps23
    go_wp2_with fail
    refine (key_in 16 3 19 _).mono ?_
    rintro e w1 ⟨rfl, rfl⟩
    go_wp2
    go_ret
    exact ⟨rfl, HB.out.alloc (by simp) _⟩
  by_cases h17 : k = 17
  · subst h17
    clear h8
    go_enter Tryd.func23, Tryd.ntmps23
    go_wp2_with fail
    refine (key_in 17 3 19 _).mono ?_
    rintro e w1 ⟨rfl, rfl⟩
    go_wp2
    go_ret
    exact ⟨rfl, HB.out.alloc (by simp) _⟩
  by_cases h18 : k = 18
  · subst h18
    clear h8
    go_enter Tryd.func23, Tryd.ntmps23
    go_wp2_with fail
    refine (key_in 18 3 19 _).mono ?_
    rintro e w1 ⟨rfl, rfl⟩
    go_wp2
    go_ret
    exact ⟨rfl, HB.out.alloc (by simp) _⟩
  by_cases h19 : k = 19
  · subst h19
    clear h8
    go_enter Tryd.func23, Tryd.ntmps23
    go_wp2_with fail
    refine (key_in 19 3 19 _).mono ?_
    rintro e w1 ⟨rfl, rfl⟩
    go_wp2
    go_ret
    exact ⟨rfl, HB.out.alloc (by simp) _⟩
  have hv : Hid (keyN k n = ⟨#[]⟩) := keyN_no n (by omega)
  have hd : (decide (3 ≤ k) && decide (k ≤ 19)) = false := by simp; omega
  have g8 : (k == 8) = false := by simpa using h8
  clear h3 h4 h5 h6 h7 h8 h9 h10 h11 h12 h13 h14 h15 h16 h17 h18 h19
  go_enter Tryd.func23, Tryd.ntmps23
  go_wp2_with fail
  refine (key_in k 3 19 _).mono ?_
  rintro e w1 ⟨rfl, rfl⟩
  rw [hd]
  clear hd
  go_wp2
  go_ret
  exact ⟨by rw [hv.out]; rfl, HB.out⟩
end Go.Proofs.YtlooccddflpmnaaDoor
