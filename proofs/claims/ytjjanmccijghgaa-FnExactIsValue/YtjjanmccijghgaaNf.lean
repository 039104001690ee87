/-
  Nodes, the specification's: how many kids and names a kind has; names. Conditions: written at each theorem.
-/
import Derived.Test.YtjjanmccijghgaaNy
namespace Go.Proofs.Ytjjanmccijghgaa
open Go.ChangeShapes Go.WideShapes Go.ChangeAt Go.RowKit
set_option linter.unusedVariables false

/-- How many kids a kind has. -/
def arN (k : Int) : Nat :=
  if k = 3 ∨ k = 10 ∨ k = 11 ∨ k = 15 ∨ k = 16 ∨ k = 18 then 1
  else if k = 4 ∨ k = 5 ∨ k = 6 ∨ k = 8 ∨ k = 9 ∨ k = 13 ∨ k = 17 ∨ k = 19 then 2
  else if k = 7 ∨ k = 14 then 3
  else 0

theorem spec_arity (k : Int) (w : World) : Calls Try.prog 24 #[.int .i64 k] w fun e w' => e = .returned (.int .i64 (arN k : Nat)) ∧ w' = w := by
  by_cases h3 : k = 3
  · subst h3
    go_enter Try.func24, Try.ntmps24
    go_wp2
    go_ret
    exact ⟨rfl, rfl⟩
  by_cases h10 : k = 10
  · subst h10
    go_enter Try.func24, Try.ntmps24
    go_wp2
    go_ret
    exact ⟨rfl, rfl⟩
  by_cases h11 : k = 11
  · subst h11
    go_enter Try.func24, Try.ntmps24
    go_wp2
    go_ret
    exact ⟨rfl, rfl⟩
  by_cases h15 : k = 15
  · subst h15
    go_enter Try.func24, Try.ntmps24
    go_wp2
    go_ret
    exact ⟨rfl, rfl⟩
  by_cases h16 : k = 16
  · subst h16
    go_enter Try.func24, Try.ntmps24
    go_wp2
    go_ret
    exact ⟨rfl, rfl⟩
  by_cases h18 : k = 18
  · subst h18
    go_enter Try.func24, Try.ntmps24
    go_wp2
    go_ret
    exact ⟨rfl, rfl⟩
  by_cases h4 : k = 4
  · subst h4
    go_enter Try.func24, Try.ntmps24
    go_wp2
    go_ret
    exact ⟨rfl, rfl⟩
  by_cases h5 : k = 5
  · subst h5
    go_enter Try.func24, Try.ntmps24
    go_wp2
    go_ret
    exact ⟨rfl, rfl⟩
  by_cases h6 : k = 6
  · subst h6
    go_enter Try.func24, Try.ntmps24
    go_wp2
    go_ret
    exact ⟨rfl, rfl⟩
  by_cases h8 : k = 8
  · subst h8
    go_enter Try.func24, Try.ntmps24
    go_wp2
    go_ret
    exact ⟨rfl, rfl⟩
  by_cases h9 : k = 9
  · subst h9
    go_enter Try.func24, Try.ntmps24
    go_wp2
    go_ret
    exact ⟨rfl, rfl⟩
  by_cases h13 : k = 13
  · subst h13
    go_enter Try.func24, Try.ntmps24
    go_wp2
    go_ret
    exact ⟨rfl, rfl⟩
  by_cases h17 : k = 17
  · subst h17
    go_enter Try.func24, Try.ntmps24
    go_wp2
    go_ret
    exact ⟨rfl, rfl⟩
  by_cases h19 : k = 19
  · subst h19
    go_enter Try.func24, Try.ntmps24
    go_wp2
    go_ret
    exact ⟨rfl, rfl⟩
  by_cases h7 : k = 7
  · subst h7
    go_enter Try.func24, Try.ntmps24
    go_wp2
    go_ret
    exact ⟨rfl, rfl⟩
  by_cases h14 : k = 14
  · subst h14
    go_enter Try.func24, Try.ntmps24
    go_wp2
    go_ret
    exact ⟨rfl, rfl⟩
  have g3 : (k == 3) = false := by simpa using h3
  have g10 : (k == 10) = false := by simpa using h10
  have g11 : (k == 11) = false := by simpa using h11
  have g15 : (k == 15) = false := by simpa using h15
  have g16 : (k == 16) = false := by simpa using h16
  have g18 : (k == 18) = false := by simpa using h18
  have g4 : (k == 4) = false := by simpa using h4
  have g5 : (k == 5) = false := by simpa using h5
  have g6 : (k == 6) = false := by simpa using h6
  have g8 : (k == 8) = false := by simpa using h8
  have g9 : (k == 9) = false := by simpa using h9
  have g13 : (k == 13) = false := by simpa using h13
  have g17 : (k == 17) = false := by simpa using h17
  have g19 : (k == 19) = false := by simpa using h19
  have g7 : (k == 7) = false := by simpa using h7
  have g14 : (k == 14) = false := by simpa using h14
  have hz : Ending.returned (.int .i64 0) = Ending.returned (.int .i64 (arN k : Nat)) := by
    unfold arN
    rw [if_neg (by omega), if_neg (by omega), if_neg (by omega)]
    rfl
  clear h3 h10 h11 h15 h16 h18 h4 h5 h6 h8 h9 h13 h17 h19 h7 h14
  go_enter Try.func24, Try.ntmps24
  go_wp2
  go_ret
  exact ⟨hz, rfl⟩

/-- How many names a kind has. -/
def nmN (k : Int) : Nat :=
  if k = 1 ∨ k = 3 ∨ k = 5 ∨ k = 19 then 1
  else if k = 6 ∨ k = 14 then 2
  else 0

theorem spec_names (k : Int) (w : World) : Calls Try.prog 25 #[.int .i64 k] w fun e w' => e = .returned (.int .i64 (nmN k : Nat)) ∧ w' = w := by
  by_cases h1 : k = 1
  · subst h1
    go_enter Try.func25, Try.ntmps25
    go_wp2
    go_ret
    exact ⟨rfl, rfl⟩
  by_cases h3 : k = 3
  · subst h3
    go_enter Try.func25, Try.ntmps25
    go_wp2
    go_ret
    exact ⟨rfl, rfl⟩
  by_cases h5 : k = 5
  · subst h5
    go_enter Try.func25, Try.ntmps25
    go_wp2
    go_ret
    exact ⟨rfl, rfl⟩
  by_cases h19 : k = 19
  · subst h19
    go_enter Try.func25, Try.ntmps25
    go_wp2
    go_ret
    exact ⟨rfl, rfl⟩
  by_cases h6 : k = 6
  · subst h6
    go_enter Try.func25, Try.ntmps25
    go_wp2
    go_ret
    exact ⟨rfl, rfl⟩
  by_cases h14 : k = 14
  · subst h14
    go_enter Try.func25, Try.ntmps25
    go_wp2
    go_ret
    exact ⟨rfl, rfl⟩
  have g1 : (k == 1) = false := by simpa using h1
  have g3 : (k == 3) = false := by simpa using h3
  have g5 : (k == 5) = false := by simpa using h5
  have g19 : (k == 19) = false := by simpa using h19
  have g6 : (k == 6) = false := by simpa using h6
  have g14 : (k == 14) = false := by simpa using h14
  have hz : Ending.returned (.int .i64 0) = Ending.returned (.int .i64 (nmN k : Nat)) := by
    unfold nmN
    rw [if_neg (by omega), if_neg (by omega)]
    rfl
  clear h1 h3 h5 h19 h6 h14
  go_enter Try.func25, Try.ntmps25
  go_wp2
  go_ret
  exact ⟨hz, rfl⟩

theorem arN_le (k : Int) : arN k ≤ 3 := by unfold arN; repeat' split
                                           all_goals omega
theorem nmN_le (k : Int) : nmN k ≤ 2 := by unfold nmN; repeat' split
                                           all_goals omega

/-- Is it a name? -/
def isNameB (s : ByteArray) : Bool := isWordB s && !isKeyB s

theorem spec_name (s : ByteArray) (hs : s.size ≤ maxLen) (w : World) : Calls Try.prog 26 #[.string s] w fun e w' => e = .returned (.bool (isNameB s)) ∧ Below w.heap.size w w' := by
  have HN : Hid (isNameB s = (isWordB s && !isKeyB s)) := rfl
  go_enter Try.func26, Try.ntmps26
  go_wp2_with fail
  refine (spec_word s hs w).mono ?_
  rintro e w1 ⟨rfl, rfl⟩
  cases hw : isWordB s with
  | true =>
    go_wp2_with fail
    refine (spec_key s w1).mono ?_
    rintro e w2 ⟨rfl, hb⟩
    have hv : Hid (isNameB s = !isKeyB s) := by show isNameB s = !isKeyB s; rw [HN.out, hw]; rfl
    clear HN hw
    generalize isKeyB s = b at *
    go_wp2
    go_ret
    exact ⟨by rw [hv.out]; rfl, hb⟩
  | false =>
    have hv : Hid (isNameB s = false) := by show isNameB s = false; rw [HN.out, hw]; rfl
    clear HN hw
    go_wp2
    go_ret
    exact ⟨by rw [hv.out]; rfl, Below.refl _ _⟩
end Go.Proofs.Ytjjanmccijghgaa
