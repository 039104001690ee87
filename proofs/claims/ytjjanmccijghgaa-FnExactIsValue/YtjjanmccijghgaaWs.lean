/-
  Words: what the specification's IsWord answers. Conditions: written at each theorem.
-/
import Derived.Test.YtjjanmccijghgaaRn
import Derived.ProofKit
import Derived.OpenShut
import Derived.ShutString
import Derived.WalkSpells
namespace Go.Proofs.Ytjjanmccijghgaa
open Go.ChangeShapes Go.WideShapes Go.ChangeAt Go.RowKit
set_option linter.unusedVariables false

/-- The text is a word: one to eight letters. -/
def isWordB (s : ByteArray) : Bool := decide (1 ≤ s.size ∧ s.size ≤ 8 ∧ ∀ j, j < s.size → lowA (bAt s j))

theorem spec_let_yes (b : Int) (h1 : 97 ≤ b) (h2 : b ≤ 122) (w : World) :
    Calls Try.prog 36 #[.int .u8 b] w fun e w' => e = .returned (.bool true) ∧ w' = w := by
  go_enter Try.func36, Try.ntmps36
  go_wp2
  go_ret
  exact ⟨rfl, rfl⟩

theorem spec_let_no (b : Int) (h : b < 97 ∨ 122 < b) (w : World) :
    Calls Try.prog 36 #[.int .u8 b] w fun e w' => e = .returned (.bool false) ∧ w' = w := by
  by_cases h1 : b < 97
  · go_enter Try.func36, Try.ntmps36
    go_wp2
    go_ret
    exact ⟨rfl, rfl⟩
  · have h2 : 122 < b := by omega
    have e : Ending.returned (Value.bool (decide (b ≤ 122))) = Ending.returned (Value.bool false) := by rw [decide_eq_false (by omega)]
    go_enter Try.func36, Try.ntmps36
    go_wp2
    go_ret
    exact ⟨e, rfl⟩

theorem word_in (x lo hi : Int) (w : World) :
    Calls Try.prog 11 #[.int .i64 x, .int .i64 lo, .int .i64 hi] w fun e w' => e = .returned (.bool (decide (lo ≤ x) && decide (x ≤ hi))) ∧ w' = w := by
  by_cases h1 : x < lo
  · have hv : Ending.returned (.bool false) = Ending.returned (.bool (decide (lo ≤ x) && decide (x ≤ hi))) := by rw [decide_eq_false (p := lo ≤ x) (by omega)]; rfl
    go_enter Try.func11, Try.ntmps11
    go_wp2
    go_ret
    exact ⟨hv, rfl⟩
  · have hv : Ending.returned (.bool (decide (x ≤ hi))) = Ending.returned (.bool (decide (lo ≤ x) && decide (x ≤ hi))) := by
      rw [decide_eq_true (p := lo ≤ x) (by omega)]; rfl
    go_enter Try.func11, Try.ntmps11
    go_wp2
    go_ret
    exact ⟨hv, rfl⟩

theorem spec_word (s : ByteArray) (hs : s.size ≤ maxLen) (w : World) :
    Calls Try.prog 33 #[.string s] w fun e w' => e = .returned (.bool (isWordB s)) ∧ w' = w := by
  unfold maxLen at hs
  go_enter Try.func33, Try.ntmps33
  go_wp2
  go_loop [3] (fun i => ∃ k : Nat, k ≤ s.size ∧ (∀ j, j < k → lowA (bAt s j)) ∧ i = .int .i64 k) (fun n => s.size - (intOf n).toNat)
  case atStart => exact ⟨0, by omega, by intro j h; omega, rfl⟩
  case round =>
    obtain ⟨k, hk, hall, rfl⟩ := hrel
    by_cases hin : k < s.size
    · have hin' : (k : Int) < s.size := by omega
      have hb := bAt_in hin
      by_cases hl : lowA (bAt s k)
      · have h1 : 97 ≤ (s[k].toNat : Int) := by omega
        have h2 : (s[k].toNat : Int) ≤ 122 := by omega
        clear hb
        go_wp2_with fail
        refine (spec_let_yes _ h1 h2 w).mono ?_
        rintro e w1 ⟨rfl, rfl⟩
        go_wp2
        go_round
        case rel =>
          refine ⟨k + 1, by omega, fun j hj => ?_, by go_num⟩
          rcases Nat.lt_or_eq_of_le (Nat.le_of_lt_succ hj) with h | rfl
          · exact hall j h
          · exact hl
        case measure => simp [intOf]; omega
      · have h1 : (s[k].toNat : Int) < 97 ∨ 122 < (s[k].toNat : Int) := by omega
        have hv : Ending.returned (.bool false) = Ending.returned (.bool (isWordB s)) := by rw [isWordB, decide_eq_false (fun h => hl (h.2.2 k hin))]
        clear hb
        go_wp2_with fail
        refine (spec_let_no _ h1 w).mono ?_
        rintro e w1 ⟨rfl, rfl⟩
        go_wp2
        go_ret
        exact ⟨hv, rfl⟩
    · obtain rfl : k = s.size := by omega
      have hv : Hid ((decide (1 ≤ (s.size : Int)) && decide ((s.size : Int) ≤ 8)) = isWordB s) := by
        show (decide (1 ≤ (s.size : Int)) && decide ((s.size : Int) ≤ 8)) = isWordB s
        unfold isWordB
        rw [← Bool.decide_and, decide_eq_decide]
        exact ⟨fun h => ⟨by omega, by omega, hall⟩, fun h => by omega⟩
      go_wp2_with fail
      refine (word_in _ _ _ w).mono ?_
      rintro e w1 ⟨rfl, rfl⟩
      go_wp2
      go_ret
      exact ⟨by rw [← hv.out]; rfl, rfl⟩
end Go.Proofs.Ytjjanmccijghgaa
