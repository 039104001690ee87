/-
  Words: what isLetter, countFront and IsWord answer, as they landed, and the specification's IsWord. Conditions: written at each theorem.
-/
import Derived.Test.YtjjanmccijghgaaWs
import Derived.ProofKit
import Derived.OpenShut
import Derived.ShutString
import Derived.WalkSpells
namespace Go.Proofs.Ytjjanmccijghgaa
open Go.ChangeShapes Go.WideShapes Go.ChangeAt Go.RowKit
set_option linter.unusedVariables false

theorem impl_let_yes (b : Int) (h1 : 97 ≤ b) (h2 : b ≤ 122) (w : World) :
    Calls Try.prog 41 #[.int .u8 b] w fun e w' => e = .returned (.bool true) ∧ w' = w := by
  go_enter Try.func41, Try.ntmps41
  go_wp2
  go_ret
  exact ⟨rfl, rfl⟩

theorem impl_let_no (b : Int) (h : b < 97 ∨ 122 < b) (w : World) :
    Calls Try.prog 41 #[.int .u8 b] w fun e w' => e = .returned (.bool false) ∧ w' = w := by
  by_cases h1 : b < 97
  · go_enter Try.func41, Try.ntmps41
    go_wp2
    go_ret
    exact ⟨rfl, rfl⟩
  · have h2 : 122 < b := by omega
    have e : Ending.returned (Value.bool (decide (b ≤ 122))) = Ending.returned (Value.bool false) := by rw [decide_eq_false (by omega)]
    go_enter Try.func41, Try.ntmps41
    go_wp2
    go_ret
    exact ⟨e, rfl⟩

theorem impl_front_let (s : ByteArray) (hs : s.size ≤ maxLen) (w : World) :
    Calls Try.prog 40 #[.string s, .func (.func 41) #[] #[]] w fun e w' => (∃ n : Nat, RunTo lowA s 0 n ∧ e = .returned (.int .i64 n)) ∧ w' = w := by
  unfold maxLen at hs
  go_enter Try.func40, Try.ntmps40
  go_wp2
  go_loop [5] (fun n => ∃ k : Nat, k ≤ s.size ∧ (∀ j, j < k → lowA (bAt s j)) ∧ n = .int .i64 k) (fun n => s.size - (intOf n).toNat)
  case atStart => exact ⟨0, by omega, by intro j h; omega, rfl⟩
  case round =>
    obtain ⟨k, hk, hall, rfl⟩ := hrel
    by_cases hin : k < s.size
    · have hin' : (k : Int) < s.size := by omega
      have hb := bAt_in hin
      by_cases hl : lowA (bAt s k)
      · have h1 : 97 ≤ (s[k].toNat : Int) := by omega
        have h2 : (s[k].toNat : Int) ≤ 122 := by omega
        clear hb
        go_wp2_with fail
        refine (impl_let_yes _ h1 h2 w).mono ?_
        rintro e w1 ⟨rfl, rfl⟩
        go_wp2
        go_round
        case rel =>
          refine ⟨k + 1, by omega, fun j hj => ?_, by go_num⟩
          rcases Nat.lt_or_eq_of_le (Nat.le_of_lt_succ hj) with h | rfl
          · exact hall j h
          · exact hl
        case measure => simp [intOf]; omega
      · have h1 : (s[k].toNat : Int) < 97 ∨ 122 < (s[k].toNat : Int) := by omega
        clear hb
        go_wp2_with fail
        refine (impl_let_no _ h1 w).mono ?_
        rintro e w1 ⟨rfl, rfl⟩
        go_wp2
        go_ret
        exact ⟨⟨k, ⟨by omega, hk, fun j _ h => hall j h, fun _ => hl⟩, rfl⟩, rfl⟩
    · go_wp2
      go_ret
      exact ⟨⟨k, ⟨by omega, hk, fun j _ h => hall j h, fun h => absurd h hin⟩, rfl⟩, rfl⟩

theorem impl_word (s : ByteArray) (hs : s.size ≤ maxLen) (w : World) :
    Calls Try.prog 38 #[.string s] w fun e w' => e = .returned (.bool (isWordB s)) ∧ w' = w := by
  by_cases h1 : 1 ≤ s.size
  · by_cases h8 : s.size ≤ 8
    · have h1' : (1 : Int) ≤ s.size := by omega
      have h8' : (s.size : Int) ≤ 8 := by omega
      go_enter Try.func38, Try.ntmps38
      go_wp2_with fail
      refine (impl_front_let s hs w).mono ?_
      rintro e w1 ⟨⟨n, hn, rfl⟩, rfl⟩
      have hv : Hid (isWordB s = ((n : Int) == (s.size : Int))) := by
        show isWordB s = ((n : Int) == (s.size : Int))
        obtain ⟨_, h2, h3, h4⟩ := hn
        by_cases he : n = s.size
        · subst he
          rw [isWordB, decide_eq_true ⟨h1, h8, fun j hj => h3 j (Nat.zero_le _) hj⟩]
          simp
        · rw [isWordB, decide_eq_false (fun h => h4 (by omega) (h.2.2 n (by omega)))]
          symm
          simp
          omega
      clear hn
      go_wp2
      go_ret
      exact ⟨by rw [hv.out]; rfl, rfl⟩
    · have hv : Ending.returned (.bool false) = Ending.returned (.bool (isWordB s)) := by rw [isWordB, decide_eq_false (fun h => h8 h.2.1)]
      have h1' : (1 : Int) ≤ s.size := by omega
      have h8' : (8 : Int) < s.size := by omega
      go_enter Try.func38, Try.ntmps38
      go_wp2
      go_ret
      exact ⟨hv, rfl⟩
  · have hv : Ending.returned (.bool false) = Ending.returned (.bool (isWordB s)) := by rw [isWordB, decide_eq_false (fun h => h1 h.1)]
    have h1' : (s.size : Int) < 1 := by omega
    go_enter Try.func38, Try.ntmps38
    go_wp2
    go_ret
    exact ⟨hv, rfl⟩
end Go.Proofs.Ytjjanmccijghgaa
