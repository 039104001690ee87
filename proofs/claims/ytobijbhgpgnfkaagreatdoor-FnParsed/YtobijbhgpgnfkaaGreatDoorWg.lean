/-
  Runs of digits and of letters: what isDigit and countFront answer, as they landed, and the specification's l2Digit and l2Run. Conditions: written at each theorem.
-/
import Derived.Test.YtobijbhgpgnfkaaGreatDoorWd
namespace Go.Proofs.YtobijbhgpgnfkaaGreatDoor
open Go.ChangeShapes Go.WideShapes Go.ChangeAt Go.RowKit
set_option linter.unusedVariables false

theorem impl_dig_yes (b : Int) (h1 : 48 ≤ b) (h2 : b ≤ 57) (w : World) :
    Calls Tryz.prog 60 #[.int .u8 b] w fun e w' => e = .returned (.bool true) ∧ w' = w := by
  go_enter Tryz.func60, Tryz.ntmps60
  go_wp2
  go_ret
  exact ⟨rfl, rfl⟩

theorem impl_dig_no (b : Int) (h : b < 48 ∨ 57 < b) (w : World) :
    Calls Tryz.prog 60 #[.int .u8 b] w fun e w' => e = .returned (.bool false) ∧ w' = w := by
  by_cases h1 : b < 48
  · go_enter Tryz.func60, Tryz.ntmps60
    go_wp2
    go_ret
    exact ⟨rfl, rfl⟩
  · have h2 : 57 < b := by omega
    have e : Ending.returned (Value.bool (decide (b ≤ 57))) = Ending.returned (Value.bool false) := by rw [decide_eq_false (by omega)]
    go_enter Tryz.func60, Tryz.ntmps60
    go_wp2
    go_ret
    exact ⟨e, rfl⟩

theorem impl_front_dig (s : ByteArray) (hs : s.size ≤ maxLen) (w : World) :
    Calls Tryz.prog 57 #[.string s, .func (.func 60) #[] #[]] w fun e w' => (∃ n : Nat, RunTo dig9 s 0 n ∧ e = .returned (.int .i64 n)) ∧ w' = w := by
  unfold maxLen at hs
  go_enter Tryz.func57, Tryz.ntmps57
  go_wp2
  go_loop [5] (fun n => ∃ k : Nat, k ≤ s.size ∧ (∀ j, j < k → dig9 (bAt s j)) ∧ n = .int .i64 k) (fun n => s.size - (intOf n).toNat)
  case atStart => exact ⟨0, by omega, by intro j h; omega, rfl⟩
  case round =>
    obtain ⟨k, hk, hall, rfl⟩ := hrel
    by_cases hin : k < s.size
    · have hin' : (k : Int) < s.size := by omega
      have hb := bAt_in hin
      by_cases hl : dig9 (bAt s k)
      · have h1 : 48 ≤ (s[k].toNat : Int) := by omega
        have h2 : (s[k].toNat : Int) ≤ 57 := by omega
        clear hb
        go_wp2_with fail
        refine (impl_dig_yes _ h1 h2 w).mono ?_
        rintro e w1 ⟨rfl, rfl⟩
        go_wp2
        go_round
        case rel =>
          refine ⟨k + 1, by omega, fun j hj => ?_, by go_num⟩
          rcases Nat.lt_or_eq_of_le (Nat.le_of_lt_succ hj) with h | rfl
          · exact hall j h
          · exact hl
        case measure => simp [intOf]; omega
      · have h1 : (s[k].toNat : Int) < 48 ∨ 57 < (s[k].toNat : Int) := by omega
        clear hb
        go_wp2_with fail
        refine (impl_dig_no _ h1 w).mono ?_
        rintro e w1 ⟨rfl, rfl⟩
        go_wp2
        go_ret
        exact ⟨⟨k, ⟨by omega, hk, fun j _ h => hall j h, fun _ => hl⟩, rfl⟩, rfl⟩
    · go_wp2
      go_ret
      exact ⟨⟨k, ⟨by omega, hk, fun j _ h => hall j h, fun h => absurd h hin⟩, rfl⟩, rfl⟩

theorem spec_dig_yes (b : Int) (h1 : 48 ≤ b) (h2 : b ≤ 57) (w : World) :
    Calls Tryz.prog 51 #[.int .u8 b] w fun e w' => e = .returned (.bool true) ∧ w' = w := by
  go_enter Tryz.func51, Tryz.ntmps51
  go_wp2
  go_ret
  exact ⟨rfl, rfl⟩

theorem spec_dig_no (b : Int) (h : b < 48 ∨ 57 < b) (w : World) :
    Calls Tryz.prog 51 #[.int .u8 b] w fun e w' => e = .returned (.bool false) ∧ w' = w := by
  by_cases h1 : b < 48
  · go_enter Tryz.func51, Tryz.ntmps51
    go_wp2
    go_ret
    exact ⟨rfl, rfl⟩
  · have h2 : 57 < b := by omega
    have e : Ending.returned (Value.bool (decide (b ≤ 57))) = Ending.returned (Value.bool false) := by rw [decide_eq_false (by omega)]
    go_enter Tryz.func51, Tryz.ntmps51
    go_wp2
    go_ret
    exact ⟨e, rfl⟩

theorem spec_run_let (s : ByteArray) (i : Nat) (hs : s.size ≤ 4000) (hi : i ≤ s.size) (w : World) :
    Calls Tryz.prog 49 #[.string s, .int .i64 i, .bool true] w fun e w' => (∃ n : Nat, RunTo lowA s i n ∧ e = .returned (.int .i64 n)) ∧ w' = w := by
  go_enter Tryz.func49, Tryz.ntmps49
  go_wp2
  go_loop [1] (fun n => ∃ k : Nat, i ≤ k ∧ k ≤ s.size ∧ (∀ j, i ≤ j → j < k → lowA (bAt s j)) ∧ n = .int .i64 k) (fun n => s.size - (intOf n).toNat)
  case atStart => exact ⟨i, Nat.le_refl _, hi, by intro j h1 h2; omega, rfl⟩
  case round =>
    obtain ⟨k, hik, hk, hall, rfl⟩ := hrel
    by_cases hin : k < s.size
    · have hin' : (k : Int) < s.size := by omega
      have hb := bAt_in hin
      by_cases hl : lowA (bAt s k)
      · have h1 : 97 ≤ (s[k].toNat : Int) := by omega
        have h2 : (s[k].toNat : Int) ≤ 122 := by omega
        clear hb
        go_wp2_with fail
        refine (spec_let_yes _ h1 h2 w).mono ?_
        rintro e w1 ⟨rfl, rfl⟩
        go_wp2
        go_round
        case rel =>
          refine ⟨k + 1, by omega, by omega, fun j hj1 hj => ?_, by go_num⟩
          rcases Nat.lt_or_eq_of_le (Nat.le_of_lt_succ hj) with h | rfl
          · exact hall j hj1 h
          · exact hl
        case measure => simp [intOf]; omega
      · have h1 : (s[k].toNat : Int) < 97 ∨ 122 < (s[k].toNat : Int) := by omega
        clear hb
        go_wp2_with fail
        refine (spec_let_no _ h1 w).mono ?_
        rintro e w1 ⟨rfl, rfl⟩
        go_wp2
        go_ret
        exact ⟨⟨k, ⟨hik, hk, hall, fun _ => hl⟩, rfl⟩, rfl⟩
    · go_wp2
      go_ret
      exact ⟨⟨k, ⟨hik, hk, hall, fun h => absurd h hin⟩, rfl⟩, rfl⟩

theorem spec_run_dig (s : ByteArray) (i : Nat) (hs : s.size ≤ 4000) (hi : i ≤ s.size) (w : World) :
    Calls Tryz.prog 49 #[.string s, .int .i64 i, .bool false] w fun e w' => (∃ n : Nat, RunTo dig9 s i n ∧ e = .returned (.int .i64 n)) ∧ w' = w := by
  go_enter Tryz.func49, Tryz.ntmps49
  go_wp2
  go_loop [1] (fun n => ∃ k : Nat, i ≤ k ∧ k ≤ s.size ∧ (∀ j, i ≤ j → j < k → dig9 (bAt s j)) ∧ n = .int .i64 k) (fun n => s.size - (intOf n).toNat)
  case atStart => exact ⟨i, Nat.le_refl _, hi, by intro j h1 h2; omega, rfl⟩
  case round =>
    obtain ⟨k, hik, hk, hall, rfl⟩ := hrel
    by_cases hin : k < s.size
    · have hin' : (k : Int) < s.size := by omega
      have hb := bAt_in hin
      by_cases hl : dig9 (bAt s k)
      · have h1 : 48 ≤ (s[k].toNat : Int) := by omega
        have h2 : (s[k].toNat : Int) ≤ 57 := by omega
        clear hb
        go_wp2_with fail
        refine (spec_dig_yes _ h1 h2 w).mono ?_
        rintro e w1 ⟨rfl, rfl⟩
        go_wp2
        go_round
        case rel =>
          refine ⟨k + 1, by omega, by omega, fun j hj1 hj => ?_, by go_num⟩
          rcases Nat.lt_or_eq_of_le (Nat.le_of_lt_succ hj) with h | rfl
          · exact hall j hj1 h
          · exact hl
        case measure => simp [intOf]; omega
      · have h1 : (s[k].toNat : Int) < 48 ∨ 57 < (s[k].toNat : Int) := by omega
        clear hb
        go_wp2_with fail
        refine (spec_dig_no _ h1 w).mono ?_
        rintro e w1 ⟨rfl, rfl⟩
        go_wp2
        go_ret
        exact ⟨⟨k, ⟨hik, hk, hall, fun _ => hl⟩, rfl⟩, rfl⟩
    · go_wp2
      go_ret
      exact ⟨⟨k, ⟨hik, hk, hall, fun h => absurd h hin⟩, rfl⟩, rfl⟩

end Go.Proofs.YtobijbhgpgnfkaaGreatDoor
