/-
  What Unhex makes: the bytes whose digits a text holds, or nothing; and the walk of the specification's function. Conditions: written at each theorem.
-/
import Derived.Test.YtpjaiehkhbkgiajHi
namespace Go.Proofs.Ytpjaiehkhbkgiaj
open Go.ChangeShapes Go.WideShapes Go.ChangeAt Go.RowKit
set_option linter.unusedVariables false

/-- What a digit stands for; -1 where it is none. -/
def fh (b : Nat) : Int := if 48 ≤ b ∧ b ≤ 57 then (b : Int) - 48 else if 97 ≤ b ∧ b ≤ 102 then (b : Int) - 87 else -1

theorem fh_yes (k b : Nat) (hk : k < 16) (h : hexd k = b) : fh b = k := by
  subst h
  unfold hexd fh
  split <;> (repeat' split) <;> omega

theorem fh_no (b : Nat) (h : ∀ j, j < 16 → hexd j ≠ b) : fh b = -1 := by
  unfold fh
  split
  · exact absurd (show hexd (b - 48) = b by unfold hexd; split <;> omega) (h _ (by omega))
  · split
    · exact absurd (show hexd (b - 87) = b by unfold hexd; split <;> omega) (h _ (by omega))
    · rfl

theorem fh_range (b : Nat) : -1 ≤ fh b ∧ fh b ≤ 15 := by
  unfold fh
  (repeat' split) <;> omega

theorem hexd_lt (k : Nat) (h : k < 16) : hexd k < 256 := by unfold hexd; split <;> omega

theorem spec_fh (b : Nat) (hb : b < 256) (w : World) :
    Calls Try.prog 15 #[.int .u8 b] w fun e w' => e = .returned (.int .i64 (fh b)) ∧ w = w' := by
  go_enter Try.func15, Try.ntmps15
  go_wp2
  go_loop [3] (fun i => ∃ k : Nat, k ≤ 16 ∧ i = .int .i64 k ∧ Hid (∀ j, j < k → hexd j ≠ b)) (fun i => 17 - (intOf i).toNat)
  case atStart => exact ⟨0, by omega, rfl, fun j hj => absurd hj (by omega)⟩
  case round =>
    obtain ⟨k, hk, rfl, hno⟩ := hrel
    by_cases h16 : k = 16
    · subst h16
      have e : fh b = -1 := fh_no b hno.out
      have E : Hid (fh b = -1) := e
      clear e
      go_wp2
      rw [E.out]
      go_ret
      exact ⟨rfl, rfl⟩
    · have hlt : k < 16 := by omega
      by_cases hd : hexd k = b
      · have E : Hid (fh b = k) := fh_yes k b hlt hd
        go_wp2_with (go_at_call 13; refine (digit k hlt w).mono ?_; rintro e w' ⟨rfl, rfl⟩)
        rw [E.out]
        go_ret
        exact ⟨rfl, rfl⟩
      · have hd2 : ((hexd k : Int) == (b : Int)) = false := by simp; omega
        have hno2 : Hid (∀ j, j < k + 1 → hexd j ≠ b) := by
          intro j hj
          by_cases hjk : j = k
          · rw [hjk]; exact hd
          · exact hno.out j (by omega)
        clear hno
        go_wp2_with (go_at_call 13; refine (digit k hlt w).mono ?_; rintro e w' ⟨rfl, rfl⟩)
        go_round
        case rel => exact ⟨k + 1, by omega, by go_num, hno2⟩
        case measure => simp [intOf]; omega

theorem impl_fh (b : Nat) (hb : b < 256) (w : World) :
    Calls Try.prog 16 #[.int .u8 b] w fun e w' => e = .returned (.int .i64 (fh b)) ∧ w = w' := by
  by_cases h1 : (48 : Int) ≤ b ∧ (b : Int) ≤ 57
  · obtain ⟨h2, h3⟩ := h1
    have e : fh b = (b : Int) - 48 := by unfold fh; rw [if_pos (by omega)]
    rw [e]
    go_enter Try.func16, Try.ntmps16
    go_wp2
    go_ret
    exact ⟨rfl, rfl⟩
  · by_cases h4 : (97 : Int) ≤ b ∧ (b : Int) ≤ 102
    · obtain ⟨h2, h3⟩ := h4
      have e : fh b = (b : Int) - 87 := by unfold fh; rw [if_neg (by omega), if_pos (by omega)]
      rw [e]
      have h5 : ¬ ((b : Int) ≤ 57) := by omega
      go_enter Try.func16, Try.ntmps16
      go_wp2
      go_ret
      exact ⟨by simp; omega, rfl⟩
    · have e : fh b = -1 := by unfold fh; rw [if_neg (by omega), if_neg (by omega)]
      rw [e]
      go_enter Try.func16, Try.ntmps16
      go_wp2
      all_goals go_ret
      all_goals exact ⟨rfl, rfl⟩
end Go.Proofs.Ytpjaiehkhbkgiaj
