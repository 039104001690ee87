/-
  What ReadFixed tells: the number that the first bytes of a text make, the first byte the greatest; and the walks of both functions that read it. No condition beyond those written at each theorem.
-/
import Derived.Test.YtpjaiehkhbkgiaiBase
namespace Go.Proofs.Ytpjaiehkhbkgiai
open Go.ChangeShapes Go.WideShapes Go.ChangeAt Go.RowKit
set_option linter.unusedVariables false

theorem in_yes (x lo hi : Int) (h1 : lo ≤ x) (h2 : x ≤ hi) (w : World) :
    Calls Try.prog 12 #[.int .i64 x, .int .i64 lo, .int .i64 hi] w fun e w' => e = .returned (.bool true) ∧ w = w' := by
  go_enter Try.func12, Try.ntmps12
  go_wp2
  go_ret
  exact ⟨rfl, rfl⟩

theorem in_no (x lo hi : Int) (h : x < lo ∨ hi < x) (w : World) :
    Calls Try.prog 12 #[.int .i64 x, .int .i64 lo, .int .i64 hi] w fun e w' => e = .returned (.bool false) ∧ w = w' := by
  by_cases h1 : x < lo
  · go_enter Try.func12, Try.ntmps12
    go_wp2
    go_ret
    exact ⟨rfl, rfl⟩
  · have h2 : hi < x := by omega
    have e : Ending.returned (Value.bool (decide (x ≤ hi))) = Ending.returned (Value.bool false) := by rw [decide_eq_false (by omega)]
    go_enter Try.func12, Try.ntmps12
    go_wp2
    go_ret
    exact ⟨e, rfl⟩

theorem spec_rf (s : ByteArray) (wd : Int) (h1 : 1 ≤ wd) (h7 : wd ≤ 7) (hl : wd ≤ s.size) (hs : s.size ≤ maxLen) (w : World) :
    Calls Try.prog 8 #[.string s, .int .i64 wd] w fun e w' => e = .returned (.tuple #[.int .i64 (rd s wd.toNat : Nat), .bool true]) ∧ w' = w := by
  go_enter Try.func8, Try.ntmps8
  go_wp2_with (go_at_call 12; refine (in_yes wd 1 7 h1 h7 w).mono ?_; rintro e w' ⟨rfl, rfl⟩)
  go_loop [6, 7] (fun n i => ∃ k : Nat, (k : Int) ≤ wd ∧ i = .int .i64 k ∧ n = .int .i64 (rd s k : Nat)) (fun _ i => 8 - (intOf i).toNat)
  case atStart => exact ⟨0, by omega, rfl, rfl⟩
  case round =>
    obtain ⟨k, hk, rfl, rfl⟩ := hrel
    have hb : (k : Int) < wd → (rd s k : Int) < 281474976710656 := fun h => by have := rd_lt48 s (k := k) (by omega); omega
    go_wp2
    · have hlt : (k : Int) < wd := by assumption
      have hks : k < s.size := by assumption
      go_round
      case rel =>
        have h3 := hb hlt
        have h4 := (s[k]).toNat_lt
        refine ⟨k + 1, by omega, by go_num, ?_⟩
        rw [wrap64_byte, IntWalk.wrap64_in _ (by omega)]
        simp [rd, byteAt_in hks]
      case measure => simp [intOf]; omega
    · have hge : wd ≤ (k : Int) := by assumption
      have hkw : wd.toNat = k := by omega
      rw [hkw]
      go_ret2
      exact ⟨rfl, rfl⟩

theorem impl_rf (s : ByteArray) (wd : Int) (h1 : 1 ≤ wd) (h7 : wd ≤ 7) (hl : wd ≤ s.size) (hs : s.size ≤ maxLen) (w : World) :
    Calls Try.prog 9 #[.string s, .int .i64 wd] w fun e w' => e = .returned (.tuple #[.int .i64 (rd s wd.toNat : Nat), .bool true]) ∧ w' = w := by
  go_enter Try.func9, Try.ntmps9
  go_wp2
  go_loop [6, 7] (fun n i => ∃ k : Nat, (k : Int) ≤ wd ∧ i = .int .i64 k ∧ n = .int .i64 (rd s k : Nat)) (fun _ i => 8 - (intOf i).toNat)
  case atStart => exact ⟨0, by omega, rfl, rfl⟩
  case round =>
    obtain ⟨k, hk, rfl, rfl⟩ := hrel
    have hb : (k : Int) < wd → (rd s k : Int) < 281474976710656 := fun h => by have := rd_lt48 s (k := k) (by omega); omega
    go_wp2
    · have hlt : (k : Int) < wd := by assumption
      have hks : k < s.size := by assumption
      go_round
      case rel =>
        have h3 := hb hlt
        refine ⟨k + 1, by omega, by go_num, ?_⟩
        rw [wrap64_byte, or_byte _ _ (by omega)]
        simp [rd, byteAt_in hks]
      case measure => simp [intOf]; omega
    · have hge : wd ≤ (k : Int) := by assumption
      have hkw : wd.toNat = k := by omega
      rw [hkw]
      go_ret2
      exact ⟨rfl, rfl⟩

theorem spec_rf_no (s : ByteArray) (wd : Int) (h : wd < 1 ∨ 7 < wd ∨ (s.size : Int) < wd) (w : World) :
    Calls Try.prog 8 #[.string s, .int .i64 wd] w fun e w' => e = .returned (.tuple #[.int .i64 0, .bool false]) ∧ w' = w := by
  by_cases h1 : wd < 1 ∨ 7 < wd
  · go_enter Try.func8, Try.ntmps8
    go_wp2_with (go_at_call 12; refine (in_no wd 1 7 h1 w).mono ?_; rintro e w' ⟨rfl, rfl⟩)
    go_ret2
    exact ⟨rfl, rfl⟩
  · have h2 : (s.size : Int) < wd := by omega
    go_enter Try.func8, Try.ntmps8
    go_wp2_with (go_at_call 12; refine (in_yes wd 1 7 (by omega) (by omega) w).mono ?_; rintro e w' ⟨rfl, rfl⟩)
    go_ret2
    exact ⟨rfl, rfl⟩

theorem impl_rf_no (s : ByteArray) (wd : Int) (h : wd < 1 ∨ 7 < wd ∨ (s.size : Int) < wd) (w : World) :
    Calls Try.prog 9 #[.string s, .int .i64 wd] w fun e w' => e = .returned (.tuple #[.int .i64 0, .bool false]) ∧ w' = w := by
  by_cases h1 : wd < 1
  · go_enter Try.func9, Try.ntmps9
    go_wp2
    go_ret2
    exact ⟨rfl, rfl⟩
  · by_cases h3 : 7 < wd
    · go_enter Try.func9, Try.ntmps9
      go_wp2
      go_ret2
      exact ⟨rfl, rfl⟩
    · have h2 : (s.size : Int) < wd := by omega
      go_enter Try.func9, Try.ntmps9
      go_wp2
      go_ret2
      exact ⟨rfl, rfl⟩
end Go.Proofs.Ytpjaiehkhbkgiai
