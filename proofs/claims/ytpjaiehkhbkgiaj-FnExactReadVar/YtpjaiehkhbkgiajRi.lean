/-
  ReadVar as it landed. Conditions: written at each theorem.
-/
import Derived.Test.YtpjaiehkhbkgiajRs
namespace Go.Proofs.Ytpjaiehkhbkgiaj
open Go.ChangeShapes Go.WideShapes Go.ChangeAt Go.RowKit
set_option linter.unusedVariables false

theorem pow7 (k : Nat) : (2 : Nat) ^ (7 * k) = 128 ^ k := by
  rw [Nat.pow_mul]

theorem or_val (s : ByteArray) (k b : Nat) (hk : k ≤ 6) (hb : b = byteAt s k) :
    bits .or .i64 ((val s 0 k : Nat) : Int) (wrap64 ((b : Int) % 128 * 2 ^ (7 * k))) = ((val s 0 (k + 1) : Nat) : Int) := by
  have h1 := val_lt s 0 k
  have h2 : 128 ^ k ≤ 128 ^ 6 := Nat.pow_le_pow_right (by omega) hk
  have h3 : b % 128 * 128 ^ k ≤ 127 * 128 ^ 6 := Nat.mul_le_mul (by omega) h2
  have e : (b : Int) % 128 * 2 ^ (7 * k) = ((b % 128 * 128 ^ k : Nat) : Int) := by
    rw [← pow7]
    simp
  rw [e, wrap64_nat _ (by omega)]
  have c : bits .or .i64 ((val s 0 k : Nat) : Int) ((b % 128 * 128 ^ k : Nat) : Int) = bits .or .i64 ((b % 128 * 128 ^ k : Nat) : Int) ((val s 0 k : Nat) : Int) := by
    simp only [bits, BitVec.or_comm]
  rw [c, or_join (7 * k) _ _ (by rw [pow7]; exact Nat.mul_mod_left _ _) (by rw [pow7]; exact h1) (by omega), val_snoc, Nat.zero_add, ← hb]
  omega

set_option maxRecDepth 20000 in
theorem impl_rv (s : ByteArray) (hs : s.size ≤ 1048576) (w : World) :
    Calls Try.prog 7 #[.string s] w fun e w' => (∃ n k : Nat, IsRv s n k ∧ e = .returned (.tuple #[.int .i64 n, .int .i64 k])) ∧ w = w' := by
  go_enter Try.func7, Try.ntmps7
  go_wp2
  go_loop [4, 5] (fun n i => ∃ k : Nat, k ≤ 7 ∧ k ≤ s.size ∧ i = .int .i64 k ∧ n = .int .i64 (val s 0 k : Nat) ∧ Hid (∀ j, j < k → 128 ≤ byteAt s j)) (fun _ i => 8 - (intOf i).toNat)
  case atStart => exact ⟨0, by omega, by omega, rfl, rfl, fun j h => by omega⟩
  case round =>
    obtain ⟨k, h7, hl, rfl, rfl, hno⟩ := hrel
    by_cases hin : k < 7 ∧ k < s.size
    · obtain ⟨hk7, hks⟩ := hin
      have hk7' : (k : Int) < 7 := by omega
      have hks' : (k : Int) < s.size := by omega
      obtain ⟨b, hb, hb2⟩ : ∃ b : Nat, s[k].toNat = b ∧ b = byteAt s k := ⟨_, rfl, (byteAt_in hks).symm⟩
      have hbl : b < 256 := by rw [hb2]; exact byteAt_lt s _
      have e1 : bits .and .u8 (b : Int) 127 = (b : Int) % 128 := by
        rw [u8_and _ _ (by omega) (by omega) (by omega) (by omega)]
        simp [nat_mask7]
      have eo := or_val s k b (by omega) hb2
      have HB : Hid (b = byteAt s k) := hb2
      clear hb2
      generalize val s 0 k = q at *
      generalize hv : val s 0 (k + 1) = v at *
      have HV : Hid (val s 0 (k + 1) = v) := hv
      clear hv
      go_wp2
      · have hbig : (127 : Int) < b := by assumption
        have hno2 : Hid (∀ j, j < k + 1 → 128 ≤ byteAt s j) := by
          intro j hj
          by_cases hjk : j = k
          · rw [hjk, ← HB.out]; omega
          · exact hno.out j (by omega)
        go_round
        case rel => exact ⟨k + 1, by omega, by omega, by go_num, by rw [HV.out], hno2⟩
        case measure => simp [intOf]; omega
      · have hb0 : b = 0 := by assumption
        have hk0 : 0 < k := by assumption
        have hfin : IsRv s 0 0 := Or.inl ⟨rfl, rfl, fun j hj1 hj7 hjl hg => by
          have hz : byteAt s k = 0 := by rw [← HB.out]; exact hb0
          rcases Nat.lt_trichotomy j (k + 1) with hl2 | he | hl2
          · have h1 := hno.out (j - 1) (by omega)
            have h2 := hg.2.1
            omega
          · subst he
            have h3 := hg.2.2
            simp only [Nat.add_sub_cancel] at h3
            omega
          · have h4 := hg.1 k (by omega)
            omega⟩
        go_ret2
        exact ⟨⟨0, 0, hfin, rfl⟩, rfl⟩
      · have hb0 : b = 0 := by assumption
        have hk0 : ¬ 0 < k := by assumption
        obtain rfl : k = 0 := by omega
        have hg : goodAt s 1 := ⟨fun i hi => by omega, by show byteAt s 0 < 128; rw [← HB.out]; omega, Or.inl rfl⟩
        go_ret2
        exact ⟨⟨v, 1, Or.inr ⟨by omega, by omega, by omega, hg, HV.out.symm⟩, rfl⟩, rfl⟩
      · have hb0 : ¬ b = 0 := by assumption
        have hb127 : (b : Int) ≤ 127 := by assumption
        have hg : goodAt s (k + 1) := ⟨fun i hi => hno.out i (by omega), by show byteAt s k < 128; rw [← HB.out]; omega, Or.inr (by show byteAt s k ≠ 0; rw [← HB.out]; omega)⟩
        go_ret2
        exact ⟨⟨v, k + 1, Or.inr ⟨by omega, by omega, by omega, hg, HV.out.symm⟩, rfl⟩, rfl⟩
    · have hfin : Hid (IsRv s 0 0) := Or.inl ⟨rfl, rfl, fun j hj1 hj7 hjl hg => by
        have h1 := hno.out (j - 1) (by omega)
        have h2 := hg.2.1
        omega⟩
      by_cases hks : (k : Int) < s.size
      · have h7 : ¬ ((k : Int) < 7) := by omega
        go_wp2
        go_ret2
        exact ⟨⟨0, 0, hfin.out, rfl⟩, rfl⟩
      · go_wp2
        go_ret2
        exact ⟨⟨0, 0, hfin.out, rfl⟩, rfl⟩
end Go.Proofs.Ytpjaiehkhbkgiaj
