/-
  ReadVar, the specification's. Conditions: written at each theorem.
-/
import Derived.Test.YtpjaiehkhbkgiajRm
import Derived.Lib.Strings
namespace Go.Proofs.Ytpjaiehkhbkgiaj
open Go.ChangeShapes Go.WideShapes Go.ChangeAt Go.RowKit
set_option linter.unusedVariables false

theorem name12 : (Try.f12.name == "runtime.NumGoroutine") = false := by kernel_rfl
theorem body12 : Try.f12.body.isNone = false := by kernel_rfl

theorem val_lt49 (s : ByteArray) (j m : Nat) (h : m ≤ 7) : val s j m ≤ 562949953421311 := by
  have h1 := val_lt s j m
  have h2 : 128 ^ m ≤ 128 ^ 7 := Nat.pow_le_pow_right (by omega) h
  omega

theorem val_lt42 (s : ByteArray) (j m : Nat) (h : m ≤ 6) : val s j m < 4398046511104 := by
  have h1 := val_lt s j m
  have h2 : 128 ^ m ≤ 128 ^ 6 := Nat.pow_le_pow_right (by omega) h
  omega

theorem val_horner (s : ByteArray) (j k : Nat) (h1 : 1 ≤ j) (hk : j ≤ k) : val s (j - 1) (k - (j - 1)) = val s j (k - j) * 128 + byteAt s (j - 1) % 128 := by
  rw [show k - (j - 1) = (k - j) + 1 by omega]
  simp only [val]
  rw [show j - 1 + 1 = j by omega]
  omega

def u8 (n : Int) : UInt8 := UInt8.ofNat n.toNat

theorem u8_inj {a b : Int} (ha : 0 ≤ a ∧ a < 256) (hb : 0 ≤ b ∧ b < 256) (h : u8 a = u8 b) : a = b := by
  have := congrArg UInt8.toNat h
  simp only [u8, UInt8.toNat_ofNat'] at this
  omega

theorem map_inj : ∀ (L M : List Int), (∀ x ∈ L, 0 ≤ x ∧ x < 256) → (∀ x ∈ M, 0 ≤ x ∧ x < 256) → L.map u8 = M.map u8 → L = M
  | [], [], _, _, _ => rfl
  | [], _ :: _, _, _, h => by simp at h
  | _ :: _, [], _, _, h => by simp at h
  | a :: L, b :: M, hL, hM, h => by
    simp only [List.map_cons, List.cons.injEq] at h
    rw [u8_inj (hL a (by simp)) (hM b (by simp)) h.1, map_inj L M (fun x hx => hL x (by simp [hx])) (fun x hx => hM x (by simp [hx])) h.2]

theorem vr_bytes : ∀ (n : Nat), ∀ x ∈ vr n, 0 ≤ x ∧ x < 256 := by
  intro n
  induction n using Nat.strongRecOn with
  | ind n ih =>
    by_cases h : n < 128
    · rw [vr_small h]; simp; omega
    · rw [vr_big h]
      intro x hx
      simp only [List.mem_cons] at hx
      rcases hx with rfl | hx
      · omega
      · exact ih (n / 128) (by omega) x hx

theorem bs_bytes (s : ByteArray) : ∀ j m, ∀ x ∈ bs s j m, 0 ≤ x ∧ x < 256
  | _, 0, x, hx => by simp [bs] at hx
  | j, m + 1, x, hx => by
    simp only [bs, List.mem_cons] at hx
    rcases hx with rfl | hx
    · have := byteAt_lt s j; omega
    · exact bs_bytes s (j + 1) m x hx

theorem bs_take (s : ByteArray) : ∀ (m j : Nat), j + m ≤ s.size → (bs s j m).map u8 = (s.data.toList.drop j).take m
  | 0, j, _ => by simp [bs]
  | m + 1, j, h => by
    have hj : j < s.data.toList.length := by simp only [Array.length_toList]; show j < s.size; omega
    rw [List.drop_eq_getElem_cons hj, List.take_succ_cons, ← bs_take s m (j + 1) (by omega)]
    simp only [bs, List.map_cons, List.cons.injEq, and_true]
    rw [byteAt_in (by omega)]
    simp [u8]
    rfl

theorem cmp_var (s : ByteArray) (k n : Nat) (hk : k ≤ s.size) : ((strOfNums (vr n)).toList == (s.extract 0 k).toList) = true ↔ vr n = bs s 0 k := by
  rw [beq_iff_eq, Lib.toList_data, Lib.toList_data, strOfNums_data, Lib.extract_data]
  have e := bs_take s k 0 (by omega)
  rw [Nat.sub_zero, ← e]
  constructor
  · exact fun h => map_inj _ _ (vr_bytes n) (bs_bytes s 0 k) h
  · intro h; rw [h]; rfl

set_option maxRecDepth 20000 in
theorem spec_rv (s : ByteArray) (hs : s.size ≤ 1048576) (w : World) :
    Calls Try.prog 6 #[.string s] w fun e w' => (∃ n k : Nat, IsRv s n k ∧ e = .returned (.tuple #[.int .i64 n, .int .i64 k])) ∧ Below w.heap.size w w' := by
  go_enter Try.func6, Try.ntmps6
  go_wp2
  go_loopw [4] (fun i wr => ∃ k : Nat, 1 ≤ k ∧ k ≤ 8 ∧ i = .int .i64 k ∧ Hid (∀ j, 1 ≤ j → j < k → ¬ goodAt s j) ∧ Below w.heap.size w wr) (fun i _ => 9 - (intOf i).toNat)
  case atStart => exact ⟨1, by omega, by omega, rfl, fun j h1 h2 => by omega, Below.refl _ _⟩
  case round =>
    obtain ⟨k, h1, h8, rfl, hno, hbel⟩ := hrel
    by_cases hin : k ≤ 7 ∧ k ≤ s.size
    · obtain ⟨h7, hl⟩ := hin
      have h7' : (k : Int) ≤ 7 := by omega
      have hl' : (k : Int) ≤ s.size := by omega
      go_wp2
      go_loop [5, 6] (fun n i => ∃ j : Nat, j ≤ k ∧ i = .int .i64 ((j : Int) - 1) ∧ n = .int .i64 (val s j (k - j) : Nat)) (fun _ i => (intOf i + 1).toNat)
      case atStart => exact ⟨k, Nat.le_refl _, rfl, by simp [val]⟩
      case round =>
        obtain ⟨j, hj, rfl, rfl⟩ := hrel
        by_cases hj0 : j = 0
        · subst hj0
          have hv := val_lt49 s 0 k h7
          have hsl : k ≤ s.size := hl
          simp only [Nat.sub_zero]
          generalize hq : val s 0 k = q at *
          have HQ : Hid (val s 0 k = q) := hq
          clear hq
          go_wp2
          go_region_law (refine step_call rfl 12 #[.tmp 31] #[3] rfl #[.int .i64 (q : Int)] (by simp [Act.eval, Act.put]) Try.func12 name12 body12 _ (spec_var q hv _) ?_; rintro e w1 ⟨rfl, hb1⟩; refine ⟨_, rfl, ?_⟩)
          go_wp2
          · have hcmp : ((strOfNums (vr q)).toList == (s.extract 0 k).toList) = true := by assumption
            have hg : goodAt s k := by
              rw [cmp_var s k q hl, ← HQ.out, vr_iff s k h1] at hcmp
              exact hcmp
            go_ret2
            exact ⟨⟨q, k, Or.inr ⟨h1, h7, hl, hg, HQ.out.symm⟩, rfl⟩, hbel.drew.trans (hb1.mono hbel.size)⟩
          · have hcmp : ((strOfNums (vr q)).toList == (s.extract 0 k).toList) = false := by assumption
            have hg : ¬ goodAt s k := by
              intro hg
              rw [← vr_iff s k h1, HQ.out, ← cmp_var s k q hl, hcmp] at hg
              cases hg
            have hno2 : Hid (∀ j, 1 ≤ j → j < k + 1 → ¬ goodAt s j) := by
              intro j hj1 hj2
              by_cases hjk : j = k
              · rw [hjk]; exact hg
              · exact hno.out j hj1 (by omega)
            go_roundw
            case rel => exact ⟨k + 1, by omega, by omega, by go_num, hno2, hbel.drew.trans (hb1.mono hbel.size)⟩
            case measure => simp [intOf]; omega
        · have hj1 : 1 ≤ j := by omega
          have hlt : j - 1 < s.size := by omega
          obtain ⟨b, hb, hb2⟩ : ∃ b : Nat, s[j - 1].toNat = b ∧ b = byteAt s (j - 1) := ⟨_, rfl, (byteAt_in hlt).symm⟩
          have hbl : b < 256 := by rw [hb2]; exact byteAt_lt s _
          have hv := val_lt42 s j (k - j) (by omega)
          have E : Hid (val s (j - 1) (k - (j - 1)) = val s j (k - j) * 128 + b % 128) := by
            have := val_horner s j k hj1 hj
            rw [← hb2] at this
            exact this
          clear hb2
          generalize val s j (k - j) = q at *
          go_wp2
          go_round
          case rel =>
            refine ⟨j - 1, by omega, by go_num, ?_⟩
            rw [E.out]
            go_num
          case measure => simp [intOf]; omega
    · have hfin : Hid (IsRv s 0 0) := Or.inl ⟨rfl, rfl, fun j hj1 hj7 hjl => hno.out j hj1 (by omega)⟩
      by_cases h7 : (k : Int) ≤ 7
      · have hl : ¬ ((k : Int) ≤ s.size) := by omega
        go_wp2
        go_ret2
        exact ⟨⟨0, 0, hfin.out, rfl⟩, hbel⟩
      · go_wp2
        go_ret2
        exact ⟨⟨0, 0, hfin.out, rfl⟩, hbel⟩
end Go.Proofs.Ytpjaiehkhbkgiaj
