/-
  Hex as it landed. Conditions: written at each theorem.
-/
import Derived.Test.YtpjaiehkhbkgiajHx
namespace Go.Proofs.Ytpjaiehkhbkgiaj
open Go.ChangeShapes Go.WideShapes Go.ChangeAt Go.RowKit
set_option linter.unusedVariables false

theorem name14 : (Try.f14.name == "runtime.NumGoroutine") = false := by kernel_rfl
theorem body14 : Try.f14.body.isNone = false := by kernel_rfl

theorem impl_hex (s : ByteArray) (hs : s.size ≤ 1048576) (w : World) :
    Calls Try.prog 9 #[.string s] w fun e w' => e = .returned (.string (strOfNums (hx s s.size))) ∧ Below w.heap.size w w' := by
  obtain ⟨i0, hi, hz0, hz1, hz2⟩ := info_parts Try.info5
  have hmk := run_make (P := Try.prog) w 29 5 i0 (.int .u8 0) Try.underlying29 hi hz0 .i64 .i64 (2 * (s.size : Int)) (2 * (s.size : Int)) (by omega) (by omega) (by rw [hz2]; omega) (by omega)
  rw [hz1] at hmk
  have ez : (2 * (s.size : Int)).toNat = 2 * s.size := by omega
  rw [ez, rm_made] at hmk
  clear hi hz0 hz1 hz2 ez
  go_enter Try.func9, Try.ntmps9
  go_wp2
  go_loopw [4, 5] (fun a i wr => ∃ k : Nat, k ≤ s.size ∧ i = .int .i64 k ∧ a = .int .i64 (2 * k : Nat) ∧ Hid (wr.heap[w.heap.size]? = some (.cells (rm (hx s k) (2 * (s.size - k))).toArray 5 (0, 0))) ∧ Below w.heap.size w wr) (fun _ i _ => s.size - (intOf i).toNat)
  case atStart =>
    refine ⟨0, by omega, rfl, rfl, ?_, (Below.refl _ _).alloc (Nat.le_refl _) _⟩
    exact (MapKept.heap_alloc w _).1
  case round =>
    obtain ⟨k, hk, rfl, rfl, hroom, hbel⟩ := hrel
    clear hmk
    have hl := hx_length s k
    by_cases hks : k = s.size
    · have hc := rm_conv (hx s k) (2 * (s.size - k)) (2 * s.size) wr w.heap.size hroom.out
      subst hks
      rw [hl] at hc
      clear hl
      go_wp2
      go_ret
      exact ⟨rfl, hbel⟩
    · have hlt : k < s.size := by omega
      obtain ⟨b, hb, hb2⟩ : ∃ b : Nat, s[k].toNat = b ∧ b = byteAt s k := ⟨_, rfl, (byteAt_in hlt).symm⟩
      have hbl : b < 256 := by rw [hb2]; exact byteAt_lt s k
      have HB : Hid (b = byteAt s k) := hb2
      have HL : Hid ((hx s k).length = 2 * k) := hl
      clear hb2 hl
      have e1 : bits .and .u8 (b : Int) 15 = (b : Int) % 16 := by
        rw [u8_and _ _ (by omega) (by omega) (by omega) (by omega)]
        simp [nat_mask4]
      have p1 : 0 ≤ (b : Int) / 16 := by omega
      have p2 : (b : Int) / 16 < 16 := by omega
      have p3 : 0 ≤ (b : Int) % 16 := by omega
      have p4 : (b : Int) % 16 < 16 := by omega
      have p5 : ((b : Int) / 16).toNat = b / 16 := by omega
      have p6 : ((b : Int) % 16).toNat = b % 16 := by omega
      have d1 := hex_at (b / 16) (by show b / 16 < 16; omega)
      have d2 := hex_at (b % 16) (by show b % 16 < 16; omega)
      have hroom2 : Hid (wr.heap[w.heap.size]? = some (.cells (rm (hx s k) (2 * (s.size - (k + 1)) + 2)).toArray 5 (0, 0))) := by
        rw [show 2 * (s.size - (k + 1)) + 2 = 2 * (s.size - k) by omega]; exact hroom
      clear hroom
      go_wp2
      go_region_law (refine step_call rfl 14 #[.tmp 16, .tmp 17, .tmp 28] #[29, 3, 29] rfl #[.slice (some ⟨w.heap.size, 0, none⟩) (2 * s.size) (2 * s.size), .int .i64 (2 * (k : Int)), .slice (some ⟨wr.heap.size, 0, none⟩) 2 2] (by simp [Act.eval]) Try.func14 name14 body14 _ (put_two w.heap.size (2 * s.size) (2 * s.size) w.heap.size (hx s k) (2 * (s.size - (k + 1))) (hexd (b / 16) : Nat) (hexd (b % 16) : Nat) wr w hroom2.out (by rw [HL.out]; omega) (by rw [HL.out]; omega) (Nat.le_refl _) (by unfold maxLen; omega) hbel (Nat.le_refl _) (2 * (k : Int)) (by rw [HL.out]; omega)) ?_; rintro e w1 ⟨rfl, hr1, hb1⟩; refine ⟨_, rfl, ?_⟩)
      all_goals
        have hr2 : Hid (w1.heap[w.heap.size]? = some (.cells (rm (hx s (k + 1)) (2 * (s.size - (k + 1)))).toArray 5 (0, 0))) := by
          simp only [hx, ← HB.out]
          exact hr1
        clear hr1 hroom2 hbel HB HL
        go_wp2
        go_roundw
        case rel => exact ⟨k + 1, by omega, by go_num, by go_num, hr2, hb1⟩
        case measure => simp [intOf]; omega
end Go.Proofs.Ytpjaiehkhbkgiaj
