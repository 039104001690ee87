/-
  What Hex makes. Conditions: written at each theorem.
-/
import Derived.Test.YtpjaiehkhbkgiajKit
namespace Go.Proofs.Ytpjaiehkhbkgiaj
open Go.ChangeShapes Go.WideShapes Go.ChangeAt Go.RowKit
set_option linter.unusedVariables false

def hexd (k : Nat) : Nat := if k < 10 then 48 + k else 87 + k

theorem hex_at : ∀ k : Nat, ∀ h : k < (ByteArray.mk #[48, 49, 50, 51, 52, 53, 54, 55, 56, 57, 97, 98, 99, 100, 101, 102]).size, ((ByteArray.mk #[48, 49, 50, 51, 52, 53, 54, 55, 56, 57, 97, 98, 99, 100, 101, 102])[k]'h).toNat = hexd k := by
  decide

theorem digit (k : Nat) (hk : k < 16) (w : World) :
    Calls Try.prog 13 #[.int .i64 k] w fun e w' => e = .returned (.int .u8 (hexd k : Nat)) ∧ w = w' := by
  have h := hex_at k hk
  go_enter Try.func13, Try.ntmps13
  go_wp2
  go_ret
  exact ⟨rfl, rfl⟩

theorem digit_of (x : Int) (k : Nat) (hx : x = k) (hk : k < 16) (w : World) :
    Calls Try.prog 13 #[.int .i64 x] w fun e w' => e = .returned (.int .u8 (hexd k : Nat)) ∧ w = w' := by
  subst hx; exact digit k hk w

theorem name13 : (Try.f13.name == "runtime.NumGoroutine") = false := by kernel_rfl
theorem body13 : Try.f13.body.isNone = false := by kernel_rfl

theorem wrapI (n : Int) (h : -9223372036854775808 ≤ n ∧ n ≤ 9223372036854775807) : IntKind.i64.wrap n = n := by rw [IntKind.wrap_i64]; omega

/-- The digits of the first k bytes. -/
def hx (s : ByteArray) : Nat → List Int
  | 0 => []
  | k + 1 => hx s k ++ [(hexd (byteAt s k / 16) : Int), (hexd (byteAt s k % 16) : Int)]

theorem hx_length (s : ByteArray) : ∀ k, (hx s k).length = 2 * k
  | 0 => rfl
  | k + 1 => by simp [hx, hx_length s k]; omega

theorem spec_hex (s : ByteArray) (hs : s.size ≤ 1048576) (w : World) :
    Calls Try.prog 8 #[.string s] w fun e w' => e = .returned (.string (strOfNums (hx s s.size))) ∧ Below w.heap.size w w' := by
  obtain ⟨i0, hi, hz0, hz1, hz2⟩ := info_parts Try.info5
  go_enter Try.func8, Try.ntmps8
  go_wp2
  go_loopw [3, 4] (fun out i wr => ∃ k : Nat, k ≤ s.size ∧ i = .int .i64 k ∧ ownB wr w.heap.size out (hx s k) ∧ Below w.heap.size w wr) (fun _ i _ => s.size - (intOf i).toNat)
  case atStart => exact ⟨0, by omega, rfl, World.ownsRow_lit _ #[] 0 (Nat.le_refl _) (by unfold maxLen; omega) rfl, (Below.refl _ _).alloc (Nat.le_refl _) _⟩
  case round =>
    obtain ⟨k, hk, rfl, hown, hbel⟩ := hrel
    have hl := hx_length s k
    by_cases hks : k = s.size
    · have hc := conv_own hown
      subst hks
      go_wp2
      go_ret
      exact ⟨rfl, hbel⟩
    · have hlt : k < s.size := by omega
      obtain ⟨b, hb, hb2⟩ : ∃ b : Nat, s[k].toNat = b ∧ b = byteAt s k := ⟨_, rfl, (byteAt_in hlt).symm⟩
      have hbl : b < 256 := by rw [hb2]; exact byteAt_lt s k
      have e2 : IntKind.i64.wrap (b : Int) = b := wrapI _ (by omega)
      have e3 : (b : Int).tdiv 16 = (b : Int) / 16 := Int.tdiv_eq_ediv_of_nonneg (by omega)
      have e4 : IntKind.i64.wrap ((b : Int) / 16) = (b : Int) / 16 := wrapI _ (by omega)
      have e5 : (b : Int).tmod 16 = (b : Int) % 16 := Int.tmod_eq_emod_of_nonneg (by omega)
      have e6 : IntKind.i64.wrap ((b : Int) % 16) = (b : Int) % 16 := wrapI _ (by omega)
      have HB : Hid (b = byteAt s k) := hb2
      clear hb2
      go_wp2
      go_region_law (first | (refine step_call rfl 13 #[.tmp 17] #[3] rfl #[.int .i64 ((b : Int) / 16)] (by simp [Act.eval, Act.put]) Try.func13 name13 body13 _ (digit_of ((b : Int) / 16) (b / 16) (by omega) (by omega) _) ?_; rintro e w' ⟨rfl, rfl⟩; refine ⟨_, rfl, ?_⟩) | (refine step_call rfl 13 #[.tmp 23] #[3] rfl #[.int .i64 ((b : Int) % 16)] (by simp [Act.eval, Act.put]) Try.func13 name13 body13 _ (digit_of ((b : Int) % 16) (b % 16) (by omega) (by omega) _) ?_; rintro e w' ⟨rfl, rfl⟩; refine ⟨_, rfl, ?_⟩) | (refine step_append_own rfl (.tmp 12) (.tmp 25) 29 rfl w.heap.size 5 i0 (.int .u8 0) 1 1 Try.underlying29 hi hz0 hz1 hz2 rfl (by decide) u3 _ _ (by simp [Act.eval]) (ownB_drew (hown.alloc _)) ⟨wr.heap.size, 0, none⟩ 2 2 [.int .u8 (hexd (b / 16) : Nat), .int .u8 (hexd (b % 16) : Nat)] (by simp [Act.eval]) rfl (two_new _ _ _ _) (by simp [Value.oneCell']) (by unfold maxLen; omega) (by omega) (hbel.alloc hbel.size _).size ?_; intro v' w1 hown' hgrow _))
      all_goals
        have hown2 : ownB w1 w.heap.size v' (hx s (k + 1)) := by
          simp only [hx, ← HB.out]
          simpa [ownB] using hown'
        have hb1 : Below w.heap.size w w1 := (hbel.alloc hbel.size _).drew.grown hgrow (by have := hbel.size; simp; omega) (fun k hk => (hown.lt k hk).1)
        clear hown' hgrow hown hbel HB
        go_wp2
        go_roundw
        case rel => exact ⟨k + 1, by omega, by go_num, hown2, hb1⟩
        case measure => simp [intOf]; omega
end Go.Proofs.Ytpjaiehkhbkgiaj
