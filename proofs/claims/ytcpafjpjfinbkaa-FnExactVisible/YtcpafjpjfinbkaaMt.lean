/-
  The text that a mark is written as. Conditions: written at each theorem.
-/
import Derived.Test.YtcpafjpjfinbkaaBu
namespace Go.Proofs.Ytcpafjpjfinbkaa
open Go.ChangeShapes Go.WideShapes Go.ChangeAt Go.RowKit
set_option linter.unusedVariables false

def markL (k : Nat) : List UInt8 := 109 :: Lib.decDigits k
def markS (k : Nat) : ByteArray := ⟨(markL k).toArray⟩

theorem mark_join (L : List UInt8) : ByteArray.mk #[109] ++ ByteArray.mk L.toArray = ByteArray.mk (109 :: L).toArray := by
  rw [show (#[109] : Array UInt8) = [109].toArray from rfl, ByteArray.mk_append_mk]
  simp

set_option maxRecDepth 20000 in
theorem mark_text (N : Nat) (h0 : 0 < N) (hN : N < 9223372036854775808) (w : World) :
    Calls Try.prog 50 #[.int .i64 N] w fun e w' => e = .returned (.string (markS N)) ∧ Below w.heap.size w w' := by
  go_enter Try.func50, Try.ntmps50
  go_wp2
  go_loopw [0, 3] (fun n out wr => ∃ (q : Nat) (L : List UInt8), n = .int .i64 q ∧ q ≤ N ∧ out = .string ⟨L.toArray⟩ ∧ Hid (Left N q L) ∧ Below w.heap.size w wr) (fun n _ _ => (intOf n).toNat)
  case atStart => exact ⟨N, [], rfl, Nat.le_refl _, rfl, left_start N h0, Below.refl _ _⟩
  case round =>
    obtain ⟨q, L, rfl, hq, rfl, hleft, hbel⟩ := hrel
    have hlen := left_length hleft.out (by omega)
    by_cases hq0 : q = 0
    · subst hq0
      have E : Hid (L = Lib.decDigits N) := hleft.out.1 rfl
      have hs2 : (ByteArray.mk L.toArray).size ≤ 19 := by simpa [ByteArray.size] using hlen
      have hs3 : (ByteArray.mk #[109]).size = 1 := rfl
      have HF : Hid (ByteArray.mk #[109] ++ ByteArray.mk L.toArray = markS N) := by
        show ByteArray.mk #[109] ++ ByteArray.mk L.toArray = markS N
        rw [mark_join, E.out]
        rfl
      clear hleft
      go_wp2
      go_ret
      exact ⟨by rw [← HF.out]; rfl, hbel⟩
    · have hpos : 0 < q := by omega
      have hpos' : (0 : Int) < q := by omega
      have hc := conv1 wr
      have hs1 : ∀ x, (strOfNums [x]).size = 1 := fun x => strOfNums_size [x]
      have hs2 : (ByteArray.mk L.toArray).size ≤ 19 := by simpa [ByteArray.size] using hlen
      have E : Hid (Left N (q / 10) (UInt8.ofNat (48 + q % 10) :: L)) := left_step hleft.out hpos
      clear hleft
      go_wp2
      go_roundw
      case rel => exact ⟨q / 10, UInt8.ofNat (48 + q % 10) :: L, by go_num, by omega, by rw [lay_digit], E, hbel.alloc hbel.size _⟩
      case measure => simp [intOf]; omega

theorem mark_at (x : Int) (N : Nat) (hx : x = N) (h0 : 0 < N) (hN : N < 9223372036854775808) (w : World) :
    Calls Try.prog 50 #[.int .i64 x] w fun e w' => e = .returned (.string (markS N)) ∧ Below w.heap.size w w' := by
  subst hx
  exact mark_text N h0 hN w

theorem mt_name : (Try.f50.name == "runtime.NumGoroutine") = false := by kernel_rfl
theorem mt_body : Try.f50.body.isNone = false := by kernel_rfl

end Go.Proofs.Ytcpafjpjfinbkaa
