/-
  The text that a mark is written as. Conditions: written at each theorem.
-/
import Derived.Test.YtncoooimgeoihaaDoorDl
namespace Go.Proofs.YtncoooimgeoihaaDoor
open Go.ChangeShapes Go.WideShapes Go.ChangeAt Go.RowKit
set_option linter.unusedVariables false

def markL (k : Nat) : List UInt8 := 109 :: Lib.decDigits k
def markS (k : Nat) : ByteArray := ⟨(markL k).toArray⟩

theorem mark_join (L : List UInt8) : ByteArray.mk #[109] ++ ByteArray.mk L.toArray = ByteArray.mk (109 :: L).toArray := by
  rw [show (#[109] : Array UInt8) = [109].toArray from rfl, ByteArray.mk_append_mk]
  simp

set_option maxRecDepth 20000 in
theorem mark_text (N : Nat) (h0 : 0 < N) (hN : N < 9223372036854775808) (w : World) :
    Calls Tryd.prog 27 #[.int .i64 N] w fun e w' => e = .returned (.string (markS N)) ∧ Below w.heap.size w w' := by
  go_enter Tryd.func27, Tryd.ntmps27
  go_wp2
  go_loopw [0, 3] (fun n out wr => ∃ (q : Nat) (L : List UInt8), n = .int .i64 q ∧ q ≤ N ∧ out = .string ⟨L.toArray⟩ ∧ Hid (Left N q L) ∧ Below w.heap.size w wr) (fun n _ _ => (intOf n).toNat)
  case atStart => exact ⟨N, [], rfl, Nat.le_refl _, rfl, left_start N h0, Below.refl _ _⟩
  case round =>
    obtain ⟨q, L, rfl, hq, rfl, hleft, hbel⟩ := hrel
    have hlen := left_length hleft.out (by omega)
    by_cases hq0 : q = 0
    · subst hq0
      have E : Hid (L = Lib.decDigits N) := hleft.out.1 rfl
      have hs2 : (ByteArray.mk L.toArray).size ≤ 19 := by simpa [ByteArray.size] using hlen
      have hs3 : (ByteArray.mk #[109]).size = 1 := rfl
      have HF : Hid (ByteArray.mk #[109] ++ ByteArray.mk L.toArray = markS N) := by
        show ByteArray.mk #[109] ++ ByteArray.mk L.toArray = markS N
        rw [mark_join, E.out]
        rfl
      clear hleft
      go_wp2
      go_ret
      exact ⟨by rw [← HF.out]; rfl, hbel⟩
    · have hpos : 0 < q := by omega
      have hpos' : (0 : Int) < q := by omega
      have hc := conv1 wr
      have hs1 : ∀ x, (strOfNums [x]).size = 1 := fun x => strOfNums_size [x]
      have hs2 : (ByteArray.mk L.toArray).size ≤ 19 := by simpa [ByteArray.size] using hlen
      have E : Hid (Left N (q / 10) (UInt8.ofNat (48 + q % 10) :: L)) := left_step hleft.out hpos
      clear hleft
      go_wp2
      go_roundw
      case rel => exact ⟨q / 10, UInt8.ofNat (48 + q % 10) :: L, by go_num, by omega, by rw [lay_digit], E, hbel.alloc hbel.size _⟩
      case measure => simp [intOf]; omega

theorem mark_at (x : Int) (N : Nat) (hx : x = N) (h0 : 0 < N) (hN : N < 9223372036854775808) (w : World) :
    Calls Tryd.prog 27 #[.int .i64 x] w fun e w' => e = .returned (.string (markS N)) ∧ Below w.heap.size w w' := by
  subst hx
  exact mark_text N h0 hN w

theorem mt_name : (Tryd.f27.name == "runtime.NumGoroutine") = false := by kernel_rfl
theorem mt_body : Tryd.f27.body.isNone = false := by kernel_rfl
/-- All memory but one block is as it was. -/
def But (g : Nat) (w w' : World) : Prop := w.heap.size ≤ w'.heap.size ∧ ∀ h, h < w.heap.size → h ≠ g → w'.heap[h]? = w.heap[h]?

theorem But.refl (g : Nat) (w : World) : But g w w := ⟨Nat.le_refl _, fun _ _ _ => rfl⟩

theorem But.setCell {g : Nat} {w w' : World} (h : But g w w') (o : Nat) (v : Value) : But g w (w'.setCell ⟨g, o, none⟩ v) :=
  ⟨by have := h.1; simpa using this, fun k hk hn => (heap_setCell_other w' ⟨g, o, none⟩ k v hn).trans (h.2 k hk hn)⟩

theorem But.call {g : Nat} {w w' w2 : World} (h : But g w w') (b : Below w'.heap.size w' w2) : But g w w2 :=
  ⟨Nat.le_trans h.1 b.size, fun k hk hn => (b.block k (Nat.lt_of_lt_of_le hk h.1)).trans (h.2 k hk hn)⟩
end Go.Proofs.YtncoooimgeoihaaDoor
