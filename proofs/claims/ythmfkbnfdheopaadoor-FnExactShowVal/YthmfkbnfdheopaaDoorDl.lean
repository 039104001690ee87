/-
  A decimal text that is laid digit by digit. Conditions: written at each theorem.
-/
import Derived.Test.YthmfkbnfdheopaaDoorDm
import Derived.ProofKit
import Derived.OpenShut
import Derived.ShutString
import Derived.WalkSpells
namespace Go.Proofs.YthmfkbnfdheopaaDoor
open Go.ChangeShapes Go.WideShapes Go.ChangeAt Go.RowKit
set_option linter.unusedVariables false

theorem conv1 (w : World) (x : Int) : (convert 22 9 (.slice (some ⟨w.heap.size, 0, none⟩) 1 1)).run Tryd.prog (w.alloc (.cells #[.int .u8 x] 5)) =
    .ok (.string (strOfNums [x])) (w.alloc (.cells #[.int .u8 x] 5)) :=
  run_convert_bytes_arg _ 22 5 Tryd.underlying22 Tryd.underlying5 w.heap.size 0 1 1 [x] rfl (fun i hi => by
    obtain rfl : i = 0 := by omega
    rw [World.cell?_alloc_at _ _ _ _ rfl]
    rfl) 9 Tryd.underlying9

/-- q is still to be written ahead of L. -/
def Left (N q : Nat) (L : List UInt8) : Prop := (q = 0 → L = Lib.decDigits N) ∧ (0 < q → Lib.decDigits q ++ L = Lib.decDigits N)

theorem left_start (N : Nat) (h : 0 < N) : Left N N [] := ⟨fun h0 => by omega, fun _ => by simp⟩

theorem left_step {N q : Nat} {L : List UInt8} (h : Left N q L) (hq : 0 < q) : Left N (q / 10) (UInt8.ofNat (48 + q % 10) :: L) := by
  have h2 := h.2 hq
  by_cases hs : q < 10
  · rw [dd_small hs] at h2
    refine ⟨fun _ => ?_, fun h0 => by omega⟩
    rw [← h2, show q % 10 = q by omega]
    rfl
  · rw [dd_big hs, List.append_assoc] at h2
    exact ⟨fun h0 => by omega, fun _ => h2⟩

theorem left_length {N q : Nat} {L : List UInt8} (h : Left N q L) (hN : N < 10000000000000000000) : L.length ≤ 19 := by
  have hl := dd_length 18 N (by omega)
  by_cases hq : q = 0
  · rw [h.1 hq]; exact hl
  · rw [← h.2 (by omega)] at hl
    simp at hl
    omega

theorem lay_digit (q : Nat) (L : List UInt8) : strOfNums [(48 : Int) + (q : Int) % 10] ++ ByteArray.mk L.toArray = ByteArray.mk (UInt8.ofNat (48 + q % 10) :: L).toArray := by
  show ByteArray.mk ([((48 : Int) + (q : Int) % 10)].map fun n => UInt8.ofNat n.toNat).toArray ++ ByteArray.mk L.toArray = _
  rw [ByteArray.mk_append_mk]
  have e : ((48 : Int) + (q : Int) % 10).toNat = 48 + q % 10 := by omega
  simp [e]

end Go.Proofs.YthmfkbnfdheopaaDoor
