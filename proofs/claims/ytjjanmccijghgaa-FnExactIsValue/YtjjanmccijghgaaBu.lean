/-
  What has turned nothing but one block. Conditions: written at each theorem.
-/
import Derived.Test.YtjjanmccijghgaaDl
namespace Go.Proofs.Ytjjanmccijghgaa
open Go.ChangeShapes Go.WideShapes Go.ChangeAt Go.RowKit
set_option linter.unusedVariables false

/-- All memory but one block is as it was. -/
def But (g : Nat) (w w' : World) : Prop := w.heap.size ≤ w'.heap.size ∧ ∀ h, h < w.heap.size → h ≠ g → w'.heap[h]? = w.heap[h]?

theorem But.refl (g : Nat) (w : World) : But g w w := ⟨Nat.le_refl _, fun _ _ _ => rfl⟩

theorem But.setCell {g : Nat} {w w' : World} (h : But g w w') (o : Nat) (v : Value) : But g w (w'.setCell ⟨g, o, none⟩ v) :=
  ⟨by have := h.1; simpa using this, fun k hk hn => (heap_setCell_other w' ⟨g, o, none⟩ k v hn).trans (h.2 k hk hn)⟩

theorem But.call {g : Nat} {w w' w2 : World} (h : But g w w') (b : Below w'.heap.size w' w2) : But g w w2 :=
  ⟨Nat.le_trans h.1 b.size, fun k hk hn => (b.block k (Nat.lt_of_lt_of_le hk h.1)).trans (h.2 k hk hn)⟩
end Go.Proofs.Ytjjanmccijghgaa
