/-
  The part of a node, plain. Conditions: written at each theorem.
-/
import Derived.Test.YtlfgnppacjdjkaaDoorTv
import Derived.Test.YtlfgnppacjdjkaaDoorNp
namespace Go.Proofs.YtlfgnppacjdjkaaDoor
open Go.ChangeShapes Go.WideShapes Go.ChangeAt Go.RowKit
set_option linter.unusedVariables false

/-- The nodes of the part of node j, behind so many nodes. -/
def partAt (ts : List Nod) (st : List Int) (j n : Nat) : List Nod := ((ts.take (j + 1)).drop (st.getD j 0).toNat).map (shiftN ((n : Int) - st.getD j 0))

theorem partAt_length (ts : List Nod) (st : List Int) (j n : Nat) (hj : j < ts.length) (h : 0 ≤ st.getD j 0 ∧ st.getD j 0 ≤ j) : (partAt ts st j n).length = j + 1 - (st.getD j 0).toNat := by
  unfold partAt
  rw [List.length_map, cut_length _ _ _ (by omega) (by omega)]

end Go.Proofs.YtlfgnppacjdjkaaDoor
