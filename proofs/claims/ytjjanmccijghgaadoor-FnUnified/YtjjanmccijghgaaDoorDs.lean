/-
  Dec, the specification's: the decimal text of every int. Conditions: written at each theorem.
-/
import Derived.Test.YtjjanmccijghgaaDoorDl
namespace Go.Proofs.YtjjanmccijghgaaDoor
open Go.ChangeShapes Go.WideShapes Go.ChangeAt Go.RowKit
set_option linter.unusedVariables false

theorem tmod_neg (q : Nat) : (-(q : Int)).tmod 10 = -((q : Int) % 10) := by
  rw [Int.neg_tmod, Int.tmod_eq_emod_of_nonneg (by omega)]

theorem tdiv_neg (q : Nat) : (-(q : Int)).tdiv 10 = -((q : Int) / 10) := by
  rw [Int.neg_tdiv, Int.tdiv_eq_ediv_of_nonneg (by omega)]

end Go.Proofs.YtjjanmccijghgaaDoor
