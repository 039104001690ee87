/-
  For every two lists of nodes: FnExactSameNodes answers true, and its arguments read as before: SameNodes answers as the specification does and writes into no argument. No condition.
-/
import Derived.Test.YtljbfbnflebnjabLSameNodes
import Derived.Test.YtljbfbnflebnjabIg
namespace Go.Proofs.Ytljbfbnflebnjab.fnExactSameNodes
open Go.ChangeShapes Go.WideShapes Go.ChangeAt Go.RowKit
set_option linter.unusedVariables false

theorem asked : Asked := fun a b g h ca cb ts us h1 h2 h3 h4 w h5 h6 => impl_same a b g h ca cb ts us h1 h2 h3 h4 w h5 h6

theorem proved : Rows.FnExactSameNodesSaid :=
  over asked
#print axioms proved
end Go.Proofs.Ytljbfbnflebnjab.fnExactSameNodes

namespace Go.Proofs.Ytljbfbnflebnjab
theorem fnExactSameNodes_holds : Rows.FnExactSameNodesSaid := fnExactSameNodes.proved
#print axioms fnExactSameNodes_holds
end Go.Proofs.Ytljbfbnflebnjab
