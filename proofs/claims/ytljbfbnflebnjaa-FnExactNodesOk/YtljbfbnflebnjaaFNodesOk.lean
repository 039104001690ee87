/-
  For every list of nodes: FnExactNodesOk answers true, and its argument reads as before: NodesOk answers as the specification does and writes into no argument. No condition.
-/
import Derived.Test.YtljbfbnflebnjaaLNodesOk
import Derived.Test.YtljbfbnflebnjaaTe
namespace Go.Proofs.Ytljbfbnflebnjaa.fnExactNodesOk
open Go.ChangeShapes Go.WideShapes Go.ChangeAt Go.RowKit
set_option linter.unusedVariables false

theorem asked : Asked := fun a g cap ts hne hl hst w hA => impl_nodes a g cap ts hne hl hst w hA

theorem proved : Rows.FnExactNodesOkSaid :=
  over asked
#print axioms proved
end Go.Proofs.Ytljbfbnflebnjaa.fnExactNodesOk

namespace Go.Proofs.Ytljbfbnflebnjaa
theorem fnExactNodesOk_holds : Rows.FnExactNodesOkSaid := fnExactNodesOk.proved
#print axioms fnExactNodesOk_holds
end Go.Proofs.Ytljbfbnflebnjaa
