/-
  For every list of nodes: FnExactClosed answers true, and its argument reads as before: Closed answers as the specification does and writes into no argument. No condition.
-/
import Derived.Test.YtcpafjpjfinbkaaLClosed
import Derived.Test.YtcpafjpjfinbkaaSf
namespace Go.Proofs.Ytcpafjpjfinbkaa.fnExactClosed
open Go.ChangeShapes Go.WideShapes Go.ChangeAt Go.RowKit
set_option linter.unusedVariables false

theorem asked : Asked := fun a g cap ts hne hl hst w hA => impl_closed a g cap ts hne hl hst w hA

theorem proved : Rows.FnExactClosedSaid :=
  over asked
#print axioms proved
end Go.Proofs.Ytcpafjpjfinbkaa.fnExactClosed

namespace Go.Proofs.Ytcpafjpjfinbkaa
theorem fnExactClosed_holds : Rows.FnExactClosedSaid := fnExactClosed.proved
#print axioms fnExactClosed_holds
end Go.Proofs.Ytcpafjpjfinbkaa
