/-
  For every list of nodes and every number: FnExactParentOf answers true, and its arguments read as before: ParentOf answers as the specification does and writes into no argument. No condition.
-/
import Derived.Test.YtcpafjpjfinbkaaLParentOf
import Derived.Test.YtcpafjpjfinbkaaIp
namespace Go.Proofs.Ytcpafjpjfinbkaa.fnExactParentOf
open Go.ChangeShapes Go.WideShapes Go.ChangeAt Go.RowKit
set_option linter.unusedVariables false

theorem asked : Asked := fun a g cap ts i h1 h2 hne hl hst w hA => impl_parent a g cap ts i hne hl hst w hA

theorem proved : Rows.FnExactParentOfSaid :=
  over asked
#print axioms proved
end Go.Proofs.Ytcpafjpjfinbkaa.fnExactParentOf

namespace Go.Proofs.Ytcpafjpjfinbkaa
theorem fnExactParentOf_holds : Rows.FnExactParentOfSaid := fnExactParentOf.proved
#print axioms fnExactParentOf_holds
end Go.Proofs.Ytcpafjpjfinbkaa
