/-
  For every list of nodes and every number: FnExactVisible answers true, and its arguments read as before: Visible answers as the specification does, writes into no argument, and its answer owns its memory, behind another call too. No condition.
-/
import Derived.Test.YtcpafjpjfinbkaaLVisible
import Derived.Test.YtcpafjpjfinbkaaSk
namespace Go.Proofs.Ytcpafjpjfinbkaa.fnExactVisible
open Go.ChangeShapes Go.WideShapes Go.ChangeAt Go.RowKit
set_option linter.unusedVariables false

theorem asked : Asked := fun a g cap ts i _ _ hne hl _ _ hst w hA => impl_visible a g cap ts i hne hl hst w hA

theorem proved : Rows.FnExactVisibleSaid :=
  over asked
#print axioms proved
end Go.Proofs.Ytcpafjpjfinbkaa.fnExactVisible

namespace Go.Proofs.Ytcpafjpjfinbkaa
theorem fnExactVisible_holds : Rows.FnExactVisibleSaid := fnExactVisible.proved
#print axioms fnExactVisible_holds
end Go.Proofs.Ytcpafjpjfinbkaa
