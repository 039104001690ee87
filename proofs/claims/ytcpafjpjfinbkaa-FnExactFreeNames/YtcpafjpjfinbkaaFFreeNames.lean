/-
  For every list of nodes: FnExactFreeNames answers true, and its argument reads as before: FreeNames answers as the specification does, writes into no argument, and its answer owns its memory, behind another call too. No condition.
-/
import Derived.Test.YtcpafjpjfinbkaaLFreeNames
import Derived.Test.YtcpafjpjfinbkaaSf
namespace Go.Proofs.Ytcpafjpjfinbkaa.fnExactFreeNames
open Go.ChangeShapes Go.WideShapes Go.ChangeAt Go.RowKit
set_option linter.unusedVariables false

theorem asked : Asked := fun a g cap ts hne hl _ _ hst w hA => impl_free a g cap ts hne hl hst w hA

theorem proved : Rows.FnExactFreeNamesSaid :=
  over asked
#print axioms proved
end Go.Proofs.Ytcpafjpjfinbkaa.fnExactFreeNames

namespace Go.Proofs.Ytcpafjpjfinbkaa
theorem fnExactFreeNames_holds : Rows.FnExactFreeNamesSaid := fnExactFreeNames.proved
#print axioms fnExactFreeNames_holds
end Go.Proofs.Ytcpafjpjfinbkaa
