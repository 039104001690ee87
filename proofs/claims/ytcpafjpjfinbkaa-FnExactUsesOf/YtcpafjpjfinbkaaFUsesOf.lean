/-
  For every list of nodes and every binder: FnExactUsesOf answers true, and its arguments read as before: UsesOf answers as the specification does and writes into no argument, and its answer owns its memory, behind another call too. No condition.
-/
import Derived.Test.YtcpafjpjfinbkaaLUsesOf
import Derived.Test.YtcpafjpjfinbkaaSz
namespace Go.Proofs.Ytcpafjpjfinbkaa.fnExactUsesOf
open Go.ChangeShapes Go.WideShapes Go.ChangeAt Go.RowKit
set_option linter.unusedVariables false

theorem asked : Asked := fun a g cap ts n r hne hl hst w hA => impl_uses a g cap ts n r hne hl hst w hA

theorem proved : Rows.FnExactUsesOfSaid :=
  over asked
#print axioms proved
end Go.Proofs.Ytcpafjpjfinbkaa.fnExactUsesOf

namespace Go.Proofs.Ytcpafjpjfinbkaa
theorem fnExactUsesOf_holds : Rows.FnExactUsesOfSaid := fnExactUsesOf.proved
#print axioms fnExactUsesOf_holds
end Go.Proofs.Ytcpafjpjfinbkaa
