/-
  For every list of nodes and every number: FnExactBinderOf answers true, and its arguments read as before: BinderOf answers as the specification does and writes into no argument. No condition.
-/
import Derived.Test.YtcpafjpjfinbkaaLBinderOf
import Derived.Test.YtcpafjpjfinbkaaSx
namespace Go.Proofs.Ytcpafjpjfinbkaa.fnExactBinderOf
open Go.ChangeShapes Go.WideShapes Go.ChangeAt Go.RowKit
set_option linter.unusedVariables false

theorem asked : Asked := fun a g cap ts i h1 h2 hne hl hst w hA => impl_binder a g cap ts i hne hl hst w hA

theorem proved : Rows.FnExactBinderOfSaid :=
  over asked
#print axioms proved
end Go.Proofs.Ytcpafjpjfinbkaa.fnExactBinderOf

namespace Go.Proofs.Ytcpafjpjfinbkaa
theorem fnExactBinderOf_holds : Rows.FnExactBinderOfSaid := fnExactBinderOf.proved
#print axioms fnExactBinderOf_holds
end Go.Proofs.Ytcpafjpjfinbkaa
