/-
  For every list of nodes and every number: FnExactStartOf answers true, and its arguments read as before: StartOf answers as the specification does and writes into no argument. No condition.
-/
import Derived.Test.YtljbfbnflebnjaaLStartOf
import Derived.Test.YtljbfbnflebnjaaTe
namespace Go.Proofs.Ytljbfbnflebnjaa.fnExactStartOf
open Go.ChangeShapes Go.WideShapes Go.ChangeAt Go.RowKit
set_option linter.unusedVariables false

theorem asked : Asked := fun a g cap ts i h1 h2 hne hl hst w hA => impl_start a g cap ts i h1 h2 hne hl hst w hA

theorem proved : Rows.FnExactStartOfSaid :=
  over asked
#print axioms proved
end Go.Proofs.Ytljbfbnflebnjaa.fnExactStartOf

namespace Go.Proofs.Ytljbfbnflebnjaa
theorem fnExactStartOf_holds : Rows.FnExactStartOfSaid := fnExactStartOf.proved
#print axioms fnExactStartOf_holds
end Go.Proofs.Ytljbfbnflebnjaa
