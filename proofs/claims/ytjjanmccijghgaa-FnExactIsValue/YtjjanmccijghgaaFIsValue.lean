/-
  For every list of nodes and every number: FnExactIsValue answers true, and its arguments read as before: IsValue answers as the specification does and writes into no argument. No condition.
-/
import Derived.Test.YtjjanmccijghgaaLIsValue
import Derived.Test.YtjjanmccijghgaaVi
namespace Go.Proofs.Ytjjanmccijghgaa.fnExactIsValue
open Go.ChangeShapes Go.WideShapes Go.ChangeAt Go.RowKit
set_option linter.unusedVariables false

theorem asked : Asked := fun a g cap ts i h1 h2 hne hl hst w hA => impl_valB a g cap ts i hne hl hst w hA

theorem proved : Rows.FnExactIsValueSaid :=
  over asked
#print axioms proved
end Go.Proofs.Ytjjanmccijghgaa.fnExactIsValue

namespace Go.Proofs.Ytjjanmccijghgaa
theorem fnExactIsValue_holds : Rows.FnExactIsValueSaid := fnExactIsValue.proved
#print axioms fnExactIsValue_holds
end Go.Proofs.Ytjjanmccijghgaa
