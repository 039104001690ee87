/-
  For every list of nodes and every number: FnExactPart answers true, and its arguments read as before: Part answers as the specification does, writes into no argument, and its answer owns its memory, behind another call too. No condition.
-/
import Derived.Test.YtljbfbnflebnjaaLPart
import Derived.Test.YtljbfbnflebnjaaTp
namespace Go.Proofs.Ytljbfbnflebnjaa.fnExactPart
open Go.ChangeShapes Go.WideShapes Go.ChangeAt Go.RowKit
set_option linter.unusedVariables false

theorem asked : Asked := fun a g cap ts i h1 h2 hne hl _ _ hst w hA => impl_part a g cap ts i h1 h2 hne hl hst w hA

theorem proved : Rows.FnExactPartSaid :=
  over asked
#print axioms proved
end Go.Proofs.Ytljbfbnflebnjaa.fnExactPart

namespace Go.Proofs.Ytljbfbnflebnjaa
theorem fnExactPart_holds : Rows.FnExactPartSaid := fnExactPart.proved
#print axioms fnExactPart_holds
end Go.Proofs.Ytljbfbnflebnjaa
