/-
  For every number: FnExactArity answers true, and its argument reads as before: Arity answers as the specification does. No condition.
-/
import Derived.Test.YtljbfbnflebnjaaLArity
import Derived.Test.YtljbfbnflebnjaaIa
namespace Go.Proofs.Ytljbfbnflebnjaa.fnExactArity
open Go.ChangeShapes Go.WideShapes Go.ChangeAt Go.RowKit
set_option linter.unusedVariables false

theorem asked : Asked := fun k _ _ w => (impl_arity k w).mono (fun e w' h => ⟨h.1, by rw [h.2]; exact Below.refl _ _⟩)

theorem proved : Rows.FnExactAritySaid :=
  over asked
#print axioms proved
end Go.Proofs.Ytljbfbnflebnjaa.fnExactArity

namespace Go.Proofs.Ytljbfbnflebnjaa
theorem fnExactArity_holds : Rows.FnExactAritySaid := fnExactArity.proved
#print axioms fnExactArity_holds
end Go.Proofs.Ytljbfbnflebnjaa
