/-
  For every text: FnExactIsKey answers true, and its argument reads as before: IsKey answers as the specification does. No condition.
-/
import Derived.Test.YtljbfbnflebnjaaLIsKey
import Derived.Test.YtljbfbnflebnjaaIa
namespace Go.Proofs.Ytljbfbnflebnjaa.fnExactIsKey
open Go.ChangeShapes Go.WideShapes Go.ChangeAt Go.RowKit
set_option linter.unusedVariables false

theorem asked : Asked := fun s _ w => (impl_key s w).mono (fun e w' h => ⟨h.1, by rw [h.2]; exact Below.refl _ _⟩)

theorem proved : Rows.FnExactIsKeySaid :=
  over asked
#print axioms proved
end Go.Proofs.Ytljbfbnflebnjaa.fnExactIsKey

namespace Go.Proofs.Ytljbfbnflebnjaa
theorem fnExactIsKey_holds : Rows.FnExactIsKeySaid := fnExactIsKey.proved
#print axioms fnExactIsKey_holds
end Go.Proofs.Ytljbfbnflebnjaa
