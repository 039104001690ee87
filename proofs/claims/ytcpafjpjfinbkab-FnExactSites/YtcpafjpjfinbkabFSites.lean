/-
  For every list of nodes: FnExactSites answers true, and its argument reads as before: Sites answers as the specification does, writes into no argument, and its answer owns its memory, behind another call too. No condition.
-/
import Derived.Test.YtcpafjpjfinbkabLSites
import Derived.Test.YtcpafjpjfinbkabSi
namespace Go.Proofs.Ytcpafjpjfinbkab.fnExactSites
open Go.ChangeShapes Go.WideShapes Go.ChangeAt Go.RowKit
set_option linter.unusedVariables false

theorem asked : Asked := fun a g cap ts hne hl _ _ hst w hA => impl_sites a g cap ts hne hl hst w hA

theorem proved : Rows.FnExactSitesSaid :=
  over asked
#print axioms proved
end Go.Proofs.Ytcpafjpjfinbkab.fnExactSites

namespace Go.Proofs.Ytcpafjpjfinbkab
theorem fnExactSites_holds : Rows.FnExactSitesSaid := fnExactSites.proved
#print axioms fnExactSites_holds
end Go.Proofs.Ytcpafjpjfinbkab
