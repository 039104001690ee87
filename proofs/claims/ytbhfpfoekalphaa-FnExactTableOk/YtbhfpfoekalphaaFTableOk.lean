/-
  For every table of types: FnExactTableOk answers true, and its argument reads as before: TableOk answers as the specification does and writes into no argument. No condition.
-/
import Derived.Test.YtbhfpfoekalphaaLTableOk
import Derived.Test.YtbhfpfoekalphaaHg
namespace Go.Proofs.Ytbhfpfoekalphaa.fnExactTableOk
open Go.ChangeShapes Go.WideShapes Go.ChangeAt Go.RowKit
set_option linter.unusedVariables false

theorem asked : Asked := fun a g cap ts hne hl w hA => impl_table a g cap ts hne hl w hA

theorem proved : Rows.FnExactTableOkSaid :=
  over asked
#print axioms proved
end Go.Proofs.Ytbhfpfoekalphaa.fnExactTableOk

namespace Go.Proofs.Ytbhfpfoekalphaa
theorem fnExactTableOk_holds : Rows.FnExactTableOkSaid := fnExactTableOk.proved
#print axioms fnExactTableOk_holds
end Go.Proofs.Ytbhfpfoekalphaa
