/-
  For every table of types and every number: FnExactSizeOf answers true, and its arguments read as before: SizeOf answers as the specification does and writes into no argument. No condition.
-/
import Derived.Test.YtbhfpfoekalphaaLSizeOf
import Derived.Test.YtbhfpfoekalphaaHk
namespace Go.Proofs.Ytbhfpfoekalphaa.fnExactSizeOf
open Go.ChangeShapes Go.WideShapes Go.ChangeAt Go.RowKit
set_option linter.unusedVariables false

theorem asked : Asked := fun a g cap ts i h0 h1 hne hl w hA => impl_sizeOf a g cap ts i h0 h1 hne hl w hA

theorem proved : Rows.FnExactSizeOfSaid :=
  over asked
#print axioms proved
end Go.Proofs.Ytbhfpfoekalphaa.fnExactSizeOf

namespace Go.Proofs.Ytbhfpfoekalphaa
theorem fnExactSizeOf_holds : Rows.FnExactSizeOfSaid := fnExactSizeOf.proved
#print axioms fnExactSizeOf_holds
end Go.Proofs.Ytbhfpfoekalphaa
