/-
  For every node: FnExactKids answers true, and its argument reads as before: Kids answers as the specification does, and its answer owns its memory, behind another call too. No condition.
-/
import Derived.Test.YtljbfbnflebnjaaLKids
import Derived.Test.YtljbfbnflebnjaaIb
namespace Go.Proofs.Ytljbfbnflebnjaa.fnExactKids
open Go.ChangeShapes Go.WideShapes Go.ChangeAt Go.RowKit
set_option linter.unusedVariables false

theorem asked : Asked := fun k a b c n s o w => by
  refine (impl_kids k a b c n s o w).mono ?_
  rintro e w' ⟨rfl, hg, hb⟩
  have har := arN_le k
  have hl : ([a, b, c].take (arN k)).length = arN k := by simp; omega
  refine ⟨_, rfl, ⟨47, some ⟨w.heap.size + 3, 0, none⟩, w.heap.size + 3, 3, ([a, b, c].drop (arN k)).map (Value.int .i64), by rw [hl], fun _ => rfl, by omega, fun _ => ?_⟩, hb⟩
  rw [hg]
  unfold intRow
  rw [← List.map_append, List.take_append_drop]
  rfl

theorem proved : Rows.FnExactKidsSaid :=
  over asked
#print axioms proved
end Go.Proofs.Ytljbfbnflebnjaa.fnExactKids

namespace Go.Proofs.Ytljbfbnflebnjaa
theorem fnExactKids_holds : Rows.FnExactKidsSaid := fnExactKids.proved
#print axioms fnExactKids_holds
end Go.Proofs.Ytljbfbnflebnjaa
