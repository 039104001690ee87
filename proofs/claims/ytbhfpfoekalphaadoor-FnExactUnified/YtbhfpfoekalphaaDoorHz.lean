/-
  How much a table holds that is handed in. Conditions: written at each theorem.
-/
import Derived.Test.YtbhfpfoekalphaaDoorYa
namespace Go.Proofs.YtbhfpfoekalphaaDoor
open Go.ChangeShapes Go.WideShapes Go.ChangeAt Go.RowKit
set_option linter.unusedVariables false

theorem typ_sz_row (a : Option Addr) (cap n : Nat) (L0 : Int) (h0 : 0 ≤ L0) (h1 : L0 ≤ 1048576) (hm : n ≤ maxLen) (w : World) :
    Calls Tryd.prog 15 #[.slice a n cap, .int .i64 L0] w fun e w' => (∃ r : Int, e = .returned (.int .i64 r) ∧ (0 ≤ r → r = L0 - n)) ∧ Below w.heap.size w w' := by
  unfold maxLen at hm
  by_cases h : L0 - n < 0
  · go_enter Tryd.func15, Tryd.ntmps15
    go_wp2
    go_ret
    exact ⟨⟨_, rfl, fun h => by omega⟩, Below.refl _ _⟩
  · go_enter Tryd.func15, Tryd.ntmps15
    go_wp2
    go_ret
    exact ⟨⟨_, rfl, fun _ => rfl⟩, Below.refl _ _⟩
end Go.Proofs.YtbhfpfoekalphaaDoor
