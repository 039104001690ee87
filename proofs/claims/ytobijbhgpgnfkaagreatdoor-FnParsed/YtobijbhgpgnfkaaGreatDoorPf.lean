/-
  Forms by their key, the specification's. Conditions: written at each theorem.
-/
import Derived.Test.YtobijbhgpgnfkaaGreatDoorPm
import Derived.Test.YtobijbhgpgnfkaaGreatDoorSt
namespace Go.Proofs.YtobijbhgpgnfkaaGreatDoor
open Go.ChangeShapes Go.WideShapes Go.ChangeAt Go.RowKit
set_option linter.unusedVariables false

set_option maxHeartbeats 2000000 in
theorem spec_form (key : ByteArray) (w : World) :
    Calls Tryz.prog 55 #[.string key] w fun e w' => e = .returned (.tuple #[.int .i64 (formE key).1, .int .i64 (formE key).2.1, .string (formE key).2.2]) ∧ w' = w := by
  go_enter Tryz.func55, Tryz.ntmps55
  go_wp2
  all_goals
    refine bodyPost_ret (results_tmp3 rfl _ _ _) rfl ⟨?_, rfl⟩
    simp [formE, *]
end Go.Proofs.YtobijbhgpgnfkaaGreatDoor
