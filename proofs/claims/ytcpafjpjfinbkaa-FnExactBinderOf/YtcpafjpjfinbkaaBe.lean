/-
  Bind: two rows of them are held against each other: where they hold the same, that is what is answered. Conditions: written at each theorem.
-/
import Derived.Test.YtcpafjpjfinbkaaBk
import Derived.Test.YtcpafjpjfinbkaaSt
namespace Go.Proofs.Ytcpafjpjfinbkaa
open Go.ChangeShapes Go.WideShapes Go.ChangeAt Go.RowKit
set_option linter.unusedVariables false

theorem bnd_eq (x0 : Int) (x1 : Int) (w : World) :
    Calls Try.prog 16 #[.agg #[.int .i64 x0, .int .i64 x1], .agg #[.int .i64 x0, .int .i64 x1]] w fun e w' => e = .returned (.bool true) ∧ Below w.heap.size w w' := by
  go_enter Try.func16, Try.ntmps16
  go_wp2
  go_ret
  exact ⟨rfl, ((Below.refl _ w).alloc (Nat.le_refl _) _).alloc (by simp) _⟩

theorem bnd_eq_name : (Try.f16.name == "runtime.NumGoroutine") = false := by kernel_rfl
theorem bnd_eq_body : Try.f16.body.isNone = false := by kernel_rfl

end Go.Proofs.Ytcpafjpjfinbkaa
