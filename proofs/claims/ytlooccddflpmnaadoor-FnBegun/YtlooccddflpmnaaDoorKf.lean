/-
  Forms by their key, plain. Conditions: written at each theorem.
-/
import Derived.Test.YtlooccddflpmnaaDoorPm
import Derived.Test.YtlooccddflpmnaaDoorKn
namespace Go.Proofs.YtlooccddflpmnaaDoor
open Go.ChangeShapes Go.WideShapes Go.ChangeAt Go.RowKit
set_option linter.unusedVariables false

theorem keyN_else {k : Int} (n : Int) (h : k ≠ 8) : keyN k n = keyN k 0 := by
  unfold keyN
  rw [if_neg h, if_neg h]

set_option maxRecDepth 20000 in
theorem form_key {k n : Int} (h : IsForm k n) : formE (keyN k n) = (k, if k = 8 then n else 0, ⟨(goesOn k).toArray⟩) := by
  obtain ⟨h1, h2, h3, h4⟩ := h
  by_cases h8 : k = 8
  · subst h8
    obtain ⟨a, b⟩ := h4 rfl
    have : n = 0 ∨ n = 1 ∨ n = 2 ∨ n = 3 := by omega
    rcases this with rfl | rfl | rfl | rfl <;> decide +kernel
  · rw [keyN_else n h8, if_neg h8]
    have : k = 3 ∨ k = 4 ∨ k = 5 ∨ k = 6 ∨ k = 7 ∨ k = 9 ∨ k = 10 ∨ k = 11 ∨ k = 13 ∨ k = 14 ∨ k = 15 ∨ k = 16 ∨ k = 17 ∨ k = 18 ∨ k = 19 := by omega
    clear h1 h2 h3 h4 h8
    rcases this with rfl | rfl | rfl | rfl | rfl | rfl | rfl | rfl | rfl | rfl | rfl | rfl | rfl | rfl | rfl <;> decide +kernel

end Go.Proofs.YtlooccddflpmnaaDoor
