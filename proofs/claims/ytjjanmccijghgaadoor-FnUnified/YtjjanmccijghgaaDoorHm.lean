/-
  Types, the specification's ShowType. Conditions: written at each theorem.
-/
import Derived.Test.YtjjanmccijghgaaDoorHl
namespace Go.Proofs.YtjjanmccijghgaaDoor
open Go.ChangeShapes Go.WideShapes Go.ChangeAt Go.RowKit
set_option linter.unusedVariables false

theorem siz_le (ts : List Typ) (i : Int) : sizB ts i ≤ 61 := by
  unfold sizB
  split <;> omega

theorem sho_yes {ts : List Typ} {i : Int} (h : 1 ≤ sizB ts i ∧ sizB ts i ≤ 60) : ∃ m : Nat, i = m ∧ m < ts.length ∧ tabB ts = true ∧ sizeT (solB ts m) ≤ 60 ∧ shoB ts i = (shoT 0 (solB ts m) []).1 := by
  obtain ⟨ht, h0, h1⟩ := siz_in h.1
  have e : sizB ts i = min (sizeT (solB ts i.toNat)) 61 := by unfold sizB; rw [if_pos ⟨ht, h0, h1⟩]
  refine ⟨i.toNat, by omega, by omega, ht, by omega, by unfold shoB; rw [if_pos h]⟩

end Go.Proofs.YtjjanmccijghgaaDoor
