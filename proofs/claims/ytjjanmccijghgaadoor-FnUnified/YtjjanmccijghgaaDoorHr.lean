/-
  Types, the specification's: does a variable stand in a type; two made one where the first is a free variable. Conditions: written at each theorem.
-/
import Derived.Test.YtjjanmccijghgaaDoorHl
namespace Go.Proofs.YtjjanmccijghgaaDoor
open Go.ChangeShapes Go.WideShapes Go.ChangeAt Go.RowKit
set_option linter.unusedVariables false

def occK (v : Nat) (ρ : Nat → Tr) (ks : List Int) : Bool := ks.any (fun k => occT v (ρ k.toNat))

theorem occ_rhs (v : Nat) (t : Typ) (ρ : Nat → Tr) (h0 : t.kind ≠ 0) : occT v (rhsT t ρ) = occK v ρ (kidZ t) := by
  unfold rhsT kidZ occK
  rw [if_neg h0]
  split
  · simp [occT]
  · split
    · simp [occT]
    · simp [occT]

theorem occK_drop (v : Nat) (ρ : Nat → Tr) (ks : List Int) (q : Nat) (h : q < ks.length) : occK v ρ (ks.drop q) = (occT v (ρ (ks.getD q 0).toNat) || occK v ρ (ks.drop (q + 1))) := by
  unfold occK
  have e : ks.getD q 0 = ks[q] := by simp [List.getD, h]
  rw [List.drop_eq_getElem_cons h, List.any_cons, e]

end Go.Proofs.YtjjanmccijghgaaDoor
