/-
  Values, plain: which nodes of a program are values. Conditions: written at each theorem.
-/
import Derived.Test.YtjjanmccijghgaaTv
import Derived.Test.YtjjanmccijghgaaNt
namespace Go.Proofs.Ytjjanmccijghgaa
open Go.ChangeShapes Go.WideShapes Go.ChangeAt Go.RowKit
set_option linter.unusedVariables false

def valF (ts : List Nod) : Nat → Nat → Bool
  | 0, _ => false
  | F + 1, i =>
    if (ts.getD i noNod).kind = 1 ∨ (ts.getD i noNod).kind = 2 ∨ (ts.getD i noNod).kind = 3 ∨ (ts.getD i noNod).kind = 12 then true
    else if (ts.getD i noNod).kind = 9 ∨ (ts.getD i noNod).kind = 13 then valF ts F (ts.getD i noNod).a.toNat && valF ts F (ts.getD i noNod).b.toNat else false

def valB (ts : List Nod) (i : Int) : Bool := nodesB ts && (decide (0 ≤ i) && (decide (i < ts.length) && valF ts ts.length i.toNat))

/-- Kids of a node of two stand ahead of it. -/
def Two (ts : List Nod) : Prop := ∀ j, j < ts.length → arN (ts.getD j noNod).kind = 2 → ∃ a b : Nat, (ts.getD j noNod).a = a ∧ (ts.getD j noNod).b = b ∧ a < j ∧ b < j

theorem right_two {ts : List Nod} {st : List Nat} (h : Right ts st) : Two ts := by
  intro j hj e
  obtain ⟨_, _, _, _, h2, _⟩ := h.2 j hj
  obtain ⟨a, b, h3, h4, h5, h6, _⟩ := h2 e
  have hb := (h.2 b (by omega)).2.1
  exact ⟨a, b, h3, h4, by omega, by omega⟩

theorem nodes_two {ts : List Nod} (h : nodesB ts = true) : Two ts := by
  obtain ⟨_, h2, st, hs⟩ := nodesB_starts h
  exact right_two (right_of (by omega) hs)

theorem valF_plain {ts : List Nod} {F i : Nat} (hk : (ts.getD i noNod).kind = 1 ∨ (ts.getD i noNod).kind = 2 ∨ (ts.getD i noNod).kind = 3 ∨ (ts.getD i noNod).kind = 12) : valF ts (F + 1) i = true := by
  simp only [valF]
  rw [if_pos hk]

theorem valF_two {ts : List Nod} {F i : Nat} (hk : (ts.getD i noNod).kind = 9 ∨ (ts.getD i noNod).kind = 13) : valF ts (F + 1) i = (valF ts F (ts.getD i noNod).a.toNat && valF ts F (ts.getD i noNod).b.toNat) := by
  simp only [valF]
  rw [if_neg (by omega), if_pos hk]

theorem valF_not {ts : List Nod} {F i : Nat} (hk : ¬ ((ts.getD i noNod).kind = 1 ∨ (ts.getD i noNod).kind = 2 ∨ (ts.getD i noNod).kind = 3 ∨ (ts.getD i noNod).kind = 12)) (hk2 : ¬ ((ts.getD i noNod).kind = 9 ∨ (ts.getD i noNod).kind = 13)) : valF ts (F + 1) i = false := by
  simp only [valF]
  rw [if_neg hk, if_neg hk2]
end Go.Proofs.Ytjjanmccijghgaa
