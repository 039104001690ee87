/-
  What Parse tells, plain; what it ends with. Conditions: written at each theorem.
-/
import Derived.Test.YtobijbhgpgnfkaaGreatDoorPm
import Derived.Test.YtobijbhgpgnfkaaGreatDoorLr
namespace Go.Proofs.YtobijbhgpgnfkaaGreatDoor
open Go.ChangeShapes Go.WideShapes Go.ChangeAt Go.RowKit
set_option linter.unusedVariables false

theorem parse_bad {ts : List Tok} {E c q : Int} (h : exprE ts E (ts.length + 1) 0 [] = .error (c, q)) : parseE ts E = ([], c, q) := by
  rw [parseE, h]
theorem parse_more {ts : List Tok} {E : Int} {j : Nat} {m : List Nod} (h : exprE ts E (ts.length + 1) 0 [] = .ok (j, m)) (hj : j < ts.length) : parseE ts E = ([], 4, (ts.getD j noTok).place) := by
  rw [parseE, h]
  simp only
  rw [if_pos hj]
theorem parse_great {ts : List Tok} {E : Int} {j : Nat} {m : List Nod} (h : exprE ts E (ts.length + 1) 0 [] = .ok (j, m)) (hj : ¬ j < ts.length) (hm : 150 < m.length) : parseE ts E = ([], 5, 0) := by
  rw [parseE, h]
  simp only
  rw [if_neg hj, if_pos hm]
theorem parse_ok {ts : List Tok} {E : Int} {j : Nat} {m : List Nod} (h : exprE ts E (ts.length + 1) 0 [] = .ok (j, m)) (hj : ¬ j < ts.length) (hm : ¬ 150 < m.length) : parseE ts E = (m, 0, 0) := by
  rw [parseE, h]
  simp only
  rw [if_neg hj, if_neg hm]

/-- What Parse tells: nodes, the code, the place. -/
def parseR (ts : List Tok) (n E : Int) : List Nod × Int × Int := if 0 ≤ n then ([], 1, n) else parseE ts E

/-- What Parse ends with. -/
def ParseEnd (s : ByteArray) (B : Nat) (e : Ending) (w : World) : Prop := ∃ (ts : List Tok) (n : Int) (v : Value), Lexes s ts n ∧ ownNod w B v (parseR ts n s.size).1 ∧ e = .returned (.tuple #[v, .int .i64 (parseR ts n s.size).2.1, .int .i64 (parseR ts n s.size).2.2])
end Go.Proofs.YtobijbhgpgnfkaaGreatDoor
