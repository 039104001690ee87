/-
  Bind: a slice of them that is handed in, opened. Conditions: written at each theorem.
-/
import Derived.Test.YthmfkbnfdheopaaBa
import Derived.Deep.Slices
namespace Go.Proofs.Ythmfkbnfdheopaa
open Go.ChangeShapes Go.WideShapes Go.ChangeAt Go.RowKit
set_option linter.unusedVariables false

theorem bnd_cells : Try.prog.cellsOf 46 = 2 := by kernel_rfl
theorem bnd_cells3 : Try.prog.cellsOf 3 = 1 := by kernel_rfl
theorem bnd_cells9 : Try.prog.cellsOf 9 = 1 := by kernel_rfl

theorem bnd_plain {w : World} {a : Addr} {v : Value} (h : w.cell? a = some v) : a = ⟨a.block, a.off, none⟩ := by
  obtain ⟨b, o, s⟩ := a
  cases s with
  | none => rfl
  | some s =>
    simp only [World.cell?] at h
    split at h <;> simp at h

set_option maxRecDepth 20000 in
/-- One that is read out of its cells. -/
theorem bnd_of_cells {H : Type} {enc : TypeId × Value → H} {w : World} {base : Nat} {spare : Nat → Bool} {held : Bool} {fuel : Nat} {cs : List Value} {y : DataW H × List MemPlace} (hl : cs.length = 2)
    (h : DataW.trod enc Try.prog w base spare held fuel 46 cs = some y) : ∃ t : Bnd, cs = bndCells t := by
  obtain ⟨ys, k, _, _, _, hyl, hf⟩ := DataW.trod_struct Try.underlying46 h
  match ys, hyl, cs, hl with
  | [u0, u1], _, [v0, v1], _ =>
    have g0 := hf 0 _ rfl
    have g1 := hf 1 _ rfl
    simp [bnd_cells3] at g0 g1
    obtain ⟨n0, e0, _, _⟩ := DataW.trod_int Try.underlying3 g0
    obtain ⟨n1, e1, _, _⟩ := DataW.trod_int Try.underlying3 g1
    simp at e0 e1
    subst e0 e1
    exact ⟨⟨n0, n1⟩, rfl⟩

end Go.Proofs.Ythmfkbnfdheopaa
