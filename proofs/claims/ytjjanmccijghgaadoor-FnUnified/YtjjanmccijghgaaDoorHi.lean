/-
  Rows of numbers and of bools in memory. Conditions: written at each theorem.
-/
import Derived.Test.YtjjanmccijghgaaDoorHa
import Derived.Test.YtjjanmccijghgaaDoorSt
namespace Go.Proofs.YtjjanmccijghgaaDoor
open Go.ChangeShapes Go.WideShapes Go.ChangeAt Go.RowKit
set_option linter.unusedVariables false

/-- Numbers that lie in a block. -/
def IntAt (w : World) (g : Nat) (st : List Int) : Prop := ∀ i, i < st.length → w.cell? ⟨g, i, none⟩ = some (.int .i64 (st.getD i 0))

theorem IntAt.lt {w : World} {g : Nat} {st : List Int} (h : IntAt w g st) (hl : 0 < st.length) : g < w.heap.size := typ_lt (h 0 hl)

theorem IntAt.below {w w' : World} {g B : Nat} {st : List Int} (h : IntAt w g st) (hb : Below B w w') (hg : 0 < st.length → g < B) : IntAt w' g st :=
  fun i hi => (World.cell?_of_block (hb.block g (hg (by omega)))).trans (h i hi)

theorem int_of_list {w : World} {g : Nat} {st : List Int} {t : TypeId} {z : Nat × Nat} (h : w.heap[g]? = some (.cells (st.map (Value.int .i64)).toArray t z)) : IntAt w g st := by
  intro i hi
  rw [cell_of_row _ _ _ _ _ _ h]
  simp [List.getD, hi]

/-- What comes of asking an entry for those to which it leads. -/
def KidEnd (w : World) (t : Typ) (e : Ending) (w' : World) : Prop :=
  ∃ (a : Option Addr) (G c : Nat), e = .returned (.slice a (kidZ t).length c) ∧ (0 < (kidZ t).length → a = some ⟨G, 0, none⟩) ∧ IntAt w' G (kidZ t) ∧ Below w.heap.size w w' ∧ (0 < (kidZ t).length → w.heap.size ≤ G)

/-- Bools that lie in a block. -/
def BoolAt (w : World) (g : Nat) (l : List Bool) : Prop := w.heap[g]? = some (.cells (l.map Value.bool).toArray 4 (0, 0))

theorem BoolAt.cell {w : World} {g : Nat} {l : List Bool} (h : BoolAt w g l) (i : Nat) (hi : i < l.length) : w.cell? ⟨g, i, none⟩ = some (.bool (l.getD i false)) := by
  rw [cell_of_row _ _ _ _ _ _ h]
  simp [List.getD, hi]

theorem BoolAt.frozen {w : World} {g : Nat} {l : List Bool} (h : BoolAt w g l) (i : Nat) : w.frozen? ⟨g, i, none⟩ = false := frozen_of_row w g i _ _ h

theorem BoolAt.set {w : World} {g : Nat} {l : List Bool} (h : BoolAt w g l) (i : Nat) (b : Bool) : BoolAt (w.setCell ⟨g, i, none⟩ (.bool b)) g (l.set i b) := by
  unfold BoolAt at h ⊢
  rw [heap_setCell_same _ _ _ _ _ _ h, List.setIfInBounds_toArray, List.map_set]

theorem BoolAt.lt {w : World} {g : Nat} {l : List Bool} (h : BoolAt w g l) : g < w.heap.size := (Array.getElem?_eq_some_iff.1 h).1

theorem BoolAt.below {w w' : World} {g B : Nat} {l : List Bool} (h : BoolAt w g l) (hb : Below B w w') (hg : g < B) : BoolAt w' g l := (hb.block g hg).trans h

theorem info_bool : (Tryd.prog.info? 4).map (fun i => (i.zero, i.size, i.bytes)) = some (some (.bool false), 1, 1) := by kernel_rfl

theorem made_bools (n : Nat) : madeCells (Value.bool false).cells (n * 1) = ((List.replicate n false).map Value.bool).toArray := by
  apply Array.ext
  · simp [madeCells]
  · intro i h1 h2
    simp [madeCells, Value.cells]
    rw [show i % 1 = 0 by omega]
    rfl
end Go.Proofs.YtjjanmccijghgaaDoor
