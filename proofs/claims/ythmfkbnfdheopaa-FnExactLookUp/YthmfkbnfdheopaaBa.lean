/-
  Bind: rows of them that are handed in: how much they hold, and a copy of them in memory of the call's own. Conditions: written at each theorem.
-/
import Derived.Test.YthmfkbnfdheopaaBk
namespace Go.Proofs.Ythmfkbnfdheopaa
open Go.ChangeShapes Go.WideShapes Go.ChangeAt Go.RowKit
set_option linter.unusedVariables false

/-- The i-th one's cells lie in block b, from place o on. -/
structure ABnd (w : World) (b o i : Nat) (t : Bnd) : Prop where
  c0 : w.cell? ⟨b, o + i * 2, none⟩ = some (.int .i64 t.node)
  c1 : w.cell? ⟨b, o + i * 2 + 1, none⟩ = some (.int .i64 t.role)

theorem ABnd.below {w w' : World} {b o i B : Nat} {t : Bnd} (h : ABnd w b o i t) (hb : Below B w w') (hg : b < B) : ABnd w' b o i t :=
  ⟨(World.cell?_of_block (hb.block b hg)).trans h.c0, (World.cell?_of_block (hb.block b hg)).trans h.c1⟩

def ABnds (w : World) (b o : Nat) (ts : List Bnd) : Prop := ∀ i, i < ts.length → ABnd w b o i (ts.getD i noBnd)

theorem ABnds.below {w w' : World} {b o B : Nat} {ts : List Bnd} (h : ABnds w b o ts) (hb : Below B w w') (hg : 0 < ts.length → b < B) : ABnds w' b o ts := fun i hi => (h i hi).below hb (hg (by omega))

theorem ABnds.lt {w : World} {b o : Nat} {ts : List Bnd} (h : ABnds w b o ts) (hl : 0 < ts.length) : b < w.heap.size := bnd_lt (h 0 hl).c0

/-- How many bytes one has; how many the first k have. -/
def bndSz (t : Bnd) : Nat := 0
def bndLens (ts : List Bnd) : Nat → Nat
  | 0 => 0
  | k + 1 => bndLens ts k + bndSz (ts.getD k noBnd)

theorem bnd_to (x0 : Int) (x1 : Int) (w : World) :
    Calls Try.prog 15 #[.agg #[.int .i64 x0, .int .i64 x1]] w fun e w' => e = .returned (.agg #[.int .i64 x0, .int .i64 x1]) ∧ Below w.heap.size w w' := by
  go_enter Try.func15, Try.ntmps15
  go_wp2
  (try simp only [Exit.inBlock, Exit.then])
  refine bodyPost_ret (results_cell_row rfl _ _ (w.heap.size + 1) 49 #[.int .i64 x0, .int .i64 x1] (0, 0) _ rfl ?_ Try.underlying49 rfl (by kernel_rfl)) rfl ?_
  · rw [Below.heap_alloc _ _ _ (by simp), heap_alloc2_new]
  · exact ⟨rfl, (((Below.refl _ w).alloc (Nat.le_refl _) _).alloc (by simp) _).alloc (by simp; omega) _⟩

/-- The first k, and behind them as many empty ones as are wanting. -/
def bndMix (ts : List Bnd) (k : Nat) : List Bnd := ts.take k ++ List.replicate (ts.length - k) noBnd

theorem bndMix_length (ts : List Bnd) (k : Nat) (h : k ≤ ts.length) : (bndMix ts k).length = ts.length := by simp [bndMix]; omega

theorem bndMix_all (ts : List Bnd) : bndMix ts ts.length = ts := by simp [bndMix]

theorem bndMix_set (ts : List Bnd) (k : Nat) (h : k < ts.length) : (bndMix ts k).set k (ts.getD k noBnd) = bndMix ts (k + 1) := by
  apply List.ext_getElem?
  intro i
  have e : ts.getD k noBnd = ts[k] := by simp [List.getD, List.getElem?_eq_getElem h]
  rw [List.getElem?_set, bndMix_length ts k (by omega), e]
  by_cases hik : k = i
  · subst hik
    rw [if_pos rfl, if_pos h, bndMix, List.getElem?_append_left (by simp; omega), List.getElem?_take_of_lt (by omega), List.getElem?_eq_getElem h]
  · rw [if_neg hik, bndMix, bndMix, List.getElem?_append, List.getElem?_append]
    by_cases hi : i < k
    · rw [if_pos (by simp; omega), if_pos (by simp; omega), List.getElem?_take_of_lt hi, List.getElem?_take_of_lt (by omega)]
    · rw [if_neg (by simp; omega), if_neg (by simp; omega)]
      simp only [List.length_take, List.getElem?_replicate]
      by_cases hi2 : i < ts.length
      · rw [if_pos (by omega), if_pos (by omega)]
      · rw [if_neg (by omega), if_neg (by omega)]

theorem bnd_set (w : World) (g k : Nat) (l : List Bnd) (e : TypeId) (t : Bnd) (hg : w.heap[g]? = some (.cells (l.flatMap bndCells).toArray e (0, 0))) (hk : k < l.length) :
    ((w.setCell ⟨g, k * 2, none⟩ (.int .i64 t.node)).setCell ⟨g, k * 2 + 1, none⟩ (.int .i64 t.role)).heap[g]? =
      some (.cells ((l.set k t).flatMap bndCells).toArray e (0, 0)) := by
  rw [heap_setCell_same _ _ _ _ _ _ (heap_setCell_same _ _ _ _ _ _ hg)]
  rw [List.setIfInBounds_toArray, List.setIfInBounds_toArray, bnd_flat_set t l k hk]

theorem bnd_made (m : Nat) : madeCells (Value.agg #[.int .i64 0, .int .i64 0]).cells (m * 2) = ((List.replicate m noBnd).flatMap bndCells).toArray := by
  apply Array.ext
  · have e : ((List.replicate m noBnd).flatMap bndCells).toArray.size = m * 2 := by rw [List.size_toArray, bnd_flat_length, List.length_replicate]
    rw [e]; simp [madeCells]
  · intro i h1 h2
    have hi : i < m * 2 := by simpa [madeCells] using h1
    have e := bnd_flat_at (List.replicate m noBnd) (i / 2) (i % 2) (by simp; omega) (by omega)
    rw [show i / 2 * 2 + i % 2 = i by omega] at e
    have e2 : (List.replicate m noBnd).getD (i / 2) noBnd = noBnd := by simp only [List.getD, List.getElem?_replicate]; split <;> rfl
    rw [e2] at e
    have h3 : i < ((List.replicate m noBnd).flatMap bndCells).length := by rw [bnd_flat_length]; simpa using hi
    rw [List.getElem?_eq_getElem h3] at e
    have e3 : ((List.replicate m noBnd).flatMap bndCells).toArray[i] = ((List.replicate m noBnd).flatMap bndCells)[i] := by simp
    rw [e3]
    have hm : i % 2 = 0 ∨ i % 2 = 1 := by omega
    rcases hm with hm | hm <;> simp [madeCells, Value.cells, hm, bndCells, noBnd] at e ⊢ <;> exact e.symm

end Go.Proofs.Ythmfkbnfdheopaa
