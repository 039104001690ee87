/-
  Bind: a row of them as plain data and as cells of memory. Conditions: written at each theorem.
-/
import Derived.Test.YthmfkbnfdheopaaRows
import Derived.WalkKit
import Derived.ProofKit
import Derived.OpenShut
import Derived.ShutString
import Derived.WalkSpells
import Derived.Laws.OwnMore
import Derived.Below
namespace Go.Proofs.Ythmfkbnfdheopaa
open Go.ChangeShapes Go.WideShapes Go.ChangeAt Go.RowKit
set_option linter.unusedVariables false

structure Bnd where
  node : Int
  role : Int

def noBnd : Bnd := ⟨0, 0⟩

def bndCells (t : Bnd) : List Value := [.int .i64 t.node, .int .i64 t.role]
def bndAgg (t : Bnd) : Value := .agg #[.int .i64 t.node, .int .i64 t.role]

/-- The i-th one's cells lie in block g behind each other. -/
structure BndIn (w : World) (g i : Nat) (t : Bnd) : Prop where
  c0 : w.cell? ⟨g, i * 2, none⟩ = some (.int .i64 t.node)
  c1 : w.cell? ⟨g, i * 2 + 1, none⟩ = some (.int .i64 t.role)

def BndAt (w : World) (g : Nat) (ts : List Bnd) : Prop := ∀ i, i < ts.length → BndIn w g i (ts.getD i noBnd)

theorem bnd_lt {w : World} {a : Addr} {v : Value} (h : w.cell? a = some v) : a.block < w.heap.size := World.block_lt_of_cell? w a h

theorem BndIn.below {w w' : World} {g i B : Nat} {t : Bnd} (h : BndIn w g i t) (hb : Below B w w') (hg : g < B) : BndIn w' g i t :=
  ⟨(World.cell?_of_block (hb.block g hg)).trans h.c0, (World.cell?_of_block (hb.block g hg)).trans h.c1⟩

theorem BndAt.below {w w' : World} {g B : Nat} {ts : List Bnd} (h : BndAt w g ts) (hb : Below B w w') (hg : 0 < ts.length → g < B) : BndAt w' g ts := fun i hi => (h i hi).below hb (hg (by omega))

theorem BndAt.lt {w : World} {g : Nat} {ts : List Bnd} (h : BndAt w g ts) (hl : 0 < ts.length) : g < w.heap.size := bnd_lt (h 0 hl).c0

theorem bnd_flat_at (ts : List Bnd) : ∀ (i j : Nat), i < ts.length → j < 2 → (ts.flatMap bndCells)[i * 2 + j]? = (bndCells (ts.getD i noBnd))[j]? := by
  induction ts with
  | nil => intro i j h _; simp at h
  | cons t ts ih =>
    intro i j h hj
    rcases i with _ | i
    · rw [List.flatMap_cons, List.getElem?_append_left (by simp [bndCells]; omega)]
      simp
    · rw [List.flatMap_cons, List.getElem?_append_right (by simp [bndCells]; omega)]
      have e : (i + 1) * 2 + j - (bndCells t).length = i * 2 + j := by simp [bndCells]; omega
      rw [e, ih i j (by simpa using h) hj]
      rfl

theorem bnd_flat_length (ts : List Bnd) : (ts.flatMap bndCells).length = ts.length * 2 := by
  induction ts with
  | nil => rfl
  | cons t ts ih => rw [List.flatMap_cons, List.length_append, ih]; simp [bndCells]; omega

theorem bnd_flat_set (t : Bnd) : ∀ (l : List Bnd) (k : Nat), k < l.length →
    (((l.flatMap bndCells).set (k * 2) (.int .i64 t.node)).set (k * 2 + 1) (.int .i64 t.role)) = (l.set k t).flatMap bndCells
  | [], k, h => by simp at h
  | y :: l, 0, h => by simp [bndCells]
  | y :: l, k + 1, h => by
    have ih := bnd_flat_set t l k (by simpa using h)
    rw [List.set_cons_succ, List.flatMap_cons, List.flatMap_cons, ← ih]
    have e : (k + 1) * 2 = k * 2 + 2 := by omega
    rw [e]
    simp [bndCells]

theorem bnd_flat_set' (t : Bnd) (l : List Bnd) (sp : List Value) (k : Nat) (hk : k < l.length) :
    (((l.flatMap bndCells ++ sp).set (k * 2) (.int .i64 t.node)).set (k * 2 + 1) (.int .i64 t.role)) = (l.set k t).flatMap bndCells ++ sp := by
  have hl := bnd_flat_length l
  rw [List.set_append_left _ _ (by first | omega | (simp only [List.length_set]; omega)), List.set_append_left _ _ (by first | omega | (simp only [List.length_set]; omega)), bnd_flat_set t l k hk]

/-- A row that holds the cells, and perhaps more behind them, holds them. -/
theorem bnd_of_row {w : World} {g : Nat} {e : TypeId} {l : List Bnd} {sp : List Value} (h : w.heap[g]? = some (.cells (l.flatMap bndCells ++ sp).toArray e (0, 0))) : BndAt w g l := by
  intro i hi
  have hl := bnd_flat_length l
  have c : ∀ j, j < 2 → w.cell? ⟨g, i * 2 + j, none⟩ = (bndCells (l.getD i noBnd))[j]? := fun j hj => by
    rw [cell_of_row w _ _ _ _ _ h, ← bnd_flat_at l i j hi hj, List.getElem?_toArray, List.getElem?_append_left (by omega)]
  exact ⟨c 0 (by omega), c 1 (by omega)⟩

theorem bnd_of_room {w : World} {g : Nat} {e : TypeId} {l : List Bnd} (h : w.heap[g]? = some (.cells (l.flatMap bndCells).toArray e (0, 0))) : BndAt w g l :=
  bnd_of_row (sp := []) (by rw [List.append_nil]; exact h)

/-- A slice of the call's own holds these. -/
abbrev ownBnd (w : World) (base : Nat) (v : Value) (ts : List Bnd) : Prop := w.ownsRow base 49 2 v ts.length (ts.flatMap bndCells)

theorem ownBnd_kept {w w' : World} {B N : Nat} {v : Value} {ts : List Bnd} (h : ownBnd w B v ts) (hb : Below N w w') (hN : w.heap.size ≤ N) : ownBnd w' B v ts := by
  refine ⟨h.1, ?_⟩
  rcases h.2 with h0 | ⟨g, cap, cur, hv, hbg, hg, rest⟩
  · exact .inl h0
  · refine .inr ⟨g, cap, cur, hv, hbg, ?_, rest⟩
    have hlt : g < w.heap.size := (Array.getElem?_eq_some_iff.1 hg).1
    rw [hb.block g (by omega)]
    exact hg

theorem ownBnd_base {w : World} {B B' : Nat} {v : Value} {ts : List Bnd} (h : ownBnd w B v ts) (hB : B' ≤ B) : ownBnd w B' v ts := by
  refine ⟨h.1, ?_⟩
  rcases h.2 with h0 | ⟨g, cap, cur, hv, hbg, rest⟩
  · exact .inl h0
  · exact .inr ⟨g, cap, cur, hv, by omega, rest⟩

theorem ownBnd_next {w : World} {B : Nat} {v : Value} {ts : List Bnd} {m : Nat} {xs : List Value} (t : Bnd) (h : w.ownsRow B 49 2 v m xs) (hn : m = ts.length + 1) (hx : xs = ts.flatMap bndCells ++ bndCells t) : ownBnd w B v (ts ++ [t]) := by
  subst hn hx
  show w.ownsRow B 49 2 v (ts ++ [t]).length ((ts ++ [t]).flatMap bndCells)
  rw [List.length_append, List.flatMap_append]
  simpa using h

theorem ownBnd_empty {w : World} {B : Nat} (hB : B ≤ w.heap.size) : ownBnd (w.alloc (.cells #[] 49)) B (.slice (some ⟨w.heap.size, 0, none⟩) 0 0) [] :=
  World.ownsRow_lit w #[] 0 hB (by omega) rfl

/-- The form of a slice that holds such of the call's own. -/
theorem ownBnd_form {w : World} {B : Nat} {v : Value} {ts : List Bnd} (h : ownBnd w B v ts) :
    ∃ (a : Option Addr) (g cap : Nat) (sp : List Value), v = .slice a ts.length cap ∧ (0 < ts.length → a = some ⟨g, 0, none⟩) ∧ BndAt w g ts ∧ B ≤ g ∧ (0 < ts.length → g < w.heap.size) ∧
      (0 < ts.length → w.heap[g]? = some (.cells (ts.flatMap bndCells ++ sp).toArray 49 (0, 0))) := by
  rcases h.2 with ⟨rfl, h0⟩ | ⟨g, cap, cur, rfl, hb, hg, hn, hm, hs, ht⟩
  · rw [h0]
    have e : ts = [] := List.length_eq_zero_iff.1 h0
    subst e
    exact ⟨none, B, 0, [], rfl, fun h => absurd h (by omega), fun i hi => absurd hi (by simp), Nat.le_refl _, fun h => absurd h (by omega), fun h => absurd h (by omega)⟩
  · have hc : cur = (ts.flatMap bndCells ++ cur.toList.drop (ts.length * 2)).toArray := by
      apply Array.toList_inj.1
      rw [← ht]
      simp
    have hg' : w.heap[g]? = some (.cells (ts.flatMap bndCells ++ cur.toList.drop (ts.length * 2)).toArray 49 (0, 0)) := by rw [hg, ← hc]
    exact ⟨some ⟨g, 0, none⟩, g, cap, cur.toList.drop (ts.length * 2), rfl, fun _ => rfl, bnd_of_row hg', hb, fun _ => (Array.getElem?_eq_some_iff.1 hg).1, fun _ => hg'⟩

theorem bnd_new {w : World} {N : Nat} (hN : w.heap.size = N) (x0 : Int) (x1 : Int) (e : TypeId) :
    ∀ j u, (bndCells ⟨x0, x1⟩)[j]? = some u → (w.alloc (.cells #[.int .i64 x0, .int .i64 x1] e)).cell? ((⟨N, 0, none⟩ : Addr).add j) = some u := by
  subst hN
  intro j u hj
  have hl : j < 2 := by
    rcases Nat.lt_or_ge j 2 with h | h
    · exact h
    · rw [List.getElem?_eq_none (by simpa [bndCells] using h)] at hj; cases hj
  rw [add_plain, cell_of_row _ _ _ _ _ _ (MapKept.heap_alloc w _).1]
  rcases (by omega : j = 0 ∨ j = 1) with rfl | rfl <;> exact hj

theorem bnd_one (t : Bnd) : ∀ u ∈ bndCells t, u.oneCell' = true := by
  intro u hu
  simp [bndCells] at hu
  rcases hu with rfl | rfl <;> rfl

theorem info_bnd : (Try.prog.info? 49).map (fun i => (i.zero, i.size, i.bytes)) = some (some (.agg #[.int .i64 0, .int .i64 0]), 2, 16) := by kernel_rfl
end Go.Proofs.Ythmfkbnfdheopaa
