/-
  Clo: a row of them as plain data and as cells of memory. Conditions: written at each theorem.
-/
import Derived.Test.YthmfkbnfdheopaaRows
import Derived.WalkKit
import Derived.ProofKit
import Derived.OpenShut
import Derived.ShutString
import Derived.WalkSpells
import Derived.Laws.OwnMore
import Derived.Below
namespace Go.Proofs.Ythmfkbnfdheopaa
open Go.ChangeShapes Go.WideShapes Go.ChangeAt Go.RowKit
set_option linter.unusedVariables false

structure Clq where
  node : Int
  env : Int

def noClq : Clq := ⟨0, 0⟩

def clqCells (t : Clq) : List Value := [.int .i64 t.node, .int .i64 t.env]
def clqAgg (t : Clq) : Value := .agg #[.int .i64 t.node, .int .i64 t.env]

/-- The i-th one's cells lie in block g behind each other. -/
structure ClqIn (w : World) (g i : Nat) (t : Clq) : Prop where
  c0 : w.cell? ⟨g, i * 2, none⟩ = some (.int .i64 t.node)
  c1 : w.cell? ⟨g, i * 2 + 1, none⟩ = some (.int .i64 t.env)

def ClqAt (w : World) (g : Nat) (ts : List Clq) : Prop := ∀ i, i < ts.length → ClqIn w g i (ts.getD i noClq)

theorem clq_lt {w : World} {a : Addr} {v : Value} (h : w.cell? a = some v) : a.block < w.heap.size := World.block_lt_of_cell? w a h

theorem ClqIn.below {w w' : World} {g i B : Nat} {t : Clq} (h : ClqIn w g i t) (hb : Below B w w') (hg : g < B) : ClqIn w' g i t :=
  ⟨(World.cell?_of_block (hb.block g hg)).trans h.c0, (World.cell?_of_block (hb.block g hg)).trans h.c1⟩

theorem ClqAt.below {w w' : World} {g B : Nat} {ts : List Clq} (h : ClqAt w g ts) (hb : Below B w w') (hg : 0 < ts.length → g < B) : ClqAt w' g ts := fun i hi => (h i hi).below hb (hg (by omega))

theorem ClqAt.lt {w : World} {g : Nat} {ts : List Clq} (h : ClqAt w g ts) (hl : 0 < ts.length) : g < w.heap.size := clq_lt (h 0 hl).c0

theorem clq_flat_at (ts : List Clq) : ∀ (i j : Nat), i < ts.length → j < 2 → (ts.flatMap clqCells)[i * 2 + j]? = (clqCells (ts.getD i noClq))[j]? := by
  induction ts with
  | nil => intro i j h _; simp at h
  | cons t ts ih =>
    intro i j h hj
    rcases i with _ | i
    · rw [List.flatMap_cons, List.getElem?_append_left (by simp [clqCells]; omega)]
      simp
    · rw [List.flatMap_cons, List.getElem?_append_right (by simp [clqCells]; omega)]
      have e : (i + 1) * 2 + j - (clqCells t).length = i * 2 + j := by simp [clqCells]; omega
      rw [e, ih i j (by simpa using h) hj]
      rfl

theorem clq_flat_length (ts : List Clq) : (ts.flatMap clqCells).length = ts.length * 2 := by
  induction ts with
  | nil => rfl
  | cons t ts ih => rw [List.flatMap_cons, List.length_append, ih]; simp [clqCells]; omega

theorem clq_flat_set (t : Clq) : ∀ (l : List Clq) (k : Nat), k < l.length →
    (((l.flatMap clqCells).set (k * 2) (.int .i64 t.node)).set (k * 2 + 1) (.int .i64 t.env)) = (l.set k t).flatMap clqCells
  | [], k, h => by simp at h
  | y :: l, 0, h => by simp [clqCells]
  | y :: l, k + 1, h => by
    have ih := clq_flat_set t l k (by simpa using h)
    rw [List.set_cons_succ, List.flatMap_cons, List.flatMap_cons, ← ih]
    have e : (k + 1) * 2 = k * 2 + 2 := by omega
    rw [e]
    simp [clqCells]

theorem clq_flat_set' (t : Clq) (l : List Clq) (sp : List Value) (k : Nat) (hk : k < l.length) :
    (((l.flatMap clqCells ++ sp).set (k * 2) (.int .i64 t.node)).set (k * 2 + 1) (.int .i64 t.env)) = (l.set k t).flatMap clqCells ++ sp := by
  have hl := clq_flat_length l
  rw [List.set_append_left _ _ (by first | omega | (simp only [List.length_set]; omega)), List.set_append_left _ _ (by first | omega | (simp only [List.length_set]; omega)), clq_flat_set t l k hk]

/-- A row that holds the cells, and perhaps more behind them, holds them. -/
theorem clq_of_row {w : World} {g : Nat} {e : TypeId} {l : List Clq} {sp : List Value} (h : w.heap[g]? = some (.cells (l.flatMap clqCells ++ sp).toArray e (0, 0))) : ClqAt w g l := by
  intro i hi
  have hl := clq_flat_length l
  have c : ∀ j, j < 2 → w.cell? ⟨g, i * 2 + j, none⟩ = (clqCells (l.getD i noClq))[j]? := fun j hj => by
    rw [cell_of_row w _ _ _ _ _ h, ← clq_flat_at l i j hi hj, List.getElem?_toArray, List.getElem?_append_left (by omega)]
  exact ⟨c 0 (by omega), c 1 (by omega)⟩

theorem clq_of_room {w : World} {g : Nat} {e : TypeId} {l : List Clq} (h : w.heap[g]? = some (.cells (l.flatMap clqCells).toArray e (0, 0))) : ClqAt w g l :=
  clq_of_row (sp := []) (by rw [List.append_nil]; exact h)

/-- A slice of the call's own holds these. -/
abbrev ownClq (w : World) (base : Nat) (v : Value) (ts : List Clq) : Prop := w.ownsRow base 61 2 v ts.length (ts.flatMap clqCells)

theorem ownClq_kept {w w' : World} {B N : Nat} {v : Value} {ts : List Clq} (h : ownClq w B v ts) (hb : Below N w w') (hN : w.heap.size ≤ N) : ownClq w' B v ts := by
  refine ⟨h.1, ?_⟩
  rcases h.2 with h0 | ⟨g, cap, cur, hv, hbg, hg, rest⟩
  · exact .inl h0
  · refine .inr ⟨g, cap, cur, hv, hbg, ?_, rest⟩
    have hlt : g < w.heap.size := (Array.getElem?_eq_some_iff.1 hg).1
    rw [hb.block g (by omega)]
    exact hg

theorem ownClq_base {w : World} {B B' : Nat} {v : Value} {ts : List Clq} (h : ownClq w B v ts) (hB : B' ≤ B) : ownClq w B' v ts := by
  refine ⟨h.1, ?_⟩
  rcases h.2 with h0 | ⟨g, cap, cur, hv, hbg, rest⟩
  · exact .inl h0
  · exact .inr ⟨g, cap, cur, hv, by omega, rest⟩

theorem ownClq_next {w : World} {B : Nat} {v : Value} {ts : List Clq} {m : Nat} {xs : List Value} (t : Clq) (h : w.ownsRow B 61 2 v m xs) (hn : m = ts.length + 1) (hx : xs = ts.flatMap clqCells ++ clqCells t) : ownClq w B v (ts ++ [t]) := by
  subst hn hx
  show w.ownsRow B 61 2 v (ts ++ [t]).length ((ts ++ [t]).flatMap clqCells)
  rw [List.length_append, List.flatMap_append]
  simpa using h

theorem ownClq_empty {w : World} {B : Nat} (hB : B ≤ w.heap.size) : ownClq (w.alloc (.cells #[] 61)) B (.slice (some ⟨w.heap.size, 0, none⟩) 0 0) [] :=
  World.ownsRow_lit w #[] 0 hB (by omega) rfl

/-- The form of a slice that holds such of the call's own. -/
theorem ownClq_form {w : World} {B : Nat} {v : Value} {ts : List Clq} (h : ownClq w B v ts) :
    ∃ (a : Option Addr) (g cap : Nat) (sp : List Value), v = .slice a ts.length cap ∧ (0 < ts.length → a = some ⟨g, 0, none⟩) ∧ ClqAt w g ts ∧ B ≤ g ∧ (0 < ts.length → g < w.heap.size) ∧
      (0 < ts.length → w.heap[g]? = some (.cells (ts.flatMap clqCells ++ sp).toArray 61 (0, 0))) := by
  rcases h.2 with ⟨rfl, h0⟩ | ⟨g, cap, cur, rfl, hb, hg, hn, hm, hs, ht⟩
  · rw [h0]
    have e : ts = [] := List.length_eq_zero_iff.1 h0
    subst e
    exact ⟨none, B, 0, [], rfl, fun h => absurd h (by omega), fun i hi => absurd hi (by simp), Nat.le_refl _, fun h => absurd h (by omega), fun h => absurd h (by omega)⟩
  · have hc : cur = (ts.flatMap clqCells ++ cur.toList.drop (ts.length * 2)).toArray := by
      apply Array.toList_inj.1
      rw [← ht]
      simp
    have hg' : w.heap[g]? = some (.cells (ts.flatMap clqCells ++ cur.toList.drop (ts.length * 2)).toArray 61 (0, 0)) := by rw [hg, ← hc]
    exact ⟨some ⟨g, 0, none⟩, g, cap, cur.toList.drop (ts.length * 2), rfl, fun _ => rfl, clq_of_row hg', hb, fun _ => (Array.getElem?_eq_some_iff.1 hg).1, fun _ => hg'⟩

theorem clq_new {w : World} {N : Nat} (hN : w.heap.size = N) (x0 : Int) (x1 : Int) (e : TypeId) :
    ∀ j u, (clqCells ⟨x0, x1⟩)[j]? = some u → (w.alloc (.cells #[.int .i64 x0, .int .i64 x1] e)).cell? ((⟨N, 0, none⟩ : Addr).add j) = some u := by
  subst hN
  intro j u hj
  have hl : j < 2 := by
    rcases Nat.lt_or_ge j 2 with h | h
    · exact h
    · rw [List.getElem?_eq_none (by simpa [clqCells] using h)] at hj; cases hj
  rw [add_plain, cell_of_row _ _ _ _ _ _ (MapKept.heap_alloc w _).1]
  rcases (by omega : j = 0 ∨ j = 1) with rfl | rfl <;> exact hj

theorem clq_one (t : Clq) : ∀ u ∈ clqCells t, u.oneCell' = true := by
  intro u hu
  simp [clqCells] at hu
  rcases hu with rfl | rfl <;> rfl

theorem info_clq : (Try.prog.info? 61).map (fun i => (i.zero, i.size, i.bytes)) = some (some (.agg #[.int .i64 0, .int .i64 0]), 2, 16) := by kernel_rfl
end Go.Proofs.Ythmfkbnfdheopaa
