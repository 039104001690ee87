/-
  Type: a row of them as plain data and as cells of memory. Conditions: written at each theorem.
-/
import Derived.Test.YtjjanmccijghgaaDoorRows
import Derived.WalkKit
import Derived.ProofKit
import Derived.OpenShut
import Derived.ShutString
import Derived.WalkSpells
import Derived.Laws.OwnMore
import Derived.Below
namespace Go.Proofs.YtjjanmccijghgaaDoor
open Go.ChangeShapes Go.WideShapes Go.ChangeAt Go.RowKit
set_option linter.unusedVariables false

structure Typ where
  kind : Int
  a : Int
  b : Int

def noTyp : Typ := ⟨0, 0, 0⟩

def typCells (t : Typ) : List Value := [.int .i64 t.kind, .int .i64 t.a, .int .i64 t.b]
def typAgg (t : Typ) : Value := .agg #[.int .i64 t.kind, .int .i64 t.a, .int .i64 t.b]

/-- The i-th one's cells lie in block g behind each other. -/
structure TypIn (w : World) (g i : Nat) (t : Typ) : Prop where
  c0 : w.cell? ⟨g, i * 3, none⟩ = some (.int .i64 t.kind)
  c1 : w.cell? ⟨g, i * 3 + 1, none⟩ = some (.int .i64 t.a)
  c2 : w.cell? ⟨g, i * 3 + 2, none⟩ = some (.int .i64 t.b)

def TypAt (w : World) (g : Nat) (ts : List Typ) : Prop := ∀ i, i < ts.length → TypIn w g i (ts.getD i noTyp)

theorem typ_lt {w : World} {a : Addr} {v : Value} (h : w.cell? a = some v) : a.block < w.heap.size := World.block_lt_of_cell? w a h

theorem TypIn.below {w w' : World} {g i B : Nat} {t : Typ} (h : TypIn w g i t) (hb : Below B w w') (hg : g < B) : TypIn w' g i t :=
  ⟨(World.cell?_of_block (hb.block g hg)).trans h.c0, (World.cell?_of_block (hb.block g hg)).trans h.c1, (World.cell?_of_block (hb.block g hg)).trans h.c2⟩

theorem TypAt.below {w w' : World} {g B : Nat} {ts : List Typ} (h : TypAt w g ts) (hb : Below B w w') (hg : 0 < ts.length → g < B) : TypAt w' g ts := fun i hi => (h i hi).below hb (hg (by omega))

theorem TypAt.lt {w : World} {g : Nat} {ts : List Typ} (h : TypAt w g ts) (hl : 0 < ts.length) : g < w.heap.size := typ_lt (h 0 hl).c0

theorem typ_flat_at (ts : List Typ) : ∀ (i j : Nat), i < ts.length → j < 3 → (ts.flatMap typCells)[i * 3 + j]? = (typCells (ts.getD i noTyp))[j]? := by
  induction ts with
  | nil => intro i j h _; simp at h
  | cons t ts ih =>
    intro i j h hj
    rcases i with _ | i
    · rw [List.flatMap_cons, List.getElem?_append_left (by simp [typCells]; omega)]
      simp
    · rw [List.flatMap_cons, List.getElem?_append_right (by simp [typCells]; omega)]
      have e : (i + 1) * 3 + j - (typCells t).length = i * 3 + j := by simp [typCells]; omega
      rw [e, ih i j (by simpa using h) hj]
      rfl

theorem typ_flat_length (ts : List Typ) : (ts.flatMap typCells).length = ts.length * 3 := by
  induction ts with
  | nil => rfl
  | cons t ts ih => rw [List.flatMap_cons, List.length_append, ih]; simp [typCells]; omega

theorem typ_flat_set (t : Typ) : ∀ (l : List Typ) (k : Nat), k < l.length →
    ((((l.flatMap typCells).set (k * 3) (.int .i64 t.kind)).set (k * 3 + 1) (.int .i64 t.a)).set (k * 3 + 2) (.int .i64 t.b)) = (l.set k t).flatMap typCells
  | [], k, h => by simp at h
  | y :: l, 0, h => by simp [typCells]
  | y :: l, k + 1, h => by
    have ih := typ_flat_set t l k (by simpa using h)
    rw [List.set_cons_succ, List.flatMap_cons, List.flatMap_cons, ← ih]
    have e : (k + 1) * 3 = k * 3 + 3 := by omega
    rw [e]
    simp [typCells]

theorem typ_flat_set' (t : Typ) (l : List Typ) (sp : List Value) (k : Nat) (hk : k < l.length) :
    ((((l.flatMap typCells ++ sp).set (k * 3) (.int .i64 t.kind)).set (k * 3 + 1) (.int .i64 t.a)).set (k * 3 + 2) (.int .i64 t.b)) = (l.set k t).flatMap typCells ++ sp := by
  have hl := typ_flat_length l
  rw [List.set_append_left _ _ (by first | omega | (simp only [List.length_set]; omega)), List.set_append_left _ _ (by first | omega | (simp only [List.length_set]; omega)), List.set_append_left _ _ (by first | omega | (simp only [List.length_set]; omega)), typ_flat_set t l k hk]

/-- A row that holds the cells, and perhaps more behind them, holds them. -/
theorem typ_of_row {w : World} {g : Nat} {e : TypeId} {l : List Typ} {sp : List Value} (h : w.heap[g]? = some (.cells (l.flatMap typCells ++ sp).toArray e (0, 0))) : TypAt w g l := by
  intro i hi
  have hl := typ_flat_length l
  have c : ∀ j, j < 3 → w.cell? ⟨g, i * 3 + j, none⟩ = (typCells (l.getD i noTyp))[j]? := fun j hj => by
    rw [cell_of_row w _ _ _ _ _ h, ← typ_flat_at l i j hi hj, List.getElem?_toArray, List.getElem?_append_left (by omega)]
  exact ⟨c 0 (by omega), c 1 (by omega), c 2 (by omega)⟩

theorem typ_of_room {w : World} {g : Nat} {e : TypeId} {l : List Typ} (h : w.heap[g]? = some (.cells (l.flatMap typCells).toArray e (0, 0))) : TypAt w g l :=
  typ_of_row (sp := []) (by rw [List.append_nil]; exact h)

/-- A slice of the call's own holds these. -/
abbrev ownTyp (w : World) (base : Nat) (v : Value) (ts : List Typ) : Prop := w.ownsRow base 35 3 v ts.length (ts.flatMap typCells)

theorem ownTyp_kept {w w' : World} {B N : Nat} {v : Value} {ts : List Typ} (h : ownTyp w B v ts) (hb : Below N w w') (hN : w.heap.size ≤ N) : ownTyp w' B v ts := by
  refine ⟨h.1, ?_⟩
  rcases h.2 with h0 | ⟨g, cap, cur, hv, hbg, hg, rest⟩
  · exact .inl h0
  · refine .inr ⟨g, cap, cur, hv, hbg, ?_, rest⟩
    have hlt : g < w.heap.size := (Array.getElem?_eq_some_iff.1 hg).1
    rw [hb.block g (by omega)]
    exact hg

theorem ownTyp_base {w : World} {B B' : Nat} {v : Value} {ts : List Typ} (h : ownTyp w B v ts) (hB : B' ≤ B) : ownTyp w B' v ts := by
  refine ⟨h.1, ?_⟩
  rcases h.2 with h0 | ⟨g, cap, cur, hv, hbg, rest⟩
  · exact .inl h0
  · exact .inr ⟨g, cap, cur, hv, by omega, rest⟩

theorem ownTyp_next {w : World} {B : Nat} {v : Value} {ts : List Typ} {m : Nat} {xs : List Value} (t : Typ) (h : w.ownsRow B 35 3 v m xs) (hn : m = ts.length + 1) (hx : xs = ts.flatMap typCells ++ typCells t) : ownTyp w B v (ts ++ [t]) := by
  subst hn hx
  show w.ownsRow B 35 3 v (ts ++ [t]).length ((ts ++ [t]).flatMap typCells)
  rw [List.length_append, List.flatMap_append]
  simpa using h

theorem ownTyp_empty {w : World} {B : Nat} (hB : B ≤ w.heap.size) : ownTyp (w.alloc (.cells #[] 35)) B (.slice (some ⟨w.heap.size, 0, none⟩) 0 0) [] :=
  World.ownsRow_lit w #[] 0 hB (by omega) rfl

/-- The form of a slice that holds such of the call's own. -/
theorem ownTyp_form {w : World} {B : Nat} {v : Value} {ts : List Typ} (h : ownTyp w B v ts) :
    ∃ (a : Option Addr) (g cap : Nat) (sp : List Value), v = .slice a ts.length cap ∧ (0 < ts.length → a = some ⟨g, 0, none⟩) ∧ TypAt w g ts ∧ B ≤ g ∧ (0 < ts.length → g < w.heap.size) ∧
      (0 < ts.length → w.heap[g]? = some (.cells (ts.flatMap typCells ++ sp).toArray 35 (0, 0))) := by
  rcases h.2 with ⟨rfl, h0⟩ | ⟨g, cap, cur, rfl, hb, hg, hn, hm, hs, ht⟩
  · rw [h0]
    have e : ts = [] := List.length_eq_zero_iff.1 h0
    subst e
    exact ⟨none, B, 0, [], rfl, fun h => absurd h (by omega), fun i hi => absurd hi (by simp), Nat.le_refl _, fun h => absurd h (by omega), fun h => absurd h (by omega)⟩
  · have hc : cur = (ts.flatMap typCells ++ cur.toList.drop (ts.length * 3)).toArray := by
      apply Array.toList_inj.1
      rw [← ht]
      simp
    have hg' : w.heap[g]? = some (.cells (ts.flatMap typCells ++ cur.toList.drop (ts.length * 3)).toArray 35 (0, 0)) := by rw [hg, ← hc]
    exact ⟨some ⟨g, 0, none⟩, g, cap, cur.toList.drop (ts.length * 3), rfl, fun _ => rfl, typ_of_row hg', hb, fun _ => (Array.getElem?_eq_some_iff.1 hg).1, fun _ => hg'⟩

theorem typ_new {w : World} {N : Nat} (hN : w.heap.size = N) (x0 : Int) (x1 : Int) (x2 : Int) (e : TypeId) :
    ∀ j u, (typCells ⟨x0, x1, x2⟩)[j]? = some u → (w.alloc (.cells #[.int .i64 x0, .int .i64 x1, .int .i64 x2] e)).cell? ((⟨N, 0, none⟩ : Addr).add j) = some u := by
  subst hN
  intro j u hj
  have hl : j < 3 := by
    rcases Nat.lt_or_ge j 3 with h | h
    · exact h
    · rw [List.getElem?_eq_none (by simpa [typCells] using h)] at hj; cases hj
  rw [add_plain, cell_of_row _ _ _ _ _ _ (MapKept.heap_alloc w _).1]
  rcases (by omega : j = 0 ∨ j = 1 ∨ j = 2) with rfl | rfl | rfl <;> exact hj

theorem typ_one (t : Typ) : ∀ u ∈ typCells t, u.oneCell' = true := by
  intro u hu
  simp [typCells] at hu
  rcases hu with rfl | rfl | rfl <;> rfl

theorem info_typ : (Tryd.prog.info? 35).map (fun i => (i.zero, i.size, i.bytes)) = some (some (.agg #[.int .i64 0, .int .i64 0, .int .i64 0]), 3, 24) := by kernel_rfl
end Go.Proofs.YtjjanmccijghgaaDoor
