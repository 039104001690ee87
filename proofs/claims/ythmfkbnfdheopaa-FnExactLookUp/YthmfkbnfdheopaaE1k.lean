/-
  EnvCell: a row of them as plain data and as cells of memory. Conditions: written at each theorem.
-/
import Derived.Test.YthmfkbnfdheopaaRows
import Derived.WalkKit
import Derived.ProofKit
import Derived.OpenShut
import Derived.ShutString
import Derived.WalkSpells
import Derived.Laws.OwnMore
import Derived.Below
namespace Go.Proofs.Ythmfkbnfdheopaa
open Go.ChangeShapes Go.WideShapes Go.ChangeAt Go.RowKit
set_option linter.unusedVariables false

structure Cel where
  node : Int
  role : Int
  vk : Int
  vn : Int
  next : Int

def noCel : Cel := ⟨0, 0, 0, 0, 0⟩

def celCells (t : Cel) : List Value := [.int .i64 t.node, .int .i64 t.role, .int .i64 t.vk, .int .i64 t.vn, .int .i64 t.next]
def celAgg (t : Cel) : Value := .agg #[.int .i64 t.node, .int .i64 t.role, .int .i64 t.vk, .int .i64 t.vn, .int .i64 t.next]

/-- The i-th one's cells lie in block g behind each other. -/
structure CelIn (w : World) (g i : Nat) (t : Cel) : Prop where
  c0 : w.cell? ⟨g, i * 5, none⟩ = some (.int .i64 t.node)
  c1 : w.cell? ⟨g, i * 5 + 1, none⟩ = some (.int .i64 t.role)
  c2 : w.cell? ⟨g, i * 5 + 2, none⟩ = some (.int .i64 t.vk)
  c3 : w.cell? ⟨g, i * 5 + 3, none⟩ = some (.int .i64 t.vn)
  c4 : w.cell? ⟨g, i * 5 + 4, none⟩ = some (.int .i64 t.next)

def CelAt (w : World) (g : Nat) (ts : List Cel) : Prop := ∀ i, i < ts.length → CelIn w g i (ts.getD i noCel)

theorem cel_lt {w : World} {a : Addr} {v : Value} (h : w.cell? a = some v) : a.block < w.heap.size := World.block_lt_of_cell? w a h

theorem CelIn.below {w w' : World} {g i B : Nat} {t : Cel} (h : CelIn w g i t) (hb : Below B w w') (hg : g < B) : CelIn w' g i t :=
  ⟨(World.cell?_of_block (hb.block g hg)).trans h.c0, (World.cell?_of_block (hb.block g hg)).trans h.c1, (World.cell?_of_block (hb.block g hg)).trans h.c2, (World.cell?_of_block (hb.block g hg)).trans h.c3, (World.cell?_of_block (hb.block g hg)).trans h.c4⟩

theorem CelAt.below {w w' : World} {g B : Nat} {ts : List Cel} (h : CelAt w g ts) (hb : Below B w w') (hg : 0 < ts.length → g < B) : CelAt w' g ts := fun i hi => (h i hi).below hb (hg (by omega))

theorem CelAt.lt {w : World} {g : Nat} {ts : List Cel} (h : CelAt w g ts) (hl : 0 < ts.length) : g < w.heap.size := cel_lt (h 0 hl).c0

theorem cel_flat_at (ts : List Cel) : ∀ (i j : Nat), i < ts.length → j < 5 → (ts.flatMap celCells)[i * 5 + j]? = (celCells (ts.getD i noCel))[j]? := by
  induction ts with
  | nil => intro i j h _; simp at h
  | cons t ts ih =>
    intro i j h hj
    rcases i with _ | i
    · rw [List.flatMap_cons, List.getElem?_append_left (by simp [celCells]; omega)]
      simp
    · rw [List.flatMap_cons, List.getElem?_append_right (by simp [celCells]; omega)]
      have e : (i + 1) * 5 + j - (celCells t).length = i * 5 + j := by simp [celCells]; omega
      rw [e, ih i j (by simpa using h) hj]
      rfl

theorem cel_flat_length (ts : List Cel) : (ts.flatMap celCells).length = ts.length * 5 := by
  induction ts with
  | nil => rfl
  | cons t ts ih => rw [List.flatMap_cons, List.length_append, ih]; simp [celCells]; omega

theorem cel_flat_set (t : Cel) : ∀ (l : List Cel) (k : Nat), k < l.length →
    ((((((l.flatMap celCells).set (k * 5) (.int .i64 t.node)).set (k * 5 + 1) (.int .i64 t.role)).set (k * 5 + 2) (.int .i64 t.vk)).set (k * 5 + 3) (.int .i64 t.vn)).set (k * 5 + 4) (.int .i64 t.next)) = (l.set k t).flatMap celCells
  | [], k, h => by simp at h
  | y :: l, 0, h => by simp [celCells]
  | y :: l, k + 1, h => by
    have ih := cel_flat_set t l k (by simpa using h)
    rw [List.set_cons_succ, List.flatMap_cons, List.flatMap_cons, ← ih]
    have e : (k + 1) * 5 = k * 5 + 5 := by omega
    rw [e]
    simp [celCells]

theorem cel_flat_set' (t : Cel) (l : List Cel) (sp : List Value) (k : Nat) (hk : k < l.length) :
    ((((((l.flatMap celCells ++ sp).set (k * 5) (.int .i64 t.node)).set (k * 5 + 1) (.int .i64 t.role)).set (k * 5 + 2) (.int .i64 t.vk)).set (k * 5 + 3) (.int .i64 t.vn)).set (k * 5 + 4) (.int .i64 t.next)) = (l.set k t).flatMap celCells ++ sp := by
  have hl := cel_flat_length l
  rw [List.set_append_left _ _ (by first | omega | (simp only [List.length_set]; omega)), List.set_append_left _ _ (by first | omega | (simp only [List.length_set]; omega)), List.set_append_left _ _ (by first | omega | (simp only [List.length_set]; omega)), List.set_append_left _ _ (by first | omega | (simp only [List.length_set]; omega)), List.set_append_left _ _ (by first | omega | (simp only [List.length_set]; omega)), cel_flat_set t l k hk]

/-- A row that holds the cells, and perhaps more behind them, holds them. -/
theorem cel_of_row {w : World} {g : Nat} {e : TypeId} {l : List Cel} {sp : List Value} (h : w.heap[g]? = some (.cells (l.flatMap celCells ++ sp).toArray e (0, 0))) : CelAt w g l := by
  intro i hi
  have hl := cel_flat_length l
  have c : ∀ j, j < 5 → w.cell? ⟨g, i * 5 + j, none⟩ = (celCells (l.getD i noCel))[j]? := fun j hj => by
    rw [cell_of_row w _ _ _ _ _ h, ← cel_flat_at l i j hi hj, List.getElem?_toArray, List.getElem?_append_left (by omega)]
  exact ⟨c 0 (by omega), c 1 (by omega), c 2 (by omega), c 3 (by omega), c 4 (by omega)⟩

theorem cel_of_room {w : World} {g : Nat} {e : TypeId} {l : List Cel} (h : w.heap[g]? = some (.cells (l.flatMap celCells).toArray e (0, 0))) : CelAt w g l :=
  cel_of_row (sp := []) (by rw [List.append_nil]; exact h)

/-- A slice of the call's own holds these. -/
abbrev ownCel (w : World) (base : Nat) (v : Value) (ts : List Cel) : Prop := w.ownsRow base 59 5 v ts.length (ts.flatMap celCells)

theorem ownCel_kept {w w' : World} {B N : Nat} {v : Value} {ts : List Cel} (h : ownCel w B v ts) (hb : Below N w w') (hN : w.heap.size ≤ N) : ownCel w' B v ts := by
  refine ⟨h.1, ?_⟩
  rcases h.2 with h0 | ⟨g, cap, cur, hv, hbg, hg, rest⟩
  · exact .inl h0
  · refine .inr ⟨g, cap, cur, hv, hbg, ?_, rest⟩
    have hlt : g < w.heap.size := (Array.getElem?_eq_some_iff.1 hg).1
    rw [hb.block g (by omega)]
    exact hg

theorem ownCel_base {w : World} {B B' : Nat} {v : Value} {ts : List Cel} (h : ownCel w B v ts) (hB : B' ≤ B) : ownCel w B' v ts := by
  refine ⟨h.1, ?_⟩
  rcases h.2 with h0 | ⟨g, cap, cur, hv, hbg, rest⟩
  · exact .inl h0
  · exact .inr ⟨g, cap, cur, hv, by omega, rest⟩

theorem ownCel_next {w : World} {B : Nat} {v : Value} {ts : List Cel} {m : Nat} {xs : List Value} (t : Cel) (h : w.ownsRow B 59 5 v m xs) (hn : m = ts.length + 1) (hx : xs = ts.flatMap celCells ++ celCells t) : ownCel w B v (ts ++ [t]) := by
  subst hn hx
  show w.ownsRow B 59 5 v (ts ++ [t]).length ((ts ++ [t]).flatMap celCells)
  rw [List.length_append, List.flatMap_append]
  simpa using h

theorem ownCel_empty {w : World} {B : Nat} (hB : B ≤ w.heap.size) : ownCel (w.alloc (.cells #[] 59)) B (.slice (some ⟨w.heap.size, 0, none⟩) 0 0) [] :=
  World.ownsRow_lit w #[] 0 hB (by omega) rfl

/-- The form of a slice that holds such of the call's own. -/
theorem ownCel_form {w : World} {B : Nat} {v : Value} {ts : List Cel} (h : ownCel w B v ts) :
    ∃ (a : Option Addr) (g cap : Nat) (sp : List Value), v = .slice a ts.length cap ∧ (0 < ts.length → a = some ⟨g, 0, none⟩) ∧ CelAt w g ts ∧ B ≤ g ∧ (0 < ts.length → g < w.heap.size) ∧
      (0 < ts.length → w.heap[g]? = some (.cells (ts.flatMap celCells ++ sp).toArray 59 (0, 0))) := by
  rcases h.2 with ⟨rfl, h0⟩ | ⟨g, cap, cur, rfl, hb, hg, hn, hm, hs, ht⟩
  · rw [h0]
    have e : ts = [] := List.length_eq_zero_iff.1 h0
    subst e
    exact ⟨none, B, 0, [], rfl, fun h => absurd h (by omega), fun i hi => absurd hi (by simp), Nat.le_refl _, fun h => absurd h (by omega), fun h => absurd h (by omega)⟩
  · have hc : cur = (ts.flatMap celCells ++ cur.toList.drop (ts.length * 5)).toArray := by
      apply Array.toList_inj.1
      rw [← ht]
      simp
    have hg' : w.heap[g]? = some (.cells (ts.flatMap celCells ++ cur.toList.drop (ts.length * 5)).toArray 59 (0, 0)) := by rw [hg, ← hc]
    exact ⟨some ⟨g, 0, none⟩, g, cap, cur.toList.drop (ts.length * 5), rfl, fun _ => rfl, cel_of_row hg', hb, fun _ => (Array.getElem?_eq_some_iff.1 hg).1, fun _ => hg'⟩

theorem cel_new {w : World} {N : Nat} (hN : w.heap.size = N) (x0 : Int) (x1 : Int) (x2 : Int) (x3 : Int) (x4 : Int) (e : TypeId) :
    ∀ j u, (celCells ⟨x0, x1, x2, x3, x4⟩)[j]? = some u → (w.alloc (.cells #[.int .i64 x0, .int .i64 x1, .int .i64 x2, .int .i64 x3, .int .i64 x4] e)).cell? ((⟨N, 0, none⟩ : Addr).add j) = some u := by
  subst hN
  intro j u hj
  have hl : j < 5 := by
    rcases Nat.lt_or_ge j 5 with h | h
    · exact h
    · rw [List.getElem?_eq_none (by simpa [celCells] using h)] at hj; cases hj
  rw [add_plain, cell_of_row _ _ _ _ _ _ (MapKept.heap_alloc w _).1]
  rcases (by omega : j = 0 ∨ j = 1 ∨ j = 2 ∨ j = 3 ∨ j = 4) with rfl | rfl | rfl | rfl | rfl <;> exact hj

theorem cel_one (t : Cel) : ∀ u ∈ celCells t, u.oneCell' = true := by
  intro u hu
  simp [celCells] at hu
  rcases hu with rfl | rfl | rfl | rfl | rfl <;> rfl

theorem info_cel : (Try.prog.info? 59).map (fun i => (i.zero, i.size, i.bytes)) = some (some (.agg #[.int .i64 0, .int .i64 0, .int .i64 0, .int .i64 0, .int .i64 0]), 5, 40) := by kernel_rfl
end Go.Proofs.Ythmfkbnfdheopaa
