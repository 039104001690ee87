/-
  Two: a row of them as plain data and as cells of memory. Conditions: written at each theorem.
-/
import Derived.Test.YthmfkbnfdheopaaRows
import Derived.WalkKit
import Derived.ProofKit
import Derived.OpenShut
import Derived.ShutString
import Derived.WalkSpells
import Derived.Laws.OwnMore
import Derived.Below
namespace Go.Proofs.Ythmfkbnfdheopaa
open Go.ChangeShapes Go.WideShapes Go.ChangeAt Go.RowKit
set_option linter.unusedVariables false

structure Tw where
  ak : Int
  an : Int
  bk : Int
  bn : Int

def noTw : Tw := ⟨0, 0, 0, 0⟩

def twCells (t : Tw) : List Value := [.int .i64 t.ak, .int .i64 t.an, .int .i64 t.bk, .int .i64 t.bn]
def twAgg (t : Tw) : Value := .agg #[.int .i64 t.ak, .int .i64 t.an, .int .i64 t.bk, .int .i64 t.bn]

/-- The i-th one's cells lie in block g behind each other. -/
structure TwIn (w : World) (g i : Nat) (t : Tw) : Prop where
  c0 : w.cell? ⟨g, i * 4, none⟩ = some (.int .i64 t.ak)
  c1 : w.cell? ⟨g, i * 4 + 1, none⟩ = some (.int .i64 t.an)
  c2 : w.cell? ⟨g, i * 4 + 2, none⟩ = some (.int .i64 t.bk)
  c3 : w.cell? ⟨g, i * 4 + 3, none⟩ = some (.int .i64 t.bn)

def TwAt (w : World) (g : Nat) (ts : List Tw) : Prop := ∀ i, i < ts.length → TwIn w g i (ts.getD i noTw)

theorem tw_lt {w : World} {a : Addr} {v : Value} (h : w.cell? a = some v) : a.block < w.heap.size := World.block_lt_of_cell? w a h

theorem TwIn.below {w w' : World} {g i B : Nat} {t : Tw} (h : TwIn w g i t) (hb : Below B w w') (hg : g < B) : TwIn w' g i t :=
  ⟨(World.cell?_of_block (hb.block g hg)).trans h.c0, (World.cell?_of_block (hb.block g hg)).trans h.c1, (World.cell?_of_block (hb.block g hg)).trans h.c2, (World.cell?_of_block (hb.block g hg)).trans h.c3⟩

theorem TwAt.below {w w' : World} {g B : Nat} {ts : List Tw} (h : TwAt w g ts) (hb : Below B w w') (hg : 0 < ts.length → g < B) : TwAt w' g ts := fun i hi => (h i hi).below hb (hg (by omega))

theorem TwAt.lt {w : World} {g : Nat} {ts : List Tw} (h : TwAt w g ts) (hl : 0 < ts.length) : g < w.heap.size := tw_lt (h 0 hl).c0

theorem tw_flat_at (ts : List Tw) : ∀ (i j : Nat), i < ts.length → j < 4 → (ts.flatMap twCells)[i * 4 + j]? = (twCells (ts.getD i noTw))[j]? := by
  induction ts with
  | nil => intro i j h _; simp at h
  | cons t ts ih =>
    intro i j h hj
    rcases i with _ | i
    · rw [List.flatMap_cons, List.getElem?_append_left (by simp [twCells]; omega)]
      simp
    · rw [List.flatMap_cons, List.getElem?_append_right (by simp [twCells]; omega)]
      have e : (i + 1) * 4 + j - (twCells t).length = i * 4 + j := by simp [twCells]; omega
      rw [e, ih i j (by simpa using h) hj]
      rfl

theorem tw_flat_length (ts : List Tw) : (ts.flatMap twCells).length = ts.length * 4 := by
  induction ts with
  | nil => rfl
  | cons t ts ih => rw [List.flatMap_cons, List.length_append, ih]; simp [twCells]; omega

theorem tw_flat_set (t : Tw) : ∀ (l : List Tw) (k : Nat), k < l.length →
    (((((l.flatMap twCells).set (k * 4) (.int .i64 t.ak)).set (k * 4 + 1) (.int .i64 t.an)).set (k * 4 + 2) (.int .i64 t.bk)).set (k * 4 + 3) (.int .i64 t.bn)) = (l.set k t).flatMap twCells
  | [], k, h => by simp at h
  | y :: l, 0, h => by simp [twCells]
  | y :: l, k + 1, h => by
    have ih := tw_flat_set t l k (by simpa using h)
    rw [List.set_cons_succ, List.flatMap_cons, List.flatMap_cons, ← ih]
    have e : (k + 1) * 4 = k * 4 + 4 := by omega
    rw [e]
    simp [twCells]

theorem tw_flat_set' (t : Tw) (l : List Tw) (sp : List Value) (k : Nat) (hk : k < l.length) :
    (((((l.flatMap twCells ++ sp).set (k * 4) (.int .i64 t.ak)).set (k * 4 + 1) (.int .i64 t.an)).set (k * 4 + 2) (.int .i64 t.bk)).set (k * 4 + 3) (.int .i64 t.bn)) = (l.set k t).flatMap twCells ++ sp := by
  have hl := tw_flat_length l
  rw [List.set_append_left _ _ (by first | omega | (simp only [List.length_set]; omega)), List.set_append_left _ _ (by first | omega | (simp only [List.length_set]; omega)), List.set_append_left _ _ (by first | omega | (simp only [List.length_set]; omega)), List.set_append_left _ _ (by first | omega | (simp only [List.length_set]; omega)), tw_flat_set t l k hk]

/-- A row that holds the cells, and perhaps more behind them, holds them. -/
theorem tw_of_row {w : World} {g : Nat} {e : TypeId} {l : List Tw} {sp : List Value} (h : w.heap[g]? = some (.cells (l.flatMap twCells ++ sp).toArray e (0, 0))) : TwAt w g l := by
  intro i hi
  have hl := tw_flat_length l
  have c : ∀ j, j < 4 → w.cell? ⟨g, i * 4 + j, none⟩ = (twCells (l.getD i noTw))[j]? := fun j hj => by
    rw [cell_of_row w _ _ _ _ _ h, ← tw_flat_at l i j hi hj, List.getElem?_toArray, List.getElem?_append_left (by omega)]
  exact ⟨c 0 (by omega), c 1 (by omega), c 2 (by omega), c 3 (by omega)⟩

theorem tw_of_room {w : World} {g : Nat} {e : TypeId} {l : List Tw} (h : w.heap[g]? = some (.cells (l.flatMap twCells).toArray e (0, 0))) : TwAt w g l :=
  tw_of_row (sp := []) (by rw [List.append_nil]; exact h)

/-- A slice of the call's own holds these. -/
abbrev ownTw (w : World) (base : Nat) (v : Value) (ts : List Tw) : Prop := w.ownsRow base 63 4 v ts.length (ts.flatMap twCells)

theorem ownTw_kept {w w' : World} {B N : Nat} {v : Value} {ts : List Tw} (h : ownTw w B v ts) (hb : Below N w w') (hN : w.heap.size ≤ N) : ownTw w' B v ts := by
  refine ⟨h.1, ?_⟩
  rcases h.2 with h0 | ⟨g, cap, cur, hv, hbg, hg, rest⟩
  · exact .inl h0
  · refine .inr ⟨g, cap, cur, hv, hbg, ?_, rest⟩
    have hlt : g < w.heap.size := (Array.getElem?_eq_some_iff.1 hg).1
    rw [hb.block g (by omega)]
    exact hg

theorem ownTw_base {w : World} {B B' : Nat} {v : Value} {ts : List Tw} (h : ownTw w B v ts) (hB : B' ≤ B) : ownTw w B' v ts := by
  refine ⟨h.1, ?_⟩
  rcases h.2 with h0 | ⟨g, cap, cur, hv, hbg, rest⟩
  · exact .inl h0
  · exact .inr ⟨g, cap, cur, hv, by omega, rest⟩

theorem ownTw_next {w : World} {B : Nat} {v : Value} {ts : List Tw} {m : Nat} {xs : List Value} (t : Tw) (h : w.ownsRow B 63 4 v m xs) (hn : m = ts.length + 1) (hx : xs = ts.flatMap twCells ++ twCells t) : ownTw w B v (ts ++ [t]) := by
  subst hn hx
  show w.ownsRow B 63 4 v (ts ++ [t]).length ((ts ++ [t]).flatMap twCells)
  rw [List.length_append, List.flatMap_append]
  simpa using h

theorem ownTw_empty {w : World} {B : Nat} (hB : B ≤ w.heap.size) : ownTw (w.alloc (.cells #[] 63)) B (.slice (some ⟨w.heap.size, 0, none⟩) 0 0) [] :=
  World.ownsRow_lit w #[] 0 hB (by omega) rfl

/-- The form of a slice that holds such of the call's own. -/
theorem ownTw_form {w : World} {B : Nat} {v : Value} {ts : List Tw} (h : ownTw w B v ts) :
    ∃ (a : Option Addr) (g cap : Nat) (sp : List Value), v = .slice a ts.length cap ∧ (0 < ts.length → a = some ⟨g, 0, none⟩) ∧ TwAt w g ts ∧ B ≤ g ∧ (0 < ts.length → g < w.heap.size) ∧
      (0 < ts.length → w.heap[g]? = some (.cells (ts.flatMap twCells ++ sp).toArray 63 (0, 0))) := by
  rcases h.2 with ⟨rfl, h0⟩ | ⟨g, cap, cur, rfl, hb, hg, hn, hm, hs, ht⟩
  · rw [h0]
    have e : ts = [] := List.length_eq_zero_iff.1 h0
    subst e
    exact ⟨none, B, 0, [], rfl, fun h => absurd h (by omega), fun i hi => absurd hi (by simp), Nat.le_refl _, fun h => absurd h (by omega), fun h => absurd h (by omega)⟩
  · have hc : cur = (ts.flatMap twCells ++ cur.toList.drop (ts.length * 4)).toArray := by
      apply Array.toList_inj.1
      rw [← ht]
      simp
    have hg' : w.heap[g]? = some (.cells (ts.flatMap twCells ++ cur.toList.drop (ts.length * 4)).toArray 63 (0, 0)) := by rw [hg, ← hc]
    exact ⟨some ⟨g, 0, none⟩, g, cap, cur.toList.drop (ts.length * 4), rfl, fun _ => rfl, tw_of_row hg', hb, fun _ => (Array.getElem?_eq_some_iff.1 hg).1, fun _ => hg'⟩

theorem tw_new {w : World} {N : Nat} (hN : w.heap.size = N) (x0 : Int) (x1 : Int) (x2 : Int) (x3 : Int) (e : TypeId) :
    ∀ j u, (twCells ⟨x0, x1, x2, x3⟩)[j]? = some u → (w.alloc (.cells #[.int .i64 x0, .int .i64 x1, .int .i64 x2, .int .i64 x3] e)).cell? ((⟨N, 0, none⟩ : Addr).add j) = some u := by
  subst hN
  intro j u hj
  have hl : j < 4 := by
    rcases Nat.lt_or_ge j 4 with h | h
    · exact h
    · rw [List.getElem?_eq_none (by simpa [twCells] using h)] at hj; cases hj
  rw [add_plain, cell_of_row _ _ _ _ _ _ (MapKept.heap_alloc w _).1]
  rcases (by omega : j = 0 ∨ j = 1 ∨ j = 2 ∨ j = 3) with rfl | rfl | rfl | rfl <;> exact hj

theorem tw_one (t : Tw) : ∀ u ∈ twCells t, u.oneCell' = true := by
  intro u hu
  simp [twCells] at hu
  rcases hu with rfl | rfl | rfl | rfl <;> rfl

theorem info_tw : (Try.prog.info? 63).map (fun i => (i.zero, i.size, i.bytes)) = some (some (.agg #[.int .i64 0, .int .i64 0, .int .i64 0, .int .i64 0]), 4, 32) := by kernel_rfl
end Go.Proofs.Ythmfkbnfdheopaa
