/-
  Node: a row of them as plain data and as cells of memory. Conditions: written at each theorem.
-/
import Derived.Test.YtjjanmccijghgaaRows
import Derived.WalkKit
import Derived.ProofKit
import Derived.OpenShut
import Derived.ShutString
import Derived.WalkSpells
import Derived.Laws.OwnMore
import Derived.Below
namespace Go.Proofs.Ytjjanmccijghgaa
open Go.ChangeShapes Go.WideShapes Go.ChangeAt Go.RowKit
set_option linter.unusedVariables false

structure Nod where
  kind : Int
  a : Int
  b : Int
  c : Int
  n : Int
  name : ByteArray
  other : ByteArray

def noNod : Nod := ⟨0, 0, 0, 0, 0, ByteArray.empty, ByteArray.empty⟩

def nodCells (t : Nod) : List Value := [.int .i64 t.kind, .int .i64 t.a, .int .i64 t.b, .int .i64 t.c, .int .i64 t.n, .string t.name, .string t.other]
def nodAgg (t : Nod) : Value := .agg #[.int .i64 t.kind, .int .i64 t.a, .int .i64 t.b, .int .i64 t.c, .int .i64 t.n, .string t.name, .string t.other]

/-- The i-th one's cells lie in block g behind each other. -/
structure NodIn (w : World) (g i : Nat) (t : Nod) : Prop where
  c0 : w.cell? ⟨g, i * 7, none⟩ = some (.int .i64 t.kind)
  c1 : w.cell? ⟨g, i * 7 + 1, none⟩ = some (.int .i64 t.a)
  c2 : w.cell? ⟨g, i * 7 + 2, none⟩ = some (.int .i64 t.b)
  c3 : w.cell? ⟨g, i * 7 + 3, none⟩ = some (.int .i64 t.c)
  c4 : w.cell? ⟨g, i * 7 + 4, none⟩ = some (.int .i64 t.n)
  c5 : w.cell? ⟨g, i * 7 + 5, none⟩ = some (.string t.name)
  c6 : w.cell? ⟨g, i * 7 + 6, none⟩ = some (.string t.other)

def NodAt (w : World) (g : Nat) (ts : List Nod) : Prop := ∀ i, i < ts.length → NodIn w g i (ts.getD i noNod)

theorem nod_lt {w : World} {a : Addr} {v : Value} (h : w.cell? a = some v) : a.block < w.heap.size := World.block_lt_of_cell? w a h

theorem NodIn.below {w w' : World} {g i B : Nat} {t : Nod} (h : NodIn w g i t) (hb : Below B w w') (hg : g < B) : NodIn w' g i t :=
  ⟨(World.cell?_of_block (hb.block g hg)).trans h.c0, (World.cell?_of_block (hb.block g hg)).trans h.c1, (World.cell?_of_block (hb.block g hg)).trans h.c2, (World.cell?_of_block (hb.block g hg)).trans h.c3, (World.cell?_of_block (hb.block g hg)).trans h.c4, (World.cell?_of_block (hb.block g hg)).trans h.c5, (World.cell?_of_block (hb.block g hg)).trans h.c6⟩

theorem NodAt.below {w w' : World} {g B : Nat} {ts : List Nod} (h : NodAt w g ts) (hb : Below B w w') (hg : 0 < ts.length → g < B) : NodAt w' g ts := fun i hi => (h i hi).below hb (hg (by omega))

theorem NodAt.lt {w : World} {g : Nat} {ts : List Nod} (h : NodAt w g ts) (hl : 0 < ts.length) : g < w.heap.size := nod_lt (h 0 hl).c0

theorem nod_flat_at (ts : List Nod) : ∀ (i j : Nat), i < ts.length → j < 7 → (ts.flatMap nodCells)[i * 7 + j]? = (nodCells (ts.getD i noNod))[j]? := by
  induction ts with
  | nil => intro i j h _; simp at h
  | cons t ts ih =>
    intro i j h hj
    rcases i with _ | i
    · rw [List.flatMap_cons, List.getElem?_append_left (by simp [nodCells]; omega)]
      simp
    · rw [List.flatMap_cons, List.getElem?_append_right (by simp [nodCells]; omega)]
      have e : (i + 1) * 7 + j - (nodCells t).length = i * 7 + j := by simp [nodCells]; omega
      rw [e, ih i j (by simpa using h) hj]
      rfl

theorem nod_flat_length (ts : List Nod) : (ts.flatMap nodCells).length = ts.length * 7 := by
  induction ts with
  | nil => rfl
  | cons t ts ih => rw [List.flatMap_cons, List.length_append, ih]; simp [nodCells]; omega

theorem nod_flat_set (t : Nod) : ∀ (l : List Nod) (k : Nat), k < l.length →
    ((((((((l.flatMap nodCells).set (k * 7) (.int .i64 t.kind)).set (k * 7 + 1) (.int .i64 t.a)).set (k * 7 + 2) (.int .i64 t.b)).set (k * 7 + 3) (.int .i64 t.c)).set (k * 7 + 4) (.int .i64 t.n)).set (k * 7 + 5) (.string t.name)).set (k * 7 + 6) (.string t.other)) = (l.set k t).flatMap nodCells
  | [], k, h => by simp at h
  | y :: l, 0, h => by simp [nodCells]
  | y :: l, k + 1, h => by
    have ih := nod_flat_set t l k (by simpa using h)
    rw [List.set_cons_succ, List.flatMap_cons, List.flatMap_cons, ← ih]
    have e : (k + 1) * 7 = k * 7 + 7 := by omega
    rw [e]
    simp [nodCells]

theorem nod_flat_set' (t : Nod) (l : List Nod) (sp : List Value) (k : Nat) (hk : k < l.length) :
    ((((((((l.flatMap nodCells ++ sp).set (k * 7) (.int .i64 t.kind)).set (k * 7 + 1) (.int .i64 t.a)).set (k * 7 + 2) (.int .i64 t.b)).set (k * 7 + 3) (.int .i64 t.c)).set (k * 7 + 4) (.int .i64 t.n)).set (k * 7 + 5) (.string t.name)).set (k * 7 + 6) (.string t.other)) = (l.set k t).flatMap nodCells ++ sp := by
  have hl := nod_flat_length l
  rw [List.set_append_left _ _ (by first | omega | (simp only [List.length_set]; omega)), List.set_append_left _ _ (by first | omega | (simp only [List.length_set]; omega)), List.set_append_left _ _ (by first | omega | (simp only [List.length_set]; omega)), List.set_append_left _ _ (by first | omega | (simp only [List.length_set]; omega)), List.set_append_left _ _ (by first | omega | (simp only [List.length_set]; omega)), List.set_append_left _ _ (by first | omega | (simp only [List.length_set]; omega)), List.set_append_left _ _ (by first | omega | (simp only [List.length_set]; omega)), nod_flat_set t l k hk]

/-- A row that holds the cells, and perhaps more behind them, holds them. -/
theorem nod_of_row {w : World} {g : Nat} {e : TypeId} {l : List Nod} {sp : List Value} (h : w.heap[g]? = some (.cells (l.flatMap nodCells ++ sp).toArray e (0, 0))) : NodAt w g l := by
  intro i hi
  have hl := nod_flat_length l
  have c : ∀ j, j < 7 → w.cell? ⟨g, i * 7 + j, none⟩ = (nodCells (l.getD i noNod))[j]? := fun j hj => by
    rw [cell_of_row w _ _ _ _ _ h, ← nod_flat_at l i j hi hj, List.getElem?_toArray, List.getElem?_append_left (by omega)]
  exact ⟨c 0 (by omega), c 1 (by omega), c 2 (by omega), c 3 (by omega), c 4 (by omega), c 5 (by omega), c 6 (by omega)⟩

theorem nod_of_room {w : World} {g : Nat} {e : TypeId} {l : List Nod} (h : w.heap[g]? = some (.cells (l.flatMap nodCells).toArray e (0, 0))) : NodAt w g l :=
  nod_of_row (sp := []) (by rw [List.append_nil]; exact h)

/-- A slice of the call's own holds these. -/
abbrev ownNod (w : World) (base : Nat) (v : Value) (ts : List Nod) : Prop := w.ownsRow base 34 7 v ts.length (ts.flatMap nodCells)

theorem ownNod_kept {w w' : World} {B N : Nat} {v : Value} {ts : List Nod} (h : ownNod w B v ts) (hb : Below N w w') (hN : w.heap.size ≤ N) : ownNod w' B v ts := by
  refine ⟨h.1, ?_⟩
  rcases h.2 with h0 | ⟨g, cap, cur, hv, hbg, hg, rest⟩
  · exact .inl h0
  · refine .inr ⟨g, cap, cur, hv, hbg, ?_, rest⟩
    have hlt : g < w.heap.size := (Array.getElem?_eq_some_iff.1 hg).1
    rw [hb.block g (by omega)]
    exact hg

theorem ownNod_base {w : World} {B B' : Nat} {v : Value} {ts : List Nod} (h : ownNod w B v ts) (hB : B' ≤ B) : ownNod w B' v ts := by
  refine ⟨h.1, ?_⟩
  rcases h.2 with h0 | ⟨g, cap, cur, hv, hbg, rest⟩
  · exact .inl h0
  · exact .inr ⟨g, cap, cur, hv, by omega, rest⟩

theorem ownNod_next {w : World} {B : Nat} {v : Value} {ts : List Nod} {m : Nat} {xs : List Value} (t : Nod) (h : w.ownsRow B 34 7 v m xs) (hn : m = ts.length + 1) (hx : xs = ts.flatMap nodCells ++ nodCells t) : ownNod w B v (ts ++ [t]) := by
  subst hn hx
  show w.ownsRow B 34 7 v (ts ++ [t]).length ((ts ++ [t]).flatMap nodCells)
  rw [List.length_append, List.flatMap_append]
  simpa using h

theorem ownNod_empty {w : World} {B : Nat} (hB : B ≤ w.heap.size) : ownNod (w.alloc (.cells #[] 34)) B (.slice (some ⟨w.heap.size, 0, none⟩) 0 0) [] :=
  World.ownsRow_lit w #[] 0 hB (by omega) rfl

/-- The form of a slice that holds such of the call's own. -/
theorem ownNod_form {w : World} {B : Nat} {v : Value} {ts : List Nod} (h : ownNod w B v ts) :
    ∃ (a : Option Addr) (g cap : Nat) (sp : List Value), v = .slice a ts.length cap ∧ (0 < ts.length → a = some ⟨g, 0, none⟩) ∧ NodAt w g ts ∧ B ≤ g ∧ (0 < ts.length → g < w.heap.size) ∧
      (0 < ts.length → w.heap[g]? = some (.cells (ts.flatMap nodCells ++ sp).toArray 34 (0, 0))) := by
  rcases h.2 with ⟨rfl, h0⟩ | ⟨g, cap, cur, rfl, hb, hg, hn, hm, hs, ht⟩
  · rw [h0]
    have e : ts = [] := List.length_eq_zero_iff.1 h0
    subst e
    exact ⟨none, B, 0, [], rfl, fun h => absurd h (by omega), fun i hi => absurd hi (by simp), Nat.le_refl _, fun h => absurd h (by omega), fun h => absurd h (by omega)⟩
  · have hc : cur = (ts.flatMap nodCells ++ cur.toList.drop (ts.length * 7)).toArray := by
      apply Array.toList_inj.1
      rw [← ht]
      simp
    have hg' : w.heap[g]? = some (.cells (ts.flatMap nodCells ++ cur.toList.drop (ts.length * 7)).toArray 34 (0, 0)) := by rw [hg, ← hc]
    exact ⟨some ⟨g, 0, none⟩, g, cap, cur.toList.drop (ts.length * 7), rfl, fun _ => rfl, nod_of_row hg', hb, fun _ => (Array.getElem?_eq_some_iff.1 hg).1, fun _ => hg'⟩

theorem nod_new {w : World} {N : Nat} (hN : w.heap.size = N) (x0 : Int) (x1 : Int) (x2 : Int) (x3 : Int) (x4 : Int) (x5 : ByteArray) (x6 : ByteArray) (e : TypeId) :
    ∀ j u, (nodCells ⟨x0, x1, x2, x3, x4, x5, x6⟩)[j]? = some u → (w.alloc (.cells #[.int .i64 x0, .int .i64 x1, .int .i64 x2, .int .i64 x3, .int .i64 x4, .string x5, .string x6] e)).cell? ((⟨N, 0, none⟩ : Addr).add j) = some u := by
  subst hN
  intro j u hj
  have hl : j < 7 := by
    rcases Nat.lt_or_ge j 7 with h | h
    · exact h
    · rw [List.getElem?_eq_none (by simpa [nodCells] using h)] at hj; cases hj
  rw [add_plain, cell_of_row _ _ _ _ _ _ (MapKept.heap_alloc w _).1]
  rcases (by omega : j = 0 ∨ j = 1 ∨ j = 2 ∨ j = 3 ∨ j = 4 ∨ j = 5 ∨ j = 6) with rfl | rfl | rfl | rfl | rfl | rfl | rfl <;> exact hj

theorem nod_one (t : Nod) : ∀ u ∈ nodCells t, u.oneCell' = true := by
  intro u hu
  simp [nodCells] at hu
  rcases hu with rfl | rfl | rfl | rfl | rfl | rfl | rfl <;> rfl

theorem info_nod : (Try.prog.info? 34).map (fun i => (i.zero, i.size, i.bytes)) = some (some (.agg #[.int .i64 0, .int .i64 0, .int .i64 0, .int .i64 0, .int .i64 0, .string ⟨#[]⟩, .string ⟨#[]⟩]), 7, 72) := by kernel_rfl
end Go.Proofs.Ytjjanmccijghgaa
