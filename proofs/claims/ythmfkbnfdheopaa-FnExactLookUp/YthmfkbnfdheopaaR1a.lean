/-
  Val: rows of them that are handed in: how much they hold, and a copy of them in memory of the call's own. Conditions: written at each theorem.
-/
import Derived.Test.YthmfkbnfdheopaaR1k
namespace Go.Proofs.Ythmfkbnfdheopaa
open Go.ChangeShapes Go.WideShapes Go.ChangeAt Go.RowKit
set_option linter.unusedVariables false

/-- The i-th one's cells lie in block b, from place o on. -/
structure AVl (w : World) (b o i : Nat) (t : Vl) : Prop where
  c0 : w.cell? ⟨b, o + i * 2, none⟩ = some (.int .i64 t.kind)
  c1 : w.cell? ⟨b, o + i * 2 + 1, none⟩ = some (.int .i64 t.n)

theorem AVl.below {w w' : World} {b o i B : Nat} {t : Vl} (h : AVl w b o i t) (hb : Below B w w') (hg : b < B) : AVl w' b o i t :=
  ⟨(World.cell?_of_block (hb.block b hg)).trans h.c0, (World.cell?_of_block (hb.block b hg)).trans h.c1⟩

def AVls (w : World) (b o : Nat) (ts : List Vl) : Prop := ∀ i, i < ts.length → AVl w b o i (ts.getD i noVl)

theorem AVls.below {w w' : World} {b o B : Nat} {ts : List Vl} (h : AVls w b o ts) (hb : Below B w w') (hg : 0 < ts.length → b < B) : AVls w' b o ts := fun i hi => (h i hi).below hb (hg (by omega))

theorem AVls.lt {w : World} {b o : Nat} {ts : List Vl} (h : AVls w b o ts) (hl : 0 < ts.length) : b < w.heap.size := vl_lt (h 0 hl).c0

/-- How many bytes one has; how many the first k have. -/
def vlSz (t : Vl) : Nat := 0
def vlLens (ts : List Vl) : Nat → Nat
  | 0 => 0
  | k + 1 => vlLens ts k + vlSz (ts.getD k noVl)

theorem vl_to (x0 : Int) (x1 : Int) (w : World) :
    Calls Try.prog 12 #[.agg #[.int .i64 x0, .int .i64 x1]] w fun e w' => e = .returned (.agg #[.int .i64 x0, .int .i64 x1]) ∧ Below w.heap.size w w' := by
  go_enter Try.func12, Try.ntmps12
  go_wp2
  (try simp only [Exit.inBlock, Exit.then])
  refine bodyPost_ret (results_cell_row rfl _ _ (w.heap.size + 1) 42 #[.int .i64 x0, .int .i64 x1] (0, 0) _ rfl ?_ Try.underlying42 rfl (by kernel_rfl)) rfl ?_
  · rw [Below.heap_alloc _ _ _ (by simp), heap_alloc2_new]
  · exact ⟨rfl, (((Below.refl _ w).alloc (Nat.le_refl _) _).alloc (by simp) _).alloc (by simp; omega) _⟩

/-- The first k, and behind them as many empty ones as are wanting. -/
def vlMix (ts : List Vl) (k : Nat) : List Vl := ts.take k ++ List.replicate (ts.length - k) noVl

theorem vlMix_length (ts : List Vl) (k : Nat) (h : k ≤ ts.length) : (vlMix ts k).length = ts.length := by simp [vlMix]; omega

theorem vlMix_all (ts : List Vl) : vlMix ts ts.length = ts := by simp [vlMix]

theorem vlMix_set (ts : List Vl) (k : Nat) (h : k < ts.length) : (vlMix ts k).set k (ts.getD k noVl) = vlMix ts (k + 1) := by
  apply List.ext_getElem?
  intro i
  have e : ts.getD k noVl = ts[k] := by simp [List.getD, List.getElem?_eq_getElem h]
  rw [List.getElem?_set, vlMix_length ts k (by omega), e]
  by_cases hik : k = i
  · subst hik
    rw [if_pos rfl, if_pos h, vlMix, List.getElem?_append_left (by simp; omega), List.getElem?_take_of_lt (by omega), List.getElem?_eq_getElem h]
  · rw [if_neg hik, vlMix, vlMix, List.getElem?_append, List.getElem?_append]
    by_cases hi : i < k
    · rw [if_pos (by simp; omega), if_pos (by simp; omega), List.getElem?_take_of_lt hi, List.getElem?_take_of_lt (by omega)]
    · rw [if_neg (by simp; omega), if_neg (by simp; omega)]
      simp only [List.length_take, List.getElem?_replicate]
      by_cases hi2 : i < ts.length
      · rw [if_pos (by omega), if_pos (by omega)]
      · rw [if_neg (by omega), if_neg (by omega)]

theorem vl_set (w : World) (g k : Nat) (l : List Vl) (e : TypeId) (t : Vl) (hg : w.heap[g]? = some (.cells (l.flatMap vlCells).toArray e (0, 0))) (hk : k < l.length) :
    ((w.setCell ⟨g, k * 2, none⟩ (.int .i64 t.kind)).setCell ⟨g, k * 2 + 1, none⟩ (.int .i64 t.n)).heap[g]? =
      some (.cells ((l.set k t).flatMap vlCells).toArray e (0, 0)) := by
  rw [heap_setCell_same _ _ _ _ _ _ (heap_setCell_same _ _ _ _ _ _ hg)]
  rw [List.setIfInBounds_toArray, List.setIfInBounds_toArray, vl_flat_set t l k hk]

theorem vl_made (m : Nat) : madeCells (Value.agg #[.int .i64 0, .int .i64 0]).cells (m * 2) = ((List.replicate m noVl).flatMap vlCells).toArray := by
  apply Array.ext
  · have e : ((List.replicate m noVl).flatMap vlCells).toArray.size = m * 2 := by rw [List.size_toArray, vl_flat_length, List.length_replicate]
    rw [e]; simp [madeCells]
  · intro i h1 h2
    have hi : i < m * 2 := by simpa [madeCells] using h1
    have e := vl_flat_at (List.replicate m noVl) (i / 2) (i % 2) (by simp; omega) (by omega)
    rw [show i / 2 * 2 + i % 2 = i by omega] at e
    have e2 : (List.replicate m noVl).getD (i / 2) noVl = noVl := by simp only [List.getD, List.getElem?_replicate]; split <;> rfl
    rw [e2] at e
    have h3 : i < ((List.replicate m noVl).flatMap vlCells).length := by rw [vl_flat_length]; simpa using hi
    rw [List.getElem?_eq_getElem h3] at e
    have e3 : ((List.replicate m noVl).flatMap vlCells).toArray[i] = ((List.replicate m noVl).flatMap vlCells)[i] := by simp
    rw [e3]
    have hm : i % 2 = 0 ∨ i % 2 = 1 := by omega
    rcases hm with hm | hm <;> simp [madeCells, Value.cells, hm, vlCells, noVl] at e ⊢ <;> exact e.symm

set_option maxHeartbeats 1000000 in
set_option maxRecDepth 20000 in
theorem vl_to_row (a : Option Addr) (b o cap : Nat) (ts : List Vl) (hne : 0 < ts.length → a = some ⟨b, o, none⟩) (hl : ts.length ≤ 1048576) (w : World) (hA : AVls w b o ts) :
    Calls Try.prog 26 #[.slice a ts.length cap] w fun e w' =>
      e = .returned (.slice (some ⟨w.heap.size, 0, none⟩) ts.length ts.length) ∧ w'.heap[w.heap.size]? = some (.cells (ts.flatMap vlCells).toArray 42 (0, 0)) ∧ Below w.heap.size w w' := by
  obtain ⟨i0, hi, hz0, hz1, hz2⟩ := info_parts info_vl
  have hmk := run_make (P := Try.prog) w 33 42 i0 _ Try.underlying33 hi hz0 .i64 .i64 (ts.length : Int) (ts.length : Int) (by omega) (by omega) (by rw [hz2]; omega) (by omega)
  rw [hz1] at hmk
  have ez : ((ts.length : Nat) : Int).toNat = ts.length := by omega
  rw [ez, vl_made] at hmk
  clear hi hz0 hz1 hz2 ez
  have hA' : Hid (AVls w b o ts) := hA
  clear hA
  go_enter Try.func26, Try.ntmps26
  go_wp2
  clear hmk
  go_loopw [4] (fun i wr => ∃ k : Nat, k ≤ ts.length ∧ i = .int .i64 k ∧ Hid (wr.heap[w.heap.size]? = some (.cells ((vlMix ts k).flatMap vlCells).toArray 42 (0, 0))) ∧ Below w.heap.size w wr) (fun i _ => ts.length - (intOf i).toNat)
  case atStart =>
    refine ⟨0, by omega, rfl, ?_, (Below.refl _ _).alloc (Nat.le_refl _) _⟩
    show (w.alloc _).heap[w.heap.size]? = _
    rw [(MapKept.heap_alloc w _).1]
    simp [vlMix]
  case round =>
    obtain ⟨k, hk, rfl, hroom, hb⟩ := hrel
    by_cases hin : k < ts.length
    · have e1 : (k : Int) < ts.length := by omega
      obtain rfl := hne (by omega)
      have t := (hA'.out.below hb (fun h => hA'.out.lt h)) k hin
      obtain ⟨⟨x0, x1⟩, hx⟩ : ∃ y, ts.getD k noVl = y := ⟨_, rfl⟩
      have HX : Hid (ts.getD k noVl = ⟨x0, x1⟩) := hx
      rw [hx] at t
      have q0 : wr.cell? ⟨b, o + k * 2, none⟩ = some (.int .i64 x0) := t.c0
      have q1 : wr.cell? ⟨b, o + k * 2 + 1, none⟩ = some (.int .i64 x1) := t.c1
      clear t hx
      have hsize := hb.size
      go_wp2_with fail
      refine (vl_to _ _ wr).mono ?_
      rintro e w1 ⟨rfl, hb1⟩
      have hr1 : w1.heap[w.heap.size]? = some (.cells ((vlMix ts k).flatMap vlCells).toArray 42 (0, 0)) := (hb1.block _ (Array.getElem?_eq_some_iff.1 hroom.out).1).trans hroom.out
      have HR1 : Hid (w1.heap[w.heap.size]? = some (.cells ((vlMix ts k).flatMap vlCells).toArray 42 (0, 0))) := hr1
      have f0 : w1.frozen? ⟨w.heap.size, k * 2, none⟩ = false := frozen_of_row w1 _ _ _ _ hr1
      have f1 : w1.frozen? ⟨w.heap.size, k * 2 + 1, none⟩ = false := frozen_of_row w1 _ _ _ _ hr1
      have c := vl_of_room hr1 k (by rw [vlMix_length ts k hk]; exact hin)
      generalize (vlMix ts k).getD k noVl = y at c
      obtain ⟨y0, y1⟩ := y
      have c0 : w1.cell? ⟨w.heap.size, k * 2, none⟩ = some (.int .i64 y0) := c.c0
      have c1 : w1.cell? ⟨w.heap.size, k * 2 + 1, none⟩ = some (.int .i64 y1) := c.c1
      clear c hr1
      go_wp2
      go_roundw
      case rel =>
        refine ⟨k + 1, by omega, by go_num, ?_, ?_⟩
        · have h := vl_set w1 w.heap.size k (vlMix ts k) 42 (ts.getD k noVl) HR1.out (by rw [vlMix_length ts k hk]; exact hin)
          rw [vlMix_set ts k hin, HX.out] at h
          exact h
        · exact ((hb.trans (hb1.mono hsize)).setCell (p := ⟨w.heap.size, k * 2, none⟩) (Nat.le_refl _) _).setCell (p := ⟨w.heap.size, k * 2 + 1, none⟩) (Nat.le_refl _) _
      case measure => simp [intOf]; omega
    · obtain rfl : k = ts.length := by omega
      have hr := hroom.out
      rw [vlMix_all] at hr
      have HR : Hid (wr.heap[w.heap.size]? = some (.cells (ts.flatMap vlCells).toArray 42 (0, 0))) := hr
      clear hr
      go_wp2
      go_ret
      exact ⟨rfl, HR.out, hb⟩
end Go.Proofs.Ythmfkbnfdheopaa
