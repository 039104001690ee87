/-
  Two: rows of them that are handed in: how much they hold, and a copy of them in memory of the call's own. Conditions: written at each theorem.
-/
import Derived.Test.YthmfkbnfdheopaaT1k
import Derived.Test.YthmfkbnfdheopaaR1a
namespace Go.Proofs.Ythmfkbnfdheopaa
open Go.ChangeShapes Go.WideShapes Go.ChangeAt Go.RowKit
set_option linter.unusedVariables false

/-- The i-th one's cells lie in block b, from place o on. -/
structure ATw (w : World) (b o i : Nat) (t : Tw) : Prop where
  c0 : w.cell? ⟨b, o + i * 4, none⟩ = some (.int .i64 t.ak)
  c1 : w.cell? ⟨b, o + i * 4 + 1, none⟩ = some (.int .i64 t.an)
  c2 : w.cell? ⟨b, o + i * 4 + 2, none⟩ = some (.int .i64 t.bk)
  c3 : w.cell? ⟨b, o + i * 4 + 3, none⟩ = some (.int .i64 t.bn)

theorem ATw.below {w w' : World} {b o i B : Nat} {t : Tw} (h : ATw w b o i t) (hb : Below B w w') (hg : b < B) : ATw w' b o i t :=
  ⟨(World.cell?_of_block (hb.block b hg)).trans h.c0, (World.cell?_of_block (hb.block b hg)).trans h.c1, (World.cell?_of_block (hb.block b hg)).trans h.c2, (World.cell?_of_block (hb.block b hg)).trans h.c3⟩

def ATws (w : World) (b o : Nat) (ts : List Tw) : Prop := ∀ i, i < ts.length → ATw w b o i (ts.getD i noTw)

theorem ATws.below {w w' : World} {b o B : Nat} {ts : List Tw} (h : ATws w b o ts) (hb : Below B w w') (hg : 0 < ts.length → b < B) : ATws w' b o ts := fun i hi => (h i hi).below hb (hg (by omega))

theorem ATws.lt {w : World} {b o : Nat} {ts : List Tw} (h : ATws w b o ts) (hl : 0 < ts.length) : b < w.heap.size := tw_lt (h 0 hl).c0

/-- How many bytes one has; how many the first k have. -/
def twSz (t : Tw) : Nat := 0
def twLens (ts : List Tw) : Nat → Nat
  | 0 => 0
  | k + 1 => twLens ts k + twSz (ts.getD k noTw)

set_option maxRecDepth 20000 in
theorem tw_to (x0 : Int) (x1 : Int) (x2 : Int) (x3 : Int) (w : World) :
    Calls Try.prog 37 #[.agg #[.int .i64 x0, .int .i64 x1, .int .i64 x2, .int .i64 x3]] w fun e w' => e = .returned (.agg #[.int .i64 x0, .int .i64 x1, .int .i64 x2, .int .i64 x3]) ∧ Below w.heap.size w w' := by
  go_enter Try.func37, Try.ntmps37
  go_wp2_with fail
  refine (vl_to _ _ _).mono ?_
  rintro e w3 ⟨rfl, b3⟩
  have B3 : Hid (Below w.heap.size w w3) := ((((Below.refl _ w).alloc (Nat.le_refl _) _).alloc (by simp) _).alloc (by simp; omega) _).trans (b3.mono (by simp; omega))
  have hp3 : w3.heap[w.heap.size]? = some (.cells #[.int .i64 x0, .int .i64 x1, .int .i64 x2, .int .i64 x3] 84 (0, 0)) := by
    rw [b3.block _ (by simp; omega), Below.heap_alloc _ _ _ (by simp; omega), Below.heap_alloc _ _ _ (by simp)]
    exact (MapKept.heap_alloc w _).1
  have hu3 : w3.heap[w.heap.size + 1]? = some (.cells #[.int .i64 0, .int .i64 0, .int .i64 0, .int .i64 0] 63 (0, 0)) := by
    rw [b3.block _ (by simp), Below.heap_alloc _ _ _ (by simp), heap_alloc2_new]
  have ho3 : w3.heap[w.heap.size + 1 + 1]? = some (.cells #[.int .i64 0, .int .i64 0, .int .i64 0, .int .i64 0] 63 (0, 0)) := by
    rw [b3.block _ (by simp)]
    have := (MapKept.heap_alloc ((w.alloc (.cells #[.int .i64 x0, .int .i64 x1, .int .i64 x2, .int .i64 x3] 84)).alloc (.cells #[.int .i64 0, .int .i64 0, .int .i64 0, .int .i64 0] 63)) (.cells #[.int .i64 0, .int .i64 0, .int .i64 0, .int .i64 0] 63)).1
    simpa using this
  have sz3 : w.heap.size + 3 ≤ w3.heap.size := by have := b3.size; simp at this; omega
  clear b3
  have q0_3 : w3.cell? ⟨w.heap.size, 0, none⟩ = some (.int .i64 x0) := (cell_of_row _ _ _ _ _ _ hp3).trans rfl
  have u0_3 : w3.cell? ⟨w.heap.size + 1, 0, none⟩ = some (.int .i64 0) := (cell_of_row _ _ _ _ _ _ hu3).trans rfl
  have v0_3 : w3.frozen? ⟨w.heap.size + 1, 0, none⟩ = false := frozen_of_row w3 _ _ _ _ hu3
  have c0_3 : w3.cell? ⟨w.heap.size + 1 + 1, 0, none⟩ = some (.int .i64 0) := (cell_of_row _ _ _ _ _ _ ho3).trans rfl
  have f0_3 : w3.frozen? ⟨w.heap.size + 1 + 1, 0, none⟩ = false := frozen_of_row w3 _ _ _ _ ho3
  have q1_3 : w3.cell? ⟨w.heap.size, 1, none⟩ = some (.int .i64 x1) := (cell_of_row _ _ _ _ _ _ hp3).trans rfl
  have u1_3 : w3.cell? ⟨w.heap.size + 1, 1, none⟩ = some (.int .i64 0) := (cell_of_row _ _ _ _ _ _ hu3).trans rfl
  have v1_3 : w3.frozen? ⟨w.heap.size + 1, 1, none⟩ = false := frozen_of_row w3 _ _ _ _ hu3
  have c1_3 : w3.cell? ⟨w.heap.size + 1 + 1, 1, none⟩ = some (.int .i64 0) := (cell_of_row _ _ _ _ _ _ ho3).trans rfl
  have f1_3 : w3.frozen? ⟨w.heap.size + 1 + 1, 1, none⟩ = false := frozen_of_row w3 _ _ _ _ ho3
  have q2_3 : w3.cell? ⟨w.heap.size, 2, none⟩ = some (.int .i64 x2) := (cell_of_row _ _ _ _ _ _ hp3).trans rfl
  have u2_3 : w3.cell? ⟨w.heap.size + 1, 2, none⟩ = some (.int .i64 0) := (cell_of_row _ _ _ _ _ _ hu3).trans rfl
  have v2_3 : w3.frozen? ⟨w.heap.size + 1, 2, none⟩ = false := frozen_of_row w3 _ _ _ _ hu3
  have c2_3 : w3.cell? ⟨w.heap.size + 1 + 1, 2, none⟩ = some (.int .i64 0) := (cell_of_row _ _ _ _ _ _ ho3).trans rfl
  have f2_3 : w3.frozen? ⟨w.heap.size + 1 + 1, 2, none⟩ = false := frozen_of_row w3 _ _ _ _ ho3
  have q3_3 : w3.cell? ⟨w.heap.size, 3, none⟩ = some (.int .i64 x3) := (cell_of_row _ _ _ _ _ _ hp3).trans rfl
  have u3_3 : w3.cell? ⟨w.heap.size + 1, 3, none⟩ = some (.int .i64 0) := (cell_of_row _ _ _ _ _ _ hu3).trans rfl
  have v3_3 : w3.frozen? ⟨w.heap.size + 1, 3, none⟩ = false := frozen_of_row w3 _ _ _ _ hu3
  have c3_3 : w3.cell? ⟨w.heap.size + 1 + 1, 3, none⟩ = some (.int .i64 0) := (cell_of_row _ _ _ _ _ _ ho3).trans rfl
  have f3_3 : w3.frozen? ⟨w.heap.size + 1 + 1, 3, none⟩ = false := frozen_of_row w3 _ _ _ _ ho3
  have HP3 : Hid (w3.heap[w.heap.size]? = some (.cells #[.int .i64 x0, .int .i64 x1, .int .i64 x2, .int .i64 x3] 84 (0, 0))) := hp3
  have HU3 : Hid (w3.heap[w.heap.size + 1]? = some (.cells #[.int .i64 0, .int .i64 0, .int .i64 0, .int .i64 0] 63 (0, 0))) := hu3
  have HO3 : Hid (w3.heap[w.heap.size + 1 + 1]? = some (.cells #[.int .i64 0, .int .i64 0, .int .i64 0, .int .i64 0] 63 (0, 0))) := ho3
  clear hp3 hu3 ho3
  go_wp2_with fail
  refine (vl_to _ _ _).mono ?_
  rintro e w4 ⟨rfl, b4⟩
  have B4 : Hid (Below w.heap.size w w4) := ((Below.setCell (p := ⟨w.heap.size + 1 + 1, 1, none⟩) ((Below.setCell (p := ⟨w.heap.size + 1 + 1, 0, none⟩) (B3.out) (by simp; omega) _)) (by simp; omega) _)).trans (b4.mono (by simp; omega))
  have hp4 : w4.heap[w.heap.size]? = some (.cells #[.int .i64 x0, .int .i64 x1, .int .i64 x2, .int .i64 x3] 84 (0, 0)) := (b4.block _ (by simp; omega)).trans ((heap_setCell_other _ _ _ _ (by simp; try omega)).trans ((heap_setCell_other _ _ _ _ (by simp; try omega)).trans (HP3.out)))
  have hu4 : w4.heap[w.heap.size + 1]? = some (.cells #[.int .i64 0, .int .i64 0, .int .i64 0, .int .i64 0] 63 (0, 0)) := (b4.block _ (by simp; omega)).trans ((heap_setCell_other _ _ _ _ (by simp)).trans ((heap_setCell_other _ _ _ _ (by simp)).trans (HU3.out)))
  have ho4 : w4.heap[w.heap.size + 1 + 1]? = some (.cells #[.int .i64 x0, .int .i64 x1, .int .i64 0, .int .i64 0] 63 (0, 0)) := (b4.block _ (by simp; omega)).trans (heap_setCell_same _ _ _ _ _ _ (heap_setCell_same _ _ _ _ _ _ (HO3.out)))
  have sz4 : w.heap.size + 3 ≤ w4.heap.size := by have := b4.size; simp at this; omega
  clear b4
  clear q0_3 u0_3 v0_3 c0_3 f0_3 q1_3 u1_3 v1_3 c1_3 f1_3 q2_3 u2_3 v2_3 c2_3 f2_3 q3_3 u3_3 v3_3 c3_3 f3_3
  have q0_4 : w4.cell? ⟨w.heap.size, 0, none⟩ = some (.int .i64 x0) := (cell_of_row _ _ _ _ _ _ hp4).trans rfl
  have u0_4 : w4.cell? ⟨w.heap.size + 1, 0, none⟩ = some (.int .i64 0) := (cell_of_row _ _ _ _ _ _ hu4).trans rfl
  have v0_4 : w4.frozen? ⟨w.heap.size + 1, 0, none⟩ = false := frozen_of_row w4 _ _ _ _ hu4
  have c0_4 : w4.cell? ⟨w.heap.size + 1 + 1, 0, none⟩ = some (.int .i64 x0) := (cell_of_row _ _ _ _ _ _ ho4).trans rfl
  have f0_4 : w4.frozen? ⟨w.heap.size + 1 + 1, 0, none⟩ = false := frozen_of_row w4 _ _ _ _ ho4
  have q1_4 : w4.cell? ⟨w.heap.size, 1, none⟩ = some (.int .i64 x1) := (cell_of_row _ _ _ _ _ _ hp4).trans rfl
  have u1_4 : w4.cell? ⟨w.heap.size + 1, 1, none⟩ = some (.int .i64 0) := (cell_of_row _ _ _ _ _ _ hu4).trans rfl
  have v1_4 : w4.frozen? ⟨w.heap.size + 1, 1, none⟩ = false := frozen_of_row w4 _ _ _ _ hu4
  have c1_4 : w4.cell? ⟨w.heap.size + 1 + 1, 1, none⟩ = some (.int .i64 x1) := (cell_of_row _ _ _ _ _ _ ho4).trans rfl
  have f1_4 : w4.frozen? ⟨w.heap.size + 1 + 1, 1, none⟩ = false := frozen_of_row w4 _ _ _ _ ho4
  have q2_4 : w4.cell? ⟨w.heap.size, 2, none⟩ = some (.int .i64 x2) := (cell_of_row _ _ _ _ _ _ hp4).trans rfl
  have u2_4 : w4.cell? ⟨w.heap.size + 1, 2, none⟩ = some (.int .i64 0) := (cell_of_row _ _ _ _ _ _ hu4).trans rfl
  have v2_4 : w4.frozen? ⟨w.heap.size + 1, 2, none⟩ = false := frozen_of_row w4 _ _ _ _ hu4
  have c2_4 : w4.cell? ⟨w.heap.size + 1 + 1, 2, none⟩ = some (.int .i64 0) := (cell_of_row _ _ _ _ _ _ ho4).trans rfl
  have f2_4 : w4.frozen? ⟨w.heap.size + 1 + 1, 2, none⟩ = false := frozen_of_row w4 _ _ _ _ ho4
  have q3_4 : w4.cell? ⟨w.heap.size, 3, none⟩ = some (.int .i64 x3) := (cell_of_row _ _ _ _ _ _ hp4).trans rfl
  have u3_4 : w4.cell? ⟨w.heap.size + 1, 3, none⟩ = some (.int .i64 0) := (cell_of_row _ _ _ _ _ _ hu4).trans rfl
  have v3_4 : w4.frozen? ⟨w.heap.size + 1, 3, none⟩ = false := frozen_of_row w4 _ _ _ _ hu4
  have c3_4 : w4.cell? ⟨w.heap.size + 1 + 1, 3, none⟩ = some (.int .i64 0) := (cell_of_row _ _ _ _ _ _ ho4).trans rfl
  have f3_4 : w4.frozen? ⟨w.heap.size + 1 + 1, 3, none⟩ = false := frozen_of_row w4 _ _ _ _ ho4
  have HP4 : Hid (w4.heap[w.heap.size]? = some (.cells #[.int .i64 x0, .int .i64 x1, .int .i64 x2, .int .i64 x3] 84 (0, 0))) := hp4
  have HU4 : Hid (w4.heap[w.heap.size + 1]? = some (.cells #[.int .i64 0, .int .i64 0, .int .i64 0, .int .i64 0] 63 (0, 0))) := hu4
  have HO4 : Hid (w4.heap[w.heap.size + 1 + 1]? = some (.cells #[.int .i64 x0, .int .i64 x1, .int .i64 0, .int .i64 0] 63 (0, 0))) := ho4
  clear hp4 hu4 ho4
  go_wp2
  (try simp only [Exit.inBlock, Exit.then])
  refine bodyPost_ret (results_cell_row rfl _ _ (w.heap.size + 1) 63 #[.int .i64 x0, .int .i64 x1, .int .i64 x2, .int .i64 x3] (0, 0) _ rfl ?_ Try.underlying63 rfl (by kernel_rfl)) rfl ?_
  · exact heap_setCell_same _ _ _ _ _ _ (heap_setCell_same _ _ _ _ _ _ (heap_setCell_same _ _ _ _ _ _ (heap_setCell_same _ _ _ _ _ _ ((heap_setCell_other _ _ _ _ (by simp)).trans ((heap_setCell_other _ _ _ _ (by simp)).trans (HU4.out))))))
  · exact ⟨rfl, (Below.setCell (p := ⟨w.heap.size + 1, 3, none⟩) ((Below.setCell (p := ⟨w.heap.size + 1, 2, none⟩) ((Below.setCell (p := ⟨w.heap.size + 1, 1, none⟩) ((Below.setCell (p := ⟨w.heap.size + 1, 0, none⟩) ((Below.setCell (p := ⟨w.heap.size + 1 + 1, 3, none⟩) ((Below.setCell (p := ⟨w.heap.size + 1 + 1, 2, none⟩) (B4.out) (by simp; omega) _)) (by simp; omega) _)) (by simp) _)) (by simp) _)) (by simp) _)) (by simp) _)⟩

/-- The first k, and behind them as many empty ones as are wanting. -/
def twMix (ts : List Tw) (k : Nat) : List Tw := ts.take k ++ List.replicate (ts.length - k) noTw

theorem twMix_length (ts : List Tw) (k : Nat) (h : k ≤ ts.length) : (twMix ts k).length = ts.length := by simp [twMix]; omega

theorem twMix_all (ts : List Tw) : twMix ts ts.length = ts := by simp [twMix]

theorem twMix_set (ts : List Tw) (k : Nat) (h : k < ts.length) : (twMix ts k).set k (ts.getD k noTw) = twMix ts (k + 1) := by
  apply List.ext_getElem?
  intro i
  have e : ts.getD k noTw = ts[k] := by simp [List.getD, List.getElem?_eq_getElem h]
  rw [List.getElem?_set, twMix_length ts k (by omega), e]
  by_cases hik : k = i
  · subst hik
    rw [if_pos rfl, if_pos h, twMix, List.getElem?_append_left (by simp; omega), List.getElem?_take_of_lt (by omega), List.getElem?_eq_getElem h]
  · rw [if_neg hik, twMix, twMix, List.getElem?_append, List.getElem?_append]
    by_cases hi : i < k
    · rw [if_pos (by simp; omega), if_pos (by simp; omega), List.getElem?_take_of_lt hi, List.getElem?_take_of_lt (by omega)]
    · rw [if_neg (by simp; omega), if_neg (by simp; omega)]
      simp only [List.length_take, List.getElem?_replicate]
      by_cases hi2 : i < ts.length
      · rw [if_pos (by omega), if_pos (by omega)]
      · rw [if_neg (by omega), if_neg (by omega)]

theorem tw_set (w : World) (g k : Nat) (l : List Tw) (e : TypeId) (t : Tw) (hg : w.heap[g]? = some (.cells (l.flatMap twCells).toArray e (0, 0))) (hk : k < l.length) :
    ((((w.setCell ⟨g, k * 4, none⟩ (.int .i64 t.ak)).setCell ⟨g, k * 4 + 1, none⟩ (.int .i64 t.an)).setCell ⟨g, k * 4 + 2, none⟩ (.int .i64 t.bk)).setCell ⟨g, k * 4 + 3, none⟩ (.int .i64 t.bn)).heap[g]? =
      some (.cells ((l.set k t).flatMap twCells).toArray e (0, 0)) := by
  rw [heap_setCell_same _ _ _ _ _ _ (heap_setCell_same _ _ _ _ _ _ (heap_setCell_same _ _ _ _ _ _ (heap_setCell_same _ _ _ _ _ _ hg)))]
  rw [List.setIfInBounds_toArray, List.setIfInBounds_toArray, List.setIfInBounds_toArray, List.setIfInBounds_toArray, tw_flat_set t l k hk]

theorem tw_made (m : Nat) : madeCells (Value.agg #[.int .i64 0, .int .i64 0, .int .i64 0, .int .i64 0]).cells (m * 4) = ((List.replicate m noTw).flatMap twCells).toArray := by
  apply Array.ext
  · have e : ((List.replicate m noTw).flatMap twCells).toArray.size = m * 4 := by rw [List.size_toArray, tw_flat_length, List.length_replicate]
    rw [e]; simp [madeCells]
  · intro i h1 h2
    have hi : i < m * 4 := by simpa [madeCells] using h1
    have e := tw_flat_at (List.replicate m noTw) (i / 4) (i % 4) (by simp; omega) (by omega)
    rw [show i / 4 * 4 + i % 4 = i by omega] at e
    have e2 : (List.replicate m noTw).getD (i / 4) noTw = noTw := by simp only [List.getD, List.getElem?_replicate]; split <;> rfl
    rw [e2] at e
    have h3 : i < ((List.replicate m noTw).flatMap twCells).length := by rw [tw_flat_length]; simpa using hi
    rw [List.getElem?_eq_getElem h3] at e
    have e3 : ((List.replicate m noTw).flatMap twCells).toArray[i] = ((List.replicate m noTw).flatMap twCells)[i] := by simp
    rw [e3]
    have hm : i % 4 = 0 ∨ i % 4 = 1 ∨ i % 4 = 2 ∨ i % 4 = 3 := by omega
    rcases hm with hm | hm | hm | hm <;> simp [madeCells, Value.cells, hm, twCells, noTw] at e ⊢ <;> exact e.symm

set_option maxHeartbeats 1000000 in
set_option maxRecDepth 20000 in
theorem tw_to_row (a : Option Addr) (b o cap : Nat) (ts : List Tw) (hne : 0 < ts.length → a = some ⟨b, o, none⟩) (hl : ts.length ≤ 1048576) (w : World) (hA : ATws w b o ts) :
    Calls Try.prog 25 #[.slice a ts.length cap] w fun e w' =>
      e = .returned (.slice (some ⟨w.heap.size, 0, none⟩) ts.length ts.length) ∧ w'.heap[w.heap.size]? = some (.cells (ts.flatMap twCells).toArray 63 (0, 0)) ∧ Below w.heap.size w w' := by
  obtain ⟨i0, hi, hz0, hz1, hz2⟩ := info_parts info_tw
  have hmk := run_make (P := Try.prog) w 32 63 i0 _ Try.underlying32 hi hz0 .i64 .i64 (ts.length : Int) (ts.length : Int) (by omega) (by omega) (by rw [hz2]; omega) (by omega)
  rw [hz1] at hmk
  have ez : ((ts.length : Nat) : Int).toNat = ts.length := by omega
  rw [ez, tw_made] at hmk
  clear hi hz0 hz1 hz2 ez
  have hA' : Hid (ATws w b o ts) := hA
  clear hA
  go_enter Try.func25, Try.ntmps25
  go_wp2
  clear hmk
  go_loopw [4] (fun i wr => ∃ k : Nat, k ≤ ts.length ∧ i = .int .i64 k ∧ Hid (wr.heap[w.heap.size]? = some (.cells ((twMix ts k).flatMap twCells).toArray 63 (0, 0))) ∧ Below w.heap.size w wr) (fun i _ => ts.length - (intOf i).toNat)
  case atStart =>
    refine ⟨0, by omega, rfl, ?_, (Below.refl _ _).alloc (Nat.le_refl _) _⟩
    show (w.alloc _).heap[w.heap.size]? = _
    rw [(MapKept.heap_alloc w _).1]
    simp [twMix]
  case round =>
    obtain ⟨k, hk, rfl, hroom, hb⟩ := hrel
    by_cases hin : k < ts.length
    · have e1 : (k : Int) < ts.length := by omega
      obtain rfl := hne (by omega)
      have t := (hA'.out.below hb (fun h => hA'.out.lt h)) k hin
      obtain ⟨⟨x0, x1, x2, x3⟩, hx⟩ : ∃ y, ts.getD k noTw = y := ⟨_, rfl⟩
      have HX : Hid (ts.getD k noTw = ⟨x0, x1, x2, x3⟩) := hx
      rw [hx] at t
      have q0 : wr.cell? ⟨b, o + k * 4, none⟩ = some (.int .i64 x0) := t.c0
      have q1 : wr.cell? ⟨b, o + k * 4 + 1, none⟩ = some (.int .i64 x1) := t.c1
      have q2 : wr.cell? ⟨b, o + k * 4 + 2, none⟩ = some (.int .i64 x2) := t.c2
      have q3 : wr.cell? ⟨b, o + k * 4 + 3, none⟩ = some (.int .i64 x3) := t.c3
      clear t hx
      have hsize := hb.size
      go_wp2_with fail
      refine (tw_to _ _ _ _ wr).mono ?_
      rintro e w1 ⟨rfl, hb1⟩
      have hr1 : w1.heap[w.heap.size]? = some (.cells ((twMix ts k).flatMap twCells).toArray 63 (0, 0)) := (hb1.block _ (Array.getElem?_eq_some_iff.1 hroom.out).1).trans hroom.out
      have HR1 : Hid (w1.heap[w.heap.size]? = some (.cells ((twMix ts k).flatMap twCells).toArray 63 (0, 0))) := hr1
      have f0 : w1.frozen? ⟨w.heap.size, k * 4, none⟩ = false := frozen_of_row w1 _ _ _ _ hr1
      have f1 : w1.frozen? ⟨w.heap.size, k * 4 + 1, none⟩ = false := frozen_of_row w1 _ _ _ _ hr1
      have f2 : w1.frozen? ⟨w.heap.size, k * 4 + 2, none⟩ = false := frozen_of_row w1 _ _ _ _ hr1
      have f3 : w1.frozen? ⟨w.heap.size, k * 4 + 3, none⟩ = false := frozen_of_row w1 _ _ _ _ hr1
      have c := tw_of_room hr1 k (by rw [twMix_length ts k hk]; exact hin)
      generalize (twMix ts k).getD k noTw = y at c
      obtain ⟨y0, y1, y2, y3⟩ := y
      have c0 : w1.cell? ⟨w.heap.size, k * 4, none⟩ = some (.int .i64 y0) := c.c0
      have c1 : w1.cell? ⟨w.heap.size, k * 4 + 1, none⟩ = some (.int .i64 y1) := c.c1
      have c2 : w1.cell? ⟨w.heap.size, k * 4 + 2, none⟩ = some (.int .i64 y2) := c.c2
      have c3 : w1.cell? ⟨w.heap.size, k * 4 + 3, none⟩ = some (.int .i64 y3) := c.c3
      clear c hr1
      go_wp2
      go_roundw
      case rel =>
        refine ⟨k + 1, by omega, by go_num, ?_, ?_⟩
        · have h := tw_set w1 w.heap.size k (twMix ts k) 63 (ts.getD k noTw) HR1.out (by rw [twMix_length ts k hk]; exact hin)
          rw [twMix_set ts k hin, HX.out] at h
          exact h
        · exact ((((hb.trans (hb1.mono hsize)).setCell (p := ⟨w.heap.size, k * 4, none⟩) (Nat.le_refl _) _).setCell (p := ⟨w.heap.size, k * 4 + 1, none⟩) (Nat.le_refl _) _).setCell (p := ⟨w.heap.size, k * 4 + 2, none⟩) (Nat.le_refl _) _).setCell (p := ⟨w.heap.size, k * 4 + 3, none⟩) (Nat.le_refl _) _
      case measure => simp [intOf]; omega
    · obtain rfl : k = ts.length := by omega
      have hr := hroom.out
      rw [twMix_all] at hr
      have HR : Hid (wr.heap[w.heap.size]? = some (.cells (ts.flatMap twCells).toArray 63 (0, 0))) := hr
      clear hr
      go_wp2
      go_ret
      exact ⟨rfl, HR.out, hb⟩
end Go.Proofs.Ythmfkbnfdheopaa
