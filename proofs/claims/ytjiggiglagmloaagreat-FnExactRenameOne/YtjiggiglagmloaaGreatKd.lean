/-
  Several texts in one, in their order: each is told at its own place by its theorems. Conditions: written at each theorem.
-/
import Derived.Test.YtjiggiglagmloaaGreatKa
import Derived.Deep.Slices
namespace Go.Proofs.YtjiggiglagmloaaGreat
set_option linter.unusedVariables false

section
open Go.ChangeShapes Go.WideShapes Go.ChangeAt Go.RowKit

/-- The i-th one's cells lie in block b, from place o on. -/
structure ANod (w : World) (b o i : Nat) (t : Nod) : Prop where
  c0 : w.cell? ⟨b, o + i * 7, none⟩ = some (.int .i64 t.kind)
  c1 : w.cell? ⟨b, o + i * 7 + 1, none⟩ = some (.int .i64 t.a)
  c2 : w.cell? ⟨b, o + i * 7 + 2, none⟩ = some (.int .i64 t.b)
  c3 : w.cell? ⟨b, o + i * 7 + 3, none⟩ = some (.int .i64 t.c)
  c4 : w.cell? ⟨b, o + i * 7 + 4, none⟩ = some (.int .i64 t.n)
  c5 : w.cell? ⟨b, o + i * 7 + 5, none⟩ = some (.string t.name)
  c6 : w.cell? ⟨b, o + i * 7 + 6, none⟩ = some (.string t.other)

theorem ANod.below {w w' : World} {b o i B : Nat} {t : Nod} (h : ANod w b o i t) (hb : Below B w w') (hg : b < B) : ANod w' b o i t :=
  ⟨(World.cell?_of_block (hb.block b hg)).trans h.c0, (World.cell?_of_block (hb.block b hg)).trans h.c1, (World.cell?_of_block (hb.block b hg)).trans h.c2, (World.cell?_of_block (hb.block b hg)).trans h.c3, (World.cell?_of_block (hb.block b hg)).trans h.c4, (World.cell?_of_block (hb.block b hg)).trans h.c5, (World.cell?_of_block (hb.block b hg)).trans h.c6⟩

def ANods (w : World) (b o : Nat) (ts : List Nod) : Prop := ∀ i, i < ts.length → ANod w b o i (ts.getD i noNod)

theorem ANods.below {w w' : World} {b o B : Nat} {ts : List Nod} (h : ANods w b o ts) (hb : Below B w w') (hg : 0 < ts.length → b < B) : ANods w' b o ts := fun i hi => (h i hi).below hb (hg (by omega))

theorem ANods.lt {w : World} {b o : Nat} {ts : List Nod} (h : ANods w b o ts) (hl : 0 < ts.length) : b < w.heap.size := nod_lt (h 0 hl).c0

/-- How many bytes one has; how many the first k have. -/
def nodSz (t : Nod) : Nat := t.name.size + t.other.size
def nodLens (ts : List Nod) : Nat → Nat
  | 0 => 0
  | k + 1 => nodLens ts k + nodSz (ts.getD k noNod)

theorem nod_sz_no (x0 : Int) (x1 : Int) (x2 : Int) (x3 : Int) (x4 : Int) (x5 : ByteArray) (x6 : ByteArray) (l : Int) (h0 : 0 ≤ l) (hl : l ≤ 1048576) (hs5 : x5.size ≤ maxLen) (hs6 : x6.size ≤ maxLen) (w : World) (h : l < (x5.size : Int) + (x6.size : Int)) :
    Calls Tryz.prog 47 #[.agg #[.int .i64 x0, .int .i64 x1, .int .i64 x2, .int .i64 x3, .int .i64 x4, .string x5, .string x6], .int .i64 l] w fun e w' => e = .returned (.int .i64 (-1)) ∧ Below w.heap.size w w' := by
  unfold maxLen at hs5 hs6
  by_cases q5 : l < x5.size
  · go_enter Tryz.func47, Tryz.ntmps47
    go_wp2
    go_ret
    exact ⟨rfl, (Below.refl _ w).alloc (Nat.le_refl _) _⟩
  · have r5 : (x5.size : Int) ≤ l := by omega
    have q6 : l - (x5.size : Int) < x6.size := by omega
    go_enter Tryz.func47, Tryz.ntmps47
    go_wp2
    go_ret
    exact ⟨rfl, (Below.refl _ w).alloc (Nat.le_refl _) _⟩

theorem nod_sz_yes (x0 : Int) (x1 : Int) (x2 : Int) (x3 : Int) (x4 : Int) (x5 : ByteArray) (x6 : ByteArray) (l : Int) (h0 : 0 ≤ l) (hl : l ≤ 1048576) (w : World) (h : (x5.size : Int) + (x6.size : Int) ≤ l) :
    Calls Tryz.prog 47 #[.agg #[.int .i64 x0, .int .i64 x1, .int .i64 x2, .int .i64 x3, .int .i64 x4, .string x5, .string x6], .int .i64 l] w fun e w' => e = .returned (.int .i64 (l - (x5.size : Int) - (x6.size : Int))) ∧ Below w.heap.size w w' := by
  have r5 : (x5.size : Int) ≤ l := by omega
  have r6 : (x6.size : Int) ≤ l - (x5.size : Int) := by omega
  go_enter Tryz.func47, Tryz.ntmps47
  go_wp2
  go_ret
  exact ⟨rfl, (Below.refl _ w).alloc (Nat.le_refl _) _⟩

theorem nod_to (x0 : Int) (x1 : Int) (x2 : Int) (x3 : Int) (x4 : Int) (x5 : ByteArray) (x6 : ByteArray) (w : World) :
    Calls Tryz.prog 53 #[.agg #[.int .i64 x0, .int .i64 x1, .int .i64 x2, .int .i64 x3, .int .i64 x4, .string x5, .string x6]] w fun e w' => e = .returned (.agg #[.int .i64 x0, .int .i64 x1, .int .i64 x2, .int .i64 x3, .int .i64 x4, .string x5, .string x6]) ∧ Below w.heap.size w w' := by
  go_enter Tryz.func53, Tryz.ntmps53
  go_wp2
  (try simp only [Exit.inBlock, Exit.then])
  refine bodyPost_ret (results_cell_row rfl _ _ (w.heap.size + 1) 38 #[.int .i64 x0, .int .i64 x1, .int .i64 x2, .int .i64 x3, .int .i64 x4, .string x5, .string x6] (0, 0) _ rfl ?_ Tryz.underlying38 rfl (by kernel_rfl)) rfl ?_
  · rw [Below.heap_alloc _ _ _ (by simp), heap_alloc2_new]
  · exact ⟨rfl, (((Below.refl _ w).alloc (Nat.le_refl _) _).alloc (by simp) _).alloc (by simp; omega) _⟩

set_option maxRecDepth 20000 in
theorem nod_sz_row (a : Option Addr) (b o cap : Nat) (ts : List Nod) (hne : 0 < ts.length → a = some ⟨b, o, none⟩) (hm : ts.length ≤ maxLen) (L0 : Int) (hL0 : 0 ≤ L0) (hL1 : L0 ≤ 1048576)
    (hst : ∀ i, i < ts.length → (ts.getD i noNod).name.size ≤ maxLen ∧ (ts.getD i noNod).other.size ≤ maxLen) (w : World) (hA : ANods w b o ts) :
    Calls Tryz.prog 20 #[.slice a ts.length cap, .int .i64 L0] w fun e w' =>
      (∃ r : Int, e = .returned (.int .i64 r) ∧ (0 ≤ r → r = L0 - ts.length - nodLens ts ts.length)) ∧ Below w.heap.size w w' := by
  have HA : Hid (ANods w b o ts) := hA
  have HT : Hid (∀ i, i < ts.length → (ts.getD i noNod).name.size ≤ maxLen ∧ (ts.getD i noNod).other.size ≤ maxLen) := hst
  clear hA hst
  by_cases hbig : L0 < ts.length
  · unfold maxLen at hm
    have hbig' : L0 - (ts.length : Int) < 0 := by omega
    go_enter Tryz.func20, Tryz.ntmps20
    go_wp2
    go_ret
    exact ⟨⟨_, rfl, fun h => by simp at h⟩, Below.refl _ _⟩
  · clear hm
    have hbig' : ¬ L0 - (ts.length : Int) < 0 := by omega
    go_enter Tryz.func20, Tryz.ntmps20
    go_wp2
    go_loopw [1, 5] (fun l i wr => ∃ k : Nat, k ≤ ts.length ∧ (ts.length : Int) + nodLens ts k ≤ L0 ∧ l = .int .i64 (L0 - ts.length - nodLens ts k) ∧ i = .int .i64 k ∧ Below w.heap.size w wr) (fun _ i _ => ts.length - (intOf i).toNat)
    case atStart => exact ⟨0, by omega, by simp [nodLens]; omega, by simp [nodLens], rfl, Below.refl _ _⟩
    case round =>
      obtain ⟨k, hk, hl, rfl, rfl, hb⟩ := hrel
      by_cases hin : k < ts.length
      · have e1 : (k : Int) < ts.length := by omega
        obtain rfl := hne (by omega)
        have t := (HA.out.below hb (fun h => HA.out.lt h)) k hin
        have hsm := HT.out k hin
        have HL : Hid (nodLens ts (k + 1) = nodLens ts k + nodSz (ts.getD k noNod)) := rfl
        obtain ⟨⟨x0, x1, x2, x3, x4, x5, x6⟩, hx⟩ : ∃ y, ts.getD k noNod = y := ⟨_, rfl⟩
        rw [hx] at t hsm HL
        simp only [nodSz] at HL hsm
        have q0 : wr.cell? ⟨b, o + k * 7, none⟩ = some (.int .i64 x0) := t.c0
        have q1 : wr.cell? ⟨b, o + k * 7 + 1, none⟩ = some (.int .i64 x1) := t.c1
        have q2 : wr.cell? ⟨b, o + k * 7 + 2, none⟩ = some (.int .i64 x2) := t.c2
        have q3 : wr.cell? ⟨b, o + k * 7 + 3, none⟩ = some (.int .i64 x3) := t.c3
        have q4 : wr.cell? ⟨b, o + k * 7 + 4, none⟩ = some (.int .i64 x4) := t.c4
        have q5 : wr.cell? ⟨b, o + k * 7 + 5, none⟩ = some (.string x5) := t.c5
        have q6 : wr.cell? ⟨b, o + k * 7 + 6, none⟩ = some (.string x6) := t.c6
        have hsize := hb.size
        generalize nodLens ts k = lk at *
        clear t hx
        by_cases hc : (L0 - (ts.length : Int) - lk) < (x5.size : Int) + (x6.size : Int)
        · go_wp2_with fail
          refine (nod_sz_no _ _ _ _ _ _ _ _ (by omega) (by omega) hsm.1 hsm.2 wr hc).mono ?_
          rintro e w1 ⟨rfl, hb1⟩
          go_wp2
          go_ret
          exact ⟨⟨_, rfl, fun h => by simp at h⟩, hb.trans (hb1.mono hsize)⟩
        · have hc' : (x5.size : Int) + (x6.size : Int) ≤ L0 - (ts.length : Int) - lk := by omega
          clear hc
          go_wp2_with fail
          refine (nod_sz_yes _ _ _ _ _ _ _ _ (by omega) (by omega) wr hc').mono ?_
          rintro e w1 ⟨rfl, hb1⟩
          have hp : ¬ (L0 - (ts.length : Int) - lk - (x5.size : Int) - (x6.size : Int)) < 0 := by omega
          go_wp2
          go_roundw
          case rel => exact ⟨k + 1, by omega, by rw [HL.out]; omega, by rw [HL.out]; congr 1; omega, by go_num, hb.trans (hb1.mono hsize)⟩
          case measure => simp [intOf]; omega
      · obtain rfl : k = ts.length := by omega
        go_wp2
        go_ret
        exact ⟨⟨_, rfl, fun _ => rfl⟩, hb⟩

/-- The first k, and behind them as many empty ones as are wanting. -/
def nodMix (ts : List Nod) (k : Nat) : List Nod := ts.take k ++ List.replicate (ts.length - k) noNod

theorem nodMix_length (ts : List Nod) (k : Nat) (h : k ≤ ts.length) : (nodMix ts k).length = ts.length := by simp [nodMix]; omega

theorem nodMix_all (ts : List Nod) : nodMix ts ts.length = ts := by simp [nodMix]

theorem nodMix_set (ts : List Nod) (k : Nat) (h : k < ts.length) : (nodMix ts k).set k (ts.getD k noNod) = nodMix ts (k + 1) := by
  apply List.ext_getElem?
  intro i
  have e : ts.getD k noNod = ts[k] := by simp [List.getD, List.getElem?_eq_getElem h]
  rw [List.getElem?_set, nodMix_length ts k (by omega), e]
  by_cases hik : k = i
  · subst hik
    rw [if_pos rfl, if_pos h, nodMix, List.getElem?_append_left (by simp; omega), List.getElem?_take_of_lt (by omega), List.getElem?_eq_getElem h]
  · rw [if_neg hik, nodMix, nodMix, List.getElem?_append, List.getElem?_append]
    by_cases hi : i < k
    · rw [if_pos (by simp; omega), if_pos (by simp; omega), List.getElem?_take_of_lt hi, List.getElem?_take_of_lt (by omega)]
    · rw [if_neg (by simp; omega), if_neg (by simp; omega)]
      simp only [List.length_take, List.getElem?_replicate]
      by_cases hi2 : i < ts.length
      · rw [if_pos (by omega), if_pos (by omega)]
      · rw [if_neg (by omega), if_neg (by omega)]

theorem nod_set (w : World) (g k : Nat) (l : List Nod) (e : TypeId) (t : Nod) (hg : w.heap[g]? = some (.cells (l.flatMap nodCells).toArray e (0, 0))) (hk : k < l.length) :
    (((((((w.setCell ⟨g, k * 7, none⟩ (.int .i64 t.kind)).setCell ⟨g, k * 7 + 1, none⟩ (.int .i64 t.a)).setCell ⟨g, k * 7 + 2, none⟩ (.int .i64 t.b)).setCell ⟨g, k * 7 + 3, none⟩ (.int .i64 t.c)).setCell ⟨g, k * 7 + 4, none⟩ (.int .i64 t.n)).setCell ⟨g, k * 7 + 5, none⟩ (.string t.name)).setCell ⟨g, k * 7 + 6, none⟩ (.string t.other)).heap[g]? =
      some (.cells ((l.set k t).flatMap nodCells).toArray e (0, 0)) := by
  rw [heap_setCell_same _ _ _ _ _ _ (heap_setCell_same _ _ _ _ _ _ (heap_setCell_same _ _ _ _ _ _ (heap_setCell_same _ _ _ _ _ _ (heap_setCell_same _ _ _ _ _ _ (heap_setCell_same _ _ _ _ _ _ (heap_setCell_same _ _ _ _ _ _ hg))))))]
  rw [List.setIfInBounds_toArray, List.setIfInBounds_toArray, List.setIfInBounds_toArray, List.setIfInBounds_toArray, List.setIfInBounds_toArray, List.setIfInBounds_toArray, List.setIfInBounds_toArray, nod_flat_set t l k hk]

theorem nod_made (m : Nat) : madeCells (Value.agg #[.int .i64 0, .int .i64 0, .int .i64 0, .int .i64 0, .int .i64 0, .string ⟨#[]⟩, .string ⟨#[]⟩]).cells (m * 7) = ((List.replicate m noNod).flatMap nodCells).toArray := by
  apply Array.ext
  · have e : ((List.replicate m noNod).flatMap nodCells).toArray.size = m * 7 := by rw [List.size_toArray, nod_flat_length, List.length_replicate]
    rw [e]; simp [madeCells]
  · intro i h1 h2
    have hi : i < m * 7 := by simpa [madeCells] using h1
    have e := nod_flat_at (List.replicate m noNod) (i / 7) (i % 7) (by simp; omega) (by omega)
    rw [show i / 7 * 7 + i % 7 = i by omega] at e
    have e2 : (List.replicate m noNod).getD (i / 7) noNod = noNod := by simp only [List.getD, List.getElem?_replicate]; split <;> rfl
    rw [e2] at e
    have h3 : i < ((List.replicate m noNod).flatMap nodCells).length := by rw [nod_flat_length]; simpa using hi
    rw [List.getElem?_eq_getElem h3] at e
    have e3 : ((List.replicate m noNod).flatMap nodCells).toArray[i] = ((List.replicate m noNod).flatMap nodCells)[i] := by simp
    rw [e3]
    have hm : i % 7 = 0 ∨ i % 7 = 1 ∨ i % 7 = 2 ∨ i % 7 = 3 ∨ i % 7 = 4 ∨ i % 7 = 5 ∨ i % 7 = 6 := by omega
    rcases hm with hm | hm | hm | hm | hm | hm | hm <;> simp [madeCells, Value.cells, hm, nodCells, noNod] at e ⊢ <;> exact e.symm

set_option maxHeartbeats 1000000 in
set_option maxRecDepth 20000 in
theorem nod_to_row (a : Option Addr) (b o cap : Nat) (ts : List Nod) (hne : 0 < ts.length → a = some ⟨b, o, none⟩) (hl : ts.length ≤ 1048576) (w : World) (hA : ANods w b o ts) :
    Calls Tryz.prog 22 #[.slice a ts.length cap] w fun e w' =>
      e = .returned (.slice (some ⟨w.heap.size, 0, none⟩) ts.length ts.length) ∧ w'.heap[w.heap.size]? = some (.cells (ts.flatMap nodCells).toArray 38 (0, 0)) ∧ Below w.heap.size w w' := by
  obtain ⟨i0, hi, hz0, hz1, hz2⟩ := info_parts info_nod
  have hmk := run_make (P := Tryz.prog) w 24 38 i0 _ Tryz.underlying24 hi hz0 .i64 .i64 (ts.length : Int) (ts.length : Int) (by omega) (by omega) (by rw [hz2]; omega) (by omega)
  rw [hz1] at hmk
  have ez : ((ts.length : Nat) : Int).toNat = ts.length := by omega
  rw [ez, nod_made] at hmk
  clear hi hz0 hz1 hz2 ez
  have hA' : Hid (ANods w b o ts) := hA
  clear hA
  go_enter Tryz.func22, Tryz.ntmps22
  go_wp2
  clear hmk
  go_loopw [4] (fun i wr => ∃ k : Nat, k ≤ ts.length ∧ i = .int .i64 k ∧ Hid (wr.heap[w.heap.size]? = some (.cells ((nodMix ts k).flatMap nodCells).toArray 38 (0, 0))) ∧ Below w.heap.size w wr) (fun i _ => ts.length - (intOf i).toNat)
  case atStart =>
    refine ⟨0, by omega, rfl, ?_, (Below.refl _ _).alloc (Nat.le_refl _) _⟩
    show (w.alloc _).heap[w.heap.size]? = _
    rw [(MapKept.heap_alloc w _).1]
    simp [nodMix]
  case round =>
    obtain ⟨k, hk, rfl, hroom, hb⟩ := hrel
    by_cases hin : k < ts.length
    · have e1 : (k : Int) < ts.length := by omega
      obtain rfl := hne (by omega)
      have t := (hA'.out.below hb (fun h => hA'.out.lt h)) k hin
      obtain ⟨⟨x0, x1, x2, x3, x4, x5, x6⟩, hx⟩ : ∃ y, ts.getD k noNod = y := ⟨_, rfl⟩
      have HX : Hid (ts.getD k noNod = ⟨x0, x1, x2, x3, x4, x5, x6⟩) := hx
      rw [hx] at t
      have q0 : wr.cell? ⟨b, o + k * 7, none⟩ = some (.int .i64 x0) := t.c0
      have q1 : wr.cell? ⟨b, o + k * 7 + 1, none⟩ = some (.int .i64 x1) := t.c1
      have q2 : wr.cell? ⟨b, o + k * 7 + 2, none⟩ = some (.int .i64 x2) := t.c2
      have q3 : wr.cell? ⟨b, o + k * 7 + 3, none⟩ = some (.int .i64 x3) := t.c3
      have q4 : wr.cell? ⟨b, o + k * 7 + 4, none⟩ = some (.int .i64 x4) := t.c4
      have q5 : wr.cell? ⟨b, o + k * 7 + 5, none⟩ = some (.string x5) := t.c5
      have q6 : wr.cell? ⟨b, o + k * 7 + 6, none⟩ = some (.string x6) := t.c6
      clear t hx
      have hsize := hb.size
      go_wp2_with fail
      refine (nod_to _ _ _ _ _ _ _ wr).mono ?_
      rintro e w1 ⟨rfl, hb1⟩
      have hr1 : w1.heap[w.heap.size]? = some (.cells ((nodMix ts k).flatMap nodCells).toArray 38 (0, 0)) := (hb1.block _ (Array.getElem?_eq_some_iff.1 hroom.out).1).trans hroom.out
      have HR1 : Hid (w1.heap[w.heap.size]? = some (.cells ((nodMix ts k).flatMap nodCells).toArray 38 (0, 0))) := hr1
      have f0 : w1.frozen? ⟨w.heap.size, k * 7, none⟩ = false := frozen_of_row w1 _ _ _ _ hr1
      have f1 : w1.frozen? ⟨w.heap.size, k * 7 + 1, none⟩ = false := frozen_of_row w1 _ _ _ _ hr1
      have f2 : w1.frozen? ⟨w.heap.size, k * 7 + 2, none⟩ = false := frozen_of_row w1 _ _ _ _ hr1
      have f3 : w1.frozen? ⟨w.heap.size, k * 7 + 3, none⟩ = false := frozen_of_row w1 _ _ _ _ hr1
      have f4 : w1.frozen? ⟨w.heap.size, k * 7 + 4, none⟩ = false := frozen_of_row w1 _ _ _ _ hr1
      have f5 : w1.frozen? ⟨w.heap.size, k * 7 + 5, none⟩ = false := frozen_of_row w1 _ _ _ _ hr1
      have f6 : w1.frozen? ⟨w.heap.size, k * 7 + 6, none⟩ = false := frozen_of_row w1 _ _ _ _ hr1
      have c := nod_of_room hr1 k (by rw [nodMix_length ts k hk]; exact hin)
      generalize (nodMix ts k).getD k noNod = y at c
      obtain ⟨y0, y1, y2, y3, y4, y5, y6⟩ := y
      have c0 : w1.cell? ⟨w.heap.size, k * 7, none⟩ = some (.int .i64 y0) := c.c0
      have c1 : w1.cell? ⟨w.heap.size, k * 7 + 1, none⟩ = some (.int .i64 y1) := c.c1
      have c2 : w1.cell? ⟨w.heap.size, k * 7 + 2, none⟩ = some (.int .i64 y2) := c.c2
      have c3 : w1.cell? ⟨w.heap.size, k * 7 + 3, none⟩ = some (.int .i64 y3) := c.c3
      have c4 : w1.cell? ⟨w.heap.size, k * 7 + 4, none⟩ = some (.int .i64 y4) := c.c4
      have c5 : w1.cell? ⟨w.heap.size, k * 7 + 5, none⟩ = some (.string y5) := c.c5
      have c6 : w1.cell? ⟨w.heap.size, k * 7 + 6, none⟩ = some (.string y6) := c.c6
      clear c hr1
      go_wp2
      go_roundw
      case rel =>
        refine ⟨k + 1, by omega, by go_num, ?_, ?_⟩
        · have h := nod_set w1 w.heap.size k (nodMix ts k) 38 (ts.getD k noNod) HR1.out (by rw [nodMix_length ts k hk]; exact hin)
          rw [nodMix_set ts k hin, HX.out] at h
          exact h
        · exact (((((((hb.trans (hb1.mono hsize)).setCell (p := ⟨w.heap.size, k * 7, none⟩) (Nat.le_refl _) _).setCell (p := ⟨w.heap.size, k * 7 + 1, none⟩) (Nat.le_refl _) _).setCell (p := ⟨w.heap.size, k * 7 + 2, none⟩) (Nat.le_refl _) _).setCell (p := ⟨w.heap.size, k * 7 + 3, none⟩) (Nat.le_refl _) _).setCell (p := ⟨w.heap.size, k * 7 + 4, none⟩) (Nat.le_refl _) _).setCell (p := ⟨w.heap.size, k * 7 + 5, none⟩) (Nat.le_refl _) _).setCell (p := ⟨w.heap.size, k * 7 + 6, none⟩) (Nat.le_refl _) _
      case measure => simp [intOf]; omega
    · obtain rfl : k = ts.length := by omega
      have hr := hroom.out
      rw [nodMix_all] at hr
      have HR : Hid (wr.heap[w.heap.size]? = some (.cells (ts.flatMap nodCells).toArray 38 (0, 0))) := hr
      clear hr
      go_wp2
      go_ret
      exact ⟨rfl, HR.out, hb⟩
end

section
open Go.ChangeShapes Go.WideShapes Go.ChangeAt Go.RowKit

/-- The marks that are written into one. -/
def nodMark (c : Nat) : Nod := ⟨(c : Nat), (c + 1 : Nat), (c + 2 : Nat), (c + 3 : Nat), (c + 4 : Nat), markS (c + 5), markS (c + 6)⟩

/-- The first k of them marked. -/
def nodMkd (ts : List Nod) (c : Nat) : Nat → List Nod
  | 0 => ts
  | k + 1 => (nodMkd ts c k).set k (nodMark (c + 7 * k))

theorem nodMkd_length (ts : List Nod) (c : Nat) : ∀ k, (nodMkd ts c k).length = ts.length
  | 0 => rfl
  | k + 1 => by rw [nodMkd, List.length_set, nodMkd_length ts c k]

theorem nodMkd_at (ts : List Nod) (c : Nat) : ∀ (k i : Nat), i < k → i < ts.length → (nodMkd ts c k).getD i noNod = nodMark (c + 7 * i)
  | 0, i, h, _ => by omega
  | k + 1, i, h, hl => by
    rw [nodMkd]
    by_cases hik : i = k
    · subst hik
      simp [List.getD, nodMkd_length, hl]
    · have ih := nodMkd_at ts c k i (by omega) hl
      have hki : ¬ k = i := fun e => hik e.symm
      simp only [List.getD, List.getElem?_set, hki, if_false] at ih ⊢
      exact ih

set_option maxHeartbeats 4000000 in
set_option maxRecDepth 20000 in
theorem nod_mark_row (a : Option Addr) (g cap B : Nat) (ts : List Nod) (sp : List Value) (hl : ts.length ≤ 1048576) (ha : 0 < ts.length → a = some ⟨g, 0, none⟩) (w : World)
    (hg : 0 < ts.length → w.heap[g]? = some (.cells (ts.flatMap nodCells ++ sp).toArray 38 (0, 0))) (hB : B ≤ g) (hBw : B ≤ w.heap.size) :
    Calls Tryz.prog 24 #[.slice a ts.length cap, .int .i64 1] w fun e w' =>
      e = .returned (.int .i64 ((1 + 7 * ts.length : Nat) : Int)) ∧ (0 < ts.length → w'.heap[g]? = some (.cells ((nodMkd ts 1 ts.length).flatMap nodCells ++ sp).toArray 38 (0, 0))) ∧ Below B w w' ∧ But g w w' := by
  have HG : Hid (0 < ts.length → w.heap[g]? = some (.cells (ts.flatMap nodCells ++ sp).toArray 38 (0, 0))) := hg
  clear hg
  go_enter Tryz.func24, Tryz.ntmps24
  go_wp2
  go_loopw [1, 5] (fun c i wr => ∃ k : Nat, k ≤ ts.length ∧ i = .int .i64 k ∧ c = .int .i64 ((1 + 7 * k : Nat) : Int) ∧ Hid (0 < ts.length → wr.heap[g]? = some (.cells ((nodMkd ts 1 k).flatMap nodCells ++ sp).toArray 38 (0, 0))) ∧ Below B w wr ∧ Hid (But g w wr)) (fun _ i _ => ts.length - (intOf i).toNat)
  case atStart => exact ⟨0, by omega, rfl, rfl, HG.out, Below.refl _ _, But.refl _ _⟩
  case round =>
    obtain ⟨k, hk, rfl, rfl, HR, hb, T0⟩ := hrel
    by_cases hin : k < ts.length
    · have e1 : (k : Int) < ts.length := by omega
      obtain rfl := ha (by omega)
      have hr0 := HR.out (by omega)
      have hlt0 : g < wr.heap.size := (Array.getElem?_eq_some_iff.1 hr0).1
      have hkm : k < (nodMkd ts 1 k).length := by rw [nodMkd_length]; exact hin
      have t0 := nod_of_row hr0 k hkm
      have HS : Hid (_) := nod_flat_set' (nodMark (1 + 7 * k)) (nodMkd ts 1 k) sp k hkm
      have HK : Hid (nodMkd ts 1 (k + 1) = (nodMkd ts 1 k).set k (nodMark (1 + 7 * k))) := rfl
      have HR0 : Hid (wr.heap[g]? = some (.cells ((nodMkd ts 1 k).flatMap nodCells ++ sp).toArray 38 (0, 0))) := hr0
      generalize (nodMkd ts 1 k).getD k noNod = y at t0
      obtain ⟨y0, y1, y2, y3, y4, y5, y6⟩ := y
      generalize (nodMkd ts 1 k).flatMap nodCells ++ sp = M0 at HR0 HS hr0
      have b0 : Below B w wr := hb
      have e4 : ((1 + 7 * k : Nat) : Int) = 1 + 7 * (k : Int) := by omega
      have c0 : wr.cell? ⟨g, k * 7, none⟩ = some (.int .i64 y0) := t0.c0
      have c1 : wr.cell? ⟨g, k * 7 + 1, none⟩ = some (.int .i64 y1) := t0.c1
      have c2 : wr.cell? ⟨g, k * 7 + 2, none⟩ = some (.int .i64 y2) := t0.c2
      have c3 : wr.cell? ⟨g, k * 7 + 3, none⟩ = some (.int .i64 y3) := t0.c3
      have c4 : wr.cell? ⟨g, k * 7 + 4, none⟩ = some (.int .i64 y4) := t0.c4
      have c5 : wr.cell? ⟨g, k * 7 + 5, none⟩ = some (.string y5) := t0.c5
      have c6 : wr.cell? ⟨g, k * 7 + 6, none⟩ = some (.string y6) := t0.c6
      have f0 : wr.frozen? ⟨g, k * 7, none⟩ = false := frozen_of_row wr _ _ _ _ hr0
      have f1 : wr.frozen? ⟨g, k * 7 + 1, none⟩ = false := frozen_of_row wr _ _ _ _ hr0
      have f2 : wr.frozen? ⟨g, k * 7 + 2, none⟩ = false := frozen_of_row wr _ _ _ _ hr0
      have f3 : wr.frozen? ⟨g, k * 7 + 3, none⟩ = false := frozen_of_row wr _ _ _ _ hr0
      have f4 : wr.frozen? ⟨g, k * 7 + 4, none⟩ = false := frozen_of_row wr _ _ _ _ hr0
      have f5 : wr.frozen? ⟨g, k * 7 + 5, none⟩ = false := frozen_of_row wr _ _ _ _ hr0
      have f6 : wr.frozen? ⟨g, k * 7 + 6, none⟩ = false := frozen_of_row wr _ _ _ _ hr0
      clear t0 hr0 HR hb hkm
      have hh0 : (((((wr.setCell ⟨g, k * 7, none⟩ (.int .i64 (1 + 7 * (k : Int)))).setCell ⟨g, k * 7 + 1, none⟩ (.int .i64 (1 + 7 * (k : Int) + 1))).setCell ⟨g, k * 7 + 2, none⟩ (.int .i64 (1 + 7 * (k : Int) + 1 + 1))).setCell ⟨g, k * 7 + 3, none⟩ (.int .i64 (1 + 7 * (k : Int) + 1 + 1 + 1))).setCell ⟨g, k * 7 + 4, none⟩ (.int .i64 (1 + 7 * (k : Int) + 1 + 1 + 1 + 1))).heap[g]? = some (.cells ((((((M0.set (k * 7) (.int .i64 (1 + 7 * (k : Int)))).set (k * 7 + 1) (.int .i64 (1 + 7 * (k : Int) + 1))).set (k * 7 + 2) (.int .i64 (1 + 7 * (k : Int) + 1 + 1))).set (k * 7 + 3) (.int .i64 (1 + 7 * (k : Int) + 1 + 1 + 1))).set (k * 7 + 4) (.int .i64 (1 + 7 * (k : Int) + 1 + 1 + 1 + 1)))).toArray 38 (0, 0)) := by
        have h := heap_setCell_same _ g (k * 7 + 4) _ _ (.int .i64 (1 + 7 * (k : Int) + 1 + 1 + 1 + 1)) (heap_setCell_same _ g (k * 7 + 3) _ _ (.int .i64 (1 + 7 * (k : Int) + 1 + 1 + 1)) (heap_setCell_same _ g (k * 7 + 2) _ _ (.int .i64 (1 + 7 * (k : Int) + 1 + 1)) (heap_setCell_same _ g (k * 7 + 1) _ _ (.int .i64 (1 + 7 * (k : Int) + 1)) (heap_setCell_same _ g (k * 7) _ _ (.int .i64 (1 + 7 * (k : Int))) (HR0.out)))))
        simp only [List.setIfInBounds_toArray] at h
        exact h
      have HH0 : Hid ((((((wr.setCell ⟨g, k * 7, none⟩ (.int .i64 (1 + 7 * (k : Int)))).setCell ⟨g, k * 7 + 1, none⟩ (.int .i64 (1 + 7 * (k : Int) + 1))).setCell ⟨g, k * 7 + 2, none⟩ (.int .i64 (1 + 7 * (k : Int) + 1 + 1))).setCell ⟨g, k * 7 + 3, none⟩ (.int .i64 (1 + 7 * (k : Int) + 1 + 1 + 1))).setCell ⟨g, k * 7 + 4, none⟩ (.int .i64 (1 + 7 * (k : Int) + 1 + 1 + 1 + 1))).heap[g]? = some (.cells ((((((M0.set (k * 7) (.int .i64 (1 + 7 * (k : Int)))).set (k * 7 + 1) (.int .i64 (1 + 7 * (k : Int) + 1))).set (k * 7 + 2) (.int .i64 (1 + 7 * (k : Int) + 1 + 1))).set (k * 7 + 3) (.int .i64 (1 + 7 * (k : Int) + 1 + 1 + 1))).set (k * 7 + 4) (.int .i64 (1 + 7 * (k : Int) + 1 + 1 + 1 + 1)))).toArray 38 (0, 0))) := hh0
      have sz0 : (((((wr.setCell ⟨g, k * 7, none⟩ (.int .i64 (1 + 7 * (k : Int)))).setCell ⟨g, k * 7 + 1, none⟩ (.int .i64 (1 + 7 * (k : Int) + 1))).setCell ⟨g, k * 7 + 2, none⟩ (.int .i64 (1 + 7 * (k : Int) + 1 + 1))).setCell ⟨g, k * 7 + 3, none⟩ (.int .i64 (1 + 7 * (k : Int) + 1 + 1 + 1))).setCell ⟨g, k * 7 + 4, none⟩ (.int .i64 (1 + 7 * (k : Int) + 1 + 1 + 1 + 1))).heap.size = wr.heap.size := by simp
      have bb0 : Below B w (((((wr.setCell ⟨g, k * 7, none⟩ (.int .i64 (1 + 7 * (k : Int)))).setCell ⟨g, k * 7 + 1, none⟩ (.int .i64 (1 + 7 * (k : Int) + 1))).setCell ⟨g, k * 7 + 2, none⟩ (.int .i64 (1 + 7 * (k : Int) + 1 + 1))).setCell ⟨g, k * 7 + 3, none⟩ (.int .i64 (1 + 7 * (k : Int) + 1 + 1 + 1))).setCell ⟨g, k * 7 + 4, none⟩ (.int .i64 (1 + 7 * (k : Int) + 1 + 1 + 1 + 1))) := (((((b0).setCell (p := ⟨g, k * 7, none⟩) hB _).setCell (p := ⟨g, k * 7 + 1, none⟩) hB _).setCell (p := ⟨g, k * 7 + 2, none⟩) hB _).setCell (p := ⟨g, k * 7 + 3, none⟩) hB _).setCell (p := ⟨g, k * 7 + 4, none⟩) hB _
      have U0 : Hid (But g w (((((wr.setCell ⟨g, k * 7, none⟩ (.int .i64 (1 + 7 * (k : Int)))).setCell ⟨g, k * 7 + 1, none⟩ (.int .i64 (1 + 7 * (k : Int) + 1))).setCell ⟨g, k * 7 + 2, none⟩ (.int .i64 (1 + 7 * (k : Int) + 1 + 1))).setCell ⟨g, k * 7 + 3, none⟩ (.int .i64 (1 + 7 * (k : Int) + 1 + 1 + 1))).setCell ⟨g, k * 7 + 4, none⟩ (.int .i64 (1 + 7 * (k : Int) + 1 + 1 + 1 + 1)))) := (((((T0.out).setCell (k * 7) _).setCell (k * 7 + 1) _).setCell (k * 7 + 2) _).setCell (k * 7 + 3) _).setCell (k * 7 + 4) _
      have d0_5 : (((((wr.setCell ⟨g, k * 7, none⟩ (.int .i64 (1 + 7 * (k : Int)))).setCell ⟨g, k * 7 + 1, none⟩ (.int .i64 (1 + 7 * (k : Int) + 1))).setCell ⟨g, k * 7 + 2, none⟩ (.int .i64 (1 + 7 * (k : Int) + 1 + 1))).setCell ⟨g, k * 7 + 3, none⟩ (.int .i64 (1 + 7 * (k : Int) + 1 + 1 + 1))).setCell ⟨g, k * 7 + 4, none⟩ (.int .i64 (1 + 7 * (k : Int) + 1 + 1 + 1 + 1))).cell? ⟨g, k * 7 + 5, none⟩ = some (.string y5) := (World.cell?_setCell_other _ _ _ _ (by simp)).trans ((World.cell?_setCell_other _ _ _ _ (by simp)).trans ((World.cell?_setCell_other _ _ _ _ (by simp)).trans ((World.cell?_setCell_other _ _ _ _ (by simp)).trans ((World.cell?_setCell_other _ _ _ _ (by simp)).trans (c5)))))
      have d0_6 : (((((wr.setCell ⟨g, k * 7, none⟩ (.int .i64 (1 + 7 * (k : Int)))).setCell ⟨g, k * 7 + 1, none⟩ (.int .i64 (1 + 7 * (k : Int) + 1))).setCell ⟨g, k * 7 + 2, none⟩ (.int .i64 (1 + 7 * (k : Int) + 1 + 1))).setCell ⟨g, k * 7 + 3, none⟩ (.int .i64 (1 + 7 * (k : Int) + 1 + 1 + 1))).setCell ⟨g, k * 7 + 4, none⟩ (.int .i64 (1 + 7 * (k : Int) + 1 + 1 + 1 + 1))).cell? ⟨g, k * 7 + 6, none⟩ = some (.string y6) := (World.cell?_setCell_other _ _ _ _ (by simp)).trans ((World.cell?_setCell_other _ _ _ _ (by simp)).trans ((World.cell?_setCell_other _ _ _ _ (by simp)).trans ((World.cell?_setCell_other _ _ _ _ (by simp)).trans ((World.cell?_setCell_other _ _ _ _ (by simp)).trans (c6)))))
      clear hh0
      go_wp2_with fail
      refine (mark_at _ (1 + 7 * k + 5) (by omega) (by omega) (by omega) _).mono ?_
      rintro e w2 ⟨rfl, hx0⟩
      rw [sz0] at hx0
      have hr1 : w2.heap[g]? = _ := (hx0.block g hlt0).trans HH0.out
      have HR1 : Hid (w2.heap[g]? = some (.cells ((((((M0.set (k * 7) (.int .i64 (1 + 7 * (k : Int)))).set (k * 7 + 1) (.int .i64 (1 + 7 * (k : Int) + 1))).set (k * 7 + 2) (.int .i64 (1 + 7 * (k : Int) + 1 + 1))).set (k * 7 + 3) (.int .i64 (1 + 7 * (k : Int) + 1 + 1 + 1))).set (k * 7 + 4) (.int .i64 (1 + 7 * (k : Int) + 1 + 1 + 1 + 1)))).toArray 38 (0, 0))) := hr1
      have hlt1 : g < w2.heap.size := (Array.getElem?_eq_some_iff.1 hr1).1
      have b1 : Below B w w2 := bb0.trans (hx0.mono (by have h1 := bb0.size; rw [sz0] at h1; omega))
      have T1 : Hid (But g w w2) := U0.out.call (by rw [sz0]; exact hx0)
      clear c0 f0 c1 f1 c2 f2 c3 f3 c4 f4 c5 f5 c6 f6
      have c5 : w2.cell? ⟨g, k * 7 + 5, none⟩ = some (.string y5) := (World.cell?_of_block (hx0.block g hlt0)).trans d0_5
      have f5 : w2.frozen? ⟨g, k * 7 + 5, none⟩ = false := frozen_of_row w2 _ _ _ _ hr1
      have c6 : w2.cell? ⟨g, k * 7 + 6, none⟩ = some (.string y6) := (World.cell?_of_block (hx0.block g hlt0)).trans d0_6
      have f6 : w2.frozen? ⟨g, k * 7 + 6, none⟩ = false := frozen_of_row w2 _ _ _ _ hr1
      clear hr1 d0_5 d0_6 hx0 HH0 bb0 sz0 b0 HR0 T0 U0
      have hh1 : (w2.setCell ⟨g, k * 7 + 5, none⟩ (.string (markS (1 + 7 * k + 5)))).heap[g]? = some (.cells (((((((M0.set (k * 7) (.int .i64 (1 + 7 * (k : Int)))).set (k * 7 + 1) (.int .i64 (1 + 7 * (k : Int) + 1))).set (k * 7 + 2) (.int .i64 (1 + 7 * (k : Int) + 1 + 1))).set (k * 7 + 3) (.int .i64 (1 + 7 * (k : Int) + 1 + 1 + 1))).set (k * 7 + 4) (.int .i64 (1 + 7 * (k : Int) + 1 + 1 + 1 + 1))).set (k * 7 + 5) (.string (markS (1 + 7 * k + 5))))).toArray 38 (0, 0)) := by
        have h := heap_setCell_same _ g (k * 7 + 5) _ _ (.string (markS (1 + 7 * k + 5))) (HR1.out)
        simp only [List.setIfInBounds_toArray] at h
        exact h
      have HH1 : Hid ((w2.setCell ⟨g, k * 7 + 5, none⟩ (.string (markS (1 + 7 * k + 5)))).heap[g]? = some (.cells (((((((M0.set (k * 7) (.int .i64 (1 + 7 * (k : Int)))).set (k * 7 + 1) (.int .i64 (1 + 7 * (k : Int) + 1))).set (k * 7 + 2) (.int .i64 (1 + 7 * (k : Int) + 1 + 1))).set (k * 7 + 3) (.int .i64 (1 + 7 * (k : Int) + 1 + 1 + 1))).set (k * 7 + 4) (.int .i64 (1 + 7 * (k : Int) + 1 + 1 + 1 + 1))).set (k * 7 + 5) (.string (markS (1 + 7 * k + 5))))).toArray 38 (0, 0))) := hh1
      have sz1 : (w2.setCell ⟨g, k * 7 + 5, none⟩ (.string (markS (1 + 7 * k + 5)))).heap.size = w2.heap.size := by simp
      have bb1 : Below B w (w2.setCell ⟨g, k * 7 + 5, none⟩ (.string (markS (1 + 7 * k + 5)))) := (b1).setCell (p := ⟨g, k * 7 + 5, none⟩) hB _
      have U1 : Hid (But g w (w2.setCell ⟨g, k * 7 + 5, none⟩ (.string (markS (1 + 7 * k + 5))))) := (T1.out).setCell (k * 7 + 5) _
      have d1_6 : (w2.setCell ⟨g, k * 7 + 5, none⟩ (.string (markS (1 + 7 * k + 5)))).cell? ⟨g, k * 7 + 6, none⟩ = some (.string y6) := (World.cell?_setCell_other _ _ _ _ (by simp)).trans (c6)
      clear hh1
      go_wp2_with fail
      refine (mark_at _ (1 + 7 * k + 6) (by omega) (by omega) (by omega) _).mono ?_
      rintro e w3 ⟨rfl, hx1⟩
      rw [sz1] at hx1
      have hr2 : w3.heap[g]? = _ := (hx1.block g hlt1).trans HH1.out
      have HR2 : Hid (w3.heap[g]? = some (.cells (((((((M0.set (k * 7) (.int .i64 (1 + 7 * (k : Int)))).set (k * 7 + 1) (.int .i64 (1 + 7 * (k : Int) + 1))).set (k * 7 + 2) (.int .i64 (1 + 7 * (k : Int) + 1 + 1))).set (k * 7 + 3) (.int .i64 (1 + 7 * (k : Int) + 1 + 1 + 1))).set (k * 7 + 4) (.int .i64 (1 + 7 * (k : Int) + 1 + 1 + 1 + 1))).set (k * 7 + 5) (.string (markS (1 + 7 * k + 5))))).toArray 38 (0, 0))) := hr2
      have hlt2 : g < w3.heap.size := (Array.getElem?_eq_some_iff.1 hr2).1
      have b2 : Below B w w3 := bb1.trans (hx1.mono (by have h1 := bb1.size; rw [sz1] at h1; omega))
      have T2 : Hid (But g w w3) := U1.out.call (by rw [sz1]; exact hx1)
      clear c5 f5 c6 f6
      have c6 : w3.cell? ⟨g, k * 7 + 6, none⟩ = some (.string y6) := (World.cell?_of_block (hx1.block g hlt1)).trans d1_6
      have f6 : w3.frozen? ⟨g, k * 7 + 6, none⟩ = false := frozen_of_row w3 _ _ _ _ hr2
      clear hr2 d1_6 hx1 HH1 bb1 sz1 b1 HR1 T1 U1
      go_wp2
      go_roundw
      case rel =>
        refine ⟨k + 1, by omega, by go_num, by go_num, fun _ => ?_, ?_, ?_⟩
        · have h := heap_setCell_same _ g (k * 7 + 6) _ _ (.string (markS (1 + 7 * k + 6))) (HR2.out)
          simp only [List.setIfInBounds_toArray] at h
          have hs := HS.out
          simp only [nodMark] at hs
          rw [show ((1 + 7 * k : Nat) : Int) = 1 + 7 * (k : Int) by omega] at hs
          rw [show ((1 + 7 * k + 1 : Nat) : Int) = 1 + 7 * (k : Int) + 1 by omega] at hs
          rw [show ((1 + 7 * k + 2 : Nat) : Int) = 1 + 7 * (k : Int) + 1 + 1 by omega] at hs
          rw [show ((1 + 7 * k + 3 : Nat) : Int) = 1 + 7 * (k : Int) + 1 + 1 + 1 by omega] at hs
          rw [show ((1 + 7 * k + 4 : Nat) : Int) = 1 + 7 * (k : Int) + 1 + 1 + 1 + 1 by omega] at hs
          rw [hs] at h
          rw [HK.out]
          simp only [nodMark]
          rw [show ((1 + 7 * k : Nat) : Int) = 1 + 7 * (k : Int) by omega]
          rw [show ((1 + 7 * k + 1 : Nat) : Int) = 1 + 7 * (k : Int) + 1 by omega]
          rw [show ((1 + 7 * k + 2 : Nat) : Int) = 1 + 7 * (k : Int) + 1 + 1 by omega]
          rw [show ((1 + 7 * k + 3 : Nat) : Int) = 1 + 7 * (k : Int) + 1 + 1 + 1 by omega]
          rw [show ((1 + 7 * k + 4 : Nat) : Int) = 1 + 7 * (k : Int) + 1 + 1 + 1 + 1 by omega]
          exact h
        · exact (b2).setCell (p := ⟨g, k * 7 + 6, none⟩) hB _
        · exact (T2.out).setCell (k * 7 + 6) _
      case measure => simp [intOf]; omega
    · obtain rfl : k = ts.length := by omega
      go_wp2
      go_ret
      exact ⟨rfl, HR.out, hb, T0.out⟩

set_option maxHeartbeats 4000000 in
set_option maxRecDepth 20000 in
theorem nod_held_row (a : Option Addr) (g cap m : Nat) (ms : List Nod) (hmm : ms.length = m) (hl : m ≤ 1048576) (ha : 0 < m → a = some ⟨g, 0, none⟩) (w : World)
    (hT : NodAt w g ms) (hm : ∀ i, i < ms.length → ms.getD i noNod = nodMark (1 + 7 * i)) :
    Calls Tryz.prog 25 #[.slice a m cap, .int .i64 1] w fun e w' => e = .returned (.int .i64 ((1 + 7 * m : Nat) : Int)) ∧ Below w.heap.size w w' := by
  subst hmm
  have HM : Hid (∀ i, i < ms.length → ms.getD i noNod = nodMark (1 + 7 * i)) := hm
  have HT : Hid (NodAt w g ms) := hT
  clear hm hT
  go_enter Tryz.func25, Tryz.ntmps25
  go_wp2
  go_loopw [1, 5] (fun c i wr => ∃ k : Nat, k ≤ ms.length ∧ i = .int .i64 k ∧ c = .int .i64 ((1 + 7 * k : Nat) : Int) ∧ Below w.heap.size w wr) (fun _ i _ => ms.length - (intOf i).toNat)
  case atStart => exact ⟨0, by omega, rfl, rfl, Below.refl _ _⟩
  case round =>
    obtain ⟨k, hk, rfl, rfl, hb⟩ := hrel
    by_cases hin : k < ms.length
    · have e1 : (k : Int) < ms.length := by omega
      obtain rfl := ha (by omega)
      have hglt : g < w.heap.size := nod_lt (HT.out k hin).c0
      have t := (HT.out.below hb (fun _ => hglt)) k hin
      rw [HM.out k hin] at t
      have q0 : wr.cell? ⟨g, k * 7, none⟩ = some (.int .i64 (1 + 7 * (k : Int))) := by rw [t.c0]; simp only [nodMark]; congr 2
      have q1 : wr.cell? ⟨g, k * 7 + 1, none⟩ = some (.int .i64 (1 + 7 * (k : Int) + 1)) := by rw [t.c1]; simp only [nodMark]; congr 2
      have q2 : wr.cell? ⟨g, k * 7 + 2, none⟩ = some (.int .i64 (1 + 7 * (k : Int) + 1 + 1)) := by rw [t.c2]; simp only [nodMark]; congr 2
      have q3 : wr.cell? ⟨g, k * 7 + 3, none⟩ = some (.int .i64 (1 + 7 * (k : Int) + 1 + 1 + 1)) := by rw [t.c3]; simp only [nodMark]; congr 2
      have q4 : wr.cell? ⟨g, k * 7 + 4, none⟩ = some (.int .i64 (1 + 7 * (k : Int) + 1 + 1 + 1 + 1)) := by rw [t.c4]; simp only [nodMark]; congr 2
      have q5 : wr.cell? ⟨g, k * 7 + 5, none⟩ = some (.string (markS (1 + 7 * k + 5))) := t.c5
      have q6 : wr.cell? ⟨g, k * 7 + 6, none⟩ = some (.string (markS (1 + 7 * k + 6))) := t.c6
      have hsize := hb.size
      clear t
      go_wp2
      go_region_law (refine step_call rfl 55 #[.tmp 62] #[3] rfl #[.int .i64 (1 + 7 * (k : Int) + 1 + 1 + 1 + 1 + 1)] (by simp [Act.eval, Act.put]) Tryz.func55 mt_name mt_body _ (mark_at _ (1 + 7 * k + 5) (by omega) (by omega) (by omega) _) ?_; rintro e v3 ⟨rfl, z0⟩; have a0 : Below wr.heap.size wr v3 := (Below.refl _ wr).drew.trans z0; have s0 := a0.size; have p0_5 := (World.cell?_of_block (a0.block g (by omega))).trans q5; refine ⟨_, rfl, ?_⟩)
      all_goals
        have p0_6 := (World.cell?_of_block (a0.block g (by omega))).trans q6
        have b0 : Below w.heap.size w v3 := hb.trans (a0.mono (by omega))
        clear z0 a0 q0 q1 q2 q3 q4 q5 q6
        have q5 := p0_5
        have q6 := p0_6
        clear p0_5 p0_6
        go_wp2
        go_region_law (refine step_call rfl 55 #[.tmp 72] #[3] rfl #[.int .i64 (1 + 7 * (k : Int) + 1 + 1 + 1 + 1 + 1 + 1)] (by simp [Act.eval, Act.put]) Tryz.func55 mt_name mt_body _ (mark_at _ (1 + 7 * k + 6) (by omega) (by omega) (by omega) _) ?_; rintro e v4 ⟨rfl, z1⟩; have a1 : Below v3.heap.size v3 v4 := (Below.refl _ v3).drew.trans z1; have s1 := a1.size; have p1_6 := (World.cell?_of_block (a1.block g (by omega))).trans q6; refine ⟨_, rfl, ?_⟩)
        all_goals
          have b1 : Below w.heap.size w v4 := b0.trans (a1.mono (by omega))
          clear z1 a1 q5 q6
          have q6 := p1_6
          clear p1_6
          go_wp2
          go_roundw
          case rel => exact ⟨k + 1, by omega, by go_num, by go_num, b1⟩
          case measure => simp [intOf]; omega
    · obtain rfl : k = ms.length := by omega
      go_wp2
      go_ret
      exact ⟨rfl, hb⟩
end

section
open Go.ChangeShapes Go.WideShapes Go.ChangeAt Go.RowKit

theorem nod_eq (x0 : Int) (x1 : Int) (x2 : Int) (x3 : Int) (x4 : Int) (x5 : ByteArray) (x6 : ByteArray) (w : World) :
    Calls Tryz.prog 54 #[.agg #[.int .i64 x0, .int .i64 x1, .int .i64 x2, .int .i64 x3, .int .i64 x4, .string x5, .string x6], .agg #[.int .i64 x0, .int .i64 x1, .int .i64 x2, .int .i64 x3, .int .i64 x4, .string x5, .string x6]] w fun e w' => e = .returned (.bool true) ∧ Below w.heap.size w w' := by
  go_enter Tryz.func54, Tryz.ntmps54
  go_wp2
  go_ret
  exact ⟨rfl, ((Below.refl _ w).alloc (Nat.le_refl _) _).alloc (by simp) _⟩

theorem nod_eq_name : (Tryz.f54.name == "runtime.NumGoroutine") = false := by kernel_rfl
theorem nod_eq_body : Tryz.f54.body.isNone = false := by kernel_rfl

set_option maxHeartbeats 2000000 in
set_option maxRecDepth 20000 in
theorem nod_eq_row (a b : Option Addr) (g h ca cb : Nat) (ts : List Nod) (hl : ts.length ≤ 1048576) (ha : 0 < ts.length → a = some ⟨g, 0, none⟩) (hb : 0 < ts.length → b = some ⟨h, 0, none⟩) (w : World) (hA : NodAt w g ts) (hB : NodAt w h ts) :
    Calls Tryz.prog 23 #[.slice a ts.length ca, .slice b ts.length cb] w fun e w' => e = .returned (.bool true) ∧ Below w.heap.size w w' := by
  have HA : Hid (NodAt w g ts) := hA
  have HB : Hid (NodAt w h ts) := hB
  clear hA hB
  go_enter Tryz.func23, Tryz.ntmps23
  go_wp2
  go_loopw [5] (fun i wr => ∃ k : Nat, k ≤ ts.length ∧ i = .int .i64 k ∧ Below w.heap.size w wr) (fun i _ => ts.length - (intOf i).toNat)
  case atStart => exact ⟨0, by omega, rfl, Below.refl _ _⟩
  case round =>
    obtain ⟨k, hk, rfl, hbl⟩ := hrel
    by_cases hin : k < ts.length
    · have e1 : (k : Int) < ts.length := by omega
      obtain rfl := ha (by omega)
      obtain rfl := hb (by omega)
      have t := (HA.out.below hbl (fun h => HA.out.lt h)) k hin
      have u := (HB.out.below hbl (fun h => HB.out.lt h)) k hin
      obtain ⟨⟨x0, x1, x2, x3, x4, x5, x6⟩, hx⟩ : ∃ y, ts.getD k noNod = y := ⟨_, rfl⟩
      rw [hx] at t u
      have q0 : wr.cell? ⟨g, k * 7, none⟩ = some (.int .i64 x0) := t.c0
      have r0 : wr.cell? ⟨h, k * 7, none⟩ = some (.int .i64 x0) := u.c0
      have q1 : wr.cell? ⟨g, k * 7 + 1, none⟩ = some (.int .i64 x1) := t.c1
      have r1 : wr.cell? ⟨h, k * 7 + 1, none⟩ = some (.int .i64 x1) := u.c1
      have q2 : wr.cell? ⟨g, k * 7 + 2, none⟩ = some (.int .i64 x2) := t.c2
      have r2 : wr.cell? ⟨h, k * 7 + 2, none⟩ = some (.int .i64 x2) := u.c2
      have q3 : wr.cell? ⟨g, k * 7 + 3, none⟩ = some (.int .i64 x3) := t.c3
      have r3 : wr.cell? ⟨h, k * 7 + 3, none⟩ = some (.int .i64 x3) := u.c3
      have q4 : wr.cell? ⟨g, k * 7 + 4, none⟩ = some (.int .i64 x4) := t.c4
      have r4 : wr.cell? ⟨h, k * 7 + 4, none⟩ = some (.int .i64 x4) := u.c4
      have q5 : wr.cell? ⟨g, k * 7 + 5, none⟩ = some (.string x5) := t.c5
      have r5 : wr.cell? ⟨h, k * 7 + 5, none⟩ = some (.string x5) := u.c5
      have q6 : wr.cell? ⟨g, k * 7 + 6, none⟩ = some (.string x6) := t.c6
      have r6 : wr.cell? ⟨h, k * 7 + 6, none⟩ = some (.string x6) := u.c6
      clear t u hx
      have hsize := hbl.size
      go_wp2
      go_region_law (refine step_call rfl 54 #[.tmp 20, .tmp 24] #[38, 38] rfl #[.agg #[.int .i64 x0, .int .i64 x1, .int .i64 x2, .int .i64 x3, .int .i64 x4, .string x5, .string x6], .agg #[.int .i64 x0, .int .i64 x1, .int .i64 x2, .int .i64 x3, .int .i64 x4, .string x5, .string x6]] (by simp [Act.eval]) Tryz.func54 nod_eq_name nod_eq_body _ (nod_eq _ _ _ _ _ _ _ _) ?_; rintro e w3 ⟨rfl, b3⟩; refine ⟨_, rfl, ?_⟩)
      all_goals
        have b4 : Below w.heap.size w w3 := hbl.trans ((Below.refl _ wr).drew.trans (b3.mono hsize))
        go_wp2
        go_roundw
        case rel => exact ⟨k + 1, by omega, by go_num, b4⟩
        case measure => simp [intOf]; omega
    · go_wp2
      go_ret
      exact ⟨rfl, hbl⟩
end

section
open Go.ChangeShapes Go.WideShapes Go.ChangeAt Go.RowKit

theorem nod_cells : Tryz.prog.cellsOf 69 = 7 := by kernel_rfl
theorem nod_cells3 : Tryz.prog.cellsOf 3 = 1 := by kernel_rfl
theorem nod_cells9 : Tryz.prog.cellsOf 9 = 1 := by kernel_rfl

theorem nod_plain {w : World} {a : Addr} {v : Value} (h : w.cell? a = some v) : a = ⟨a.block, a.off, none⟩ := by
  obtain ⟨b, o, s⟩ := a
  cases s with
  | none => rfl
  | some s =>
    simp only [World.cell?] at h
    split at h <;> simp at h

set_option maxRecDepth 20000 in
/-- One that is read out of its cells. -/
theorem nod_of_cells {H : Type} {enc : TypeId × Value → H} {w : World} {base : Nat} {spare : Nat → Bool} {held : Bool} {fuel : Nat} {cs : List Value} {y : DataW H × List MemPlace} (hl : cs.length = 7)
    (h : DataW.trod enc Tryz.prog w base spare held fuel 69 cs = some y) : ∃ t : Nod, t.name.size ≤ maxLen ∧ t.other.size ≤ maxLen ∧ cs = nodCells t := by
  obtain ⟨ys, k, _, _, _, hyl, hf⟩ := DataW.trod_struct Tryz.underlying69 h
  match ys, hyl, cs, hl with
  | [u0, u1, u2, u3, u4, u5, u6], _, [v0, v1, v2, v3, v4, v5, v6], _ =>
    have g0 := hf 0 _ rfl
    have g1 := hf 1 _ rfl
    have g2 := hf 2 _ rfl
    have g3 := hf 3 _ rfl
    have g4 := hf 4 _ rfl
    have g5 := hf 5 _ rfl
    have g6 := hf 6 _ rfl
    simp [nod_cells3, nod_cells9] at g0 g1 g2 g3 g4 g5 g6
    obtain ⟨n0, e0, _, _⟩ := DataW.trod_int Tryz.underlying3 g0
    obtain ⟨n1, e1, _, _⟩ := DataW.trod_int Tryz.underlying3 g1
    obtain ⟨n2, e2, _, _⟩ := DataW.trod_int Tryz.underlying3 g2
    obtain ⟨n3, e3, _, _⟩ := DataW.trod_int Tryz.underlying3 g3
    obtain ⟨n4, e4, _, _⟩ := DataW.trod_int Tryz.underlying3 g4
    obtain ⟨n5, e5, _, hs5⟩ := DataW.trod_string Tryz.underlying9 g5
    obtain ⟨n6, e6, _, hs6⟩ := DataW.trod_string Tryz.underlying9 g6
    simp at e0 e1 e2 e3 e4 e5 e6
    subst e0 e1 e2 e3 e4 e5 e6
    exact ⟨⟨n0, n1, n2, n3, n4, n5, n6⟩, hs5, hs6, rfl⟩

set_option maxRecDepth 20000 in
theorem open_nods {H : Type} {enc : TypeId × Value → H} {w : World} {base : Nat} {spare : Nat → Bool} {held : Bool} {fuel : Nat} {a : Option Addr} {len cap : Nat} {y : DataW H × List MemPlace}
    (h : DataW.trod enc Tryz.prog w base spare held fuel 43 [.slice a len cap] = some y) :
    ∃ (ts : List Nod) (b o : Nat), ts.length = len ∧ (0 < len → a = some ⟨b, o, none⟩) ∧ len ≤ maxLen ∧ (∀ i, i < len → (ts.getD i noNod).name.size ≤ maxLen ∧ (ts.getD i noNod).other.size ≤ maxLen) ∧ ANods w b o ts := by
  rcases Deep.open_slice Tryz.underlying43 h with ⟨h0, _⟩ | ⟨ad, l, c, m, k, D, Pl, hcs, hb, hlc, hcm, hm, _, hx⟩
  · simp only [List.cons.injEq, Value.slice.injEq, and_true] at h0
    obtain ⟨rfl, rfl, rfl⟩ := h0
    exact ⟨[], 0, 0, rfl, fun h => absurd h (by omega), by omega, fun i hi => absurd hi (by omega), fun i hi => absurd hi (by simp)⟩
  · simp only [List.cons.injEq, Value.slice.injEq, and_true] at hcs
    obtain ⟨rfl, rfl, rfl⟩ := hcs
    have hlm : len ≤ m := by rw [hm]; split <;> omega
    have each : ∀ i, i < len → ∃ t : Nod, (t.name.size ≤ maxLen ∧ t.other.size ≤ maxLen) ∧ w.cell? (ad.add (i * 7)) = some (.int .i64 t.kind) ∧ w.cell? (ad.add (i * 7 + 1)) = some (.int .i64 t.a) ∧ w.cell? (ad.add (i * 7 + 2)) = some (.int .i64 t.b) ∧ w.cell? (ad.add (i * 7 + 3)) = some (.int .i64 t.c) ∧ w.cell? (ad.add (i * 7 + 4)) = some (.int .i64 t.n) ∧ w.cell? (ad.add (i * 7 + 5)) = some (.string t.name) ∧ w.cell? (ad.add (i * 7 + 6)) = some (.string t.other) := by
      intro i hi
      obtain ⟨cs', h1, h2⟩ := hx i (by omega)
      rw [nod_cells] at h1
      obtain ⟨_, hlen, hcell⟩ := World.cells?_some h1
      obtain ⟨t, z5, z6, rfl⟩ := nod_of_cells hlen h2
      have c0 := hcell 0 (by omega)
      have c1 := hcell 1 (by omega)
      have c2 := hcell 2 (by omega)
      have c3 := hcell 3 (by omega)
      have c4 := hcell 4 (by omega)
      have c5 := hcell 5 (by omega)
      have c6 := hcell 6 (by omega)
      rw [Deep.add_add] at c0 c1 c2 c3 c4 c5 c6
      exact ⟨t, ⟨z5, z6⟩, by simpa [nodCells] using c0, by simpa [nodCells] using c1, by simpa [nodCells] using c2, by simpa [nodCells] using c3, by simpa [nodCells] using c4, by simpa [nodCells] using c5, by simpa [nodCells] using c6⟩
    haveI : Inhabited Nod := ⟨noNod⟩
    obtain ⟨f, hf⟩ := Deep.choose_lt each
    have hg : ∀ i, i < len → ((List.range len).map f).getD i noNod = f i := fun i hi => by simp [List.getD, List.getElem?_range hi]
    have hpl : 0 < len → ad = ⟨ad.block, ad.off, none⟩ := fun h => by
      have := (hf 0 h).2.1
      rw [show ad.add (0 * 7) = ad by simp [Addr.add]] at this
      exact nod_plain this
    refine ⟨(List.range len).map f, ad.block, ad.off, by simp, fun h => by rw [← hpl h], by omega, fun i hi => ?_, fun i hi => ?_⟩
    · rw [hg i hi]
      exact (hf i hi).1
    · have hi' : i < len := by simpa using hi
      rw [hg i hi']
      have he := hpl (by omega)
      generalize ad.block = b at he
      generalize ad.off = o at he
      subst he
      have q := hf i hi'
      simp only [add_plain] at q
      exact ⟨q.2.1, q.2.2.1, q.2.2.2.1, q.2.2.2.2.1, q.2.2.2.2.2.1, q.2.2.2.2.2.2.1, q.2.2.2.2.2.2.2⟩
end

section
open Go.ChangeShapes Go.WideShapes Go.ChangeAt Go.RowKit

/-- The i-th one's cells lie in block b, from place o on. -/
structure ABnd (w : World) (b o i : Nat) (t : Bnd) : Prop where
  c0 : w.cell? ⟨b, o + i * 2, none⟩ = some (.int .i64 t.node)
  c1 : w.cell? ⟨b, o + i * 2 + 1, none⟩ = some (.int .i64 t.role)

theorem ABnd.below {w w' : World} {b o i B : Nat} {t : Bnd} (h : ABnd w b o i t) (hb : Below B w w') (hg : b < B) : ABnd w' b o i t :=
  ⟨(World.cell?_of_block (hb.block b hg)).trans h.c0, (World.cell?_of_block (hb.block b hg)).trans h.c1⟩

def ABnds (w : World) (b o : Nat) (ts : List Bnd) : Prop := ∀ i, i < ts.length → ABnd w b o i (ts.getD i noBnd)

theorem ABnds.below {w w' : World} {b o B : Nat} {ts : List Bnd} (h : ABnds w b o ts) (hb : Below B w w') (hg : 0 < ts.length → b < B) : ABnds w' b o ts := fun i hi => (h i hi).below hb (hg (by omega))

theorem ABnds.lt {w : World} {b o : Nat} {ts : List Bnd} (h : ABnds w b o ts) (hl : 0 < ts.length) : b < w.heap.size := bnd_lt (h 0 hl).c0

/-- How many bytes one has; how many the first k have. -/
def bndSz (t : Bnd) : Nat := 0
def bndLens (ts : List Bnd) : Nat → Nat
  | 0 => 0
  | k + 1 => bndLens ts k + bndSz (ts.getD k noBnd)

theorem bnd_to (x0 : Int) (x1 : Int) (w : World) :
    Calls Tryz.prog 28 #[.agg #[.int .i64 x0, .int .i64 x1]] w fun e w' => e = .returned (.agg #[.int .i64 x0, .int .i64 x1]) ∧ Below w.heap.size w w' := by
  go_enter Tryz.func28, Tryz.ntmps28
  go_wp2
  (try simp only [Exit.inBlock, Exit.then])
  refine bodyPost_ret (results_cell_row rfl _ _ (w.heap.size + 1) 32 #[.int .i64 x0, .int .i64 x1] (0, 0) _ rfl ?_ Tryz.underlying32 rfl (by kernel_rfl)) rfl ?_
  · rw [Below.heap_alloc _ _ _ (by simp), heap_alloc2_new]
  · exact ⟨rfl, (((Below.refl _ w).alloc (Nat.le_refl _) _).alloc (by simp) _).alloc (by simp; omega) _⟩

/-- The first k, and behind them as many empty ones as are wanting. -/
def bndMix (ts : List Bnd) (k : Nat) : List Bnd := ts.take k ++ List.replicate (ts.length - k) noBnd

theorem bndMix_length (ts : List Bnd) (k : Nat) (h : k ≤ ts.length) : (bndMix ts k).length = ts.length := by simp [bndMix]; omega

theorem bndMix_all (ts : List Bnd) : bndMix ts ts.length = ts := by simp [bndMix]

theorem bndMix_set (ts : List Bnd) (k : Nat) (h : k < ts.length) : (bndMix ts k).set k (ts.getD k noBnd) = bndMix ts (k + 1) := by
  apply List.ext_getElem?
  intro i
  have e : ts.getD k noBnd = ts[k] := by simp [List.getD, List.getElem?_eq_getElem h]
  rw [List.getElem?_set, bndMix_length ts k (by omega), e]
  by_cases hik : k = i
  · subst hik
    rw [if_pos rfl, if_pos h, bndMix, List.getElem?_append_left (by simp; omega), List.getElem?_take_of_lt (by omega), List.getElem?_eq_getElem h]
  · rw [if_neg hik, bndMix, bndMix, List.getElem?_append, List.getElem?_append]
    by_cases hi : i < k
    · rw [if_pos (by simp; omega), if_pos (by simp; omega), List.getElem?_take_of_lt hi, List.getElem?_take_of_lt (by omega)]
    · rw [if_neg (by simp; omega), if_neg (by simp; omega)]
      simp only [List.length_take, List.getElem?_replicate]
      by_cases hi2 : i < ts.length
      · rw [if_pos (by omega), if_pos (by omega)]
      · rw [if_neg (by omega), if_neg (by omega)]

theorem bnd_set (w : World) (g k : Nat) (l : List Bnd) (e : TypeId) (t : Bnd) (hg : w.heap[g]? = some (.cells (l.flatMap bndCells).toArray e (0, 0))) (hk : k < l.length) :
    ((w.setCell ⟨g, k * 2, none⟩ (.int .i64 t.node)).setCell ⟨g, k * 2 + 1, none⟩ (.int .i64 t.role)).heap[g]? =
      some (.cells ((l.set k t).flatMap bndCells).toArray e (0, 0)) := by
  rw [heap_setCell_same _ _ _ _ _ _ (heap_setCell_same _ _ _ _ _ _ hg)]
  rw [List.setIfInBounds_toArray, List.setIfInBounds_toArray, bnd_flat_set t l k hk]

theorem bnd_made (m : Nat) : madeCells (Value.agg #[.int .i64 0, .int .i64 0]).cells (m * 2) = ((List.replicate m noBnd).flatMap bndCells).toArray := by
  apply Array.ext
  · have e : ((List.replicate m noBnd).flatMap bndCells).toArray.size = m * 2 := by rw [List.size_toArray, bnd_flat_length, List.length_replicate]
    rw [e]; simp [madeCells]
  · intro i h1 h2
    have hi : i < m * 2 := by simpa [madeCells] using h1
    have e := bnd_flat_at (List.replicate m noBnd) (i / 2) (i % 2) (by simp; omega) (by omega)
    rw [show i / 2 * 2 + i % 2 = i by omega] at e
    have e2 : (List.replicate m noBnd).getD (i / 2) noBnd = noBnd := by simp only [List.getD, List.getElem?_replicate]; split <;> rfl
    rw [e2] at e
    have h3 : i < ((List.replicate m noBnd).flatMap bndCells).length := by rw [bnd_flat_length]; simpa using hi
    rw [List.getElem?_eq_getElem h3] at e
    have e3 : ((List.replicate m noBnd).flatMap bndCells).toArray[i] = ((List.replicate m noBnd).flatMap bndCells)[i] := by simp
    rw [e3]
    have hm : i % 2 = 0 ∨ i % 2 = 1 := by omega
    rcases hm with hm | hm <;> simp [madeCells, Value.cells, hm, bndCells, noBnd] at e ⊢ <;> exact e.symm
end

section
open Go.ChangeShapes Go.WideShapes Go.ChangeAt Go.RowKit

theorem bnd_cells : Tryz.prog.cellsOf 49 = 2 := by kernel_rfl
theorem bnd_cells3 : Tryz.prog.cellsOf 3 = 1 := by kernel_rfl
theorem bnd_cells9 : Tryz.prog.cellsOf 9 = 1 := by kernel_rfl

theorem bnd_plain {w : World} {a : Addr} {v : Value} (h : w.cell? a = some v) : a = ⟨a.block, a.off, none⟩ := by
  obtain ⟨b, o, s⟩ := a
  cases s with
  | none => rfl
  | some s =>
    simp only [World.cell?] at h
    split at h <;> simp at h

set_option maxRecDepth 20000 in
/-- One that is read out of its cells. -/
theorem bnd_of_cells {H : Type} {enc : TypeId × Value → H} {w : World} {base : Nat} {spare : Nat → Bool} {held : Bool} {fuel : Nat} {cs : List Value} {y : DataW H × List MemPlace} (hl : cs.length = 2)
    (h : DataW.trod enc Tryz.prog w base spare held fuel 49 cs = some y) : ∃ t : Bnd, cs = bndCells t := by
  obtain ⟨ys, k, _, _, _, hyl, hf⟩ := DataW.trod_struct Tryz.underlying49 h
  match ys, hyl, cs, hl with
  | [u0, u1], _, [v0, v1], _ =>
    have g0 := hf 0 _ rfl
    have g1 := hf 1 _ rfl
    simp [bnd_cells3] at g0 g1
    obtain ⟨n0, e0, _, _⟩ := DataW.trod_int Tryz.underlying3 g0
    obtain ⟨n1, e1, _, _⟩ := DataW.trod_int Tryz.underlying3 g1
    simp at e0 e1
    subst e0 e1
    exact ⟨⟨n0, n1⟩, rfl⟩
end
end Go.Proofs.YtjiggiglagmloaaGreat
