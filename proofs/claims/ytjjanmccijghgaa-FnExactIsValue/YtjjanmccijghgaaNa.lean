/-
  Node: rows of them that are handed in: how much they hold, and a copy of them in memory of the call's own. Conditions: written at each theorem.
-/
import Derived.Test.YtjjanmccijghgaaNk
namespace Go.Proofs.Ytjjanmccijghgaa
open Go.ChangeShapes Go.WideShapes Go.ChangeAt Go.RowKit
set_option linter.unusedVariables false

/-- The i-th one's cells lie in block b, from place o on. -/
structure ANod (w : World) (b o i : Nat) (t : Nod) : Prop where
  c0 : w.cell? ⟨b, o + i * 7, none⟩ = some (.int .i64 t.kind)
  c1 : w.cell? ⟨b, o + i * 7 + 1, none⟩ = some (.int .i64 t.a)
  c2 : w.cell? ⟨b, o + i * 7 + 2, none⟩ = some (.int .i64 t.b)
  c3 : w.cell? ⟨b, o + i * 7 + 3, none⟩ = some (.int .i64 t.c)
  c4 : w.cell? ⟨b, o + i * 7 + 4, none⟩ = some (.int .i64 t.n)
  c5 : w.cell? ⟨b, o + i * 7 + 5, none⟩ = some (.string t.name)
  c6 : w.cell? ⟨b, o + i * 7 + 6, none⟩ = some (.string t.other)

theorem ANod.below {w w' : World} {b o i B : Nat} {t : Nod} (h : ANod w b o i t) (hb : Below B w w') (hg : b < B) : ANod w' b o i t :=
  ⟨(World.cell?_of_block (hb.block b hg)).trans h.c0, (World.cell?_of_block (hb.block b hg)).trans h.c1, (World.cell?_of_block (hb.block b hg)).trans h.c2, (World.cell?_of_block (hb.block b hg)).trans h.c3, (World.cell?_of_block (hb.block b hg)).trans h.c4, (World.cell?_of_block (hb.block b hg)).trans h.c5, (World.cell?_of_block (hb.block b hg)).trans h.c6⟩

def ANods (w : World) (b o : Nat) (ts : List Nod) : Prop := ∀ i, i < ts.length → ANod w b o i (ts.getD i noNod)

theorem ANods.below {w w' : World} {b o B : Nat} {ts : List Nod} (h : ANods w b o ts) (hb : Below B w w') (hg : 0 < ts.length → b < B) : ANods w' b o ts := fun i hi => (h i hi).below hb (hg (by omega))

theorem ANods.lt {w : World} {b o : Nat} {ts : List Nod} (h : ANods w b o ts) (hl : 0 < ts.length) : b < w.heap.size := nod_lt (h 0 hl).c0

/-- How many bytes one has; how many the first k have. -/
def nodSz (t : Nod) : Nat := t.name.size + t.other.size
def nodLens (ts : List Nod) : Nat → Nat
  | 0 => 0
  | k + 1 => nodLens ts k + nodSz (ts.getD k noNod)

theorem nod_sz_no (x0 : Int) (x1 : Int) (x2 : Int) (x3 : Int) (x4 : Int) (x5 : ByteArray) (x6 : ByteArray) (l : Int) (h0 : 0 ≤ l) (hl : l ≤ 1048576) (hs5 : x5.size ≤ maxLen) (hs6 : x6.size ≤ maxLen) (w : World) (h : l < (x5.size : Int) + (x6.size : Int)) :
    Calls Try.prog 9 #[.agg #[.int .i64 x0, .int .i64 x1, .int .i64 x2, .int .i64 x3, .int .i64 x4, .string x5, .string x6], .int .i64 l] w fun e w' => e = .returned (.int .i64 (-1)) ∧ Below w.heap.size w w' := by
  unfold maxLen at hs5 hs6
  by_cases q5 : l < x5.size
  · go_enter Try.func9, Try.ntmps9
    go_wp2
    go_ret
    exact ⟨rfl, (Below.refl _ w).alloc (Nat.le_refl _) _⟩
  · have r5 : (x5.size : Int) ≤ l := by omega
    have q6 : l - (x5.size : Int) < x6.size := by omega
    go_enter Try.func9, Try.ntmps9
    go_wp2
    go_ret
    exact ⟨rfl, (Below.refl _ w).alloc (Nat.le_refl _) _⟩

theorem nod_sz_yes (x0 : Int) (x1 : Int) (x2 : Int) (x3 : Int) (x4 : Int) (x5 : ByteArray) (x6 : ByteArray) (l : Int) (h0 : 0 ≤ l) (hl : l ≤ 1048576) (w : World) (h : (x5.size : Int) + (x6.size : Int) ≤ l) :
    Calls Try.prog 9 #[.agg #[.int .i64 x0, .int .i64 x1, .int .i64 x2, .int .i64 x3, .int .i64 x4, .string x5, .string x6], .int .i64 l] w fun e w' => e = .returned (.int .i64 (l - (x5.size : Int) - (x6.size : Int))) ∧ Below w.heap.size w w' := by
  have r5 : (x5.size : Int) ≤ l := by omega
  have r6 : (x6.size : Int) ≤ l - (x5.size : Int) := by omega
  go_enter Try.func9, Try.ntmps9
  go_wp2
  go_ret
  exact ⟨rfl, (Below.refl _ w).alloc (Nat.le_refl _) _⟩

theorem nod_to (x0 : Int) (x1 : Int) (x2 : Int) (x3 : Int) (x4 : Int) (x5 : ByteArray) (x6 : ByteArray) (w : World) :
    Calls Try.prog 13 #[.agg #[.int .i64 x0, .int .i64 x1, .int .i64 x2, .int .i64 x3, .int .i64 x4, .string x5, .string x6]] w fun e w' => e = .returned (.agg #[.int .i64 x0, .int .i64 x1, .int .i64 x2, .int .i64 x3, .int .i64 x4, .string x5, .string x6]) ∧ Below w.heap.size w w' := by
  go_enter Try.func13, Try.ntmps13
  go_wp2
  (try simp only [Exit.inBlock, Exit.then])
  refine bodyPost_ret (results_cell_row rfl _ _ (w.heap.size + 1) 34 #[.int .i64 x0, .int .i64 x1, .int .i64 x2, .int .i64 x3, .int .i64 x4, .string x5, .string x6] (0, 0) _ rfl ?_ Try.underlying34 rfl (by kernel_rfl)) rfl ?_
  · rw [Below.heap_alloc _ _ _ (by simp), heap_alloc2_new]
  · exact ⟨rfl, (((Below.refl _ w).alloc (Nat.le_refl _) _).alloc (by simp) _).alloc (by simp; omega) _⟩

set_option maxRecDepth 20000 in
theorem nod_sz_row (a : Option Addr) (b o cap : Nat) (ts : List Nod) (hne : 0 < ts.length → a = some ⟨b, o, none⟩) (hm : ts.length ≤ maxLen) (L0 : Int) (hL0 : 0 ≤ L0) (hL1 : L0 ≤ 1048576)
    (hst : ∀ i, i < ts.length → (ts.getD i noNod).name.size ≤ maxLen ∧ (ts.getD i noNod).other.size ≤ maxLen) (w : World) (hA : ANods w b o ts) :
    Calls Try.prog 4 #[.slice a ts.length cap, .int .i64 L0] w fun e w' =>
      (∃ r : Int, e = .returned (.int .i64 r) ∧ (0 ≤ r → r = L0 - ts.length - nodLens ts ts.length)) ∧ Below w.heap.size w w' := by
  have HA : Hid (ANods w b o ts) := hA
  have HT : Hid (∀ i, i < ts.length → (ts.getD i noNod).name.size ≤ maxLen ∧ (ts.getD i noNod).other.size ≤ maxLen) := hst
  clear hA hst
  by_cases hbig : L0 < ts.length
  · unfold maxLen at hm
    have hbig' : L0 - (ts.length : Int) < 0 := by omega
    go_enter Try.func4, Try.ntmps4
    go_wp2
    go_ret
    exact ⟨⟨_, rfl, fun h => by simp at h⟩, Below.refl _ _⟩
  · clear hm
    have hbig' : ¬ L0 - (ts.length : Int) < 0 := by omega
    go_enter Try.func4, Try.ntmps4
    go_wp2
    go_loopw [1, 5] (fun l i wr => ∃ k : Nat, k ≤ ts.length ∧ (ts.length : Int) + nodLens ts k ≤ L0 ∧ l = .int .i64 (L0 - ts.length - nodLens ts k) ∧ i = .int .i64 k ∧ Below w.heap.size w wr) (fun _ i _ => ts.length - (intOf i).toNat)
    case atStart => exact ⟨0, by omega, by simp [nodLens]; omega, by simp [nodLens], rfl, Below.refl _ _⟩
    case round =>
      obtain ⟨k, hk, hl, rfl, rfl, hb⟩ := hrel
      by_cases hin : k < ts.length
      · have e1 : (k : Int) < ts.length := by omega
        obtain rfl := hne (by omega)
        have t := (HA.out.below hb (fun h => HA.out.lt h)) k hin
        have hsm := HT.out k hin
        have HL : Hid (nodLens ts (k + 1) = nodLens ts k + nodSz (ts.getD k noNod)) := rfl
        obtain ⟨⟨x0, x1, x2, x3, x4, x5, x6⟩, hx⟩ : ∃ y, ts.getD k noNod = y := ⟨_, rfl⟩
        rw [hx] at t hsm HL
        simp only [nodSz] at HL hsm
        have q0 : wr.cell? ⟨b, o + k * 7, none⟩ = some (.int .i64 x0) := t.c0
        have q1 : wr.cell? ⟨b, o + k * 7 + 1, none⟩ = some (.int .i64 x1) := t.c1
        have q2 : wr.cell? ⟨b, o + k * 7 + 2, none⟩ = some (.int .i64 x2) := t.c2
        have q3 : wr.cell? ⟨b, o + k * 7 + 3, none⟩ = some (.int .i64 x3) := t.c3
        have q4 : wr.cell? ⟨b, o + k * 7 + 4, none⟩ = some (.int .i64 x4) := t.c4
        have q5 : wr.cell? ⟨b, o + k * 7 + 5, none⟩ = some (.string x5) := t.c5
        have q6 : wr.cell? ⟨b, o + k * 7 + 6, none⟩ = some (.string x6) := t.c6
        have hsize := hb.size
        generalize nodLens ts k = lk at *
        clear t hx
        by_cases hc : (L0 - (ts.length : Int) - lk) < (x5.size : Int) + (x6.size : Int)
        · go_wp2_with fail
          refine (nod_sz_no _ _ _ _ _ _ _ _ (by omega) (by omega) hsm.1 hsm.2 wr hc).mono ?_
          rintro e w1 ⟨rfl, hb1⟩
          go_wp2
          go_ret
          exact ⟨⟨_, rfl, fun h => by simp at h⟩, hb.trans (hb1.mono hsize)⟩
        · have hc' : (x5.size : Int) + (x6.size : Int) ≤ L0 - (ts.length : Int) - lk := by omega
          clear hc
          go_wp2_with fail
          refine (nod_sz_yes _ _ _ _ _ _ _ _ (by omega) (by omega) wr hc').mono ?_
          rintro e w1 ⟨rfl, hb1⟩
          have hp : ¬ (L0 - (ts.length : Int) - lk - (x5.size : Int) - (x6.size : Int)) < 0 := by omega
          go_wp2
          go_roundw
          case rel => exact ⟨k + 1, by omega, by rw [HL.out]; omega, by rw [HL.out]; congr 1; omega, by go_num, hb.trans (hb1.mono hsize)⟩
          case measure => simp [intOf]; omega
      · obtain rfl : k = ts.length := by omega
        go_wp2
        go_ret
        exact ⟨⟨_, rfl, fun _ => rfl⟩, hb⟩

/-- The first k, and behind them as many empty ones as are wanting. -/
def nodMix (ts : List Nod) (k : Nat) : List Nod := ts.take k ++ List.replicate (ts.length - k) noNod

theorem nodMix_length (ts : List Nod) (k : Nat) (h : k ≤ ts.length) : (nodMix ts k).length = ts.length := by simp [nodMix]; omega

theorem nodMix_all (ts : List Nod) : nodMix ts ts.length = ts := by simp [nodMix]

theorem nodMix_set (ts : List Nod) (k : Nat) (h : k < ts.length) : (nodMix ts k).set k (ts.getD k noNod) = nodMix ts (k + 1) := by
  apply List.ext_getElem?
  intro i
  have e : ts.getD k noNod = ts[k] := by simp [List.getD, List.getElem?_eq_getElem h]
  rw [List.getElem?_set, nodMix_length ts k (by omega), e]
  by_cases hik : k = i
  · subst hik
    rw [if_pos rfl, if_pos h, nodMix, List.getElem?_append_left (by simp; omega), List.getElem?_take_of_lt (by omega), List.getElem?_eq_getElem h]
  · rw [if_neg hik, nodMix, nodMix, List.getElem?_append, List.getElem?_append]
    by_cases hi : i < k
    · rw [if_pos (by simp; omega), if_pos (by simp; omega), List.getElem?_take_of_lt hi, List.getElem?_take_of_lt (by omega)]
    · rw [if_neg (by simp; omega), if_neg (by simp; omega)]
      simp only [List.length_take, List.getElem?_replicate]
      by_cases hi2 : i < ts.length
      · rw [if_pos (by omega), if_pos (by omega)]
      · rw [if_neg (by omega), if_neg (by omega)]

theorem nod_set (w : World) (g k : Nat) (l : List Nod) (e : TypeId) (t : Nod) (hg : w.heap[g]? = some (.cells (l.flatMap nodCells).toArray e (0, 0))) (hk : k < l.length) :
    (((((((w.setCell ⟨g, k * 7, none⟩ (.int .i64 t.kind)).setCell ⟨g, k * 7 + 1, none⟩ (.int .i64 t.a)).setCell ⟨g, k * 7 + 2, none⟩ (.int .i64 t.b)).setCell ⟨g, k * 7 + 3, none⟩ (.int .i64 t.c)).setCell ⟨g, k * 7 + 4, none⟩ (.int .i64 t.n)).setCell ⟨g, k * 7 + 5, none⟩ (.string t.name)).setCell ⟨g, k * 7 + 6, none⟩ (.string t.other)).heap[g]? =
      some (.cells ((l.set k t).flatMap nodCells).toArray e (0, 0)) := by
  rw [heap_setCell_same _ _ _ _ _ _ (heap_setCell_same _ _ _ _ _ _ (heap_setCell_same _ _ _ _ _ _ (heap_setCell_same _ _ _ _ _ _ (heap_setCell_same _ _ _ _ _ _ (heap_setCell_same _ _ _ _ _ _ (heap_setCell_same _ _ _ _ _ _ hg))))))]
  rw [List.setIfInBounds_toArray, List.setIfInBounds_toArray, List.setIfInBounds_toArray, List.setIfInBounds_toArray, List.setIfInBounds_toArray, List.setIfInBounds_toArray, List.setIfInBounds_toArray, nod_flat_set t l k hk]

theorem nod_made (m : Nat) : madeCells (Value.agg #[.int .i64 0, .int .i64 0, .int .i64 0, .int .i64 0, .int .i64 0, .string ⟨#[]⟩, .string ⟨#[]⟩]).cells (m * 7) = ((List.replicate m noNod).flatMap nodCells).toArray := by
  apply Array.ext
  · have e : ((List.replicate m noNod).flatMap nodCells).toArray.size = m * 7 := by rw [List.size_toArray, nod_flat_length, List.length_replicate]
    rw [e]; simp [madeCells]
  · intro i h1 h2
    have hi : i < m * 7 := by simpa [madeCells] using h1
    have e := nod_flat_at (List.replicate m noNod) (i / 7) (i % 7) (by simp; omega) (by omega)
    rw [show i / 7 * 7 + i % 7 = i by omega] at e
    have e2 : (List.replicate m noNod).getD (i / 7) noNod = noNod := by simp only [List.getD, List.getElem?_replicate]; split <;> rfl
    rw [e2] at e
    have h3 : i < ((List.replicate m noNod).flatMap nodCells).length := by rw [nod_flat_length]; simpa using hi
    rw [List.getElem?_eq_getElem h3] at e
    have e3 : ((List.replicate m noNod).flatMap nodCells).toArray[i] = ((List.replicate m noNod).flatMap nodCells)[i] := by simp
    rw [e3]
    have hm : i % 7 = 0 ∨ i % 7 = 1 ∨ i % 7 = 2 ∨ i % 7 = 3 ∨ i % 7 = 4 ∨ i % 7 = 5 ∨ i % 7 = 6 := by omega
    rcases hm with hm | hm | hm | hm | hm | hm | hm <;> simp [madeCells, Value.cells, hm, nodCells, noNod] at e ⊢ <;> exact e.symm

set_option maxHeartbeats 1000000 in
set_option maxRecDepth 20000 in
theorem nod_to_row (a : Option Addr) (b o cap : Nat) (ts : List Nod) (hne : 0 < ts.length → a = some ⟨b, o, none⟩) (hl : ts.length ≤ 1048576) (w : World) (hA : ANods w b o ts) :
    Calls Try.prog 6 #[.slice a ts.length cap] w fun e w' =>
      e = .returned (.slice (some ⟨w.heap.size, 0, none⟩) ts.length ts.length) ∧ w'.heap[w.heap.size]? = some (.cells (ts.flatMap nodCells).toArray 34 (0, 0)) ∧ Below w.heap.size w w' := by
  obtain ⟨i0, hi, hz0, hz1, hz2⟩ := info_parts info_nod
  have hmk := run_make (P := Try.prog) w 25 34 i0 _ Try.underlying25 hi hz0 .i64 .i64 (ts.length : Int) (ts.length : Int) (by omega) (by omega) (by rw [hz2]; omega) (by omega)
  rw [hz1] at hmk
  have ez : ((ts.length : Nat) : Int).toNat = ts.length := by omega
  rw [ez, nod_made] at hmk
  clear hi hz0 hz1 hz2 ez
  have hA' : Hid (ANods w b o ts) := hA
  clear hA
  go_enter Try.func6, Try.ntmps6
  go_wp2
  clear hmk
  go_loopw [4] (fun i wr => ∃ k : Nat, k ≤ ts.length ∧ i = .int .i64 k ∧ Hid (wr.heap[w.heap.size]? = some (.cells ((nodMix ts k).flatMap nodCells).toArray 34 (0, 0))) ∧ Below w.heap.size w wr) (fun i _ => ts.length - (intOf i).toNat)
  case atStart =>
    refine ⟨0, by omega, rfl, ?_, (Below.refl _ _).alloc (Nat.le_refl _) _⟩
    show (w.alloc _).heap[w.heap.size]? = _
    rw [(MapKept.heap_alloc w _).1]
    simp [nodMix]
  case round =>
    obtain ⟨k, hk, rfl, hroom, hb⟩ := hrel
    by_cases hin : k < ts.length
    · have e1 : (k : Int) < ts.length := by omega
      obtain rfl := hne (by omega)
      have t := (hA'.out.below hb (fun h => hA'.out.lt h)) k hin
      obtain ⟨⟨x0, x1, x2, x3, x4, x5, x6⟩, hx⟩ : ∃ y, ts.getD k noNod = y := ⟨_, rfl⟩
      have HX : Hid (ts.getD k noNod = ⟨x0, x1, x2, x3, x4, x5, x6⟩) := hx
      rw [hx] at t
      have q0 : wr.cell? ⟨b, o + k * 7, none⟩ = some (.int .i64 x0) := t.c0
      have q1 : wr.cell? ⟨b, o + k * 7 + 1, none⟩ = some (.int .i64 x1) := t.c1
      have q2 : wr.cell? ⟨b, o + k * 7 + 2, none⟩ = some (.int .i64 x2) := t.c2
      have q3 : wr.cell? ⟨b, o + k * 7 + 3, none⟩ = some (.int .i64 x3) := t.c3
      have q4 : wr.cell? ⟨b, o + k * 7 + 4, none⟩ = some (.int .i64 x4) := t.c4
      have q5 : wr.cell? ⟨b, o + k * 7 + 5, none⟩ = some (.string x5) := t.c5
      have q6 : wr.cell? ⟨b, o + k * 7 + 6, none⟩ = some (.string x6) := t.c6
      clear t hx
      have hsize := hb.size
      go_wp2_with fail
      refine (nod_to _ _ _ _ _ _ _ wr).mono ?_
      rintro e w1 ⟨rfl, hb1⟩
      have hr1 : w1.heap[w.heap.size]? = some (.cells ((nodMix ts k).flatMap nodCells).toArray 34 (0, 0)) := (hb1.block _ (Array.getElem?_eq_some_iff.1 hroom.out).1).trans hroom.out
      have HR1 : Hid (w1.heap[w.heap.size]? = some (.cells ((nodMix ts k).flatMap nodCells).toArray 34 (0, 0))) := hr1
      have f0 : w1.frozen? ⟨w.heap.size, k * 7, none⟩ = false := frozen_of_row w1 _ _ _ _ hr1
      have f1 : w1.frozen? ⟨w.heap.size, k * 7 + 1, none⟩ = false := frozen_of_row w1 _ _ _ _ hr1
      have f2 : w1.frozen? ⟨w.heap.size, k * 7 + 2, none⟩ = false := frozen_of_row w1 _ _ _ _ hr1
      have f3 : w1.frozen? ⟨w.heap.size, k * 7 + 3, none⟩ = false := frozen_of_row w1 _ _ _ _ hr1
      have f4 : w1.frozen? ⟨w.heap.size, k * 7 + 4, none⟩ = false := frozen_of_row w1 _ _ _ _ hr1
      have f5 : w1.frozen? ⟨w.heap.size, k * 7 + 5, none⟩ = false := frozen_of_row w1 _ _ _ _ hr1
      have f6 : w1.frozen? ⟨w.heap.size, k * 7 + 6, none⟩ = false := frozen_of_row w1 _ _ _ _ hr1
      have c := nod_of_room hr1 k (by rw [nodMix_length ts k hk]; exact hin)
      generalize (nodMix ts k).getD k noNod = y at c
      obtain ⟨y0, y1, y2, y3, y4, y5, y6⟩ := y
      have c0 : w1.cell? ⟨w.heap.size, k * 7, none⟩ = some (.int .i64 y0) := c.c0
      have c1 : w1.cell? ⟨w.heap.size, k * 7 + 1, none⟩ = some (.int .i64 y1) := c.c1
      have c2 : w1.cell? ⟨w.heap.size, k * 7 + 2, none⟩ = some (.int .i64 y2) := c.c2
      have c3 : w1.cell? ⟨w.heap.size, k * 7 + 3, none⟩ = some (.int .i64 y3) := c.c3
      have c4 : w1.cell? ⟨w.heap.size, k * 7 + 4, none⟩ = some (.int .i64 y4) := c.c4
      have c5 : w1.cell? ⟨w.heap.size, k * 7 + 5, none⟩ = some (.string y5) := c.c5
      have c6 : w1.cell? ⟨w.heap.size, k * 7 + 6, none⟩ = some (.string y6) := c.c6
      clear c hr1
      go_wp2
      go_roundw
      case rel =>
        refine ⟨k + 1, by omega, by go_num, ?_, ?_⟩
        · have h := nod_set w1 w.heap.size k (nodMix ts k) 34 (ts.getD k noNod) HR1.out (by rw [nodMix_length ts k hk]; exact hin)
          rw [nodMix_set ts k hin, HX.out] at h
          exact h
        · exact (((((((hb.trans (hb1.mono hsize)).setCell (p := ⟨w.heap.size, k * 7, none⟩) (Nat.le_refl _) _).setCell (p := ⟨w.heap.size, k * 7 + 1, none⟩) (Nat.le_refl _) _).setCell (p := ⟨w.heap.size, k * 7 + 2, none⟩) (Nat.le_refl _) _).setCell (p := ⟨w.heap.size, k * 7 + 3, none⟩) (Nat.le_refl _) _).setCell (p := ⟨w.heap.size, k * 7 + 4, none⟩) (Nat.le_refl _) _).setCell (p := ⟨w.heap.size, k * 7 + 5, none⟩) (Nat.le_refl _) _).setCell (p := ⟨w.heap.size, k * 7 + 6, none⟩) (Nat.le_refl _) _
      case measure => simp [intOf]; omega
    · obtain rfl : k = ts.length := by omega
      have hr := hroom.out
      rw [nodMix_all] at hr
      have HR : Hid (wr.heap[w.heap.size]? = some (.cells (ts.flatMap nodCells).toArray 34 (0, 0))) := hr
      clear hr
      go_wp2
      go_ret
      exact ⟨rfl, HR.out, hb⟩
end Go.Proofs.Ytjjanmccijghgaa
