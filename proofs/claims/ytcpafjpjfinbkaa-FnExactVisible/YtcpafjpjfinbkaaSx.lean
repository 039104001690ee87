/-
  Scopes as they landed: the binder of each node. Conditions: written at each theorem.
-/
import Derived.Test.YtcpafjpjfinbkaaSw
namespace Go.Proofs.Ytcpafjpjfinbkaa
open Go.ChangeShapes Go.WideShapes Go.ChangeAt Go.RowKit
set_option linter.unusedVariables false

/-- The binder of a node. -/
def binN (ts : List Nod) (i : Nat) : Bnd := if (ts.getD i noNod).kind = 1 then ⟨(scB ts i (ts.getD i noNod).name).1, (scB ts i (ts.getD i noNod).name).2⟩ else ⟨-1, -1⟩

/-- The binders of the first k nodes. -/
def binF (ts : List Nod) : Nat → List Bnd
  | 0 => []
  | k + 1 => binF ts k ++ [binN ts k]

def binL (ts : List Nod) : List Bnd := if nodesB ts = true then binF ts ts.length else []

theorem binF_length (ts : List Nod) : ∀ k, (binF ts k).length = k
  | 0 => rfl
  | k + 1 => by rw [binF, List.length_append, binF_length ts k]; rfl

theorem binF_at (ts : List Nod) : ∀ k i, i < k → (binF ts k).getD i noBnd = binN ts i
  | 0, i, h => by omega
  | k + 1, i, h => by
    rw [binF]
    by_cases e : i = k
    · subst e
      simp [List.getD, binF_length]
    · have ih := binF_at ts k i (by omega)
      simp only [List.getD] at ih ⊢
      rw [List.getElem?_append_left (by rw [binF_length]; omega)]
      exact ih

theorem bnd_made (m : Nat) : madeCells (Value.agg #[.int .i64 0, .int .i64 0]).cells (m * 2) = ((List.replicate m noBnd).flatMap bndCells).toArray := by
  have hl : ((List.replicate m noBnd).flatMap bndCells).length = m * 2 := by rw [bnd_flat_length]; simp
  refine Array.ext (by simp [madeCells, hl]) (fun i h1 h2 => ?_)
  have hi : i < m * 2 := by simpa [madeCells] using h1
  have e : ((List.replicate m noBnd).flatMap bndCells)[i / 2 * 2 + i % 2]? = (bndCells ((List.replicate m noBnd).getD (i / 2) noBnd))[i % 2]? := bnd_flat_at _ (i / 2) (i % 2) (by simp; omega) (by omega)
  have e2 : i / 2 * 2 + i % 2 = i := by omega
  rw [e2] at e
  have e3 : (List.replicate m noBnd).getD (i / 2) noBnd = noBnd := by simp [List.getD, show i / 2 < m by omega]
  rw [e3] at e
  have hm : i % 2 = 0 ∨ i % 2 = 1 := by omega
  rcases hm with hm | hm <;> rw [hm] at e <;> simp [madeCells, Value.cells, hm, bndCells, noBnd] at e ⊢ <;> exact ((List.getElem?_eq_some_iff.1 e).2).symm

/-- A row of binders, the first k of them set. -/
def binMix (ts : List Nod) (k : Nat) : List Bnd := binF ts k ++ List.replicate (ts.length - k) noBnd

theorem binMix_length (ts : List Nod) (k : Nat) (h : k ≤ ts.length) : (binMix ts k).length = ts.length := by simp [binMix, binF_length]; omega

theorem binMix_set (ts : List Nod) (k : Nat) (h : k < ts.length) (b : Bnd) (hb : b = binN ts k) : (binMix ts k).set k b = binMix ts (k + 1) := by
  unfold binMix
  have e : ts.length - k = (ts.length - (k + 1)) + 1 := by omega
  rw [e, List.replicate_succ, List.set_append_right _ _ (by rw [binF_length]; omega), binF_length, Nat.sub_self, binF, hb]
  simp

theorem bnd_row_set (w : World) (g k : Nat) (l : List Bnd) (e : TypeId) (t : Bnd) (hg : w.heap[g]? = some (.cells (l.flatMap bndCells).toArray e (0, 0))) (hk : k < l.length) :
    ((w.setCell ⟨g, k * 2, none⟩ (.int .i64 t.node)).setCell ⟨g, k * 2 + 1, none⟩ (.int .i64 t.role)).heap[g]? = some (.cells ((l.set k t).flatMap bndCells).toArray e (0, 0)) := by
  have h1 := heap_setCell_same w g (k * 2) _ _ (.int .i64 t.node) hg
  have h2 := heap_setCell_same _ g (k * 2 + 1) _ _ (.int .i64 t.role) h1
  rw [h2]
  congr 2
  rw [List.setIfInBounds_toArray, List.setIfInBounds_toArray, bnd_flat_set t l k hk]

set_option maxHeartbeats 4000000 in
set_option maxRecDepth 20000 in
theorem impl_binders (a : Option Addr) (g cap : Nat) (ts : List Nod) (hne : 0 < ts.length → a = some ⟨g, 0, none⟩) (hl : ts.length ≤ 1048576)
    (hst : ∀ i, i < ts.length → (ts.getD i noNod).name.size ≤ maxLen ∧ (ts.getD i noNod).other.size ≤ maxLen) (w : World) (hA : NodAt w g ts) :
    Calls Try.prog 46 #[.slice a ts.length cap] w fun e w' => (∃ H, e = .returned (.slice (some ⟨H, 0, none⟩) (binL ts).length (binL ts).length) ∧ w.heap.size ≤ H ∧ w'.heap[H]? = some (.cells ((binL ts).flatMap bndCells).toArray 30 (0, 0))) ∧ Below w.heap.size w w' := by
  have HA : Hid (NodAt w g ts) := hA
  have HT : Hid (∀ i, i < ts.length → (ts.getD i noNod).name.size ≤ maxLen ∧ (ts.getD i noNod).other.size ≤ maxLen) := hst
  clear hA hst
  obtain ⟨i0, hi, hz0, hz1, hz2⟩ := info_parts info_bnd
  by_cases hok : nodesB ts = true
  · have HO : Hid (nodesB ts = true) := hok
    have HBL : Hid (binL ts = binF ts ts.length) := by show binL ts = _; rw [binL, if_pos hok]
    obtain ⟨hl1, hl2, _⟩ := nodesB_starts hok
    clear hok
    obtain rfl := hne (by omega)
    rw [HBL.out, binF_length]
    have HMK : Hid (∀ w : World, (Instr.makeSlice 60 (.int .i64 ts.length) (.int .i64 ts.length)).run Try.prog w = .ok (.slice (some ⟨w.heap.size, 0, none⟩) ts.length ts.length) (w.alloc (.cells ((binMix ts 0).flatMap bndCells).toArray 30))) := fun w => by
      have hmk := run_make (P := Try.prog) w 60 30 i0 _ Try.underlying60 hi hz0 .i64 .i64 (ts.length : Int) (ts.length : Int) (by omega) (by omega) (by rw [hz2]; omega) (by omega)
      have ez : ((ts.length : Nat) : Int).toNat = ts.length := by omega
      rw [hz1, ez, bnd_made] at hmk
      exact hmk
    clear hi hz0 hz1 hz2 i0
    go_enter Try.func46, Try.ntmps46
    go_wp2_with fail
    refine (impl_scopes _ g cap ts (fun _ => rfl) hl HT.out w HA.out).mono ?_
    rintro e w1 ⟨hend, hb1⟩
    unfold ScEnd at hend
    rw [if_pos HO.out] at hend
    obtain ⟨G, vs, rfl, hG, hvl, hvr, hvs⟩ := hend
    have hGl : G < w1.heap.size := (Array.getElem?_eq_some_iff.1 hvr).1
    have HVR : Hid (w1.heap[G]? = some (.cells vs.toArray 70 (0, 0))) := hvr
    have HVS : Hid (ScG G w1 (fun _ => True) (fun m s => scB ts m s) vs) := hvs
    have HVL : Hid (vs.length = ts.length) := hvl
    have s1 := hb1.size
    have hmk := HMK.out w1
    have r0 : (w1.alloc (.cells ((binMix ts 0).flatMap bndCells).toArray 30)).heap[w1.heap.size]? = some (.cells ((binMix ts 0).flatMap bndCells).toArray 30 (0, 0)) := (MapKept.heap_alloc w1 _).1
    have b0 : Below w1.heap.size w1 (w1.alloc (.cells ((binMix ts 0).flatMap bndCells).toArray 30)) := (Below.refl _ w1).alloc (Nat.le_refl _) _
    generalize w1.alloc (.cells ((binMix ts 0).flatMap bndCells).toArray 30) = wa at *
    have HR0 : Hid (wa.heap[w1.heap.size]? = some (.cells ((binMix ts 0).flatMap bndCells).toArray 30 (0, 0))) := r0
    clear hvl hvr hvs HMK r0
    go_wp2
    clear hmk
    go_loopw [14] (fun r wr => ∃ k : Nat, k ≤ ts.length ∧ r = .int .i64 k ∧ Hid (wr.heap[w1.heap.size]? = some (.cells ((binMix ts k).flatMap bndCells).toArray 30 (0, 0))) ∧ Below w1.heap.size w1 wr) (fun r _ => ts.length - (intOf r).toNat)
    case atStart => exact ⟨0, by omega, rfl, HR0, b0⟩
    case round =>
      obtain ⟨k, hk, rfl, HR, hb⟩ := hrel
      clear HR0 b0
      by_cases hin : k < ts.length
      · have hin' : (k : Int) < ts.length := by omega
        obtain ⟨l, hsl, hll⟩ := HVS.out k (by have := HVL.out; omega) trivial
        obtain ⟨F, cf, hv, hcf, hcl⟩ := sc_call G w1 l _ hsl
        have gk := scRow_cell ((hb.block G hGl).trans HVR.out) k (by have := HVL.out; omega)
        rw [hv] at gk
        have HCL : Hid (∀ (s : ByteArray) (w' : World), Kept G w1 w' → Calls Try.prog F (#[.string s] ++ cf) w' fun e w'' => e = .returned (.agg #[.int .i64 (scB ts k s).1, .int .i64 (scB ts k s).2]) ∧ Below w'.heap.size w' w'') := fun s w' hk => by
          have := hcl s w' hk
          rw [hll s] at this
          exact this
        clear hsl hll hv hcl
        have hs := hb.size
        have hlk : (binMix ts k).length = ts.length := binMix_length ts k hk
        go_wp2_with fail
        refine (impl_noBind wr).mono ?_
        rintro e w2 ⟨rfl, b2⟩
        have hrl : w1.heap.size < wr.heap.size := (Array.getElem?_eq_some_iff.1 HR.out).1
        have r2 : w2.heap[w1.heap.size]? = some (.cells ((binMix ts k).flatMap bndCells).toArray 30 (0, 0)) := (b2.block _ hrl).trans HR.out
        have HR2 : Hid (_) := r2
        have B2 : Hid (Below w1.heap.size w1 w2) := hb.trans (b2.mono hs)
        have m2 := bnd_of_room r2 k (by omega)
        generalize (binMix ts k).getD k noBnd = y at m2
        obtain ⟨y0, y1⟩ := y
        have c0 : w2.cell? ⟨w1.heap.size, k * 2, none⟩ = some (.int .i64 y0) := m2.c0
        have c1 : w2.cell? ⟨w1.heap.size, k * 2 + 1, none⟩ = some (.int .i64 y1) := m2.c1
        have f0 : w2.frozen? ⟨w1.heap.size, k * 2, none⟩ = false := frozen_of_row w2 _ _ _ _ r2
        have f1 : w2.frozen? ⟨w1.heap.size, k * 2 + 1, none⟩ = false := frozen_of_row w2 _ _ _ _ r2
        have r3 := bnd_row_set w2 w1.heap.size k (binMix ts k) 30 ⟨-1, -1⟩ r2 (by omega)
        have HB3 : Hid (Below w1.heap.size w1 ((w2.setCell ⟨w1.heap.size, k * 2, none⟩ (.int .i64 (-1))).setCell ⟨w1.heap.size, k * 2 + 1, none⟩ (.int .i64 (-1)))) := (B2.out.setCell (p := ⟨w1.heap.size, k * 2, none⟩) (Nat.le_refl _) _).setCell (p := ⟨w1.heap.size, k * 2 + 1, none⟩) (Nat.le_refl _) _
        have HR3 : Hid (((w2.setCell ⟨w1.heap.size, k * 2, none⟩ (.int .i64 (-1))).setCell ⟨w1.heap.size, k * 2 + 1, none⟩ (.int .i64 (-1))).heap[w1.heap.size]? = some (.cells (((binMix ts k).set k ⟨-1, -1⟩).flatMap bndCells).toArray 30 (0, 0))) := r3
        have t := (HA.out.below (hb1.trans (HB3.out.mono s1)) (fun h => HA.out.lt h)) k hin
        have HBN : Hid (binN ts k = if (ts.getD k noNod).kind = 1 then ⟨(scB ts k (ts.getD k noNod).name).1, (scB ts k (ts.getD k noNod).name).2⟩ else ⟨-1, -1⟩) := rfl
        obtain ⟨⟨x0, x1, x2, x3, x4, x5, x6⟩, hx⟩ : ∃ y, ts.getD k noNod = y := ⟨_, rfl⟩
        rw [hx] at t HBN
        have q0 : ((w2.setCell ⟨w1.heap.size, k * 2, none⟩ (.int .i64 (-1))).setCell ⟨w1.heap.size, k * 2 + 1, none⟩ (.int .i64 (-1))).cell? ⟨g, k * 7, none⟩ = some (.int .i64 x0) := t.c0
        have q5 : ((w2.setCell ⟨w1.heap.size, k * 2, none⟩ (.int .i64 (-1))).setCell ⟨w1.heap.size, k * 2 + 1, none⟩ (.int .i64 (-1))).cell? ⟨g, k * 7 + 5, none⟩ = some (.string x5) := t.c5
        have z3 := HB3.out.size
        clear t hx r2 r3 m2 b2 HR gk
        by_cases hk1 : x0 = 1
        · subst hk1
          have HB2 : Hid (binN ts k = ⟨(scB ts k x5).1, (scB ts k x5).2⟩) := by show binN ts k = _; rw [HBN.out]; rfl
          clear HBN
          go_wp2_with fail
          refine (HCL.out x5 _ (Kept.of_below HB3.out)).mono ?_
          rintro e w4 ⟨rfl, b4⟩
          generalize (w2.setCell ⟨w1.heap.size, k * 2, none⟩ (.int .i64 (-1))).setCell ⟨w1.heap.size, k * 2 + 1, none⟩ (.int .i64 (-1)) = w3 at *
          have r4 : w4.heap[w1.heap.size]? = some (.cells (((binMix ts k).set k ⟨-1, -1⟩).flatMap bndCells).toArray 30 (0, 0)) := (b4.block _ (Array.getElem?_eq_some_iff.1 HR3.out).1).trans HR3.out
          have B4 : Hid (Below w1.heap.size w1 w4) := HB3.out.trans (b4.mono z3)
          have hl4 : ((binMix ts k).set k ⟨-1, -1⟩).length = ts.length := by rw [List.length_set]; exact hlk
          have m4 := bnd_of_room r4 k (by omega)
          generalize ((binMix ts k).set k ⟨-1, -1⟩).getD k noBnd = y at m4
          obtain ⟨v0, v1⟩ := y
          clear c0 c1 f0 f1
          have c0 : w4.cell? ⟨w1.heap.size, k * 2, none⟩ = some (.int .i64 v0) := m4.c0
          have c1 : w4.cell? ⟨w1.heap.size, k * 2 + 1, none⟩ = some (.int .i64 v1) := m4.c1
          have f0 : w4.frozen? ⟨w1.heap.size, k * 2, none⟩ = false := frozen_of_row w4 _ _ _ _ r4
          have f1 : w4.frozen? ⟨w1.heap.size, k * 2 + 1, none⟩ = false := frozen_of_row w4 _ _ _ _ r4
          have r5 := bnd_row_set w4 w1.heap.size k _ 30 ⟨(scB ts k x5).1, (scB ts k x5).2⟩ r4 (by omega)
          rw [List.set_set, binMix_set ts k hin _ HB2.out.symm] at r5
          have HNX : Hid (((w4.setCell ⟨w1.heap.size, k * 2, none⟩ (.int .i64 (scB ts k x5).1)).setCell ⟨w1.heap.size, k * 2 + 1, none⟩ (.int .i64 (scB ts k x5).2)).heap[w1.heap.size]? = some (.cells ((binMix ts (k + 1)).flatMap bndCells).toArray 30 (0, 0))) := r5
          have HB5 : Hid (Below w1.heap.size w1 ((w4.setCell ⟨w1.heap.size, k * 2, none⟩ (.int .i64 (scB ts k x5).1)).setCell ⟨w1.heap.size, k * 2 + 1, none⟩ (.int .i64 (scB ts k x5).2))) := (B4.out.setCell (p := ⟨w1.heap.size, k * 2, none⟩) (Nat.le_refl _) _).setCell (p := ⟨w1.heap.size, k * 2 + 1, none⟩) (Nat.le_refl _) _
          clear r4 r5 b4 m4 HR3 HB2 HCL q0 q5 hl4
          generalize (scB ts k x5).1 = n0 at *
          generalize (scB ts k x5).2 = n1 at *
          go_wp2
          go_roundw
          case rel => exact ⟨k + 1, by omega, by go_num, HNX, HB5.out⟩
          case measure => simp [intOf]; omega
        · have HNX : Hid (((w2.setCell ⟨w1.heap.size, k * 2, none⟩ (.int .i64 (-1))).setCell ⟨w1.heap.size, k * 2 + 1, none⟩ (.int .i64 (-1))).heap[w1.heap.size]? = some (.cells ((binMix ts (k + 1)).flatMap bndCells).toArray 30 (0, 0))) := by
            have h := HR3.out
            rw [binMix_set ts k hin ⟨-1, -1⟩ (by rw [HBN.out]; exact (if_neg hk1).symm)] at h
            exact h
          clear HR3 HBN HCL
          go_wp2
          go_roundw
          case rel => exact ⟨k + 1, by omega, by go_num, HNX, HB3.out⟩
          case measure => simp [intOf]; omega
      · obtain rfl : k = ts.length := by omega
        have HE : Hid (wr.heap[w1.heap.size]? = some (.cells ((binF ts ts.length).flatMap bndCells).toArray 30 (0, 0))) := by
          have := HR.out
          rw [binMix, Nat.sub_self, List.replicate_zero, List.append_nil] at this
          exact this
        have HB : Hid (Below w.heap.size w wr) := hb1.trans (hb.mono s1)
        clear HR
        go_wp2
        go_ret
        exact ⟨⟨_, rfl, s1, HE.out⟩, HB.out⟩
  · have HO : Hid (nodesB ts = false) := by show nodesB ts = false; simpa using hok
    have HBL : Hid (binL ts = []) := by show binL ts = _; rw [binL, if_neg hok]
    clear hok
    rw [HBL.out]
    have HMK : Hid (∀ w : World, (Instr.makeSlice 60 (.int .i64 0) (.int .i64 0)).run Try.prog w = .ok (.slice (some ⟨w.heap.size, 0, none⟩) 0 0) (w.alloc (.cells #[] 30))) := fun w => by
      have hmk := run_make (P := Try.prog) w 60 30 i0 _ Try.underlying60 hi hz0 .i64 .i64 0 0 (by omega) (by omega) (by rw [hz2]; omega) (by omega)
      have em : madeCells (Value.agg #[.int .i64 0, .int .i64 0]).cells (Int.toNat 0 * 2) = #[] := by simp [madeCells]
      rw [hz1, em] at hmk
      exact hmk
    clear hi hz0 hz1 hz2 i0
    go_enter Try.func46, Try.ntmps46
    go_wp2_with fail
    refine (impl_scopes _ g cap ts hne hl HT.out w HA.out).mono ?_
    rintro e w1 ⟨hend, hb1⟩
    unfold ScEnd at hend
    rw [HO.out] at hend
    obtain rfl : e = .returned (.slice none 0 0) := hend
    have hmk := HMK.out w1
    have s1 := hb1.size
    go_wp2
    clear hmk
    go_loopw [14] (fun r wr => r = .int .i64 0 ∧ wr = w1.alloc (.cells #[] 30)) (fun r _ => 0)
    case atStart => exact ⟨rfl, rfl⟩
    case round =>
      obtain ⟨rfl, rfl⟩ := hrel
      have HE : Hid ((w1.alloc (.cells #[] 30)).heap[w1.heap.size]? = some (.cells #[] 30 (0, 0))) := (MapKept.heap_alloc w1 _).1
      go_wp2
      go_ret
      exact ⟨⟨_, rfl, s1, HE.out⟩, hb1.alloc s1 _⟩

/-- What BinderOf answers. -/
def bindB (ts : List Nod) (i : Int) : Bnd := if nodesB ts = true ∧ 0 ≤ i ∧ i < ts.length then binN ts i.toNat else ⟨-1, -1⟩

theorem binL_length (ts : List Nod) : (binL ts).length ≤ 150 := by
  unfold binL
  split
  · rename_i h
    obtain ⟨h1, h2, _⟩ := nodesB_starts h
    rw [binF_length]
    exact h2
  · simp

theorem bindB_yes (ts : List Nod) (i : Nat) (h : i < (binL ts).length) : bindB ts i = (binL ts).getD i noBnd := by
  unfold binL at h ⊢
  split at h
  · rename_i hok
    rw [if_pos hok]
    rw [binF_length] at h
    rw [binF_at ts _ i h, bindB, if_pos ⟨hok, by omega, by omega⟩]
    rfl
  · simp at h

theorem bindB_no (ts : List Nod) (i : Int) (h : i < 0 ∨ ((binL ts).length : Int) ≤ i) : bindB ts i = ⟨-1, -1⟩ := by
  unfold bindB
  refine if_neg ?_
  rintro ⟨h1, h2, h3⟩
  rw [binL, if_pos h1, binF_length] at h
  omega

set_option maxHeartbeats 1000000 in
set_option maxRecDepth 20000 in
theorem impl_binder (a : Option Addr) (g cap : Nat) (ts : List Nod) (i : Int) (hne : 0 < ts.length → a = some ⟨g, 0, none⟩) (hl : ts.length ≤ 1048576)
    (hst : ∀ i, i < ts.length → (ts.getD i noNod).name.size ≤ maxLen ∧ (ts.getD i noNod).other.size ≤ maxLen) (w : World) (hA : NodAt w g ts) :
    Calls Try.prog 15 #[.slice a ts.length cap, .int .i64 i] w fun e w' => e = .returned (.agg #[.int .i64 (bindB ts i).node, .int .i64 (bindB ts i).role]) ∧ Below w.heap.size w w' := by
  have HA : Hid (NodAt w g ts) := hA
  have HT : Hid (∀ i, i < ts.length → (ts.getD i noNod).name.size ≤ maxLen ∧ (ts.getD i noNod).other.size ≤ maxLen) := hst
  obtain ⟨wa, hwa⟩ : ∃ wa, w.alloc (.cells #[.int .i64 0, .int .i64 0] 30) = wa := ⟨_, rfl⟩
  have HWA : Hid (w.alloc (.cells #[.int .i64 0, .int .i64 0] 30) = wa) := hwa
  have RF : Hid (wa.heap[w.heap.size]? = some (.cells #[.int .i64 0, .int .i64 0] 30 (0, 0))) := by show wa.heap[w.heap.size]? = _; rw [← hwa]; exact (MapKept.heap_alloc w _).1
  have BA : Hid (Below w.heap.size w wa) := by show Below w.heap.size w wa; rw [← hwa]; exact (Below.refl _ w).alloc (Nat.le_refl _) _
  have sa : wa.heap.size = w.heap.size + 1 := by rw [← hwa]; simp
  have AA : Hid (NodAt wa g ts) := hA.below BA.out (fun h => hA.lt h)
  have hbl := binL_length ts
  clear hwa hA hst
  go_enter Try.func15, Try.ntmps15
  go_wp2_with fail
  rw [HWA.out]
  refine (impl_binders a g cap ts hne hl HT.out wa AA.out).mono ?_
  rintro e w1 ⟨⟨H, rfl, hH, hr1⟩, b1⟩
  have R1 : Hid (w1.heap[w.heap.size]? = some (.cells #[.int .i64 0, .int .i64 0] 30 (0, 0))) := (b1.block w.heap.size (by omega)).trans RF.out
  have B1 : Hid (Below w.heap.size w w1) := BA.out.trans (b1.mono (by omega))
  have s1 := b1.size
  obtain ⟨q0, q1, q2⟩ := row2_cells R1.out
  by_cases h0 : i < 0
  · have HV : Hid (bindB ts i = ⟨-1, -1⟩) := bindB_no ts i (Or.inl h0)
    clear hr1 b1 q0 q1 q2
    go_wp2_with fail
    refine (impl_noBind w1).mono ?_
    rintro e w2 ⟨rfl, b2⟩
    have R2 : Hid (w2.heap[w.heap.size]? = some (.cells #[.int .i64 0, .int .i64 0] 30 (0, 0))) := (b2.block w.heap.size (by omega)).trans R1.out
    have B2 : Hid (Below w.heap.size w w2) := B1.out.trans (b2.mono (by omega))
    obtain ⟨q0, q1, q2⟩ := row2_cells R2.out
    clear b2
    go_wp2
    exact bodyPost_ret (results_cell_row rfl _ _ w.heap.size 30 _ (0, 0) _ rfl (row2_put _ _ R2.out) Try.underlying30 rfl (by kernel_rfl)) rfl ⟨by rw [HV.out], row2_below B2.out (Nat.le_refl _) _ _⟩
  · by_cases h1 : ((binL ts).length : Int) ≤ i
    · have HV : Hid (bindB ts i = ⟨-1, -1⟩) := bindB_no ts i (Or.inr h1)
      clear hr1 b1 q0 q1 q2
      go_wp2_with fail
      refine (impl_noBind w1).mono ?_
      rintro e w2 ⟨rfl, b2⟩
      have R2 : Hid (w2.heap[w.heap.size]? = some (.cells #[.int .i64 0, .int .i64 0] 30 (0, 0))) := (b2.block w.heap.size (by omega)).trans R1.out
      have B2 : Hid (Below w.heap.size w w2) := B1.out.trans (b2.mono (by omega))
      obtain ⟨q0, q1, q2⟩ := row2_cells R2.out
      clear b2
      go_wp2
      exact bodyPost_ret (results_cell_row rfl _ _ w.heap.size 30 _ (0, 0) _ rfl (row2_put _ _ R2.out) Try.underlying30 rfl (by kernel_rfl)) rfl ⟨by rw [HV.out], row2_below B2.out (Nat.le_refl _) _ _⟩
    · obtain ⟨m, rfl⟩ := Int.eq_ofNat_of_zero_le (show 0 ≤ i by omega)
      have hm : m < (binL ts).length := by omega
      have hm' : (m : Int) < (binL ts).length := by omega
      have HV : Hid (bindB ts m = (binL ts).getD m noBnd) := bindB_yes ts m hm
      have t := bnd_of_room hr1 m hm
      generalize (binL ts).getD m noBnd = y at t HV
      obtain ⟨y0, y1⟩ := y
      have c0 : w1.cell? ⟨H, m * 2, none⟩ = some (.int .i64 y0) := t.c0
      have c1 : w1.cell? ⟨H, m * 2 + 1, none⟩ = some (.int .i64 y1) := t.c1
      generalize (binL ts).length = N at *
      clear hr1 b1 t
      go_wp2
      exact bodyPost_ret (results_cell_row rfl _ _ w.heap.size 30 _ (0, 0) _ rfl (row2_put _ _ R1.out) Try.underlying30 rfl (by kernel_rfl)) rfl ⟨by rw [HV.out], row2_below B1.out (Nat.le_refl _) _ _⟩
end Go.Proofs.Ytcpafjpjfinbkaa
