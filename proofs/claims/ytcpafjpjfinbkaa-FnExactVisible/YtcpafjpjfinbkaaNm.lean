/-
  Node: marks that are written into a row of them of the call's own, and are read there again. Conditions: written at each theorem.
-/
import Derived.Test.YtcpafjpjfinbkaaNk
import Derived.Test.YtcpafjpjfinbkaaSt
import Derived.Test.YtcpafjpjfinbkaaMt
namespace Go.Proofs.Ytcpafjpjfinbkaa
open Go.ChangeShapes Go.WideShapes Go.ChangeAt Go.RowKit
set_option linter.unusedVariables false

/-- The marks that are written into one. -/
def nodMark (c : Nat) : Nod := ⟨(c : Nat), (c + 1 : Nat), (c + 2 : Nat), (c + 3 : Nat), (c + 4 : Nat), markS (c + 5), markS (c + 6)⟩

/-- The first k of them marked. -/
def nodMkd (ts : List Nod) (c : Nat) : Nat → List Nod
  | 0 => ts
  | k + 1 => (nodMkd ts c k).set k (nodMark (c + 7 * k))

theorem nodMkd_length (ts : List Nod) (c : Nat) : ∀ k, (nodMkd ts c k).length = ts.length
  | 0 => rfl
  | k + 1 => by rw [nodMkd, List.length_set, nodMkd_length ts c k]

theorem nodMkd_at (ts : List Nod) (c : Nat) : ∀ (k i : Nat), i < k → i < ts.length → (nodMkd ts c k).getD i noNod = nodMark (c + 7 * i)
  | 0, i, h, _ => by omega
  | k + 1, i, h, hl => by
    rw [nodMkd]
    by_cases hik : i = k
    · subst hik
      simp [List.getD, nodMkd_length, hl]
    · have ih := nodMkd_at ts c k i (by omega) hl
      have hki : ¬ k = i := fun e => hik e.symm
      simp only [List.getD, List.getElem?_set, hki, if_false] at ih ⊢
      exact ih

set_option maxHeartbeats 4000000 in
set_option maxRecDepth 20000 in
theorem nod_mark_row (a : Option Addr) (g cap B : Nat) (ts : List Nod) (sp : List Value) (hl : ts.length ≤ 1048576) (ha : 0 < ts.length → a = some ⟨g, 0, none⟩) (w : World)
    (hg : 0 < ts.length → w.heap[g]? = some (.cells (ts.flatMap nodCells ++ sp).toArray 52 (0, 0))) (hB : B ≤ g) (hBw : B ≤ w.heap.size) :
    Calls Try.prog 20 #[.slice a ts.length cap, .int .i64 1] w fun e w' =>
      e = .returned (.int .i64 ((1 + 7 * ts.length : Nat) : Int)) ∧ (0 < ts.length → w'.heap[g]? = some (.cells ((nodMkd ts 1 ts.length).flatMap nodCells ++ sp).toArray 52 (0, 0))) ∧ Below B w w' ∧ But g w w' := by
  have HG : Hid (0 < ts.length → w.heap[g]? = some (.cells (ts.flatMap nodCells ++ sp).toArray 52 (0, 0))) := hg
  clear hg
  go_enter Try.func20, Try.ntmps20
  go_wp2
  go_loopw [1, 5] (fun c i wr => ∃ k : Nat, k ≤ ts.length ∧ i = .int .i64 k ∧ c = .int .i64 ((1 + 7 * k : Nat) : Int) ∧ Hid (0 < ts.length → wr.heap[g]? = some (.cells ((nodMkd ts 1 k).flatMap nodCells ++ sp).toArray 52 (0, 0))) ∧ Below B w wr ∧ Hid (But g w wr)) (fun _ i _ => ts.length - (intOf i).toNat)
  case atStart => exact ⟨0, by omega, rfl, rfl, HG.out, Below.refl _ _, But.refl _ _⟩
  case round =>
    obtain ⟨k, hk, rfl, rfl, HR, hb, T0⟩ := hrel
    by_cases hin : k < ts.length
    · have e1 : (k : Int) < ts.length := by omega
      obtain rfl := ha (by omega)
      have hr0 := HR.out (by omega)
      have hlt0 : g < wr.heap.size := (Array.getElem?_eq_some_iff.1 hr0).1
      have hkm : k < (nodMkd ts 1 k).length := by rw [nodMkd_length]; exact hin
      have t0 := nod_of_row hr0 k hkm
      have HS : Hid (_) := nod_flat_set' (nodMark (1 + 7 * k)) (nodMkd ts 1 k) sp k hkm
      have HK : Hid (nodMkd ts 1 (k + 1) = (nodMkd ts 1 k).set k (nodMark (1 + 7 * k))) := rfl
      have HR0 : Hid (wr.heap[g]? = some (.cells ((nodMkd ts 1 k).flatMap nodCells ++ sp).toArray 52 (0, 0))) := hr0
      generalize (nodMkd ts 1 k).getD k noNod = y at t0
      obtain ⟨y0, y1, y2, y3, y4, y5, y6⟩ := y
      generalize (nodMkd ts 1 k).flatMap nodCells ++ sp = M0 at HR0 HS hr0
      have b0 : Below B w wr := hb
      have e4 : ((1 + 7 * k : Nat) : Int) = 1 + 7 * (k : Int) := by omega
      have c0 : wr.cell? ⟨g, k * 7, none⟩ = some (.int .i64 y0) := t0.c0
      have c1 : wr.cell? ⟨g, k * 7 + 1, none⟩ = some (.int .i64 y1) := t0.c1
      have c2 : wr.cell? ⟨g, k * 7 + 2, none⟩ = some (.int .i64 y2) := t0.c2
      have c3 : wr.cell? ⟨g, k * 7 + 3, none⟩ = some (.int .i64 y3) := t0.c3
      have c4 : wr.cell? ⟨g, k * 7 + 4, none⟩ = some (.int .i64 y4) := t0.c4
      have c5 : wr.cell? ⟨g, k * 7 + 5, none⟩ = some (.string y5) := t0.c5
      have c6 : wr.cell? ⟨g, k * 7 + 6, none⟩ = some (.string y6) := t0.c6
      have f0 : wr.frozen? ⟨g, k * 7, none⟩ = false := frozen_of_row wr _ _ _ _ hr0
      have f1 : wr.frozen? ⟨g, k * 7 + 1, none⟩ = false := frozen_of_row wr _ _ _ _ hr0
      have f2 : wr.frozen? ⟨g, k * 7 + 2, none⟩ = false := frozen_of_row wr _ _ _ _ hr0
      have f3 : wr.frozen? ⟨g, k * 7 + 3, none⟩ = false := frozen_of_row wr _ _ _ _ hr0
      have f4 : wr.frozen? ⟨g, k * 7 + 4, none⟩ = false := frozen_of_row wr _ _ _ _ hr0
      have f5 : wr.frozen? ⟨g, k * 7 + 5, none⟩ = false := frozen_of_row wr _ _ _ _ hr0
      have f6 : wr.frozen? ⟨g, k * 7 + 6, none⟩ = false := frozen_of_row wr _ _ _ _ hr0
      clear t0 hr0 HR hb hkm
      have hh0 : (((((wr.setCell ⟨g, k * 7, none⟩ (.int .i64 (1 + 7 * (k : Int)))).setCell ⟨g, k * 7 + 1, none⟩ (.int .i64 (1 + 7 * (k : Int) + 1))).setCell ⟨g, k * 7 + 2, none⟩ (.int .i64 (1 + 7 * (k : Int) + 1 + 1))).setCell ⟨g, k * 7 + 3, none⟩ (.int .i64 (1 + 7 * (k : Int) + 1 + 1 + 1))).setCell ⟨g, k * 7 + 4, none⟩ (.int .i64 (1 + 7 * (k : Int) + 1 + 1 + 1 + 1))).heap[g]? = some (.cells ((((((M0.set (k * 7) (.int .i64 (1 + 7 * (k : Int)))).set (k * 7 + 1) (.int .i64 (1 + 7 * (k : Int) + 1))).set (k * 7 + 2) (.int .i64 (1 + 7 * (k : Int) + 1 + 1))).set (k * 7 + 3) (.int .i64 (1 + 7 * (k : Int) + 1 + 1 + 1))).set (k * 7 + 4) (.int .i64 (1 + 7 * (k : Int) + 1 + 1 + 1 + 1)))).toArray 52 (0, 0)) := by
        have h := heap_setCell_same _ g (k * 7 + 4) _ _ (.int .i64 (1 + 7 * (k : Int) + 1 + 1 + 1 + 1)) (heap_setCell_same _ g (k * 7 + 3) _ _ (.int .i64 (1 + 7 * (k : Int) + 1 + 1 + 1)) (heap_setCell_same _ g (k * 7 + 2) _ _ (.int .i64 (1 + 7 * (k : Int) + 1 + 1)) (heap_setCell_same _ g (k * 7 + 1) _ _ (.int .i64 (1 + 7 * (k : Int) + 1)) (heap_setCell_same _ g (k * 7) _ _ (.int .i64 (1 + 7 * (k : Int))) (HR0.out)))))
        simp only [List.setIfInBounds_toArray] at h
        exact h
      have HH0 : Hid ((((((wr.setCell ⟨g, k * 7, none⟩ (.int .i64 (1 + 7 * (k : Int)))).setCell ⟨g, k * 7 + 1, none⟩ (.int .i64 (1 + 7 * (k : Int) + 1))).setCell ⟨g, k * 7 + 2, none⟩ (.int .i64 (1 + 7 * (k : Int) + 1 + 1))).setCell ⟨g, k * 7 + 3, none⟩ (.int .i64 (1 + 7 * (k : Int) + 1 + 1 + 1))).setCell ⟨g, k * 7 + 4, none⟩ (.int .i64 (1 + 7 * (k : Int) + 1 + 1 + 1 + 1))).heap[g]? = some (.cells ((((((M0.set (k * 7) (.int .i64 (1 + 7 * (k : Int)))).set (k * 7 + 1) (.int .i64 (1 + 7 * (k : Int) + 1))).set (k * 7 + 2) (.int .i64 (1 + 7 * (k : Int) + 1 + 1))).set (k * 7 + 3) (.int .i64 (1 + 7 * (k : Int) + 1 + 1 + 1))).set (k * 7 + 4) (.int .i64 (1 + 7 * (k : Int) + 1 + 1 + 1 + 1)))).toArray 52 (0, 0))) := hh0
      have sz0 : (((((wr.setCell ⟨g, k * 7, none⟩ (.int .i64 (1 + 7 * (k : Int)))).setCell ⟨g, k * 7 + 1, none⟩ (.int .i64 (1 + 7 * (k : Int) + 1))).setCell ⟨g, k * 7 + 2, none⟩ (.int .i64 (1 + 7 * (k : Int) + 1 + 1))).setCell ⟨g, k * 7 + 3, none⟩ (.int .i64 (1 + 7 * (k : Int) + 1 + 1 + 1))).setCell ⟨g, k * 7 + 4, none⟩ (.int .i64 (1 + 7 * (k : Int) + 1 + 1 + 1 + 1))).heap.size = wr.heap.size := by simp
      have bb0 : Below B w (((((wr.setCell ⟨g, k * 7, none⟩ (.int .i64 (1 + 7 * (k : Int)))).setCell ⟨g, k * 7 + 1, none⟩ (.int .i64 (1 + 7 * (k : Int) + 1))).setCell ⟨g, k * 7 + 2, none⟩ (.int .i64 (1 + 7 * (k : Int) + 1 + 1))).setCell ⟨g, k * 7 + 3, none⟩ (.int .i64 (1 + 7 * (k : Int) + 1 + 1 + 1))).setCell ⟨g, k * 7 + 4, none⟩ (.int .i64 (1 + 7 * (k : Int) + 1 + 1 + 1 + 1))) := (((((b0).setCell (p := ⟨g, k * 7, none⟩) hB _).setCell (p := ⟨g, k * 7 + 1, none⟩) hB _).setCell (p := ⟨g, k * 7 + 2, none⟩) hB _).setCell (p := ⟨g, k * 7 + 3, none⟩) hB _).setCell (p := ⟨g, k * 7 + 4, none⟩) hB _
      have U0 : Hid (But g w (((((wr.setCell ⟨g, k * 7, none⟩ (.int .i64 (1 + 7 * (k : Int)))).setCell ⟨g, k * 7 + 1, none⟩ (.int .i64 (1 + 7 * (k : Int) + 1))).setCell ⟨g, k * 7 + 2, none⟩ (.int .i64 (1 + 7 * (k : Int) + 1 + 1))).setCell ⟨g, k * 7 + 3, none⟩ (.int .i64 (1 + 7 * (k : Int) + 1 + 1 + 1))).setCell ⟨g, k * 7 + 4, none⟩ (.int .i64 (1 + 7 * (k : Int) + 1 + 1 + 1 + 1)))) := (((((T0.out).setCell (k * 7) _).setCell (k * 7 + 1) _).setCell (k * 7 + 2) _).setCell (k * 7 + 3) _).setCell (k * 7 + 4) _
      have d0_5 : (((((wr.setCell ⟨g, k * 7, none⟩ (.int .i64 (1 + 7 * (k : Int)))).setCell ⟨g, k * 7 + 1, none⟩ (.int .i64 (1 + 7 * (k : Int) + 1))).setCell ⟨g, k * 7 + 2, none⟩ (.int .i64 (1 + 7 * (k : Int) + 1 + 1))).setCell ⟨g, k * 7 + 3, none⟩ (.int .i64 (1 + 7 * (k : Int) + 1 + 1 + 1))).setCell ⟨g, k * 7 + 4, none⟩ (.int .i64 (1 + 7 * (k : Int) + 1 + 1 + 1 + 1))).cell? ⟨g, k * 7 + 5, none⟩ = some (.string y5) := (World.cell?_setCell_other _ _ _ _ (by simp)).trans ((World.cell?_setCell_other _ _ _ _ (by simp)).trans ((World.cell?_setCell_other _ _ _ _ (by simp)).trans ((World.cell?_setCell_other _ _ _ _ (by simp)).trans ((World.cell?_setCell_other _ _ _ _ (by simp)).trans (c5)))))
      have d0_6 : (((((wr.setCell ⟨g, k * 7, none⟩ (.int .i64 (1 + 7 * (k : Int)))).setCell ⟨g, k * 7 + 1, none⟩ (.int .i64 (1 + 7 * (k : Int) + 1))).setCell ⟨g, k * 7 + 2, none⟩ (.int .i64 (1 + 7 * (k : Int) + 1 + 1))).setCell ⟨g, k * 7 + 3, none⟩ (.int .i64 (1 + 7 * (k : Int) + 1 + 1 + 1))).setCell ⟨g, k * 7 + 4, none⟩ (.int .i64 (1 + 7 * (k : Int) + 1 + 1 + 1 + 1))).cell? ⟨g, k * 7 + 6, none⟩ = some (.string y6) := (World.cell?_setCell_other _ _ _ _ (by simp)).trans ((World.cell?_setCell_other _ _ _ _ (by simp)).trans ((World.cell?_setCell_other _ _ _ _ (by simp)).trans ((World.cell?_setCell_other _ _ _ _ (by simp)).trans ((World.cell?_setCell_other _ _ _ _ (by simp)).trans (c6)))))
      clear hh0
      go_wp2_with fail
      refine (mark_at _ (1 + 7 * k + 5) (by omega) (by omega) (by omega) _).mono ?_
      rintro e w2 ⟨rfl, hx0⟩
      rw [sz0] at hx0
      have hr1 : w2.heap[g]? = _ := (hx0.block g hlt0).trans HH0.out
      have HR1 : Hid (w2.heap[g]? = some (.cells ((((((M0.set (k * 7) (.int .i64 (1 + 7 * (k : Int)))).set (k * 7 + 1) (.int .i64 (1 + 7 * (k : Int) + 1))).set (k * 7 + 2) (.int .i64 (1 + 7 * (k : Int) + 1 + 1))).set (k * 7 + 3) (.int .i64 (1 + 7 * (k : Int) + 1 + 1 + 1))).set (k * 7 + 4) (.int .i64 (1 + 7 * (k : Int) + 1 + 1 + 1 + 1)))).toArray 52 (0, 0))) := hr1
      have hlt1 : g < w2.heap.size := (Array.getElem?_eq_some_iff.1 hr1).1
      have b1 : Below B w w2 := bb0.trans (hx0.mono (by have h1 := bb0.size; rw [sz0] at h1; omega))
      have T1 : Hid (But g w w2) := U0.out.call (by rw [sz0]; exact hx0)
      clear c0 f0 c1 f1 c2 f2 c3 f3 c4 f4 c5 f5 c6 f6
      have c5 : w2.cell? ⟨g, k * 7 + 5, none⟩ = some (.string y5) := (World.cell?_of_block (hx0.block g hlt0)).trans d0_5
      have f5 : w2.frozen? ⟨g, k * 7 + 5, none⟩ = false := frozen_of_row w2 _ _ _ _ hr1
      have c6 : w2.cell? ⟨g, k * 7 + 6, none⟩ = some (.string y6) := (World.cell?_of_block (hx0.block g hlt0)).trans d0_6
      have f6 : w2.frozen? ⟨g, k * 7 + 6, none⟩ = false := frozen_of_row w2 _ _ _ _ hr1
      clear hr1 d0_5 d0_6 hx0 HH0 bb0 sz0 b0 HR0 T0 U0
      have hh1 : (w2.setCell ⟨g, k * 7 + 5, none⟩ (.string (markS (1 + 7 * k + 5)))).heap[g]? = some (.cells (((((((M0.set (k * 7) (.int .i64 (1 + 7 * (k : Int)))).set (k * 7 + 1) (.int .i64 (1 + 7 * (k : Int) + 1))).set (k * 7 + 2) (.int .i64 (1 + 7 * (k : Int) + 1 + 1))).set (k * 7 + 3) (.int .i64 (1 + 7 * (k : Int) + 1 + 1 + 1))).set (k * 7 + 4) (.int .i64 (1 + 7 * (k : Int) + 1 + 1 + 1 + 1))).set (k * 7 + 5) (.string (markS (1 + 7 * k + 5))))).toArray 52 (0, 0)) := by
        have h := heap_setCell_same _ g (k * 7 + 5) _ _ (.string (markS (1 + 7 * k + 5))) (HR1.out)
        simp only [List.setIfInBounds_toArray] at h
        exact h
      have HH1 : Hid ((w2.setCell ⟨g, k * 7 + 5, none⟩ (.string (markS (1 + 7 * k + 5)))).heap[g]? = some (.cells (((((((M0.set (k * 7) (.int .i64 (1 + 7 * (k : Int)))).set (k * 7 + 1) (.int .i64 (1 + 7 * (k : Int) + 1))).set (k * 7 + 2) (.int .i64 (1 + 7 * (k : Int) + 1 + 1))).set (k * 7 + 3) (.int .i64 (1 + 7 * (k : Int) + 1 + 1 + 1))).set (k * 7 + 4) (.int .i64 (1 + 7 * (k : Int) + 1 + 1 + 1 + 1))).set (k * 7 + 5) (.string (markS (1 + 7 * k + 5))))).toArray 52 (0, 0))) := hh1
      have sz1 : (w2.setCell ⟨g, k * 7 + 5, none⟩ (.string (markS (1 + 7 * k + 5)))).heap.size = w2.heap.size := by simp
      have bb1 : Below B w (w2.setCell ⟨g, k * 7 + 5, none⟩ (.string (markS (1 + 7 * k + 5)))) := (b1).setCell (p := ⟨g, k * 7 + 5, none⟩) hB _
      have U1 : Hid (But g w (w2.setCell ⟨g, k * 7 + 5, none⟩ (.string (markS (1 + 7 * k + 5))))) := (T1.out).setCell (k * 7 + 5) _
      have d1_6 : (w2.setCell ⟨g, k * 7 + 5, none⟩ (.string (markS (1 + 7 * k + 5)))).cell? ⟨g, k * 7 + 6, none⟩ = some (.string y6) := (World.cell?_setCell_other _ _ _ _ (by simp)).trans (c6)
      clear hh1
      go_wp2_with fail
      refine (mark_at _ (1 + 7 * k + 6) (by omega) (by omega) (by omega) _).mono ?_
      rintro e w3 ⟨rfl, hx1⟩
      rw [sz1] at hx1
      have hr2 : w3.heap[g]? = _ := (hx1.block g hlt1).trans HH1.out
      have HR2 : Hid (w3.heap[g]? = some (.cells (((((((M0.set (k * 7) (.int .i64 (1 + 7 * (k : Int)))).set (k * 7 + 1) (.int .i64 (1 + 7 * (k : Int) + 1))).set (k * 7 + 2) (.int .i64 (1 + 7 * (k : Int) + 1 + 1))).set (k * 7 + 3) (.int .i64 (1 + 7 * (k : Int) + 1 + 1 + 1))).set (k * 7 + 4) (.int .i64 (1 + 7 * (k : Int) + 1 + 1 + 1 + 1))).set (k * 7 + 5) (.string (markS (1 + 7 * k + 5))))).toArray 52 (0, 0))) := hr2
      have hlt2 : g < w3.heap.size := (Array.getElem?_eq_some_iff.1 hr2).1
      have b2 : Below B w w3 := bb1.trans (hx1.mono (by have h1 := bb1.size; rw [sz1] at h1; omega))
      have T2 : Hid (But g w w3) := U1.out.call (by rw [sz1]; exact hx1)
      clear c5 f5 c6 f6
      have c6 : w3.cell? ⟨g, k * 7 + 6, none⟩ = some (.string y6) := (World.cell?_of_block (hx1.block g hlt1)).trans d1_6
      have f6 : w3.frozen? ⟨g, k * 7 + 6, none⟩ = false := frozen_of_row w3 _ _ _ _ hr2
      clear hr2 d1_6 hx1 HH1 bb1 sz1 b1 HR1 T1 U1
      go_wp2
      go_roundw
      case rel =>
        refine ⟨k + 1, by omega, by go_num, by go_num, fun _ => ?_, ?_, ?_⟩
        · have h := heap_setCell_same _ g (k * 7 + 6) _ _ (.string (markS (1 + 7 * k + 6))) (HR2.out)
          simp only [List.setIfInBounds_toArray] at h
          have hs := HS.out
          simp only [nodMark] at hs
          rw [show ((1 + 7 * k : Nat) : Int) = 1 + 7 * (k : Int) by omega] at hs
          rw [show ((1 + 7 * k + 1 : Nat) : Int) = 1 + 7 * (k : Int) + 1 by omega] at hs
          rw [show ((1 + 7 * k + 2 : Nat) : Int) = 1 + 7 * (k : Int) + 1 + 1 by omega] at hs
          rw [show ((1 + 7 * k + 3 : Nat) : Int) = 1 + 7 * (k : Int) + 1 + 1 + 1 by omega] at hs
          rw [show ((1 + 7 * k + 4 : Nat) : Int) = 1 + 7 * (k : Int) + 1 + 1 + 1 + 1 by omega] at hs
          rw [hs] at h
          rw [HK.out]
          simp only [nodMark]
          rw [show ((1 + 7 * k : Nat) : Int) = 1 + 7 * (k : Int) by omega]
          rw [show ((1 + 7 * k + 1 : Nat) : Int) = 1 + 7 * (k : Int) + 1 by omega]
          rw [show ((1 + 7 * k + 2 : Nat) : Int) = 1 + 7 * (k : Int) + 1 + 1 by omega]
          rw [show ((1 + 7 * k + 3 : Nat) : Int) = 1 + 7 * (k : Int) + 1 + 1 + 1 by omega]
          rw [show ((1 + 7 * k + 4 : Nat) : Int) = 1 + 7 * (k : Int) + 1 + 1 + 1 + 1 by omega]
          exact h
        · exact (b2).setCell (p := ⟨g, k * 7 + 6, none⟩) hB _
        · exact (T2.out).setCell (k * 7 + 6) _
      case measure => simp [intOf]; omega
    · obtain rfl : k = ts.length := by omega
      go_wp2
      go_ret
      exact ⟨rfl, HR.out, hb, T0.out⟩

end Go.Proofs.Ytcpafjpjfinbkaa
