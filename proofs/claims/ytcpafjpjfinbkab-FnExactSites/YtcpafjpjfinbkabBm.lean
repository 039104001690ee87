/-
  Bind: marks that are written into a row of them of the call's own, and are read there again. Conditions: written at each theorem.
-/
import Derived.Test.YtcpafjpjfinbkabBk
import Derived.Test.YtcpafjpjfinbkabSt
import Derived.Test.YtcpafjpjfinbkabMt
namespace Go.Proofs.Ytcpafjpjfinbkab
open Go.ChangeShapes Go.WideShapes Go.ChangeAt Go.RowKit
set_option linter.unusedVariables false

/-- The marks that are written into one. -/
def bndMark (c : Nat) : Bnd := ⟨(c : Nat), (c + 1 : Nat)⟩

/-- The first k of them marked. -/
def bndMkd (ts : List Bnd) (c : Nat) : Nat → List Bnd
  | 0 => ts
  | k + 1 => (bndMkd ts c k).set k (bndMark (c + 2 * k))

theorem bndMkd_length (ts : List Bnd) (c : Nat) : ∀ k, (bndMkd ts c k).length = ts.length
  | 0 => rfl
  | k + 1 => by rw [bndMkd, List.length_set, bndMkd_length ts c k]

theorem bndMkd_at (ts : List Bnd) (c : Nat) : ∀ (k i : Nat), i < k → i < ts.length → (bndMkd ts c k).getD i noBnd = bndMark (c + 2 * i)
  | 0, i, h, _ => by omega
  | k + 1, i, h, hl => by
    rw [bndMkd]
    by_cases hik : i = k
    · subst hik
      simp [List.getD, bndMkd_length, hl]
    · have ih := bndMkd_at ts c k i (by omega) hl
      have hki : ¬ k = i := fun e => hik e.symm
      simp only [List.getD, List.getElem?_set, hki, if_false] at ih ⊢
      exact ih

set_option maxHeartbeats 4000000 in
set_option maxRecDepth 20000 in
theorem bnd_mark_row (a : Option Addr) (g cap B : Nat) (ts : List Bnd) (sp : List Value) (hl : ts.length ≤ 1048576) (ha : 0 < ts.length → a = some ⟨g, 0, none⟩) (w : World)
    (hg : 0 < ts.length → w.heap[g]? = some (.cells (ts.flatMap bndCells ++ sp).toArray 39 (0, 0))) (hB : B ≤ g) (hBw : B ≤ w.heap.size) :
    Calls Try.prog 11 #[.slice a ts.length cap, .int .i64 1] w fun e w' =>
      e = .returned (.int .i64 ((1 + 2 * ts.length : Nat) : Int)) ∧ (0 < ts.length → w'.heap[g]? = some (.cells ((bndMkd ts 1 ts.length).flatMap bndCells ++ sp).toArray 39 (0, 0))) ∧ Below B w w' ∧ But g w w' := by
  have HG : Hid (0 < ts.length → w.heap[g]? = some (.cells (ts.flatMap bndCells ++ sp).toArray 39 (0, 0))) := hg
  clear hg
  go_enter Try.func11, Try.ntmps11
  go_wp2
  go_loopw [1, 5] (fun c i wr => ∃ k : Nat, k ≤ ts.length ∧ i = .int .i64 k ∧ c = .int .i64 ((1 + 2 * k : Nat) : Int) ∧ Hid (0 < ts.length → wr.heap[g]? = some (.cells ((bndMkd ts 1 k).flatMap bndCells ++ sp).toArray 39 (0, 0))) ∧ Below B w wr ∧ Hid (But g w wr)) (fun _ i _ => ts.length - (intOf i).toNat)
  case atStart => exact ⟨0, by omega, rfl, rfl, HG.out, Below.refl _ _, But.refl _ _⟩
  case round =>
    obtain ⟨k, hk, rfl, rfl, HR, hb, T0⟩ := hrel
    by_cases hin : k < ts.length
    · have e1 : (k : Int) < ts.length := by omega
      obtain rfl := ha (by omega)
      have hr0 := HR.out (by omega)
      have hlt0 : g < wr.heap.size := (Array.getElem?_eq_some_iff.1 hr0).1
      have hkm : k < (bndMkd ts 1 k).length := by rw [bndMkd_length]; exact hin
      have t0 := bnd_of_row hr0 k hkm
      have HS : Hid (_) := bnd_flat_set' (bndMark (1 + 2 * k)) (bndMkd ts 1 k) sp k hkm
      have HK : Hid (bndMkd ts 1 (k + 1) = (bndMkd ts 1 k).set k (bndMark (1 + 2 * k))) := rfl
      have HR0 : Hid (wr.heap[g]? = some (.cells ((bndMkd ts 1 k).flatMap bndCells ++ sp).toArray 39 (0, 0))) := hr0
      generalize (bndMkd ts 1 k).getD k noBnd = y at t0
      obtain ⟨y0, y1⟩ := y
      generalize (bndMkd ts 1 k).flatMap bndCells ++ sp = M0 at HR0 HS hr0
      have b0 : Below B w wr := hb
      have e4 : ((1 + 2 * k : Nat) : Int) = 1 + 2 * (k : Int) := by omega
      have c0 : wr.cell? ⟨g, k * 2, none⟩ = some (.int .i64 y0) := t0.c0
      have c1 : wr.cell? ⟨g, k * 2 + 1, none⟩ = some (.int .i64 y1) := t0.c1
      have f0 : wr.frozen? ⟨g, k * 2, none⟩ = false := frozen_of_row wr _ _ _ _ hr0
      have f1 : wr.frozen? ⟨g, k * 2 + 1, none⟩ = false := frozen_of_row wr _ _ _ _ hr0
      clear t0 hr0 HR hb hkm
      go_wp2
      go_roundw
      case rel =>
        refine ⟨k + 1, by omega, by go_num, by go_num, fun _ => ?_, ?_, ?_⟩
        · have h := heap_setCell_same _ g (k * 2 + 1) _ _ (.int .i64 (1 + 2 * (k : Int) + 1)) (heap_setCell_same _ g (k * 2) _ _ (.int .i64 (1 + 2 * (k : Int))) (HR0.out))
          simp only [List.setIfInBounds_toArray] at h
          have hs := HS.out
          simp only [bndMark] at hs
          rw [show ((1 + 2 * k : Nat) : Int) = 1 + 2 * (k : Int) by omega] at hs
          rw [show ((1 + 2 * k + 1 : Nat) : Int) = 1 + 2 * (k : Int) + 1 by omega] at hs
          rw [hs] at h
          rw [HK.out]
          simp only [bndMark]
          rw [show ((1 + 2 * k : Nat) : Int) = 1 + 2 * (k : Int) by omega]
          rw [show ((1 + 2 * k + 1 : Nat) : Int) = 1 + 2 * (k : Int) + 1 by omega]
          exact h
        · exact ((b0).setCell (p := ⟨g, k * 2, none⟩) hB _).setCell (p := ⟨g, k * 2 + 1, none⟩) hB _
        · exact ((T0.out).setCell (k * 2) _).setCell (k * 2 + 1) _
      case measure => simp [intOf]; omega
    · obtain rfl : k = ts.length := by omega
      go_wp2
      go_ret
      exact ⟨rfl, HR.out, hb, T0.out⟩

set_option maxHeartbeats 4000000 in
set_option maxRecDepth 20000 in
theorem bnd_held_row (a : Option Addr) (g cap m : Nat) (ms : List Bnd) (hmm : ms.length = m) (hl : m ≤ 1048576) (ha : 0 < m → a = some ⟨g, 0, none⟩) (w : World)
    (hT : BndAt w g ms) (hm : ∀ i, i < ms.length → ms.getD i noBnd = bndMark (1 + 2 * i)) :
    Calls Try.prog 12 #[.slice a m cap, .int .i64 1] w fun e w' => e = .returned (.int .i64 ((1 + 2 * m : Nat) : Int)) ∧ Below w.heap.size w w' := by
  subst hmm
  have HM : Hid (∀ i, i < ms.length → ms.getD i noBnd = bndMark (1 + 2 * i)) := hm
  have HT : Hid (BndAt w g ms) := hT
  clear hm hT
  go_enter Try.func12, Try.ntmps12
  go_wp2
  go_loopw [1, 5] (fun c i wr => ∃ k : Nat, k ≤ ms.length ∧ i = .int .i64 k ∧ c = .int .i64 ((1 + 2 * k : Nat) : Int) ∧ Below w.heap.size w wr) (fun _ i _ => ms.length - (intOf i).toNat)
  case atStart => exact ⟨0, by omega, rfl, rfl, Below.refl _ _⟩
  case round =>
    obtain ⟨k, hk, rfl, rfl, hb⟩ := hrel
    by_cases hin : k < ms.length
    · have e1 : (k : Int) < ms.length := by omega
      obtain rfl := ha (by omega)
      have hglt : g < w.heap.size := bnd_lt (HT.out k hin).c0
      have t := (HT.out.below hb (fun _ => hglt)) k hin
      rw [HM.out k hin] at t
      have q0 : wr.cell? ⟨g, k * 2, none⟩ = some (.int .i64 (1 + 2 * (k : Int))) := by rw [t.c0]; simp only [bndMark]; congr 2
      have q1 : wr.cell? ⟨g, k * 2 + 1, none⟩ = some (.int .i64 (1 + 2 * (k : Int) + 1)) := by rw [t.c1]; simp only [bndMark]; congr 2
      have hsize := hb.size
      clear t
      go_wp2
      go_roundw
      case rel => exact ⟨k + 1, by omega, by go_num, by go_num, hb⟩
      case measure => simp [intOf]; omega
    · obtain rfl : k = ms.length := by omega
      go_wp2
      go_ret
      exact ⟨rfl, hb⟩
end Go.Proofs.Ytcpafjpjfinbkab
