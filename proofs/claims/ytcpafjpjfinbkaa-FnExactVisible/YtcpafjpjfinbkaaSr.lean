/-
  Names in order, each once, as it landed. Conditions: written at each theorem.
-/
import Derived.Test.YtcpafjpjfinbkaaSs
import Derived.Test.YtcpafjpjfinbkaaShelf
namespace Go.Proofs.Ytcpafjpjfinbkaa
open Go.ChangeShapes Go.WideShapes Go.ChangeAt Go.RowKit Go.Sort
set_option linter.unusedVariables false

theorem lib_clone (s : ByteArray) (hs : s.size ≤ 281474976710656) (w : World) : Calls Try.prog 63 #[.string s] w fun e w' => e = .returned (.string s) ∧ Below w.heap.size w w' := by
  go_enter Try.func63, Try.ntmps63
  go_wp2_with fail
  refine (Try.stringslite_Clone s w hs).mono ?_
  rintro e w1 ⟨rfl, b1⟩
  go_wp2
  go_ret
  exact ⟨rfl, b1⟩

/-- A row of its own whose first cells are set, as a block. -/
theorem sorted_block {w : World} {g n : Nat} {os : Array Obj} {cur : Array Value} {ts : List (List UInt8)} (hb : w.heap[g]? = some (.cells cur 9 (0, 0))) (h : ts.length ≤ cur.size) :
    ∃ cur' : Array Value, (grow (putRow encStr (Sort.ahead w n) g 0 ts.toArray) os).heap[g]? = some (.cells cur' 9 (0, 0)) ∧ cur'.size = cur.size ∧ cur'.toList.take ts.length = ts.map encStr :=
  ⟨_, heap_sorted _ hb, by simp [putCells], take_putCells cur ts h⟩

theorem cell_take {w : World} {g : Nat} {cur : Array Value} {l : List (List UInt8)} (hg : w.heap[g]? = some (.cells cur 9 (0, 0))) (ht : cur.toList.take l.length = l.map encStr) (j : Nat) (hj : j < l.length) :
    w.cell? ⟨g, j, none⟩ = some (.string ⟨(l.getD j []).toArray⟩) ∧ w.frozen? ⟨g, j, none⟩ = false ∧ cur[j]? = some (.string ⟨(l.getD j []).toArray⟩) := by
  have h1 : (cur.toList.take l.length)[j]? = (l.map encStr)[j]? := by rw [ht]
  rw [List.getElem?_take_of_lt hj, Array.getElem?_toList] at h1
  have h2 : cur[j]? = some (.string ⟨(l.getD j []).toArray⟩) := by rw [h1]; simp [List.getD, hj]
  exact ⟨by rw [cell_of_row _ _ _ _ _ _ hg]; exact h2, frozen_of_row w g j _ _ hg, h2⟩

theorem set_same {cur : Array Value} {j : Nat} {v : Value} (h : cur[j]? = some v) : cur.setIfInBounds j v = cur := by
  apply Array.ext_getElem?
  intro i
  rw [Array.getElem?_setIfInBounds]
  by_cases e : j = i
  · subst e
    obtain ⟨hj, hv⟩ := Array.getElem?_eq_some_iff.1 h
    rw [if_pos rfl, if_pos hj, h]
  · rw [if_neg e]

set_option maxHeartbeats 4000000 in
set_option maxRecDepth 20000 in
theorem impl_rising (B : Nat) (v : Value) (xs : List (List UInt8)) (hl : xs.length ≤ 1000) (hx : ∀ x ∈ xs, x.length ≤ 1000000) (w : World) (ho : ownS w B v xs) :
    Calls Try.prog 49 #[v] w fun e w' => ∃ v', e = .returned v' ∧ ownS w' w.heap.size v' (risL xs) ∧ Below w.heap.size w w' := by
  obtain ⟨a, g, cap, rfl, ha, hcell⟩ := ownS_form ho
  clear ho
  by_cases h0 : xs.length = 0
  · have hx0 : xs = [] := List.length_eq_zero_iff.1 h0
    subst hx0
    have HV : Hid (risL [] = []) := by show risL [] = []; simp [risL, Lib.compact, Lib.compactUpTo]
    have HC : Hid (∀ w, Calls Try.prog 60 #[.slice a 0 cap] w fun e w' => ∃ a' c', e = .returned (.slice a' 0 c') ∧ ownS w' w.heap.size (.slice a' 0 c') [] ∧ Below w.heap.size w w') := fun w => by
      cases a with
      | none =>
        refine (Try.slices_Clone_string_nil 0 cap w).mono ?_
        rintro e w' ⟨rfl, rfl⟩
        exact ⟨none, 0, rfl, ownS_nil, Below.refl _ _⟩
      | some ad =>
        refine (Try.slices_Clone_string_zero ad cap w).mono ?_
        rintro e w' ⟨v', rfl, hown, _, hb⟩
        rcases hown.2 with ⟨rfl, _⟩ | ⟨g', cap', cur, rfl, h1, h2, h3, h4, h5, h6⟩
        · exact ⟨none, 0, rfl, ownS_nil, hb⟩
        · exact ⟨_, _, rfl, hown, hb⟩
    have hlen : ([] : List (List UInt8)).length = 0 := rfl
    rw [hlen]
    clear hcell ha hx h0
    go_enter Try.func49, Try.ntmps49
    go_wp2_with fail
    refine (HC.out w).mono ?_
    rintro e w1 ⟨a1, c1, rfl, ho1, b1⟩
    have HO1 : Hid (ownS w1 w.heap.size (.slice a1 0 c1) []) := ho1
    clear ho1
    go_wp2_with fail
    refine (Try.slices_Sort_string_none a1 c1 w1).mono ?_
    rintro e w2 ⟨rfl, rfl⟩
    go_wp2_with fail
    refine (Try.slices_Compact_string_empty a1 c1 w2).mono ?_
    rintro e w3 ⟨rfl, rfl⟩
    go_wp2
    go_loopw [14] (fun iv wr => iv = .int .i64 0 ∧ wr = w3) (fun iv _ => 0)
    case atStart => exact ⟨rfl, rfl⟩
    case round =>
      obtain ⟨rfl, rfl⟩ := hrel
      go_wp2
      go_ret
      exact ⟨_, rfl, by rw [HV.out]; exact HO1.out, b1⟩
  · obtain ⟨rfl, hBg, hgl⟩ := ha (by omega)
    have HC : Hid (Calls Try.prog 60 #[.slice (some ⟨g, 0, none⟩) xs.length cap] w fun e w' => ∃ g' cap' cur, e = .returned (.slice (some ⟨g', 0, none⟩) xs.length cap') ∧ w.heap.size ≤ g' ∧ w'.heap[g']? = some (.cells cur 9 (0, 0)) ∧ xs.length ≤ cap' ∧ cap' ≤ maxLen ∧ cur.size = cap' ∧ cur.toList.take xs.length = xs.map encStr ∧ Below w.heap.size w w') := by
      refine (Try.slices_Clone_string g 0 xs.length cap (xs.map fun x => ⟨x.toArray⟩) w (by simp) (by omega) (fun j hj => ?_)).mono ?_
      · have hj' : j < xs.length := by simpa using hj
        rw [Nat.zero_add, (hcell j hj').1]
        simp [List.getD, hj']
      · rintro e w' ⟨v', rfl, hown, hnn, hb⟩
        have e1 : (((xs.map fun x => (⟨x.toArray⟩ : ByteArray)).take xs.length).map Value.string) = xs.map encStr := by
          rw [List.take_of_length_le (by simp), List.map_map]
          rfl
        rw [e1] at hown
        rcases hown.2 with ⟨h, _⟩ | ⟨g', cap', cur, rfl, h1, h2, h3, h4, h5, h6⟩
        · exact absurd h hnn
        · exact ⟨g', cap', cur, rfl, h1, h2, h3, h4, by omega, by rw [Nat.mul_one] at h6; exact h6, hb⟩
    obtain ⟨ys, hys⟩ : ∃ ys, xs.mergeSort (fun x y => decide (x ≤ y)) = ys := ⟨_, rfl⟩
    have hyl : ys.length = xs.length := by rw [← hys]; simp
    have hym : ∀ x ∈ ys, x.length ≤ 1000000 := fun x h => hx x (by rw [← hys] at h; exact List.mem_mergeSort.1 h)
    obtain ⟨zs, hzs⟩ : ∃ zs, Lib.compact ys = zs := ⟨_, rfl⟩
    have HR : Hid (risL xs = zs) := by show risL xs = zs; rw [risL, hys, hzs]
    have hcm : zs.length ≤ ys.length ∧ ∀ x ∈ zs, x.length ≤ 1000000 := by
      rw [← hzs]
      unfold Lib.compact Lib.compactUpTo
      constructor
      · rw [List.length_map]
        exact Nat.le_trans (List.length_filter_le _ _) (by simp)
      · intro x hx
        rw [List.mem_map] at hx
        obtain ⟨j, hj, rfl⟩ := hx
        have hj' : j < ys.length := by
          have := (List.mem_filter.1 hj).1
          simpa using this
        rw [getElem!_pos _ _ (by simpa using hj')]
        exact hym _ (by simp)
    have HZL : Hid (∀ x ∈ zs, x.length ≤ 1000000) := hcm.2
    have hzl := hcm.1
    have HYS : Hid (xs.mergeSort (fun x y => decide (x ≤ y)) = ys) := hys
    have HZS : Hid (Lib.compact ys = zs) := hzs
    clear hcell ha hx hys hzs hym hcm
    go_enter Try.func49, Try.ntmps49
    go_wp2_with fail
    refine HC.out.mono ?_
    rintro e w1 ⟨G, C, cur, rfl, hG, hb1, hc1, hc2, hcs, htk, bl1⟩
    have hHold : Holds encStr w1 G 0 xs.toArray := holds_of_block hb1 htk
    have hGl : G < w1.heap.size := (Array.getElem?_eq_some_iff.1 hb1).1
    have HSO : Hid (Calls Try.prog 61 #[.slice (some ⟨G, 0, none⟩) xs.length C] w1 fun e w' => e = .returned (.tuple #[]) ∧ ∃ n os, w' = grow (putRow encStr (Sort.ahead w1 n) G 0 (xs.mergeSort fun x y => decide (x ≤ y)).toArray) os) := Try.slices_Sort_string G 0 C xs w1 hHold hGl (by omega)
    have HB1 : Hid (w1.heap[G]? = some (.cells cur 9 (0, 0))) := hb1
    clear hHold hb1 htk HC
    go_wp2_with fail
    refine HSO.out.mono ?_
    rintro e w2 ⟨rfl, n2, os2, hw2⟩
    rw [HYS.out] at hw2
    obtain ⟨cur2, hb2, hcs2, htk2⟩ := sorted_block (n := n2) (os := os2) (ts := ys) HB1.out (by omega)
    have hgr2 : w1.grownBy w2 (some G) := by rw [hw2]; exact grownBy_sorted _
    rw [← hw2] at hb2
    have BL2 : Hid (Below w.heap.size w w2) := bl1.grown hgr2 bl1.size (fun q hq => by cases hq; exact hG)
    have HCO : Hid (Calls Try.prog 62 #[.slice (some ⟨G, 0, none⟩) xs.length C] w2 fun e w' => e = .returned (.slice (some ⟨G, 0, none⟩) zs.length C) ∧ ∃ q, w' = putRow encStr (Sort.ahead w2 q) G 0 (zs ++ List.replicate (ys.length - zs.length) []).toArray) := by
      have h := Try.slices_Compact_string G 0 C ys w2 (holds_of_block hb2 htk2) (by omega) (by omega)
      rw [HZS.out, hyl] at h
      rw [hyl]
      exact h
    have HB2 : Hid (w2.heap[G]? = some (.cells cur2 9 (0, 0))) := hb2
    clear hb2 htk2 hgr2 hw2 HSO HB1 bl1
    go_wp2_with fail
    refine HCO.out.mono ?_
    rintro e w3 ⟨rfl, q3, hw30⟩
    have hw3 : w3 = grow (putRow encStr (Sort.ahead w2 q3) G 0 (zs ++ List.replicate (ys.length - zs.length) []).toArray) #[] := by rw [grow_empty]; exact hw30
    obtain ⟨cur3, hb3, hcs3, htk3⟩ := sorted_block (n := q3) (os := #[]) (ts := zs ++ List.replicate (ys.length - zs.length) []) HB2.out (by simp; omega)
    have hgr3 : w2.grownBy w3 (some G) := by rw [hw3]; exact grownBy_sorted _
    rw [← hw3] at hb3
    have BL3 : Hid (Below w.heap.size w w3) := BL2.out.grown hgr3 BL2.out.size (fun q hq => by cases hq; exact hG)
    have htk4 : cur3.toList.take zs.length = zs.map encStr := by
      have h := congrArg (List.take zs.length) htk3
      rw [List.take_take, List.map_append, List.take_append_of_le_length (by simp), List.take_of_length_le (l := zs.map encStr) (by simp)] at h
      rw [← h]
      congr 1
      simp
    have HTK : Hid (cur3.toList.take zs.length = zs.map encStr) := htk4
    have HB3 : Hid (w3.heap[G]? = some (.cells cur3 9 (0, 0))) := hb3
    have hcap3 : cur3.size = C := by omega
    clear hb3 htk3 htk4 hgr3 hw3 hw30 HCO HB2 BL2
    go_wp2
    go_loopw [14] (fun iv wr => ∃ k : Nat, k ≤ zs.length ∧ iv = .int .i64 k ∧ Hid (wr.heap[G]? = some (.cells cur3 9 (0, 0))) ∧ Below w.heap.size w wr) (fun iv _ => zs.length - (intOf iv).toNat)
    case atStart => exact ⟨0, by omega, rfl, HB3, BL3.out⟩
    case round =>
      obtain ⟨k, hk, rfl, HBk, hb⟩ := hrel
      have hs := hb.size
      by_cases hin : k < zs.length
      · have hin' : (k : Int) < zs.length := by omega
        obtain ⟨ck, fk, uk⟩ := cell_take HBk.out HTK.out k hin
        have hsz : (⟨(zs.getD k []).toArray⟩ : ByteArray).size ≤ 281474976710656 := by
          have := HZL.out (zs.getD k []) (by simp [List.getD, hin])
          show (zs.getD k []).toArray.size ≤ _
          rw [List.size_toArray]
          omega
        generalize (⟨(zs.getD k []).toArray⟩ : ByteArray) = X at *
        have HUK : Hid (cur3[k]? = some (.string X)) := uk
        have HSZ : Hid (X.size ≤ 281474976710656) := hsz
        clear uk hsz
        go_wp2_with fail
        refine (lib_clone X HSZ.out wr).mono ?_
        rintro e w4 ⟨rfl, b4⟩
        have hGr : G < wr.heap.size := (Array.getElem?_eq_some_iff.1 HBk.out).1
        have r4 : w4.heap[G]? = some (.cells cur3 9 (0, 0)) := (b4.block G hGr).trans HBk.out
        obtain ⟨ck4, fk4, _⟩ := cell_take r4 HTK.out k hin
        have B4 : Hid (Below w.heap.size w (w4.setCell ⟨G, k, none⟩ (.string X))) := (hb.trans (b4.mono hs)).setCell (p := ⟨G, k, none⟩) hG _
        have R5 : Hid ((w4.setCell ⟨G, k, none⟩ (.string X)).heap[G]? = some (.cells cur3 9 (0, 0))) := by
          show _ = _
          rw [heap_setCell_same w4 G k cur3 9 (.string X) r4, set_same HUK.out]
        clear ck fk b4 r4 HBk hb
        go_wp2
        go_roundw
        case rel => exact ⟨k + 1, by omega, by go_num, R5, B4.out⟩
        case measure => simp [intOf]; omega
      · have HE : Hid (ownS wr w.heap.size (.slice (some ⟨G, 0, none⟩) zs.length C) (risL xs)) := by
          show ownS wr w.heap.size _ _
          rw [HR.out]
          exact ⟨by simp, Or.inr ⟨G, C, cur3, rfl, hG, HBk.out, by omega, hc2, by omega, by rw [Nat.mul_one]; exact HTK.out⟩⟩
        clear HBk
        go_wp2
        go_ret
        exact ⟨_, rfl, HE.out, hb⟩
end Go.Proofs.Ytcpafjpjfinbkaa
