/-
  Nodes as they landed: the kids that stand ahead of a node. Conditions: written at each theorem.
-/
import Derived.Test.YtjjanmccijghgaaTa
import Derived.Test.YtjjanmccijghgaaNt
import Derived.Test.YtjjanmccijghgaaBu
import Derived.Deep.LoopGhost
namespace Go.Proofs.Ytjjanmccijghgaa
open Go.ChangeShapes Go.WideShapes Go.ChangeAt Go.RowKit
set_option linter.unusedVariables false

/-- The trees of the first nodes, and where their parts begin. -/
structure TreesB (st : List Int) (vs : List Value) (i : Nat) : Prop where
  ls : st.length = i
  lv : vs.length = i
  b : ∀ j, j < i → Begins (vs.getD j .nilIface) (st.getD j 0)
  r : ∀ j, j < i → 0 ≤ st.getD j 0 ∧ st.getD j 0 ≤ j

/-- The trees of kids. -/
def kidV (vs : List Value) (ks : List Int) : List Value := ks.map fun c => vs.getD c.toNat .nilIface

/-- What a call of kidsAhead ends with. -/
def KEnd (st : List Int) (vs : List Value) (ks : List Int) (i B : Nat) (e : Ending) (w : World) : Prop :=
  (∃ (r : Int) (K : Nat), down st ks.reverse i = some r ∧ e = .returned (.tuple #[.slice (some ⟨K, 0, none⟩) ks.length ks.length, .bool true]) ∧ B ≤ K ∧ TreeAt w K (kidV vs ks) ∧
    (∀ j, j < ks.length → 0 ≤ ks.getD j 0 ∧ ks.getD j 0 < i) ∧ (0 < ks.length → r = st.getD (ks.getD 0 0).toNat 0) ∧ (ks.length = 0 → r = i)) ∨
  (down st ks.reverse i = none ∧ e = .returned (.tuple #[.slice none 0 0, .bool false]))

/-- The state of its loop. -/
def KAt (w W2 : World) (st : List Int) (vs : List Value) (ks : List Int) (i K : Nat) (gg : Nat) (due k : Value) (wx : World) : Prop :=
  ∃ (m : Nat) (P : Int) (C : List Value), m ≤ ks.length ∧ gg = m + 1 ∧ k = .int .i64 ((m : Int) - 1) ∧ due = .int .i64 (P - 1) ∧ 0 ≤ P ∧ P ≤ i ∧ down st (ks.take m).reverse P = down st ks.reverse i ∧
    wx.heap[K]? = some (.cells C.toArray 47 (0, 0)) ∧ C.length = ks.length ∧
    (∀ j, m ≤ j → j < ks.length → C.getD j .nilIface = vs.getD (ks.getD j 0).toNat .nilIface ∧ 0 ≤ ks.getD j 0 ∧ ks.getD j 0 < i) ∧
    (m < ks.length → P = st.getD (ks.getD m 0).toNat 0) ∧ (m = ks.length → P = i) ∧ But K W2 wx ∧ Below w.heap.size w wx

theorem info_tree : (Try.prog.info? 47).map (fun i => (i.zero, i.size, i.bytes)) = some (some .nilIface, 1, 16) := by kernel_rfl

theorem tree_of_row {w : World} {g : Nat} {C : List Value} {t : TypeId} {z : Nat × Nat} (h : w.heap[g]? = some (.cells C.toArray t z)) : TreeAt w g C := by
  intro i hi
  rw [cell_of_row _ _ _ _ _ _ h]
  simp [List.getD, hi]

theorem getD_set_same {C : List Value} {q : Nat} {v : Value} (h : q < C.length) : (C.set q v).getD q .nilIface = v := by simp [List.getD, h]
theorem getD_set_other {C : List Value} {q j : Nat} {v : Value} (h : j ≠ q) : (C.set q v).getD j .nilIface = C.getD j .nilIface := by
  simp only [List.getD]
  rw [List.getElem?_set_ne (fun e => h e.symm)]

set_option maxHeartbeats 4000000 in
set_option maxRecDepth 20000 in
theorem impl_ahead (a : Option Addr) (g cap i : Nat) (st : List Int) (vs : List Value) (t : Nod) (hT : TreesB st vs i) (hi : i ≤ 150) (hne : 0 < i → a = some ⟨g, 0, none⟩) (w : World) (hA : TreeAt w g vs) :
    Calls Try.prog 22 #[.slice a i cap, .agg (nodCells t).toArray] w fun e w' => KEnd st vs (kidL t) i w.heap.size e w' ∧ Below w.heap.size w w' := by
  have HT : Hid (TreesB st vs i) := hT
  have HA : Hid (TreeAt w g vs) := hA
  have HG : Hid (0 < i → g < w.heap.size) := fun h => hA.lt (by rw [hT.lv]; exact h)
  clear hT hA
  obtain ⟨x0, x1, x2, x3, x4, x5, x6⟩ := t
  obtain ⟨ks, hks⟩ : ∃ ks, kidL ⟨x0, x1, x2, x3, x4, x5, x6⟩ = ks := ⟨_, rfl⟩
  have HKS : Hid (kidL ⟨x0, x1, x2, x3, x4, x5, x6⟩ = ks) := hks
  have hkl : ks.length = arN x0 := by rw [← hks]; exact kidL_length _
  show Calls Try.prog 22 #[.slice a i cap, .agg #[.int .i64 x0, .int .i64 x1, .int .i64 x2, .int .i64 x3, .int .i64 x4, .string x5, .string x6]] w fun e w' => KEnd st vs (kidL ⟨x0, x1, x2, x3, x4, x5, x6⟩) i w.heap.size e w' ∧ Below w.heap.size w w'
  rw [hks]
  clear hks
  have har := arN_le x0
  have HB0 : Hid (Below w.heap.size w (w.alloc (.cells #[.int .i64 x0, .int .i64 x1, .int .i64 x2, .int .i64 x3, .int .i64 x4, .string x5, .string x6] 34))) := (Below.refl _ w).alloc (Nat.le_refl _) _
  obtain ⟨i0, hi0, hz0, hz1, hz2⟩ := info_parts info_tree
  obtain ⟨M, hM⟩ : ∃ M : List Value, M.toArray = madeCells (Value.nilIface).cells (((ks.length : Nat) : Int).toNat * i0.size) := ⟨(madeCells (Value.nilIface).cells (((ks.length : Nat) : Int).toNat * i0.size)).toList, by simp⟩
  have HML : Hid (M.length = ks.length) := by
    show M.length = ks.length
    have h := congrArg Array.size hM
    rw [size_madeCells, hz1] at h
    simpa using h
  have hmk : ∀ W : World, (Instr.makeSlice 40 (.int .i64 (ks.length : Int)) (.int .i64 (ks.length : Int))).run Try.prog W = .ok (.slice (some ⟨W.heap.size, 0, none⟩) ks.length ks.length) (W.alloc (.cells M.toArray 47)) := fun W => by
    have h := run_make (P := Try.prog) W 40 47 i0 .nilIface Try.underlying40 hi0 hz0 .i64 .i64 (ks.length : Int) (ks.length : Int) (by omega) (by omega) (by rw [hz2]; omega) (by omega)
    rw [← hM] at h
    simpa using h
  clear hM hi0 hz0 hz1 hz2
  have HKL : Hid (ks.length = arN x0) := hkl
  rw [← hkl] at har
  clear hkl
  have har3 : (ks.length : Int) ≤ 3 := by omega
  go_enter Try.func22, Try.ntmps22
  go_wp2_with fail
  refine (impl_kids x0 x1 x2 x3 x4 x5 x6 _).mono ?_
  rintro e w1 ⟨rfl, hk1, hb1⟩
  have hs1 := hb1.size
  simp only [World.size_alloc] at hk1 hs1
  have HB1 : Hid (Below w.heap.size w w1) := HB0.out.trans (hb1.mono (by simp))
  have HL1 : Hid (w.heap.size + 1 + 3 < w1.heap.size) := (Array.getElem?_eq_some_iff.1 hk1).1
  have HKC : Hid (∀ j, j < ks.length → w1.cell? ⟨w.heap.size + 1 + 3, j, none⟩ = some (.int .i64 (ks.getD j 0))) := fun j hj => by
    have h := kid_cell (t := ⟨x0, x1, x2, x3, x4, x5, x6⟩) hk1 j (by rw [HKS.out]; exact hj)
    rw [HKS.out] at h
    exact h
  rw [← HKL.out]
  clear hb1 hk1 HB0
  go_wp2
  obtain ⟨W2, hW2⟩ : ∃ W2, w1.alloc (.cells M.toArray 47) = W2 := ⟨_, rfl⟩
  have HB2 : Hid (Below w.heap.size w W2) := by rw [← hW2]; exact HB1.out.alloc (by omega) _
  have HR2 : Hid (W2.heap[w1.heap.size]? = some (.cells M.toArray 47 (0, 0))) := by rw [← hW2]; exact (MapKept.heap_alloc w1 _).1
  have HS2 : Hid (W2.heap.size = w1.heap.size + 1) := by
    show W2.heap.size = w1.heap.size + 1
    rw [← hW2]; simp
  have HKC2 : Hid (∀ j, j < ks.length → W2.cell? ⟨w.heap.size + 1 + 3, j, none⟩ = some (.int .i64 (ks.getD j 0))) := fun j hj => by
    rw [← hW2, ← HKC.out j hj]
    exact ((Below.refl w1.heap.size w1).alloc (Nat.le_refl _) _).cell (p := ⟨w.heap.size + 1 + 3, j, none⟩) HL1.out
  rw [hW2]
  clear hW2 HKC HB1 hmk
  go_loopg [8, 9] (ks.length + 1) (fun gg due k wx => KAt w W2 st vs ks i w1.heap.size gg due k wx)
  case atStart => exact ⟨ks.length, i, M, Nat.le_refl _, rfl, rfl, rfl, by omega, by omega, by rw [List.take_length], HR2.out, HML.out, fun j h1 h2 => by omega, fun h => by omega, fun _ => rfl, But.refl _ _, HB2.out⟩
  case round =>
    obtain ⟨m, P, C, hm, rfl, rfl, rfl, hP0, hP1, hd, hC, hCl, hCv, hPm, hPi, hbut, hbel⟩ := hrel
    have HD : Hid (down st (ks.take m).reverse P = down st ks.reverse i) := hd
    have HC : Hid (wr.heap[w1.heap.size]? = some (.cells C.toArray 47 (0, 0))) := hC
    have HCV : Hid (∀ j, m ≤ j → j < ks.length → C.getD j .nilIface = vs.getD (ks.getD j 0).toNat .nilIface ∧ 0 ≤ ks.getD j 0 ∧ ks.getD j 0 < i) := hCv
    have HPM : Hid (m < ks.length → P = st.getD (ks.getD m 0).toNat 0) := hPm
    have HPI : Hid (m = ks.length → P = i) := hPi
    have HCL : Hid (C.length = ks.length) := hCl
    have HU : Hid (But w1.heap.size W2 wr) := hbut
    clear hd hC hCv hPm hPi hCl hbut
    by_cases hm0 : m = 0
    · subst hm0
      have HE : Hid (KEnd st vs ks i w.heap.size (.returned (.tuple #[.slice (some ⟨w1.heap.size, 0, none⟩) ks.length ks.length, .bool true])) wr) := by
        refine Or.inl ⟨P, w1.heap.size, ?_, rfl, by omega, ?_, fun j hj => (HCV.out j (by omega) hj).2, fun h => HPM.out h, fun h => HPI.out h.symm⟩
        · rw [← HD.out]; rfl
        · have hrow := tree_of_row HC.out
          intro j hj
          have hj' : j < ks.length := by simpa [kidV] using hj
          rw [hrow j (by rw [HCL.out]; exact hj'), (HCV.out j (by omega) hj').1]
          simp [kidV, List.getD, hj']
      clear HD HC HCV HPM HPI HCL HU
      go_wp2
      go_ret2
      exact ⟨HE.out, hbel⟩
    · obtain ⟨q, rfl⟩ : ∃ q, m = q + 1 := ⟨m - 1, by omega⟩
      have hq0 : (q : Int) < ks.length := by omega
      have eq1 : ((q + 1 : Nat) : Int) - 1 = q := by omega
      rw [eq1]
      have hc : wr.cell? ⟨w.heap.size + 1 + 3, q, none⟩ = some (.int .i64 (ks.getD q 0)) := by
        rw [← HKC2.out q (by omega)]
        exact World.cell?_of_block (HU.out.2 (w.heap.size + 1 + 3) (by have := HS2.out; have := HL1.out; omega) (by have := HL1.out; omega))
      have HDD : Hid (down st ((ks.take (q + 1)).reverse) P = if ks.getD q 0 = P - 1 ∧ 0 ≤ ks.getD q 0 then down st (ks.take q).reverse (st.getD (ks.getD q 0).toNat 0) else none) := by
        show down st ((ks.take (q + 1)).reverse) P = _
        have hql : q < ks.length := by omega
        rw [List.take_succ_eq_append_getElem hql, List.reverse_append]
        simp [List.getD, List.getElem?_eq_getElem hql, down]
      have HCQ : Hid (ks.getD q 0 = ks.getD q 0) := rfl
      obtain ⟨c, hcc⟩ : ∃ c, ks.getD q 0 = c := ⟨_, rfl⟩
      have HCC : Hid (ks.getD q 0 = c) := hcc
      rw [hcc] at hc HDD
      clear hcc HCQ
      by_cases hcp : c = P - 1 ∧ 0 ≤ c
      · obtain ⟨hc1, hc0⟩ := hcp
        obtain ⟨cn, rfl⟩ := Int.eq_ofNat_of_zero_le hc0
        obtain rfl : P = (cn : Int) + 1 := by omega
        have hcn : cn < i := by omega
        have hcn' : (cn : Int) < i := by omega
        obtain rfl := hne (by omega)
        have hlt := HG.out (by omega)
        obtain ⟨T, u, t0, hv, hn, hmt⟩ := HT.out.b cn hcn
        have hcell : wr.cell? ⟨g, cn, none⟩ = some (.iface T u) := by
          rw [← hv]
          exact (HA.out.below hbel (fun _ => hlt)) cn (by rw [HT.out.lv]; exact hcn)
        have HV : Hid (vs.getD cn .nilIface = .iface T u) := hv
        have hrg := HT.out.r cn hcn
        have HDN : Hid (down st (ks.take q).reverse (st.getD cn 0) = down st ks.reverse i) := by
          show down st (ks.take q).reverse (st.getD cn 0) = _
          rw [← HD.out, HDD.out, if_pos ⟨hc1, hc0⟩]
          rfl
        have e5 : (cn : Int) + 1 - 1 = cn := by omega
        rw [e5]
        have f0 : wr.frozen? ⟨w1.heap.size, q, none⟩ = false := frozen_of_row wr _ _ _ _ HC.out
        have k0 : wr.cell? ⟨w1.heap.size, q, none⟩ = some (C.getD q .nilIface) := tree_of_row HC.out q (by rw [HCL.out]; omega)
        have HST : Hid (st.getD cn 0 = st.getD cn 0) := rfl
        obtain ⟨R, hR⟩ : ∃ R, (spotL t0 (st.getD cn 0)).toArray = R := ⟨_, rfl⟩
        have hI := impl_begin t0 (st.getD cn 0)
        rw [hR] at hmt hI
        obtain ⟨P2, hP2⟩ : ∃ P2, st.getD cn 0 = P2 := ⟨_, rfl⟩
        have HP2 : Hid (st.getD cn 0 = P2) := hP2
        rw [hP2] at hI hrg HDN
        have HI : Hid (∀ w : World, Calls Try.prog 57 #[.agg R] w fun e w' => e = .returned (.int .i64 P2) ∧ w' = w.alloc (.cells R 56)) := hI
        obtain ⟨z, hz⟩ : ∃ z, C.getD q .nilIface = z := ⟨_, rfl⟩
        rw [hz] at k0
        clear hR hI HST hP2 hz hv HDD HD hc1 e5 eq1
        have hne1 : ¬ g = w1.heap.size := by have := HL1.out; omega
        have hne2 : ¬ w1.heap.size = g := by have := HL1.out; omega
        have HW : Hid (KAt w W2 st vs ks i w1.heap.size (q + 1) (.int .i64 (P2 - 1)) (.int .i64 ((q : Int) - 1)) ((wr.setCell ⟨w1.heap.size, q, none⟩ (.iface T u)).alloc (.cells R 56))) := by
          have hb1 : Below w.heap.size w (wr.setCell ⟨w1.heap.size, q, none⟩ (.iface T u)) := hbel.setCell (p := ⟨w1.heap.size, q, none⟩) (by show w.heap.size ≤ w1.heap.size; omega) _
          have hrow := heap_setCell_same wr w1.heap.size q _ _ (.iface T u) HC.out
          rw [List.setIfInBounds_toArray] at hrow
          have hlk : w1.heap.size < (wr.setCell ⟨w1.heap.size, q, none⟩ (.iface T u)).heap.size := (Array.getElem?_eq_some_iff.1 hrow).1
          have hal := (Below.refl (wr.setCell ⟨w1.heap.size, q, none⟩ (.iface T u)).heap.size (wr.setCell ⟨w1.heap.size, q, none⟩ (.iface T u))).alloc (Nat.le_refl _) (.cells R 56)
          refine ⟨q, P2, C.set q (.iface T u), by omega, rfl, rfl, rfl, by omega, by omega, HDN.out, ?_, by rw [List.length_set]; exact HCL.out, ?_, ?_, fun h => by omega, (HU.out.setCell q _).call hal, hb1.alloc (by have := hb1.size; omega) _⟩
          · rw [hal.block _ hlk]; exact hrow
          · intro j hj hjl
            by_cases hjq : j = q
            · subst hjq
              rw [getD_set_same (by rw [HCL.out]; exact hjl), HCC.out]
              exact ⟨HV.out.symm, by omega, by omega⟩
            · rw [getD_set_other hjq]
              exact HCV.out j (by omega) hjl
          · intro _
            rw [HCC.out, ← HP2.out]
            rfl
        have hg1 : -9223372036854775808 ≤ P2 - 1 := by omega
        have hg2 : P2 ≤ 150 := by omega
        clear HC HCV HPM HPI HCL HU HDN HV HP2 HCC
        go_wp2_with fail
        refine (HI.out _).mono ?_
        rintro e w3 ⟨rfl, rfl⟩
        go_wp2
        go_roundg (q + 1)
        case rel => exact HW.out
        case measure => omega
      · have HZ : Hid (KEnd st vs ks i w.heap.size (.returned (.tuple #[.slice none 0 0, .bool false])) wr) := by
          refine Or.inr ⟨?_, rfl⟩
          rw [← HD.out, HDD.out, if_neg hcp]
        clear HD HDD HCC HC HCV HPM HPI HCL HU
        by_cases hP : P = 0
        · subst hP
          have d0 : decide ((0 : Int) - 1 < 0) = true := by decide
          clear hcp eq1
          go_wp2
          go_ret2
          exact ⟨HZ.out, hbel⟩
        · have hP' : ¬ P - 1 < 0 := by omega
          have nq : (c != P - 1) = true := by
            rw [bne_iff_ne]
            intro h
            exact hcp ⟨h, by omega⟩
          clear hcp eq1
          go_wp2
          go_ret2
          exact ⟨HZ.out, hbel⟩
end Go.Proofs.Ytjjanmccijghgaa
