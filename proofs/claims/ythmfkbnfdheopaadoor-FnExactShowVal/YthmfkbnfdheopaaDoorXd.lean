/-
  Values: their texts, so deep; those of the specification. Conditions: written at each theorem.
-/
import Derived.Test.YthmfkbnfdheopaaDoorX4
import Derived.Test.YthmfkbnfdheopaaDoorDs
import Derived.Lib.ItoaLen
import Derived.Lib.QuietBelow
namespace Go.Proofs.YthmfkbnfdheopaaDoor
open Go.ChangeShapes Go.WideShapes Go.ChangeAt Go.RowKit Go.Sort
set_option linter.unusedVariables false

/-- What stands ahead of the two parts. -/
def headL (k : Int) : List UInt8 := if k = 3 then [40, 112, 97, 105, 114, 32] else [40, 99, 111, 110, 115, 32]

/-- The text of a value in a heap, so deep. -/
def shwL (h : Hq) : Nat → Int → Int → List UInt8
  | 0, k, n => if k = 0 then Lib.itoa n else if k = 1 then [102, 117, 110] else if k = 2 then [110, 105, 108] else if k = 5 then [114, 101, 102] else [95]
  | d + 1, k, n => if k = 0 then Lib.itoa n else if k = 1 then [102, 117, 110] else if k = 2 then [110, 105, 108] else if k = 5 then [114, 101, 102]
    else headL k ++ shwL h d (h.twos.getD n.toNat noTw).ak (h.twos.getD n.toNat noTw).an ++ [32] ++ shwL h d (h.twos.getD n.toNat noTw).bk (h.twos.getD n.toNat noTw).bn ++ [41]

theorem shw_0 (h : Hq) (d : Nat) (n : Int) : shwL h d 0 n = Lib.itoa n := by cases d <;> rfl
theorem shw_1 (h : Hq) (d : Nat) (n : Int) : shwL h d 1 n = [102, 117, 110] := by cases d <;> rfl
theorem shw_2 (h : Hq) (d : Nat) (n : Int) : shwL h d 2 n = [110, 105, 108] := by cases d <;> rfl
theorem shw_5 (h : Hq) (d : Nat) (n : Int) : shwL h d 5 n = [114, 101, 102] := by cases d <;> rfl
theorem shw_last (h : Hq) {k : Int} (hk : k = 3 ∨ k = 4) (n : Int) : shwL h 0 k n = [95] := by rcases hk with rfl | rfl <;> rfl
theorem shw_two (h : Hq) (d : Nat) {k : Int} (hk : k = 3 ∨ k = 4) (n : Int) : shwL h (d + 1) k n = headL k ++ shwL h d (h.twos.getD n.toNat noTw).ak (h.twos.getD n.toNat noTw).an ++ [32] ++ shwL h d (h.twos.getD n.toNat noTw).bk (h.twos.getD n.toNat noTw).bn ++ [41] := by rcases hk with rfl | rfl <;> rfl

theorem two_in {h : Hq} {k n : Int} (hk : k = 3 ∨ k = 4) (hv : valB h.clos.length h.twos.length h.refs.length k n = true) : 0 ≤ n ∧ n < h.twos.length := by
  rcases hk with rfl | rfl <;> simpa [valB] using hv

theorem num_in {h : Hq} {n : Int} (hv : valB h.clos.length h.twos.length h.refs.length 0 n = true) : 0 ≤ n ∧ n ≤ 65535 := by simpa [valB] using hv

theorem kind_of {h : Hq} {k n : Int} (hv : valB h.clos.length h.twos.length h.refs.length k n = true) : k = 0 ∨ k = 1 ∨ k = 2 ∨ k = 3 ∨ k = 4 ∨ k = 5 := by
  by_cases h0 : k = 0
  · exact .inl h0
  by_cases h1 : k = 1
  · exact .inr (.inl h1)
  by_cases h2 : k = 2
  · exact .inr (.inr (.inl h2))
  by_cases h3 : k = 3
  · exact .inr (.inr (.inr (.inl h3)))
  by_cases h4 : k = 4
  · exact .inr (.inr (.inr (.inr (.inl h4))))
  by_cases h5 : k = 5
  · exact .inr (.inr (.inr (.inr (.inr h5))))
  simp [valB, h0, h1, h2, h3, h4, h5] at hv

theorem shw_len {h : Hq} (hr : HeapR h) : ∀ (d : Nat) (k n : Int), valB h.clos.length h.twos.length h.refs.length k n = true → (shwL h d k n).length + 8 ≤ 36 * 2 ^ d
  | d, k, n, hv => by
    have hp : 1 ≤ 2 ^ d := Nat.one_le_two_pow
    rcases kind_of hv with rfl | rfl | rfl | hk | hk | rfl
    · rw [shw_0]
      have hn := num_in hv
      have := Lib.itoa_length_le n (by omega) (by omega)
      omega
    · rw [shw_1]; simp; omega
    · rw [shw_2]; simp; omega
    · cases d with
      | zero => rw [shw_last h (.inl hk)]; simp
      | succ d =>
        have hn := two_in (.inl hk) hv
        have ht := hr.two n.toNat (by omega)
        have h1 := shw_len hr d _ _ ht.1
        have h2 := shw_len hr d _ _ ht.2
        have h3 : (headL k).length = 6 := by unfold headL; split <;> rfl
        rw [shw_two h d (.inl hk)]
        simp only [List.length_append, h3, List.length_cons, List.length_nil, Nat.pow_succ]
        omega
    · cases d with
      | zero => rw [shw_last h (.inr hk)]; simp
      | succ d =>
        have hn := two_in (.inr hk) hv
        have ht := hr.two n.toNat (by omega)
        have h1 := shw_len hr d _ _ ht.1
        have h2 := shw_len hr d _ _ ht.2
        have h3 : (headL k).length = 6 := by unfold headL; split <;> rfl
        rw [shw_two h d (.inr hk)]
        simp only [List.length_append, h3, List.length_cons, List.length_nil, Nat.pow_succ]
        omega
    · rw [shw_5]; simp; omega

theorem shw_max {h : Hq} (hr : HeapR h) {d : Nat} (hd : d ≤ 8) {k n : Int} (hv : valB h.clos.length h.twos.length h.refs.length k n = true) : (shwL h d k n).length ≤ 10000 := by
  have h1 := shw_len hr d k n hv
  have h2 : 2 ^ d ≤ 2 ^ 8 := Nat.pow_le_pow_right (by omega) hd
  omega

theorem joinL (a b : List UInt8) : (⟨a.toArray⟩ : ByteArray) ++ ⟨b.toArray⟩ = ⟨(a ++ b).toArray⟩ := by
  apply ByteArray.ext
  rw [ByteArray.data_append]
  simp

theorem sizeL (a : List UInt8) : (⟨a.toArray⟩ : ByteArray).size = a.length := by simp [ByteArray.size]

theorem join5 (k : Int) (A B : List UInt8) (P : ByteArray) (hP : P = ⟨(headL k).toArray⟩) : P ++ ⟨A.toArray⟩ ++ ⟨#[32]⟩ ++ ⟨B.toArray⟩ ++ ⟨#[41]⟩ = ⟨(headL k ++ A ++ [32] ++ B ++ [41]).toArray⟩ := by
  rw [hP, show (⟨#[32]⟩ : ByteArray) = ⟨[(32 : UInt8)].toArray⟩ from rfl, show (⟨#[41]⟩ : ByteArray) = ⟨[(41 : UInt8)].toArray⟩ from rfl, joinL, joinL, joinL, joinL]

/-- What the specification's text of a value is to be, so deep. -/
def ShowC (d : Nat) : Prop := ∀ (a0 a1 a2 a3 : Option Addr) (g0 g1 g2 g3 c0 c1 c2 c3 : Nat) (h : Hq), HeapR h → ∀ (k n : Int), d ≤ 8 → valB h.clos.length h.twos.length h.refs.length k n = true → ∀ w : World, HpAt w a0 a1 a2 a3 g0 g1 g2 g3 h →
    Calls Tryd.prog 38 #[.agg #[.slice a0 h.envs.length c0, .slice a1 h.clos.length c1, .slice a2 h.twos.length c2, .slice a3 h.refs.length c3], .agg #[.int .i64 k, .int .i64 n], .int .i64 (d : Int)] w fun e w' => e = .returned (.string ⟨(shwL h d k n).toArray⟩) ∧ Below w.heap.size w w'

set_option maxHeartbeats 2000000 in
set_option maxRecDepth 20000 in
theorem show_step (d : Nat) (ih : ∀ e, e < d → ShowC e) : ShowC d := by
  intro a0 a1 a2 a3 g0 g1 g2 g3 c0 c1 c2 c3 h hr k n hd hv w hA
  have HA : Hid (HpAt w a0 a1 a2 a3 g0 g1 g2 g3 h) := hA
  have HR : Hid (HeapR h) := hr
  have HV : Hid (valB h.clos.length h.twos.length h.refs.length k n = true) := hv
  have l2 : h.twos.length ≤ 1048576 := hA.l2
  obtain ⟨wb, hwb⟩ : ∃ wb, (w.alloc (.cells #[.slice a0 h.envs.length c0, .slice a1 h.clos.length c1, .slice a2 h.twos.length c2, .slice a3 h.refs.length c3] 29)).alloc (.cells #[.int .i64 k, .int .i64 n] 35) = wb := ⟨_, rfl⟩
  have HWB : Hid ((w.alloc (.cells #[.slice a0 h.envs.length c0, .slice a1 h.clos.length c1, .slice a2 h.twos.length c2, .slice a3 h.refs.length c3] 29)).alloc (.cells #[.int .i64 k, .int .i64 n] 35) = wb) := hwb
  have BB : Hid (Below w.heap.size w wb) := by show Below w.heap.size w wb; rw [← hwb]; exact ((Below.refl _ w).alloc (Nat.le_refl _) _).alloc (by simp) _
  have HSB : Hid (wb.heap.size = w.heap.size + 2) := by show wb.heap.size = _; rw [← hwb]; simp
  have RH : Hid (wb.heap[w.heap.size]? = some (.cells #[.slice a0 h.envs.length c0, .slice a1 h.clos.length c1, .slice a2 h.twos.length c2, .slice a3 h.refs.length c3] 29 (0, 0))) := by
    show wb.heap[w.heap.size]? = _
    rw [← hwb, Below.heap_alloc _ _ _ (by simp)]
    exact (MapKept.heap_alloc w _).1
  have RV : Hid (wb.heap[w.heap.size + 1]? = some (.cells #[.int .i64 k, .int .i64 n] 35 (0, 0))) := by
    show wb.heap[w.heap.size + 1]? = _
    rw [← hwb]
    have := (MapKept.heap_alloc (w.alloc (.cells #[.slice a0 h.envs.length c0, .slice a1 h.clos.length c1, .slice a2 h.twos.length c2, .slice a3 h.refs.length c3] 29)) (.cells #[.int .i64 k, .int .i64 n] 35)).1
    simpa using this
  have HXB : Hid (∀ W : World, Below wb.heap.size wb W → W.cell? ⟨w.heap.size, 0, none⟩ = some (.slice a0 h.envs.length c0) ∧ W.cell? ⟨w.heap.size, 1, none⟩ = some (.slice a1 h.clos.length c1) ∧ W.cell? ⟨w.heap.size, 2, none⟩ = some (.slice a2 h.twos.length c2) ∧ W.cell? ⟨w.heap.size, 3, none⟩ = some (.slice a3 h.refs.length c3) ∧ W.cell? ⟨w.heap.size + 1, 0, none⟩ = some (.int .i64 k) ∧ W.cell? ⟨w.heap.size + 1, 1, none⟩ = some (.int .i64 n)) := fun W hh =>
    have e1 := (hh.block w.heap.size (by have := HSB.out; omega)).trans RH.out
    have e2 := (hh.block (w.heap.size + 1) (by have := HSB.out; omega)).trans RV.out
    ⟨(cell_of_row _ _ _ _ _ _ e1).trans rfl, (cell_of_row _ _ _ _ _ _ e1).trans rfl, (cell_of_row _ _ _ _ _ _ e1).trans rfl, (cell_of_row _ _ _ _ _ _ e1).trans rfl, (cell_of_row _ _ _ _ _ _ e2).trans rfl, (cell_of_row _ _ _ _ _ _ e2).trans rfl⟩
  have HB : Hid (HpAt wb a0 a1 a2 a3 g0 g1 g2 g3 h) := HA.out.below BB.out (Nat.le_refl _)
  have HS := HSB.out
  clear hwb RH RV
  have hk := kind_of hv
  have hnum := fun e : k = 0 => num_in (h := h) (n := n) (by rw [← e]; exact hv)
  have htwo := fun e : k = 3 ∨ k = 4 => two_in e hv
  clear hA hv hr
  obtain ⟨z0, z1, z2, z3, y0, y1⟩ := HXB.out wb (Below.refl _ _)
  rcases hk with rfl | rfl | rfl | hk | hk | rfl
  · obtain ⟨n0, n1⟩ := hnum rfl
    rw [shw_0]
    clear hnum htwo
    go_enter Tryd.func38, Tryd.ntmps38
    go_wp2_with fail
    rw [HWB.out]
    refine (spec_dec n (by omega) (by omega) wb).mono ?_
    rintro e w1 ⟨rfl, b1⟩
    clear HWB
    go_wp2
    go_ret
    exact ⟨rfl, BB.out.trans (b1.mono (by omega))⟩
  · rw [shw_1]
    clear hnum htwo
    go_enter Tryd.func38, Tryd.ntmps38
    go_wp2
    rw [HWB.out]
    go_ret
    exact ⟨rfl, BB.out⟩
  · rw [shw_2]
    clear hnum htwo
    go_enter Tryd.func38, Tryd.ntmps38
    go_wp2
    rw [HWB.out]
    go_ret
    exact ⟨rfl, BB.out⟩
  · subst hk
    obtain ⟨n0, n1⟩ := htwo (.inl rfl)
    clear hnum htwo
    rcases d with _ | d'
    · rw [shw_last h (.inl rfl)]
      go_enter Tryd.func38, Tryd.ntmps38
      go_wp2
      rw [HWB.out]
      go_ret
      exact ⟨rfl, BB.out⟩
    · obtain ⟨i, rfl⟩ : ∃ i : Nat, n = (i : Int) := ⟨n.toNat, by omega⟩
      have hi : i < h.twos.length := by omega
      have e1 : (i : Int) < h.twos.length := by omega
      have ht := HR.out.two i hi
      have hs := shw_two h d' (.inl rfl) (i : Int)
      rw [Int.toNat_natCast] at hs
      obtain rfl := HA.out.e2 (by omega)
      have t := HB.out.r2 i hi
      have HBX : Hid (∀ W : World, Below wb.heap.size wb W → TwAt W g2 h.twos) := fun W hh => HB.out.r2.below hh (fun q => HB.out.r2.lt q)
      unfold TwoR at ht
      obtain ⟨⟨x0, x1, x2, x3⟩, hx⟩ : ∃ y, h.twos.getD i noTw = y := ⟨_, rfl⟩
      have HX : Hid (h.twos.getD i noTw = ⟨x0, x1, x2, x3⟩) := hx
      rw [hx] at ht hs t
      simp only at ht hs
      have HT : Hid _ := hs
      have m1 := shw_max HR.out (d := d') (by omega) ht.1
      have m2 := shw_max HR.out (d := d') (by omega) ht.2
      have HIcD1 : Hid (∀ W : World, Below wb.heap.size wb W → Calls Tryd.prog 38 #[.agg #[.slice a0 h.envs.length c0, .slice a1 h.clos.length c1, .slice (some ⟨g2, 0, none⟩) h.twos.length c2, .slice a3 h.refs.length c3], .agg #[.int .i64 x0, .int .i64 x1], .int .i64 (d' : Int)] W fun e w' => e = .returned (.string ⟨(shwL h d' x0 x1).toArray⟩) ∧ Below W.heap.size W w') := fun W hh => ih d' (by omega) a0 a1 (some ⟨g2, 0, none⟩) a3 g0 g1 g2 g3 c0 c1 c2 c3 h HR.out x0 x1 (by omega) ht.1 W (HB.out.below hh (Nat.le_refl _))
      have HIcD2 : Hid (∀ W : World, Below wb.heap.size wb W → Calls Tryd.prog 38 #[.agg #[.slice a0 h.envs.length c0, .slice a1 h.clos.length c1, .slice (some ⟨g2, 0, none⟩) h.twos.length c2, .slice a3 h.refs.length c3], .agg #[.int .i64 x2, .int .i64 x3], .int .i64 (d' : Int)] W fun e w' => e = .returned (.string ⟨(shwL h d' x2 x3).toArray⟩) ∧ Below W.heap.size W w') := fun W hh => ih d' (by omega) a0 a1 (some ⟨g2, 0, none⟩) a3 g0 g1 g2 g3 c0 c1 c2 c3 h HR.out x2 x3 (by omega) ht.2 W (HB.out.below hh (Nat.le_refl _))
      have q0 : wb.cell? ⟨g2, i * 4, none⟩ = some (.int .i64 x0) := t.c0
      have q1 : wb.cell? ⟨g2, i * 4 + 1, none⟩ = some (.int .i64 x1) := t.c1
      have q2 : wb.cell? ⟨g2, i * 4 + 2, none⟩ = some (.int .i64 x2) := t.c2
      have q3 : wb.cell? ⟨g2, i * 4 + 3, none⟩ = some (.int .i64 x3) := t.c3
      clear t hx hs ht
      obtain ⟨A, hAl⟩ : ∃ A, shwL h d' x0 x1 = A := ⟨_, rfl⟩
      obtain ⟨B, hBl⟩ : ∃ B, shwL h d' x2 x3 = B := ⟨_, rfl⟩
      rw [hAl] at HIcD1 HT m1
      rw [hBl] at HIcD2 HT m2
      have sA : (⟨A.toArray⟩ : ByteArray).size = A.length := sizeL A
      have sB : (⟨B.toArray⟩ : ByteArray).size = B.length := sizeL B
      rw [HT.out]
      clear HT
      obtain ⟨SA, hSA⟩ : ∃ SA : ByteArray, ⟨A.toArray⟩ = SA := ⟨_, rfl⟩
      obtain ⟨SB, hSB⟩ : ∃ SB : ByteArray, ⟨B.toArray⟩ = SB := ⟨_, rfl⟩
      rw [hSA] at HIcD1 sA
      rw [hSB] at HIcD2 sB
      have HSA : Hid ((⟨A.toArray⟩ : ByteArray) = SA) := hSA
      have HSB2 : Hid ((⟨B.toArray⟩ : ByteArray) = SB) := hSB
      clear hSA hSB hAl hBl
      have ed : ((d' + 1 : Nat) : Int) - 1 = (d' : Int) := by omega
      have cD1 : ∀ d os, Calls Tryd.prog 38 #[.agg #[.slice a0 h.envs.length c0, .slice a1 h.clos.length c1, .slice (some ⟨g2, 0, none⟩) h.twos.length c2, .slice a3 h.refs.length c3], .agg #[.int .i64 x0, .int .i64 x1], .int .i64 (d' : Int)] (grow (redrawn wb d) os) fun e w'' => e = .returned (.string SA) ∧ ∃ q : Regrown, w'' = grow (redrawn wb q.d) q.os := fun d os => Calls.regrown_of (HIcD1.out _ (below_regrown wb d os))
      have dz0 := cell_regrown z0
      have dz1 := cell_regrown z1
      have dz2 := cell_regrown z2
      have dz3 := cell_regrown z3
      have dy0 := cell_regrown y0
      have dy1 := cell_regrown y1
      have dq0 := cell_regrown q0
      have dq1 := cell_regrown q1
      have dq2 := cell_regrown q2
      have dq3 := cell_regrown q3
      rw [show ((d' + 1 : Nat) : Int) = (d' : Int) + 1 by omega]
      clear ed
      go_enter Tryd.func38, Tryd.ntmps38
      go_wp2
      rw [HWB.out]
      clear HWB
      refine wp_region_quiet_below (by kernel_rfl) (by kernel_rfl) ?_
      repeat (go_big_quiet_step (with_reducible exact cD1 _ _))
      refine wpQuiet_nil ?_
      intro _ hw'
      obtain ⟨⟨dq, osq⟩, hw''⟩ := hw'
      subst hw''
      have Hw2 : Hid (Below wb.heap.size wb (grow (redrawn wb dq) osq)) := below_regrown wb dq osq
      clear cD1 dz0 dz1 dz2 dz3 dy0 dy1 dq0 dq1 dq2 dq3 z0 z1 z2 z3 y0 y1 q0 q1 q2 q3
      generalize grow (redrawn wb dq) osq = w2 at *
      obtain ⟨z0, z1, z2, z3, y0, y1⟩ := HXB.out w2 Hw2.out
      have t := HBX.out w2 Hw2.out i hi
      rw [HX.out] at t
      have q0 : w2.cell? ⟨g2, i * 4, none⟩ = some (.int .i64 x0) := t.c0
      have q1 : w2.cell? ⟨g2, i * 4 + 1, none⟩ = some (.int .i64 x1) := t.c1
      have q2 : w2.cell? ⟨g2, i * 4 + 2, none⟩ = some (.int .i64 x2) := t.c2
      have q3 : w2.cell? ⟨g2, i * 4 + 3, none⟩ = some (.int .i64 x3) := t.c3
      clear t
      have cD2 : ∀ d os, Calls Tryd.prog 38 #[.agg #[.slice a0 h.envs.length c0, .slice a1 h.clos.length c1, .slice (some ⟨g2, 0, none⟩) h.twos.length c2, .slice a3 h.refs.length c3], .agg #[.int .i64 x2, .int .i64 x3], .int .i64 (d' : Int)] (grow (redrawn w2 d) os) fun e w'' => e = .returned (.string SB) ∧ ∃ q : Regrown, w'' = grow (redrawn w2 q.d) q.os := fun d os => Calls.regrown_of (HIcD2.out _ (Hw2.out.trans ((below_regrown w2 d os).mono Hw2.out.size)))
      have dz0 := cell_regrown z0
      have dz1 := cell_regrown z1
      have dz2 := cell_regrown z2
      have dz3 := cell_regrown z3
      have dy0 := cell_regrown y0
      have dy1 := cell_regrown y1
      have dq0 := cell_regrown q0
      have dq1 := cell_regrown q1
      have dq2 := cell_regrown q2
      have dq3 := cell_regrown q3
      go_wp2
      refine wp_region_quiet_below (by kernel_rfl) (by kernel_rfl) ?_
      repeat (go_big_quiet_step (with_reducible exact cD2 _ _))
      refine wpQuiet_nil ?_
      intro _ hw'
      obtain ⟨⟨dq, osq⟩, hw''⟩ := hw'
      subst hw''
      have Hw3 : Hid (Below wb.heap.size wb (grow (redrawn w2 dq) osq)) := Hw2.out.trans ((below_regrown w2 dq osq).mono Hw2.out.size)
      clear cD2 dz0 dz1 dz2 dz3 dy0 dy1 dq0 dq1 dq2 dq3 z0 z1 z2 z3 y0 y1 q0 q1 q2 q3
      generalize grow (redrawn w2 dq) osq = w3 at *
      obtain ⟨z0, z1, z2, z3, y0, y1⟩ := HXB.out w3 Hw3.out
      have BB3 : Hid (Below w.heap.size w w3) := BB.out.trans (Hw3.out.mono (by omega))
      go_wp2
      go_ret
      refine ⟨?_, BB3.out⟩
      rw [← HSA.out, ← HSB2.out]
      exact congrArg (fun z => Ending.returned (Value.string z)) (join5 3 A B _ rfl)

  · subst hk
    obtain ⟨n0, n1⟩ := htwo (.inr rfl)
    clear hnum htwo
    rcases d with _ | d'
    · rw [shw_last h (.inr rfl)]
      go_enter Tryd.func38, Tryd.ntmps38
      go_wp2
      rw [HWB.out]
      go_ret
      exact ⟨rfl, BB.out⟩
    · obtain ⟨i, rfl⟩ : ∃ i : Nat, n = (i : Int) := ⟨n.toNat, by omega⟩
      have hi : i < h.twos.length := by omega
      have e1 : (i : Int) < h.twos.length := by omega
      have ht := HR.out.two i hi
      have hs := shw_two h d' (.inr rfl) (i : Int)
      rw [Int.toNat_natCast] at hs
      obtain rfl := HA.out.e2 (by omega)
      have t := HB.out.r2 i hi
      have HBX : Hid (∀ W : World, Below wb.heap.size wb W → TwAt W g2 h.twos) := fun W hh => HB.out.r2.below hh (fun q => HB.out.r2.lt q)
      unfold TwoR at ht
      obtain ⟨⟨x0, x1, x2, x3⟩, hx⟩ : ∃ y, h.twos.getD i noTw = y := ⟨_, rfl⟩
      have HX : Hid (h.twos.getD i noTw = ⟨x0, x1, x2, x3⟩) := hx
      rw [hx] at ht hs t
      simp only at ht hs
      have HT : Hid _ := hs
      have m1 := shw_max HR.out (d := d') (by omega) ht.1
      have m2 := shw_max HR.out (d := d') (by omega) ht.2
      have HIcD1 : Hid (∀ W : World, Below wb.heap.size wb W → Calls Tryd.prog 38 #[.agg #[.slice a0 h.envs.length c0, .slice a1 h.clos.length c1, .slice (some ⟨g2, 0, none⟩) h.twos.length c2, .slice a3 h.refs.length c3], .agg #[.int .i64 x0, .int .i64 x1], .int .i64 (d' : Int)] W fun e w' => e = .returned (.string ⟨(shwL h d' x0 x1).toArray⟩) ∧ Below W.heap.size W w') := fun W hh => ih d' (by omega) a0 a1 (some ⟨g2, 0, none⟩) a3 g0 g1 g2 g3 c0 c1 c2 c3 h HR.out x0 x1 (by omega) ht.1 W (HB.out.below hh (Nat.le_refl _))
      have HIcD2 : Hid (∀ W : World, Below wb.heap.size wb W → Calls Tryd.prog 38 #[.agg #[.slice a0 h.envs.length c0, .slice a1 h.clos.length c1, .slice (some ⟨g2, 0, none⟩) h.twos.length c2, .slice a3 h.refs.length c3], .agg #[.int .i64 x2, .int .i64 x3], .int .i64 (d' : Int)] W fun e w' => e = .returned (.string ⟨(shwL h d' x2 x3).toArray⟩) ∧ Below W.heap.size W w') := fun W hh => ih d' (by omega) a0 a1 (some ⟨g2, 0, none⟩) a3 g0 g1 g2 g3 c0 c1 c2 c3 h HR.out x2 x3 (by omega) ht.2 W (HB.out.below hh (Nat.le_refl _))
      have q0 : wb.cell? ⟨g2, i * 4, none⟩ = some (.int .i64 x0) := t.c0
      have q1 : wb.cell? ⟨g2, i * 4 + 1, none⟩ = some (.int .i64 x1) := t.c1
      have q2 : wb.cell? ⟨g2, i * 4 + 2, none⟩ = some (.int .i64 x2) := t.c2
      have q3 : wb.cell? ⟨g2, i * 4 + 3, none⟩ = some (.int .i64 x3) := t.c3
      clear t hx hs ht
      obtain ⟨A, hAl⟩ : ∃ A, shwL h d' x0 x1 = A := ⟨_, rfl⟩
      obtain ⟨B, hBl⟩ : ∃ B, shwL h d' x2 x3 = B := ⟨_, rfl⟩
      rw [hAl] at HIcD1 HT m1
      rw [hBl] at HIcD2 HT m2
      have sA : (⟨A.toArray⟩ : ByteArray).size = A.length := sizeL A
      have sB : (⟨B.toArray⟩ : ByteArray).size = B.length := sizeL B
      rw [HT.out]
      clear HT
      obtain ⟨SA, hSA⟩ : ∃ SA : ByteArray, ⟨A.toArray⟩ = SA := ⟨_, rfl⟩
      obtain ⟨SB, hSB⟩ : ∃ SB : ByteArray, ⟨B.toArray⟩ = SB := ⟨_, rfl⟩
      rw [hSA] at HIcD1 sA
      rw [hSB] at HIcD2 sB
      have HSA : Hid ((⟨A.toArray⟩ : ByteArray) = SA) := hSA
      have HSB2 : Hid ((⟨B.toArray⟩ : ByteArray) = SB) := hSB
      clear hSA hSB hAl hBl
      have ed : ((d' + 1 : Nat) : Int) - 1 = (d' : Int) := by omega
      have cD1 : ∀ d os, Calls Tryd.prog 38 #[.agg #[.slice a0 h.envs.length c0, .slice a1 h.clos.length c1, .slice (some ⟨g2, 0, none⟩) h.twos.length c2, .slice a3 h.refs.length c3], .agg #[.int .i64 x0, .int .i64 x1], .int .i64 (d' : Int)] (grow (redrawn wb d) os) fun e w'' => e = .returned (.string SA) ∧ ∃ q : Regrown, w'' = grow (redrawn wb q.d) q.os := fun d os => Calls.regrown_of (HIcD1.out _ (below_regrown wb d os))
      have dz0 := cell_regrown z0
      have dz1 := cell_regrown z1
      have dz2 := cell_regrown z2
      have dz3 := cell_regrown z3
      have dy0 := cell_regrown y0
      have dy1 := cell_regrown y1
      have dq0 := cell_regrown q0
      have dq1 := cell_regrown q1
      have dq2 := cell_regrown q2
      have dq3 := cell_regrown q3
      rw [show ((d' + 1 : Nat) : Int) = (d' : Int) + 1 by omega]
      clear ed
      go_enter Tryd.func38, Tryd.ntmps38
      go_wp2
      rw [HWB.out]
      clear HWB
      refine wp_region_quiet_below (by kernel_rfl) (by kernel_rfl) ?_
      repeat (go_big_quiet_step (with_reducible exact cD1 _ _))
      refine wpQuiet_nil ?_
      intro _ hw'
      obtain ⟨⟨dq, osq⟩, hw''⟩ := hw'
      subst hw''
      have Hw2 : Hid (Below wb.heap.size wb (grow (redrawn wb dq) osq)) := below_regrown wb dq osq
      clear cD1 dz0 dz1 dz2 dz3 dy0 dy1 dq0 dq1 dq2 dq3 z0 z1 z2 z3 y0 y1 q0 q1 q2 q3
      generalize grow (redrawn wb dq) osq = w2 at *
      obtain ⟨z0, z1, z2, z3, y0, y1⟩ := HXB.out w2 Hw2.out
      have t := HBX.out w2 Hw2.out i hi
      rw [HX.out] at t
      have q0 : w2.cell? ⟨g2, i * 4, none⟩ = some (.int .i64 x0) := t.c0
      have q1 : w2.cell? ⟨g2, i * 4 + 1, none⟩ = some (.int .i64 x1) := t.c1
      have q2 : w2.cell? ⟨g2, i * 4 + 2, none⟩ = some (.int .i64 x2) := t.c2
      have q3 : w2.cell? ⟨g2, i * 4 + 3, none⟩ = some (.int .i64 x3) := t.c3
      clear t
      have cD2 : ∀ d os, Calls Tryd.prog 38 #[.agg #[.slice a0 h.envs.length c0, .slice a1 h.clos.length c1, .slice (some ⟨g2, 0, none⟩) h.twos.length c2, .slice a3 h.refs.length c3], .agg #[.int .i64 x2, .int .i64 x3], .int .i64 (d' : Int)] (grow (redrawn w2 d) os) fun e w'' => e = .returned (.string SB) ∧ ∃ q : Regrown, w'' = grow (redrawn w2 q.d) q.os := fun d os => Calls.regrown_of (HIcD2.out _ (Hw2.out.trans ((below_regrown w2 d os).mono Hw2.out.size)))
      have dz0 := cell_regrown z0
      have dz1 := cell_regrown z1
      have dz2 := cell_regrown z2
      have dz3 := cell_regrown z3
      have dy0 := cell_regrown y0
      have dy1 := cell_regrown y1
      have dq0 := cell_regrown q0
      have dq1 := cell_regrown q1
      have dq2 := cell_regrown q2
      have dq3 := cell_regrown q3
      go_wp2
      refine wp_region_quiet_below (by kernel_rfl) (by kernel_rfl) ?_
      repeat (go_big_quiet_step (with_reducible exact cD2 _ _))
      refine wpQuiet_nil ?_
      intro _ hw'
      obtain ⟨⟨dq, osq⟩, hw''⟩ := hw'
      subst hw''
      have Hw3 : Hid (Below wb.heap.size wb (grow (redrawn w2 dq) osq)) := Hw2.out.trans ((below_regrown w2 dq osq).mono Hw2.out.size)
      clear cD2 dz0 dz1 dz2 dz3 dy0 dy1 dq0 dq1 dq2 dq3 z0 z1 z2 z3 y0 y1 q0 q1 q2 q3
      generalize grow (redrawn w2 dq) osq = w3 at *
      obtain ⟨z0, z1, z2, z3, y0, y1⟩ := HXB.out w3 Hw3.out
      have BB3 : Hid (Below w.heap.size w w3) := BB.out.trans (Hw3.out.mono (by omega))
      go_wp2
      go_ret
      refine ⟨?_, BB3.out⟩
      rw [← HSA.out, ← HSB2.out]
      exact congrArg (fun z => Ending.returned (Value.string z)) (join5 4 A B _ rfl)

  · rw [shw_5]
    clear hnum htwo
    go_enter Tryd.func38, Tryd.ntmps38
    go_wp2
    rw [HWB.out]
    go_ret
    exact ⟨rfl, BB.out⟩

theorem spec_show (d : Nat) : ShowC d := Nat.strongRecOn d (fun d ih => show_step d ih)
end Go.Proofs.YthmfkbnfdheopaaDoor
