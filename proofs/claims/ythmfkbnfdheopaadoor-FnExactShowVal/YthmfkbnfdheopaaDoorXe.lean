/-
  Values: their texts as they landed; ShowVal, of the specification and as it landed. Conditions: written at each theorem.
-/
import Derived.Test.YthmfkbnfdheopaaDoorXd
import Derived.Test.YthmfkbnfdheopaaDoorDi
namespace Go.Proofs.YthmfkbnfdheopaaDoor
open Go.ChangeShapes Go.WideShapes Go.ChangeAt Go.RowKit Go.Sort
set_option linter.unusedVariables false

theorem Pow.below {w w' : World} (h : PowIs w) (hb : Below w.heap.size w w') : PowIs w' := var_kept gPow h hb

/-- What a value's text as it landed is to be, so deep. -/
def TextC (d : Nat) : Prop := ∀ (a0 a1 a2 a3 : Option Addr) (g0 g1 g2 g3 c0 c1 c2 c3 : Nat) (h : Hq), HeapR h → ∀ (k n : Int), d ≤ 8 → valB h.clos.length h.twos.length h.refs.length k n = true → ∀ w : World, HpAt w a0 a1 a2 a3 g0 g1 g2 g3 h → PowIs w →
    Calls Tryd.prog 32 #[.agg #[.slice a0 h.envs.length c0, .slice a1 h.clos.length c1, .slice a2 h.twos.length c2, .slice a3 h.refs.length c3], .agg #[.int .i64 k, .int .i64 n], .int .i64 (d : Int)] w fun e w' => e = .returned (.string ⟨(shwL h d k n).toArray⟩) ∧ Below w.heap.size w w'

theorem join7 (Wd A B : List UInt8) (P : ByteArray) (hP : P = ⟨Wd.toArray⟩) : (⟨#[40]⟩ : ByteArray) ++ P ++ ⟨#[32]⟩ ++ ⟨A.toArray⟩ ++ ⟨#[32]⟩ ++ ⟨B.toArray⟩ ++ ⟨#[41]⟩ = ⟨([40] ++ Wd ++ [32] ++ A ++ [32] ++ B ++ [41]).toArray⟩ := by
  rw [hP, show (⟨#[40]⟩ : ByteArray) = ⟨[(40 : UInt8)].toArray⟩ from rfl, show (⟨#[32]⟩ : ByteArray) = ⟨[(32 : UInt8)].toArray⟩ from rfl, show (⟨#[41]⟩ : ByteArray) = ⟨[(41 : UInt8)].toArray⟩ from rfl, joinL, joinL, joinL, joinL, joinL, joinL]

/-- The word of a pair's text. -/
def wordL (k : Int) : List UInt8 := if k = 3 then [112, 97, 105, 114] else [99, 111, 110, 115]

theorem head_word (k : Int) : headL k = [40] ++ wordL k ++ [32] := by unfold headL wordL; split <;> rfl

set_option maxHeartbeats 2000000 in
set_option maxRecDepth 20000 in
theorem two_step (d : Nat) (ih : ∀ e, e < d → TextC e) (a0 a1 a2 a3 : Option Addr) (g0 g1 g2 g3 c0 c1 c2 c3 : Nat) (h : Hq) (hr : HeapR h) (k n : Int) (hk : k = 3 ∨ k = 4) (hd : d ≤ 8) (hv : valB h.clos.length h.twos.length h.refs.length k n = true) (w : World) (hA : HpAt w a0 a1 a2 a3 g0 g1 g2 g3 h) (hp : PowIs w) :
    Calls Tryd.prog 50 #[.agg #[.slice a0 h.envs.length c0, .slice a1 h.clos.length c1, .slice a2 h.twos.length c2, .slice a3 h.refs.length c3], .string ⟨(wordL k).toArray⟩, .agg #[.int .i64 k, .int .i64 n], .int .i64 (d : Int)] w fun e w' => e = .returned (.string ⟨(shwL h d k n).toArray⟩) ∧ Below w.heap.size w w' := by
  have HA : Hid (HpAt w a0 a1 a2 a3 g0 g1 g2 g3 h) := hA
  have HR : Hid (HeapR h) := hr
  have HP : Hid (PowIs w) := hp
  have l2 : h.twos.length ≤ 1048576 := hA.l2
  obtain ⟨wb, hwb⟩ : ∃ wb, (w.alloc (.cells #[.slice a0 h.envs.length c0, .slice a1 h.clos.length c1, .slice a2 h.twos.length c2, .slice a3 h.refs.length c3] 29)).alloc (.cells #[.int .i64 k, .int .i64 n] 35) = wb := ⟨_, rfl⟩
  have HWB : Hid ((w.alloc (.cells #[.slice a0 h.envs.length c0, .slice a1 h.clos.length c1, .slice a2 h.twos.length c2, .slice a3 h.refs.length c3] 29)).alloc (.cells #[.int .i64 k, .int .i64 n] 35) = wb) := hwb
  have BB : Hid (Below w.heap.size w wb) := by show Below w.heap.size w wb; rw [← hwb]; exact ((Below.refl _ w).alloc (Nat.le_refl _) _).alloc (by simp) _
  have HSB : Hid (wb.heap.size = w.heap.size + 2) := by show wb.heap.size = _; rw [← hwb]; simp
  have RH : Hid (wb.heap[w.heap.size]? = some (.cells #[.slice a0 h.envs.length c0, .slice a1 h.clos.length c1, .slice a2 h.twos.length c2, .slice a3 h.refs.length c3] 29 (0, 0))) := by
    show wb.heap[w.heap.size]? = _
    rw [← hwb, Below.heap_alloc _ _ _ (by simp)]
    exact (MapKept.heap_alloc w _).1
  have RV : Hid (wb.heap[w.heap.size + 1]? = some (.cells #[.int .i64 k, .int .i64 n] 35 (0, 0))) := by
    show wb.heap[w.heap.size + 1]? = _
    rw [← hwb]
    have := (MapKept.heap_alloc (w.alloc (.cells #[.slice a0 h.envs.length c0, .slice a1 h.clos.length c1, .slice a2 h.twos.length c2, .slice a3 h.refs.length c3] 29)) (.cells #[.int .i64 k, .int .i64 n] 35)).1
    simpa using this
  have HXB : Hid (∀ W : World, Below wb.heap.size wb W → W.cell? ⟨w.heap.size, 0, none⟩ = some (.slice a0 h.envs.length c0) ∧ W.cell? ⟨w.heap.size, 1, none⟩ = some (.slice a1 h.clos.length c1) ∧ W.cell? ⟨w.heap.size, 2, none⟩ = some (.slice a2 h.twos.length c2) ∧ W.cell? ⟨w.heap.size, 3, none⟩ = some (.slice a3 h.refs.length c3) ∧ W.cell? ⟨w.heap.size + 1, 0, none⟩ = some (.int .i64 k) ∧ W.cell? ⟨w.heap.size + 1, 1, none⟩ = some (.int .i64 n)) := fun W hh =>
    have e1 := (hh.block w.heap.size (by have := HSB.out; omega)).trans RH.out
    have e2 := (hh.block (w.heap.size + 1) (by have := HSB.out; omega)).trans RV.out
    ⟨(cell_of_row _ _ _ _ _ _ e1).trans rfl, (cell_of_row _ _ _ _ _ _ e1).trans rfl, (cell_of_row _ _ _ _ _ _ e1).trans rfl, (cell_of_row _ _ _ _ _ _ e1).trans rfl, (cell_of_row _ _ _ _ _ _ e2).trans rfl, (cell_of_row _ _ _ _ _ _ e2).trans rfl⟩
  have HB : Hid (HpAt wb a0 a1 a2 a3 g0 g1 g2 g3 h) := HA.out.below BB.out (Nat.le_refl _)
  have HS := HSB.out
  clear hwb RH RV
  obtain ⟨n0, n1⟩ := two_in hk hv
  have HK : Hid (k = 3 ∨ k = 4) := hk
  have hwl : (wordL k).length = 4 := by unfold wordL; split <;> rfl
  obtain ⟨SW, hSW⟩ : ∃ SW : ByteArray, ⟨(wordL k).toArray⟩ = SW := ⟨_, rfl⟩
  have HSW : Hid ((⟨(wordL k).toArray⟩ : ByteArray) = SW) := hSW
  have sW : SW.size = 4 := by rw [← hSW, sizeL, hwl]
  rw [hSW]
  clear hA hv hr hp hk hwl hSW
  obtain ⟨z0, z1, z2, z3, y0, y1⟩ := HXB.out wb (Below.refl _ _)
  rcases d with _ | d'
  · rw [shw_last h HK.out]
    go_enter Tryd.func50, Tryd.ntmps50
    go_wp2
    rw [HWB.out]
    go_ret
    exact ⟨rfl, BB.out⟩
  · obtain ⟨i, rfl⟩ : ∃ i : Nat, n = (i : Int) := ⟨n.toNat, by omega⟩
    have hi : i < h.twos.length := by omega
    have e1 : (i : Int) < h.twos.length := by omega
    have ht := HR.out.two i hi
    have hs := shw_two h d' HK.out (i : Int)
    rw [Int.toNat_natCast] at hs
    obtain rfl := HA.out.e2 (by omega)
    have t := HB.out.r2 i hi
    unfold TwoR at ht
    obtain ⟨⟨x0, x1, x2, x3⟩, hx⟩ : ∃ y, h.twos.getD i noTw = y := ⟨_, rfl⟩
    rw [hx] at ht hs t
    simp only at ht hs
    have HT : Hid _ := hs
    have m1 := shw_max HR.out (d := d') (by omega) ht.1
    have m2 := shw_max HR.out (d := d') (by omega) ht.2
    have HPB : Hid (∀ W : World, Below wb.heap.size wb W → PowIs W) := fun W hh => Pow.below HP.out (BB.out.trans (hh.mono (by omega)))
    have HI1 : Hid (∀ W : World, Below wb.heap.size wb W → Calls Tryd.prog 32 #[.agg #[.slice a0 h.envs.length c0, .slice a1 h.clos.length c1, .slice (some ⟨g2, 0, none⟩) h.twos.length c2, .slice a3 h.refs.length c3], .agg #[.int .i64 x0, .int .i64 x1], .int .i64 (d' : Int)] W fun e w' => e = .returned (.string ⟨(shwL h d' x0 x1).toArray⟩) ∧ Below W.heap.size W w') := fun W hh => ih d' (by omega) a0 a1 (some ⟨g2, 0, none⟩) a3 g0 g1 g2 g3 c0 c1 c2 c3 h HR.out x0 x1 (by omega) ht.1 W (HB.out.below hh (Nat.le_refl _)) (HPB.out W hh)
    have HI2 : Hid (∀ W : World, Below wb.heap.size wb W → Calls Tryd.prog 32 #[.agg #[.slice a0 h.envs.length c0, .slice a1 h.clos.length c1, .slice (some ⟨g2, 0, none⟩) h.twos.length c2, .slice a3 h.refs.length c3], .agg #[.int .i64 x2, .int .i64 x3], .int .i64 (d' : Int)] W fun e w' => e = .returned (.string ⟨(shwL h d' x2 x3).toArray⟩) ∧ Below W.heap.size W w') := fun W hh => ih d' (by omega) a0 a1 (some ⟨g2, 0, none⟩) a3 g0 g1 g2 g3 c0 c1 c2 c3 h HR.out x2 x3 (by omega) ht.2 W (HB.out.below hh (Nat.le_refl _)) (HPB.out W hh)
    have q0 : wb.cell? ⟨g2, i * 4, none⟩ = some (.int .i64 x0) := t.c0
    have q1 : wb.cell? ⟨g2, i * 4 + 1, none⟩ = some (.int .i64 x1) := t.c1
    have q2 : wb.cell? ⟨g2, i * 4 + 2, none⟩ = some (.int .i64 x2) := t.c2
    have q3 : wb.cell? ⟨g2, i * 4 + 3, none⟩ = some (.int .i64 x3) := t.c3
    have Q0 : ((w.alloc (.cells #[.slice a0 h.envs.length c0, .slice a1 h.clos.length c1, .slice (some ⟨g2, 0, none⟩) h.twos.length c2, .slice a3 h.refs.length c3] 29)).alloc (.cells #[.int .i64 k, .int .i64 (i : Int)] 35)).cell? ⟨g2, i * 4, none⟩ = some (.int .i64 x0) := by rw [HWB.out]; exact q0
    have Q1 : ((w.alloc (.cells #[.slice a0 h.envs.length c0, .slice a1 h.clos.length c1, .slice (some ⟨g2, 0, none⟩) h.twos.length c2, .slice a3 h.refs.length c3] 29)).alloc (.cells #[.int .i64 k, .int .i64 (i : Int)] 35)).cell? ⟨g2, i * 4 + 1, none⟩ = some (.int .i64 x1) := by rw [HWB.out]; exact q1
    have Q2 : ((w.alloc (.cells #[.slice a0 h.envs.length c0, .slice a1 h.clos.length c1, .slice (some ⟨g2, 0, none⟩) h.twos.length c2, .slice a3 h.refs.length c3] 29)).alloc (.cells #[.int .i64 k, .int .i64 (i : Int)] 35)).cell? ⟨g2, i * 4 + 2, none⟩ = some (.int .i64 x2) := by rw [HWB.out]; exact q2
    have Q3 : ((w.alloc (.cells #[.slice a0 h.envs.length c0, .slice a1 h.clos.length c1, .slice (some ⟨g2, 0, none⟩) h.twos.length c2, .slice a3 h.refs.length c3] 29)).alloc (.cells #[.int .i64 k, .int .i64 (i : Int)] 35)).cell? ⟨g2, i * 4 + 3, none⟩ = some (.int .i64 x3) := by rw [HWB.out]; exact q3
    clear t hx hs ht q0 q1 q2 q3 z0 z1 z2 z3 y0 y1
    obtain ⟨A, hAl⟩ : ∃ A, shwL h d' x0 x1 = A := ⟨_, rfl⟩
    obtain ⟨B, hBl⟩ : ∃ B, shwL h d' x2 x3 = B := ⟨_, rfl⟩
    rw [hAl] at HI1 HT m1
    rw [hBl] at HI2 HT m2
    have sA : (⟨A.toArray⟩ : ByteArray).size = A.length := sizeL A
    have sB : (⟨B.toArray⟩ : ByteArray).size = B.length := sizeL B
    rw [HT.out]
    clear HT
    obtain ⟨SA, hSA⟩ : ∃ SA : ByteArray, ⟨A.toArray⟩ = SA := ⟨_, rfl⟩
    obtain ⟨SB, hSB⟩ : ∃ SB : ByteArray, ⟨B.toArray⟩ = SB := ⟨_, rfl⟩
    rw [hSA] at HI1 sA
    rw [hSB] at HI2 sB
    have HSA : Hid ((⟨A.toArray⟩ : ByteArray) = SA) := hSA
    have HSB2 : Hid ((⟨B.toArray⟩ : ByteArray) = SB) := hSB
    clear hSA hSB hAl hBl
    -- the pair is copied into a block of the call's own
    obtain ⟨wc, hwc⟩ : ∃ wc, wb.alloc (.cells #[.int .i64 x0, .int .i64 x1, .int .i64 x2, .int .i64 x3] 47) = wc := ⟨_, rfl⟩
    have HWC : Hid (wb.alloc (.cells #[.int .i64 x0, .int .i64 x1, .int .i64 x2, .int .i64 x3] 47) = wc) := hwc
    have HC : Hid (Below wb.heap.size wb wc) := by show Below wb.heap.size wb wc; rw [← hwc]; exact (Below.refl _ wb).alloc (Nat.le_refl _) _
    have RC : wc.heap[wb.heap.size]? = some (.cells #[.int .i64 x0, .int .i64 x1, .int .i64 x2, .int .i64 x3] 47 (0, 0)) := by rw [← hwc]; exact (MapKept.heap_alloc wb _).1
    have RC2 : wc.heap[w.heap.size + 1 + 1]? = some (.cells #[.int .i64 x0, .int .i64 x1, .int .i64 x2, .int .i64 x3] 47 (0, 0)) := by have := RC; rw [HS] at this; exact this
    have p0 : wc.cell? ⟨w.heap.size + 1 + 1, 0, none⟩ = some (.int .i64 x0) := (cell_of_row _ _ _ _ _ _ RC2).trans rfl
    have p1 : wc.cell? ⟨w.heap.size + 1 + 1, 1, none⟩ = some (.int .i64 x1) := (cell_of_row _ _ _ _ _ _ RC2).trans rfl
    have p2 : wc.cell? ⟨w.heap.size + 1 + 1, 2, none⟩ = some (.int .i64 x2) := (cell_of_row _ _ _ _ _ _ RC2).trans rfl
    have p3 : wc.cell? ⟨w.heap.size + 1 + 1, 3, none⟩ = some (.int .i64 x3) := (cell_of_row _ _ _ _ _ _ RC2).trans rfl
    have HXC := HXB.out wc HC.out
    have HXC2 : Hid _ := HXC
    have cD1 : ∀ d os, Calls Tryd.prog 32 #[.agg #[.slice a0 h.envs.length c0, .slice a1 h.clos.length c1, .slice (some ⟨g2, 0, none⟩) h.twos.length c2, .slice a3 h.refs.length c3], .agg #[.int .i64 x0, .int .i64 x1], .int .i64 (d' : Int)] (grow (redrawn wc d) os) fun e w'' => e = .returned (.string SA) ∧ ∃ q : Regrown, w'' = grow (redrawn wc q.d) q.os := fun d os => Calls.regrown_of (HI1.out _ (HC.out.trans ((below_regrown wc d os).mono HC.out.size)))
    have cD2 : ∀ d os, Calls Tryd.prog 32 #[.agg #[.slice a0 h.envs.length c0, .slice a1 h.clos.length c1, .slice (some ⟨g2, 0, none⟩) h.twos.length c2, .slice a3 h.refs.length c3], .agg #[.int .i64 x2, .int .i64 x3], .int .i64 (d' : Int)] (grow (redrawn wc d) os) fun e w'' => e = .returned (.string SB) ∧ ∃ q : Regrown, w'' = grow (redrawn wc q.d) q.os := fun d os => Calls.regrown_of (HI2.out _ (HC.out.trans ((below_regrown wc d os).mono HC.out.size)))
    clear hwc RC RC2 HXC
    rw [show ((d' + 1 : Nat) : Int) = (d' : Int) + 1 by omega]
    have hne : ((d' : Int) + 1 == 0) = false := by simp; omega
    go_enter Tryd.func50, Tryd.ntmps50
    go_wp2
    rw [HWB.out, HWC.out]
    clear HWB HWC Q0 Q1 Q2 Q3
    obtain ⟨z0, z1, z2, z3, y0, y1⟩ := HXC2.out
    have dz0 := cell_regrown z0
    have dz1 := cell_regrown z1
    have dz2 := cell_regrown z2
    have dz3 := cell_regrown z3
    have dy0 := cell_regrown y0
    have dy1 := cell_regrown y1
    have dp0 := cell_regrown p0
    have dp1 := cell_regrown p1
    have dp2 := cell_regrown p2
    have dp3 := cell_regrown p3
    refine wp_region_quiet_below (by kernel_rfl) (by kernel_rfl) ?_
    repeat (go_big_quiet_step (first | with_reducible exact cD1 _ _ | with_reducible exact cD2 _ _))
    refine wpQuiet_nil ?_
    intro _ hw'
    obtain ⟨⟨dq, osq⟩, hw''⟩ := hw'
    subst hw''
    have BB3 : Hid (Below w.heap.size w (grow (redrawn wc dq) osq)) := BB.out.trans ((HC.out.trans ((below_regrown wc dq osq).mono HC.out.size)).mono (by omega))
    clear cD1 cD2 dz0 dz1 dz2 dz3 dy0 dy1 dp0 dp1 dp2 dp3 z0 z1 z2 z3 y0 y1 p0 p1 p2 p3
    go_wp2
    go_ret
    refine ⟨?_, BB3.out⟩
    rw [← HSA.out, ← HSB2.out, ← HSW.out, head_word]
    exact congrArg (fun z => Ending.returned (Value.string z)) (join7 (wordL k) A B _ rfl)

set_option maxHeartbeats 2000000 in
set_option maxRecDepth 20000 in
theorem text_step (d : Nat) (ih : ∀ e, e < d → TextC e) : TextC d := by
  intro a0 a1 a2 a3 g0 g1 g2 g3 c0 c1 c2 c3 h hr k n hd hv w hA hp
  have HA : Hid (HpAt w a0 a1 a2 a3 g0 g1 g2 g3 h) := hA
  have HR : Hid (HeapR h) := hr
  have HV : Hid (valB h.clos.length h.twos.length h.refs.length k n = true) := hv
  have HP : Hid (PowIs w) := hp
  obtain ⟨wb, hwb⟩ : ∃ wb, (w.alloc (.cells #[.slice a0 h.envs.length c0, .slice a1 h.clos.length c1, .slice a2 h.twos.length c2, .slice a3 h.refs.length c3] 29)).alloc (.cells #[.int .i64 k, .int .i64 n] 35) = wb := ⟨_, rfl⟩
  have HWB : Hid ((w.alloc (.cells #[.slice a0 h.envs.length c0, .slice a1 h.clos.length c1, .slice a2 h.twos.length c2, .slice a3 h.refs.length c3] 29)).alloc (.cells #[.int .i64 k, .int .i64 n] 35) = wb) := hwb
  have BB : Hid (Below w.heap.size w wb) := by show Below w.heap.size w wb; rw [← hwb]; exact ((Below.refl _ w).alloc (Nat.le_refl _) _).alloc (by simp) _
  have HSB : Hid (wb.heap.size = w.heap.size + 2) := by show wb.heap.size = _; rw [← hwb]; simp
  have RH : Hid (wb.heap[w.heap.size]? = some (.cells #[.slice a0 h.envs.length c0, .slice a1 h.clos.length c1, .slice a2 h.twos.length c2, .slice a3 h.refs.length c3] 29 (0, 0))) := by
    show wb.heap[w.heap.size]? = _
    rw [← hwb, Below.heap_alloc _ _ _ (by simp)]
    exact (MapKept.heap_alloc w _).1
  have RV : Hid (wb.heap[w.heap.size + 1]? = some (.cells #[.int .i64 k, .int .i64 n] 35 (0, 0))) := by
    show wb.heap[w.heap.size + 1]? = _
    rw [← hwb]
    have := (MapKept.heap_alloc (w.alloc (.cells #[.slice a0 h.envs.length c0, .slice a1 h.clos.length c1, .slice a2 h.twos.length c2, .slice a3 h.refs.length c3] 29)) (.cells #[.int .i64 k, .int .i64 n] 35)).1
    simpa using this
  have HXB : Hid (∀ W : World, Below wb.heap.size wb W → W.cell? ⟨w.heap.size, 0, none⟩ = some (.slice a0 h.envs.length c0) ∧ W.cell? ⟨w.heap.size, 1, none⟩ = some (.slice a1 h.clos.length c1) ∧ W.cell? ⟨w.heap.size, 2, none⟩ = some (.slice a2 h.twos.length c2) ∧ W.cell? ⟨w.heap.size, 3, none⟩ = some (.slice a3 h.refs.length c3) ∧ W.cell? ⟨w.heap.size + 1, 0, none⟩ = some (.int .i64 k) ∧ W.cell? ⟨w.heap.size + 1, 1, none⟩ = some (.int .i64 n)) := fun W hh =>
    have e1 := (hh.block w.heap.size (by have := HSB.out; omega)).trans RH.out
    have e2 := (hh.block (w.heap.size + 1) (by have := HSB.out; omega)).trans RV.out
    ⟨(cell_of_row _ _ _ _ _ _ e1).trans rfl, (cell_of_row _ _ _ _ _ _ e1).trans rfl, (cell_of_row _ _ _ _ _ _ e1).trans rfl, (cell_of_row _ _ _ _ _ _ e1).trans rfl, (cell_of_row _ _ _ _ _ _ e2).trans rfl, (cell_of_row _ _ _ _ _ _ e2).trans rfl⟩
  have HB : Hid (HpAt wb a0 a1 a2 a3 g0 g1 g2 g3 h) := HA.out.below BB.out (Nat.le_refl _)
  have HS := HSB.out
  clear hwb RH RV
  have hk := kind_of hv
  have hnum := fun e : k = 0 => num_in (h := h) (n := n) (by rw [← e]; exact hv)
  clear hA hv hr hp
  rcases hk with rfl | rfl | rfl | hk | hk | rfl
  · obtain ⟨n0, n1⟩ := hnum rfl
    rw [shw_0]
    clear hnum
    go_enter Tryd.func32, Tryd.ntmps32
    go_wp2_with fail
    rw [HWB.out]
    refine (impl_dec n (by omega) (by omega) wb (Pow.below HP.out BB.out)).mono ?_
    rintro e w1 ⟨rfl, b1⟩
    clear HWB
    go_wp2
    go_ret
    exact ⟨rfl, BB.out.trans (b1.mono (by omega))⟩
  · rw [shw_1]
    clear hnum
    go_enter Tryd.func32, Tryd.ntmps32
    go_wp2
    rw [HWB.out]
    go_ret
    exact ⟨rfl, BB.out⟩
  · rw [shw_2]
    clear hnum
    go_enter Tryd.func32, Tryd.ntmps32
    go_wp2
    rw [HWB.out]
    go_ret
    exact ⟨rfl, BB.out⟩
  · subst hk
    clear hnum
    have ht := two_step d ih a0 a1 a2 a3 g0 g1 g2 g3 c0 c1 c2 c3 h HR.out 3 n (.inl rfl) hd HV.out wb HB.out (Pow.below HP.out BB.out)
    rw [show (⟨(wordL 3).toArray⟩ : ByteArray) = ⟨#[112, 97, 105, 114]⟩ from rfl] at ht
    obtain ⟨S, hS⟩ : ∃ S, shwL h d 3 n = S := ⟨_, rfl⟩
    rw [hS] at ht ⊢
    have HT : Hid (Calls Tryd.prog 50 #[.agg #[.slice a0 h.envs.length c0, .slice a1 h.clos.length c1, .slice a2 h.twos.length c2, .slice a3 h.refs.length c3], .string ⟨#[112, 97, 105, 114]⟩, .agg #[.int .i64 3, .int .i64 n], .int .i64 (d : Int)] wb fun e w' => e = .returned (.string ⟨S.toArray⟩) ∧ Below wb.heap.size wb w') := ht
    clear ht hS
    obtain ⟨z0, z1, z2, z3, y0, y1⟩ := HXB.out wb (Below.refl _ _)
    go_enter Tryd.func32, Tryd.ntmps32
    go_wp2_with fail
    rw [HWB.out]
    refine HT.out.mono ?_
    rintro e w1 ⟨rfl, b1⟩
    clear HT
    go_wp2
    go_ret
    exact ⟨rfl, BB.out.trans (b1.mono (by omega))⟩
  · subst hk
    clear hnum
    have ht := two_step d ih a0 a1 a2 a3 g0 g1 g2 g3 c0 c1 c2 c3 h HR.out 4 n (.inr rfl) hd HV.out wb HB.out (Pow.below HP.out BB.out)
    rw [show (⟨(wordL 4).toArray⟩ : ByteArray) = ⟨#[99, 111, 110, 115]⟩ from rfl] at ht
    obtain ⟨S, hS⟩ : ∃ S, shwL h d 4 n = S := ⟨_, rfl⟩
    rw [hS] at ht ⊢
    have HT : Hid (Calls Tryd.prog 50 #[.agg #[.slice a0 h.envs.length c0, .slice a1 h.clos.length c1, .slice a2 h.twos.length c2, .slice a3 h.refs.length c3], .string ⟨#[99, 111, 110, 115]⟩, .agg #[.int .i64 4, .int .i64 n], .int .i64 (d : Int)] wb fun e w' => e = .returned (.string ⟨S.toArray⟩) ∧ Below wb.heap.size wb w') := ht
    clear ht hS
    obtain ⟨z0, z1, z2, z3, y0, y1⟩ := HXB.out wb (Below.refl _ _)
    go_enter Tryd.func32, Tryd.ntmps32
    go_wp2_with fail
    rw [HWB.out]
    refine HT.out.mono ?_
    rintro e w1 ⟨rfl, b1⟩
    clear HT
    go_wp2
    go_ret
    exact ⟨rfl, BB.out.trans (b1.mono (by omega))⟩
  · rw [shw_5]
    clear hnum
    go_enter Tryd.func32, Tryd.ntmps32
    go_wp2
    rw [HWB.out]
    go_ret
    exact ⟨rfl, BB.out⟩

theorem impl_text (d : Nat) : TextC d := Nat.strongRecOn d (fun d ih => text_step d ih)

/-- What ShowVal answers. -/
def ShowAns (h : Hq) (d k n : Int) (e : Ending) : Prop :=
  ∃ S : ByteArray, e = .returned (.string S) ∧ (HeapR h → valB h.clos.length h.twos.length h.refs.length k n = true → 0 ≤ d → d ≤ 8 → S = ⟨(shwL h d.toNat k n).toArray⟩) ∧ (¬ (HeapR h ∧ valB h.clos.length h.twos.length h.refs.length k n = true ∧ 0 ≤ d ∧ d ≤ 8) → S = ⟨#[]⟩)

theorem show_one {h : Hq} {d k n : Int} {S S' : ByteArray} (h1 : ShowAns h d k n (.returned (.string S))) (h2 : ShowAns h d k n (.returned (.string S'))) : S' = S := by
  obtain ⟨A, e1, p1, q1⟩ := h1
  obtain ⟨B, e2, p2, q2⟩ := h2
  simp only [Ending.returned.injEq, Value.string.injEq] at e1 e2
  subst e1 e2
  by_cases hh : HeapR h ∧ valB h.clos.length h.twos.length h.refs.length k n = true ∧ 0 ≤ d ∧ d ≤ 8
  · rw [p1 hh.1 hh.2.1 hh.2.2.1 hh.2.2.2, p2 hh.1 hh.2.1 hh.2.2.1 hh.2.2.2]
  · rw [q1 hh, q2 hh]

set_option maxHeartbeats 4000000 in
set_option maxRecDepth 20000 in
theorem spec_showval (a0 a1 a2 a3 : Option Addr) (g0 g1 g2 g3 c0 c1 c2 c3 : Nat) (h : Hq) (d k n : Int) (w : World) (hA : HpAt w a0 a1 a2 a3 g0 g1 g2 g3 h) :
    Calls Tryd.prog 17 #[.agg #[.slice a0 h.envs.length c0, .slice a1 h.clos.length c1, .slice a2 h.twos.length c2, .slice a3 h.refs.length c3], .agg #[.int .i64 k, .int .i64 n], .int .i64 d] w fun e w' => ShowAns h d k n e ∧ Below w.heap.size w w' := by
  have HA : Hid (HpAt w a0 a1 a2 a3 g0 g1 g2 g3 h) := hA
  have lb1 : h.clos.length ≤ 1048576 := hA.l1
  have lb2 : h.twos.length ≤ 1048576 := hA.l2
  have lb3 : h.refs.length ≤ 1048576 := hA.l3

  obtain ⟨wb, hwb⟩ : ∃ wb, (w.alloc (.cells #[.slice a0 h.envs.length c0, .slice a1 h.clos.length c1, .slice a2 h.twos.length c2, .slice a3 h.refs.length c3] 29)).alloc (.cells #[.int .i64 k, .int .i64 n] 35) = wb := ⟨_, rfl⟩
  have HWB : Hid ((w.alloc (.cells #[.slice a0 h.envs.length c0, .slice a1 h.clos.length c1, .slice a2 h.twos.length c2, .slice a3 h.refs.length c3] 29)).alloc (.cells #[.int .i64 k, .int .i64 n] 35) = wb) := hwb
  have BB : Hid (Below w.heap.size w wb) := by show Below w.heap.size w wb; rw [← hwb]; exact ((Below.refl _ w).alloc (Nat.le_refl _) _).alloc (by simp) _
  have HSB : Hid (wb.heap.size = w.heap.size + 2) := by show wb.heap.size = _; rw [← hwb]; simp
  have RH : Hid (wb.heap[w.heap.size]? = some (.cells #[.slice a0 h.envs.length c0, .slice a1 h.clos.length c1, .slice a2 h.twos.length c2, .slice a3 h.refs.length c3] 29 (0, 0))) := by
    show wb.heap[w.heap.size]? = _
    rw [← hwb, Below.heap_alloc _ _ _ (by simp)]
    exact (MapKept.heap_alloc w _).1
  have RV : Hid (wb.heap[w.heap.size + 1]? = some (.cells #[.int .i64 k, .int .i64 n] 35 (0, 0))) := by
    show wb.heap[w.heap.size + 1]? = _
    rw [← hwb]
    have := (MapKept.heap_alloc (w.alloc (.cells #[.slice a0 h.envs.length c0, .slice a1 h.clos.length c1, .slice a2 h.twos.length c2, .slice a3 h.refs.length c3] 29)) (.cells #[.int .i64 k, .int .i64 n] 35)).1
    simpa using this
  have HXB : Hid (∀ W : World, Below wb.heap.size wb W → W.cell? ⟨w.heap.size, 0, none⟩ = some (.slice a0 h.envs.length c0) ∧ W.cell? ⟨w.heap.size, 1, none⟩ = some (.slice a1 h.clos.length c1) ∧ W.cell? ⟨w.heap.size, 2, none⟩ = some (.slice a2 h.twos.length c2) ∧ W.cell? ⟨w.heap.size, 3, none⟩ = some (.slice a3 h.refs.length c3) ∧ W.cell? ⟨w.heap.size + 1, 0, none⟩ = some (.int .i64 k) ∧ W.cell? ⟨w.heap.size + 1, 1, none⟩ = some (.int .i64 n)) := fun W hh =>
    have e1 := (hh.block w.heap.size (by have := HSB.out; omega)).trans RH.out
    have e2 := (hh.block (w.heap.size + 1) (by have := HSB.out; omega)).trans RV.out
    ⟨(cell_of_row _ _ _ _ _ _ e1).trans rfl, (cell_of_row _ _ _ _ _ _ e1).trans rfl, (cell_of_row _ _ _ _ _ _ e1).trans rfl, (cell_of_row _ _ _ _ _ _ e1).trans rfl, (cell_of_row _ _ _ _ _ _ e2).trans rfl, (cell_of_row _ _ _ _ _ _ e2).trans rfl⟩
  have HB : Hid (HpAt wb a0 a1 a2 a3 g0 g1 g2 g3 h) := HA.out.below BB.out (Nat.le_refl _)
  have HS := HSB.out
  clear hwb RH RV
  clear hA
  obtain ⟨z0, z1, z2, z3, y0, y1⟩ := HXB.out wb (Below.refl _ _)
  go_enter Tryd.func17, Tryd.ntmps17
  go_wp2_with fail
  rw [HWB.out]
  refine (spec_heap _ _ _ _ g0 g1 g2 g3 _ _ _ _ h wb HB.out).mono ?_
  rintro e w1 ⟨⟨b, rfl, hb⟩, b1⟩
  have HX1 : Hid (Below wb.heap.size wb w1) := b1
  clear z0 z1 z2 z3 y0 y1 HWB
  obtain ⟨z0, z1, z2, z3, y0, y1⟩ := HXB.out w1 b1
  clear b1
  cases b with
  | false =>
    have HN : Hid (ShowAns h d k n (.returned (.string ⟨#[]⟩))) := ⟨_, rfl, fun hr => absurd (hb.2 hr) (by simp), fun _ => rfl⟩
    clear hb
    go_wp2
    go_ret
    exact ⟨HN.out, BB.out.trans (HX1.out.mono (by omega))⟩
  | true =>
    have HR : Hid (HeapR h) := hb.1 rfl
    clear hb
    go_wp2_with fail
    refine (spec_val _ _ _ _ _ _ _ _ _ _ _ _ lb1 lb2 lb3 k n w1).mono ?_
    rintro e w2 ⟨rfl, b2⟩
    have HX2 : Hid (Below wb.heap.size wb w2) := HX1.out.trans (b2.mono HX1.out.size)
    clear z0 z1 z2 z3 y0 y1 b2
    obtain ⟨z0, z1, z2, z3, y0, y1⟩ := HXB.out w2 HX2.out
    cases hvk : valB h.clos.length h.twos.length h.refs.length k n with
    | false =>
      have HN : Hid (ShowAns h d k n (.returned (.string ⟨#[]⟩))) := ⟨_, rfl, fun _ hv => absurd hv (by rw [hvk]; simp), fun _ => rfl⟩
      clear hvk
      go_wp2
      go_ret
      exact ⟨HN.out, BB.out.trans (HX2.out.mono (by omega))⟩
    | true =>
      have HVK : Hid (valB h.clos.length h.twos.length h.refs.length k n = true) := hvk
      clear hvk
      go_wp2_with fail
      refine (hp_in _ _ _ _).mono ?_
      rintro e w3 ⟨rfl, hw3⟩
      subst hw3
      by_cases hd : 0 ≤ d ∧ d ≤ 8
      · obtain ⟨e', rfl⟩ : ∃ e' : Nat, d = (e' : Int) := ⟨d.toNat, by omega⟩
        have hle : e' ≤ 8 := by omega
        have HN : Hid (ShowAns h (e' : Int) k n (.returned (.string ⟨(shwL h e' k n).toArray⟩))) := ⟨_, rfl, fun _ _ _ _ => by rw [Int.toNat_natCast], fun hh => absurd ⟨HR.out, HVK.out, by omega, by omega⟩ hh⟩
        have hdb : (decide (0 ≤ (e' : Int)) && decide ((e' : Int) ≤ 8)) = true := by simp; omega
        rw [hdb]
        clear hdb
        go_wp2_with fail
        refine (spec_show e' _ _ _ _ g0 g1 g2 g3 _ _ _ _ h HR.out k n hle HVK.out _ (HB.out.below HX2.out (Nat.le_refl _))).mono ?_
        rintro e w4 ⟨rfl, b4⟩
        generalize shwL h e' k n = S at *
        have BB4 : Hid (Below w.heap.size w w4) := (BB.out.trans (HX2.out.mono (by omega))).trans (b4.mono (by have := HX2.out.size; omega))
        clear z0 z1 z2 z3 y0 y1 b4
        go_wp2
        go_ret
        exact ⟨HN.out, BB4.out⟩
      · have HN : Hid (ShowAns h d k n (.returned (.string ⟨#[]⟩))) := ⟨_, rfl, fun _ _ h0 h8 => absurd ⟨h0, h8⟩ hd, fun _ => rfl⟩
        have hdb : (decide (0 ≤ d) && decide (d ≤ 8)) = false := by simp; omega
        rw [hdb]
        clear hdb hd
        go_wp2
        go_ret
        exact ⟨HN.out, BB.out.trans (HX2.out.mono (by omega))⟩

end Go.Proofs.YthmfkbnfdheopaaDoor
