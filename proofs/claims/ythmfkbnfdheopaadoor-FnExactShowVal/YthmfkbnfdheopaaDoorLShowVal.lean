/-
  For every heap, every value and every depth: FnExactShowVal answers true, and its arguments read as before: ShowVal answers as the specification does, and writes into no argument. Condition: the library's tables lie as their texts lay them (the card's).
-/
import Derived.Test.YthmfkbnfdheopaaDoorLaidX
import Derived.ProofKit
import Derived.OpenShut
import Derived.ShutString
import Derived.ChangeOld
import Derived.Below
import Derived.Lib.QuietBelow
namespace Go.Proofs.YthmfkbnfdheopaaDoor.fnExactShowVal
open Go.ChangeShapes Go.WideShapes Go.ChangeAt Go.RowKit Go.Sort
set_option linter.unusedVariables false

theorem pow_rd {W : World} (h : laidMet Tryd.prog Rows.fnExactShowValRow.laid W) : PowIs W :=
  Lib.tabIs_of_head gPow gPowType Tryd.underlying120 Tryd.underlying113 cellsU cellsP h.tail.tail

theorem th_name : (Tryd.f18.name == "runtime.NumGoroutine") = false := by kernel_rfl
theorem th_body : Tryd.f18.body.isNone = false := by kernel_rfl
theorem tv_name : (Tryd.f19.name == "runtime.NumGoroutine") = false := by kernel_rfl
theorem tv_body : Tryd.f19.body.isNone = false := by kernel_rfl
theorem sv_name : (Tryd.f17.name == "runtime.NumGoroutine") = false := by kernel_rfl
theorem sv_body : Tryd.f17.body.isNone = false := by kernel_rfl
theorem eh_name : (Tryd.f20.name == "runtime.NumGoroutine") = false := by kernel_rfl
theorem eh_body : Tryd.f20.body.isNone = false := by kernel_rfl

set_option maxHeartbeats 40000000 in
set_option maxRecDepth 20000 in
theorem walk (a0 a1 a2 a3 : Option Addr) (c0 c1 c2 c3 g0 g1 g2 g3 o0 o1 o2 o3 : Nat) (h : Hq) (m0 : h.envs.length ≤ maxLen) (m1 : h.clos.length ≤ maxLen) (m2 : h.twos.length ≤ maxLen) (m3 : h.refs.length ≤ maxLen) (kk nn dd : Int) (w : World) (hA : AHp w a0 a1 a2 a3 g0 g1 g2 g3 o0 o1 o2 o3 h) (hp : PowIs w) :
    Calls Tryd.prog 4 #[.agg #[.slice a0 h.envs.length c0, .slice a1 h.clos.length c1, .slice a2 h.twos.length c2, .slice a3 h.refs.length c3], .agg #[.int .i64 kk, .int .i64 nn], .int .i64 dd] w fun e w' => e = .returned (.bool true) ∧ Below w.heap.size w w' := by
  have HPW : Hid (PowIs w) := hp
  clear hp
  have HA : Hid (AHp w a0 a1 a2 a3 g0 g1 g2 g3 o0 o1 o2 o3 h) := hA
  clear hA
  obtain ⟨wb, hwb⟩ : ∃ wb, (w.alloc (.cells #[.slice a0 h.envs.length c0, .slice a1 h.clos.length c1, .slice a2 h.twos.length c2, .slice a3 h.refs.length c3] 53)).alloc (.cells #[.int .i64 kk, .int .i64 nn] 54) = wb := ⟨_, rfl⟩
  have HWB : Hid ((w.alloc (.cells #[.slice a0 h.envs.length c0, .slice a1 h.clos.length c1, .slice a2 h.twos.length c2, .slice a3 h.refs.length c3] 53)).alloc (.cells #[.int .i64 kk, .int .i64 nn] 54) = wb) := hwb
  have BB : Hid (Below w.heap.size w wb) := by show Below w.heap.size w wb; rw [← hwb]; exact ((Below.refl _ w).alloc (Nat.le_refl _) _).alloc (by simp) _
  have HSB : Hid (wb.heap.size = w.heap.size + 2) := by show wb.heap.size = _; rw [← hwb]; simp
  have RH : Hid (wb.heap[w.heap.size]? = some (.cells #[.slice a0 h.envs.length c0, .slice a1 h.clos.length c1, .slice a2 h.twos.length c2, .slice a3 h.refs.length c3] 53 (0, 0))) := by show wb.heap[w.heap.size]? = _; rw [← hwb]; rw [Below.heap_alloc _ _ _ (by simp)]; exact (MapKept.heap_alloc w _).1
  have RV : Hid (wb.heap[w.heap.size + 1]? = some (.cells #[.int .i64 kk, .int .i64 nn] 54 (0, 0))) := by
    show wb.heap[w.heap.size + 1]? = _
    rw [← hwb]
    have := (MapKept.heap_alloc (w.alloc (.cells #[.slice a0 h.envs.length c0, .slice a1 h.clos.length c1, .slice a2 h.twos.length c2, .slice a3 h.refs.length c3] 53)) (.cells #[.int .i64 kk, .int .i64 nn] 54)).1
    simpa using this
  have HXB : Hid (∀ W : World, Below wb.heap.size wb W → W.cell? ⟨w.heap.size, 0, none⟩ = some (.slice a0 h.envs.length c0)
      ∧ W.cell? ⟨w.heap.size, 1, none⟩ = some (.slice a1 h.clos.length c1)
      ∧ W.cell? ⟨w.heap.size, 2, none⟩ = some (.slice a2 h.twos.length c2)
      ∧ W.cell? ⟨w.heap.size, 3, none⟩ = some (.slice a3 h.refs.length c3)
      ∧ W.cell? ⟨w.heap.size + 1, 0, none⟩ = some (.int .i64 kk)
      ∧ W.cell? ⟨w.heap.size + 1, 1, none⟩ = some (.int .i64 nn)) := fun W hh => ⟨(cell_of_row _ _ _ _ _ _ ((hh.block _ (by have := HSB.out; omega)).trans RH.out)).trans rfl, (cell_of_row _ _ _ _ _ _ ((hh.block _ (by have := HSB.out; omega)).trans RH.out)).trans rfl, (cell_of_row _ _ _ _ _ _ ((hh.block _ (by have := HSB.out; omega)).trans RH.out)).trans rfl, (cell_of_row _ _ _ _ _ _ ((hh.block _ (by have := HSB.out; omega)).trans RH.out)).trans rfl, (cell_of_row _ _ _ _ _ _ ((hh.block _ (by have := HSB.out; omega)).trans RV.out)).trans rfl, (cell_of_row _ _ _ _ _ _ ((hh.block _ (by have := HSB.out; omega)).trans RV.out)).trans rfl⟩
  clear hwb RH RV
  go_enter Tryd.func4, Tryd.ntmps4
  go_wp2_with fail
  rw [HWB.out]
  refine (hp_sz a0 a1 a2 a3 c0 c1 c2 c3 h m0 m1 m2 m3 _).mono ?_
  rintro e w1 ⟨⟨r, rfl, hr⟩, b1⟩
  have s1 := b1.size
  have B1 : Hid (Below w.heap.size w w1) := BB.out.trans (b1.mono (by have := HSB.out; omega))
  have X1 : Hid (Below wb.heap.size wb w1) := b1
  have HS := HSB.out
  clear HWB BB b1
  by_cases hneg : r < 0
  · clear hr
    go_wp2
    go_ret
    exact ⟨rfl, B1.out⟩
  · obtain ⟨l0, l1, l2, l3⟩ := hr (by omega)
    clear hr m0 m1 m2 m3
    have HTO : Hid (∀ W : World, Below w.heap.size w W → Calls Tryd.prog 18 #[.agg #[.slice a0 h.envs.length c0, .slice a1 h.clos.length c1, .slice a2 h.twos.length c2, .slice a3 h.refs.length c3]] W fun e w' => ∃ k0 k1 k2 k3, e = .returned (.agg #[.slice (some ⟨k0, 0, none⟩) h.envs.length h.envs.length, .slice (some ⟨k1, 0, none⟩) h.clos.length h.clos.length, .slice (some ⟨k2, 0, none⟩) h.twos.length h.twos.length, .slice (some ⟨k3, 0, none⟩) h.refs.length h.refs.length]) ∧ HpAt w' (some ⟨k0, 0, none⟩) (some ⟨k1, 0, none⟩) (some ⟨k2, 0, none⟩) (some ⟨k3, 0, none⟩) k0 k1 k2 k3 h ∧ Below W.heap.size W w') := fun W hW =>
      hp_to a0 a1 a2 a3 g0 g1 g2 g3 o0 o1 o2 o3 c0 c1 c2 c3 h l0 l1 l2 l3 W (HA.out.below hW (Nat.le_refl _))
    obtain ⟨p0, p1, p2, p3, k0, k1⟩ := HXB.out w1 X1.out
    go_wp2
    go_region_law (first
      | (refine step_call rfl 18 #[.tmp 16] #[53] rfl #[.agg #[.slice a0 h.envs.length c0, .slice a1 h.clos.length c1, .slice a2 h.twos.length c2, .slice a3 h.refs.length c3]] (by simp [Act.eval]) Tryd.func18 th_name th_body _ (HTO.out w1.drew B1.out.drew) ?_; rintro e wA ⟨q0, q1, q2, q3, rfl, hqA, bA⟩; have HWA : Hid (Below w1.heap.size w1 wA) := (Below.refl _ w1).drew.trans bA; have sA := HWA.out.size; obtain ⟨pA0, pA1, pA2, pA3, kA0, kA1⟩ := HXB.out wA (X1.out.trans (HWA.out.mono (by omega))); have GQA : Hid (HpAt wA (some ⟨q0, 0, none⟩) (some ⟨q1, 0, none⟩) (some ⟨q2, 0, none⟩) (some ⟨q3, 0, none⟩) q0 q1 q2 q3 h) := hqA; clear hqA bA; refine ⟨_, rfl, ?_⟩)
      | (refine step_call rfl 19 #[.tmp 18] #[54] rfl #[.agg #[.int .i64 kk, .int .i64 nn]] (by simp [Act.eval, Act.put]) Tryd.func19 tv_name tv_body _ (vl_to kk nn w1.drew) ?_; rintro e wB ⟨rfl, bB⟩; have HWB : Hid (Below w1.heap.size w1 wB) := (Below.refl _ w1).drew.trans bB; have sB := HWB.out.size; obtain ⟨pB0, pB1, pB2, pB3, kB0, kB1⟩ := HXB.out wB (X1.out.trans (HWB.out.mono (by omega))); have BBB : Hid (Below w.heap.size w wB) := B1.out.trans (HWB.out.mono (by omega)); clear bB; refine ⟨_, rfl, ?_⟩)
      | (refine step_call rfl 19 #[.tmp 18] #[54] rfl #[.agg #[.int .i64 kk, .int .i64 nn]] (by simp [Act.eval]) Tryd.func19 tv_name tv_body _ (vl_to kk nn wA) ?_; rintro e wC ⟨rfl, bC⟩; have sC := bC.size; have HWC : Hid (Below w1.heap.size w1 wC) := HWA.out.trans (bC.mono (by omega)); have GQC : Hid (HpAt wC (some ⟨q0, 0, none⟩) (some ⟨q1, 0, none⟩) (some ⟨q2, 0, none⟩) (some ⟨q3, 0, none⟩) q0 q1 q2 q3 h) := GQA.out.below bC (Nat.le_refl _); clear bC; refine ⟨_, rfl, ?_⟩)
      | (refine step_call rfl 18 #[.tmp 16] #[53] rfl #[.agg #[.slice a0 h.envs.length c0, .slice a1 h.clos.length c1, .slice a2 h.twos.length c2, .slice a3 h.refs.length c3]] (by simp [Act.eval, Act.put]) Tryd.func18 th_name th_body _ (HTO.out wB BBB.out) ?_; rintro e wC ⟨q0, q1, q2, q3, rfl, hqC, bC⟩; have sC := bC.size; have HWC : Hid (Below w1.heap.size w1 wC) := HWB.out.trans (bC.mono (by omega)); have GQC : Hid (HpAt wC (some ⟨q0, 0, none⟩) (some ⟨q1, 0, none⟩) (some ⟨q2, 0, none⟩) (some ⟨q3, 0, none⟩) q0 q1 q2 q3 h) := hqC; clear hqC bC; refine ⟨_, rfl, ?_⟩)
      | (refine step_call rfl 17 #[.tmp 17, .tmp 19, .tmp 20] #[29, 35, 3] rfl #[.agg #[.slice (some ⟨q0, 0, none⟩) h.envs.length h.envs.length, .slice (some ⟨q1, 0, none⟩) h.clos.length h.clos.length, .slice (some ⟨q2, 0, none⟩) h.twos.length h.twos.length, .slice (some ⟨q3, 0, none⟩) h.refs.length h.refs.length], .agg #[.int .i64 kk, .int .i64 nn], .int .i64 dd] (by simp [Act.eval]) Tryd.func17 sv_name sv_body _ (spec_showval _ _ _ _ q0 q1 q2 q3 _ _ _ _ h dd kk nn wC GQC.out) ?_; rintro e w3 ⟨⟨S, rfl, hs1, hs2⟩, b3⟩; have HN : Hid (ShowAns h dd kk nn (.returned (.string S))) := ⟨_, rfl, hs1, hs2⟩; have sx := b3.size; have X3 : Hid (Below w1.heap.size w1 w3) := HWC.out.trans (b3.mono (by omega)); clear b3 hs1 hs2; refine ⟨_, rfl, ?_⟩))
    all_goals
      clear p0 p1 p2 p3 k0 k1
      have Y3 : Hid (Below w.heap.size w w3) := B1.out.trans (X3.out.mono (by omega))
      have Z3 : Hid (Below wb.heap.size wb w3) := X1.out.trans (X3.out.mono (by omega))
      obtain ⟨p0, p1, p2, p3, k0, k1⟩ := HXB.out w3 Z3.out
      clear X3
      go_wp2_with fail
      refine (HTO.out w3 Y3.out).mono ?_
      rintro e w4 ⟨x0, x1, x2, x3, rfl, hx4, b4⟩
      have s4 := b4.size
      obtain ⟨w5, hw5⟩ : ∃ w5, w4.alloc (.cells #[.slice (some ⟨x0, 0, none⟩) h.envs.length h.envs.length, .slice (some ⟨x1, 0, none⟩) h.clos.length h.clos.length, .slice (some ⟨x2, 0, none⟩) h.twos.length h.twos.length, .slice (some ⟨x3, 0, none⟩) h.refs.length h.refs.length] 29) = w5 := ⟨_, rfl⟩
      have HW5 : Hid (w4.alloc (.cells #[.slice (some ⟨x0, 0, none⟩) h.envs.length h.envs.length, .slice (some ⟨x1, 0, none⟩) h.clos.length h.clos.length, .slice (some ⟨x2, 0, none⟩) h.twos.length h.twos.length, .slice (some ⟨x3, 0, none⟩) h.refs.length h.refs.length] 29) = w5) := hw5
      have b5 : Below w4.heap.size w4 w5 := by rw [← hw5]; exact (Below.refl _ w4).alloc (Nat.le_refl _) _
      have s5 : w5.heap.size = w4.heap.size + 1 := by rw [← hw5]; simp
      have RX5 : Hid (w5.heap[w4.heap.size]? = some (.cells #[.slice (some ⟨x0, 0, none⟩) h.envs.length h.envs.length, .slice (some ⟨x1, 0, none⟩) h.clos.length h.clos.length, .slice (some ⟨x2, 0, none⟩) h.twos.length h.twos.length, .slice (some ⟨x3, 0, none⟩) h.refs.length h.refs.length] 29 (0, 0))) := by show w5.heap[w4.heap.size]? = _; rw [← hw5]; exact (MapKept.heap_alloc w4 _).1
      have G5 : Hid (HpAt w5 (some ⟨x0, 0, none⟩) (some ⟨x1, 0, none⟩) (some ⟨x2, 0, none⟩) (some ⟨x3, 0, none⟩) x0 x1 x2 x3 h) := hx4.below b5 (Nat.le_refl _)
      have Z5 : Hid (Below wb.heap.size wb w5) := Z3.out.trans ((b4.mono (by have := Z3.out.size; omega)).trans (b5.mono (by have := Z3.out.size; omega)))
      have Y5 : Hid (Below w.heap.size w w5) := Y3.out.trans ((b4.mono (by have := Y3.out.size; omega)).trans (b5.mono (by have := Y3.out.size; omega)))
      have HXX : Hid (∀ W : World, Below w5.heap.size w5 W → W.cell? ⟨w4.heap.size, 0, none⟩ = some (.slice (some ⟨x0, 0, none⟩) h.envs.length h.envs.length) ∧ W.cell? ⟨w4.heap.size, 1, none⟩ = some (.slice (some ⟨x1, 0, none⟩) h.clos.length h.clos.length) ∧ W.cell? ⟨w4.heap.size, 2, none⟩ = some (.slice (some ⟨x2, 0, none⟩) h.twos.length h.twos.length) ∧ W.cell? ⟨w4.heap.size, 3, none⟩ = some (.slice (some ⟨x3, 0, none⟩) h.refs.length h.refs.length)) := fun W hh => ⟨(cell_of_row _ _ _ _ _ _ ((hh.block _ (by omega)).trans RX5.out)).trans rfl, (cell_of_row _ _ _ _ _ _ ((hh.block _ (by omega)).trans RX5.out)).trans rfl, (cell_of_row _ _ _ _ _ _ ((hh.block _ (by omega)).trans RX5.out)).trans rfl, (cell_of_row _ _ _ _ _ _ ((hh.block _ (by omega)).trans RX5.out)).trans rfl⟩
      clear p0 p1 p2 p3 k0 k1 hx4 b4 b5 Y3 Z3 hw5 RX5
      obtain ⟨p0, p1, p2, p3, k0, k1⟩ := HXB.out w5 Z5.out
      obtain ⟨y0, y1, y2, y3⟩ := HXX.out w5 (Below.refl _ _)
      go_wp2
      rw [HW5.out]
      have cD1 : ∀ d os, Calls Tryd.prog 19 #[.agg #[.int .i64 kk, .int .i64 nn]] (grow (redrawn w5 d) os) fun e w'' => e = .returned (.agg #[.int .i64 kk, .int .i64 nn]) ∧ ∃ q : Regrown, w'' = grow (redrawn w5 q.d) q.os := fun d os => Calls.regrown_of (vl_to kk nn _)
      have cD2 : ∀ d os, Calls Tryd.prog 12 #[.agg #[.slice (some ⟨x0, 0, none⟩) h.envs.length h.envs.length, .slice (some ⟨x1, 0, none⟩) h.clos.length h.clos.length, .slice (some ⟨x2, 0, none⟩) h.twos.length h.twos.length, .slice (some ⟨x3, 0, none⟩) h.refs.length h.refs.length], .agg #[.int .i64 kk, .int .i64 nn], .int .i64 dd] (grow (redrawn w5 d) os) fun e w'' => e = .returned (.string S) ∧ ∃ q : Regrown, w'' = grow (redrawn w5 q.d) q.os := fun d os => by
        refine Calls.regrown_of ((impl_showval _ _ _ _ x0 x1 x2 x3 _ _ _ _ h dd kk nn _ (G5.out.below (below_regrown w5 d os) (Nat.le_refl _)) (Pow.below HPW.out (Y5.out.trans ((below_regrown w5 d os).mono Y5.out.size)))).mono ?_)
        rintro e w' ⟨⟨S', rfl, h1, h2⟩, hb⟩
        rw [show_one HN.out ⟨S', rfl, h1, h2⟩]
        exact ⟨rfl, hb⟩
      have Dp0 := cell_regrown p0
      have Dp1 := cell_regrown p1
      have Dp2 := cell_regrown p2
      have Dp3 := cell_regrown p3
      have Dk0 := cell_regrown k0
      have Dk1 := cell_regrown k1
      have Dy0 := cell_regrown y0
      have Dy1 := cell_regrown y1
      have Dy2 := cell_regrown y2
      have Dy3 := cell_regrown y3
      refine wp_region_quiet_below (by kernel_rfl) (by kernel_rfl) ?_
      repeat (go_big_quiet_step (first | with_reducible exact cD1 _ _ | with_reducible exact cD2 _ _))
      refine wpQuiet_nil ?_
      intro _ hw'
      obtain ⟨⟨dq, osq⟩, hw''⟩ := hw'
      subst hw''
      have X7 : Hid (Below w5.heap.size w5 (grow (redrawn w5 dq) osq)) := below_regrown w5 dq osq
      clear cD1 cD2 Dp0 Dp1 Dp2 Dp3 Dk0 Dk1 Dy0 Dy1 Dy2 Dy3 p0 p1 p2 p3 k0 k1 y0 y1 y2 y3 HW5
      generalize grow (redrawn w5 dq) osq = w7 at *
      have Y7 : Hid (Below w.heap.size w w7) := Y5.out.trans (X7.out.mono (by have := Y5.out.size; omega))
      have Z7 : Hid (Below wb.heap.size wb w7) := Z5.out.trans (X7.out.mono (by have := Z5.out.size; omega))
      have G7 : Hid (HpAt w7 (some ⟨x0, 0, none⟩) (some ⟨x1, 0, none⟩) (some ⟨x2, 0, none⟩) (some ⟨x3, 0, none⟩) x0 x1 x2 x3 h) := G5.out.below X7.out (Nat.le_refl _)
      have s7 := X7.out.size
      obtain ⟨p0, p1, p2, p3, k0, k1⟩ := HXB.out w7 Z7.out
      obtain ⟨y0, y1, y2, y3⟩ := HXX.out w7 X7.out
      go_wp2
      go_region_law (first
        | (refine step_call rfl 18 #[.tmp 33] #[53] rfl #[.agg #[.slice a0 h.envs.length c0, .slice a1 h.clos.length c1, .slice a2 h.twos.length c2, .slice a3 h.refs.length c3]] (by simp [Act.eval]) Tryd.func18 th_name th_body _ (HTO.out w7.drew Y7.out.drew) ?_; rintro e w8 ⟨z0, z1, z2, z3, rfl, hz8, b8⟩; have b8' : Below w7.heap.size w7 w8 := (Below.refl _ w7).drew.trans b8; have s8 := b8'.size; have G8 : Hid (HpAt w8 (some ⟨x0, 0, none⟩) (some ⟨x1, 0, none⟩) (some ⟨x2, 0, none⟩) (some ⟨x3, 0, none⟩) x0 x1 x2 x3 h) := G7.out.below b8' (Nat.le_refl _); have X8 : Hid (Below w5.heap.size w5 w8) := X7.out.trans (b8'.mono s7); have Y8 : Hid (Below w.heap.size w w8) := Y7.out.trans (b8'.mono (by have := Y7.out.size; omega)); have J8 : Hid (HpAt w8 (some ⟨z0, 0, none⟩) (some ⟨z1, 0, none⟩) (some ⟨z2, 0, none⟩) (some ⟨z3, 0, none⟩) z0 z1 z2 z3 h) := hz8; clear hz8 b8 b8'; obtain ⟨pA0, pA1, pA2, pA3, kA0, kA1⟩ := HXB.out w8 (Z5.out.trans (X8.out.mono (by have := Z5.out.size; omega))); obtain ⟨yA0, yA1, yA2, yA3⟩ := HXX.out w8 X8.out; refine ⟨_, rfl, ?_⟩)
        | (refine step_call rfl 20 #[.tmp 32, .tmp 34] #[29, 29] rfl #[.agg #[.slice (some ⟨x0, 0, none⟩) h.envs.length h.envs.length, .slice (some ⟨x1, 0, none⟩) h.clos.length h.clos.length, .slice (some ⟨x2, 0, none⟩) h.twos.length h.twos.length, .slice (some ⟨x3, 0, none⟩) h.refs.length h.refs.length], .agg #[.slice (some ⟨z0, 0, none⟩) h.envs.length h.envs.length, .slice (some ⟨z1, 0, none⟩) h.clos.length h.clos.length, .slice (some ⟨z2, 0, none⟩) h.twos.length h.twos.length, .slice (some ⟨z3, 0, none⟩) h.refs.length h.refs.length]] (by simp [Act.eval]) Tryd.func20 eh_name eh_body _ (hp_eq _ _ _ _ _ _ _ _ x0 x1 x2 x3 z0 z1 z2 z3 _ _ _ _ _ _ _ _ h w8 G8.out J8.out) ?_; rintro e w9 ⟨rfl, b9⟩; have Y9 : Hid (Below w.heap.size w w9) := Y8.out.trans (b9.mono (by have := Y8.out.size; omega)); clear b9; refine ⟨_, rfl, ?_⟩))
      all_goals
        clear p0 p1 p2 p3 k0 k1 y0 y1 y2 y3
        go_wp2
        go_ret
        exact ⟨rfl, Y9.out⟩
      

set_option maxRecDepth 100000 in
theorem contract (H : Type) (enc : TypeId × Value → H) (W : World) (base : Nat) (args : Array Value) (ds gs : List (DataW H)) (before : List MemPlace)
    (hval : ∀ (j : Nat) t v, Tryd.f4.params[j]? = some t → args[j]? = some v → Value.okWide Tryd.prog W .any base t v)
    (hW : DataW.Whole enc Tryd.prog Tryd.f4.params.toList Rows.fnExactShowValSpec.vars false W args.toList ds gs before) (hL : laidMet Tryd.prog Rows.fnExactShowValRow.laid W) :
    Calls Tryd.prog 4 args W fun e W' => ∃ v, e = .returned v ∧ Rows.fnExactShowValSpec.post enc Tryd.prog Tryd.f4 false true false false W args v W' := by
  have hW' := hW
  obtain ⟨p, q, hA0, hV, rfl, hfz, hnd⟩ := hW
  have hA : DataW.TrodAll enc Tryd.prog W 0 (fun _ => true) true Tryd.f4.params.toList args.toList ds p := hA0
  rw [Tryd.params4] at hA hval
  obtain ⟨v0, vs0, d0, ds0, p0, q0, hargs, rfl, rfl, h0, r0⟩ := trodAll_cons hA
  obtain ⟨v1, vs1, d1, ds1, p1, q1, rfl, rfl, rfl, h1, r1⟩ := trodAll_cons r0
  obtain ⟨v2, vs2, d2, ds2, p2, q2, rfl, rfl, rfl, h2, r2⟩ := trodAll_cons r1
  obtain ⟨rfl, rfl, rfl⟩ := trodAll_nil r2
  obtain rfl : args = #[v0, v1, v2] := by cases args; simp_all
  obtain ⟨rfl, rfl⟩ := trodVars_none hV
  obtain ⟨cs0, rfl, hsz0⟩ := okWide_struct Tryd.underlying53 (hval 0 53 v0 rfl rfl)
  rw [hp_cells] at hsz0
  have k0 := h0
  have lt0 : ∀ x ∈ p0, x.block < W.heap.size := by obtain ⟨m, hm⟩ := k0; exact DataW.trod_lt m _ _ _ hm
  obtain ⟨fuel0, hf0⟩ := h0
  obtain ⟨a0, a1, a2, a3, c0, c1, c2, c3, g0, g1, g2, g3, o0, o1, o2, o3, h, hc0, m0, m1, m2, m3, hrow⟩ := hp_of_cells (cs := cs0.toList) (by simpa using hsz0) (by simpa [Value.cells] using hf0)
  obtain rfl : cs0 = ([.slice a0 h.envs.length c0, .slice a1 h.clos.length c1, .slice a2 h.twos.length c2, .slice a3 h.refs.length c3] : List Value).toArray := by rw [← hc0]
  obtain ⟨cs1, rfl, hsz1⟩ := okWide_struct Tryd.underlying54 (hval 1 54 v1 rfl rfl)
  rw [vl_cells] at hsz1
  have k1 := h1
  have lt1 : ∀ x ∈ p1, x.block < W.heap.size := by obtain ⟨m, hm⟩ := k1; exact DataW.trod_lt m _ _ _ hm
  obtain ⟨fuel1, hf1⟩ := h1
  obtain ⟨⟨kk, nn⟩, hc1⟩ := vl_of_cells (cs := cs1.toList) (by simpa using hsz1) (by simpa [Value.cells] using hf1)
  obtain rfl : cs1 = (vlCells ⟨kk, nn⟩).toArray := by rw [← hc1]
  obtain ⟨dd, rfl, rfl, rfl, w2⟩ := open_int Tryd.underlying3 (hval 2 3 v2 rfl rfl) h2
  clear hA0
  simp only [List.append_nil] at hW'
  refine (walk a0 a1 a2 a3 c0 c1 c2 c3 g0 g1 g2 g3 o0 o1 o2 o3 h m0 m1 m2 m3 kk nn dd W hrow (pow_rd hL)).mono fun e W' ⟨he, bel⟩ => ?_
  subst he
  exact ⟨_, rfl, _, _, _, [], _, [], hW', trodAll_mk1 (shut_bool Tryd.underlying4 _), (trodAll_cons_mk (Below.trod laidOut (by kernel_rfl) (of_decide_eq_true (by kernel_rfl)) k0 bel lt0) (trodAll_cons_mk (Below.trod laidOut (by kernel_rfl) (of_decide_eq_true (by kernel_rfl)) k1 bel lt1) (trodAll_cons_mk (shut_int Tryd.underlying3 w2) trodAll_mk0))), rfl, bel.frame _, fun h => by cases h⟩

theorem laid_met (os : Os) : laidMet Tryd.prog Rows.fnExactShowValRow.laid ((laidOf Tryd.prog os).forCall (fun _ _ => 0) ⟨#[], #[.agg #[.slice none 0 0, .slice none 0 0, .slice none 0 0, .slice none 0 0], .agg #[.int .i64 0, .int .i64 0], .int .i64 0], []⟩).memory :=
  laidMet_of_run' 8 (by kernel_rfl) (by kernel_rfl)
theorem reads (os : Os) {H : Type} (enc : TypeId × Value → H) : ∃ places, DataW.whole enc Tryd.prog ((laidOf Tryd.prog os).forCall (fun _ _ => 0) ⟨#[], #[.agg #[.slice none 0 0, .slice none 0 0, .slice none 0 0, .slice none 0 0], .agg #[.int .i64 0, .int .i64 0], .int .i64 0], []⟩).memory Tryd.f4.params.toList Rows.fnExactShowValSpec.vars false (#[.agg #[.slice none 0 0, .slice none 0 0, .slice none 0 0, .slice none 0 0], .agg #[.int .i64 0, .int .i64 0], .int .i64 0] : Array Value).toList 8 = some ([.agg [.nil, .nil, .nil, .nil], .agg [.lit (.int .i64 0), .lit (.int .i64 0)], .lit (.int .i64 0)], [], places) :=
  ⟨[], by kernel_rfl⟩

set_option maxRecDepth 100000 in
theorem lifted (os : Os) (started : os.Started) (H : Type) (enc : TypeId × Value → H) (F : Stop.Interp) :
    ReturnsInHanded {} Tryd.checked os 4 .any ((OpenSpec.ofChange Rows.fnExactShowValSpec).preRow enc Tryd.prog Tryd.f4 Rows.fnExactShowValRow.domain false Rows.fnExactShowValRow.laid) (((OpenSpec.ofChange Rows.fnExactShowValSpec).at F).post enc Tryd.prog Tryd.f4 false true false false) := by
  obtain ⟨places, hx⟩ := reads os enc
  refine returnsInHanded_of_row (C := Tryd.checked) (s := OpenSpec.ofChange Rows.fnExactShowValSpec) own started (by kernel_rfl) Tryd.func4
    (witness_row_at (enc := enc) (C := Tryd.checked) false (laidOf Tryd.prog os) #[.agg #[.slice none 0 0, .slice none 0 0, .slice none 0 0, .slice none 0 0], .agg #[.int .i64 0, .int .i64 0], .int .i64 0] rfl (by kernel_rfl) (by kernel_rfl) (by kernel_rfl)
      (OpenSpec.preRow_of_cond 8 hx (by kernel_rfl) (fun k hk => by cases hk) (by kernel_rfl) (laid_met os))) ?_
  intro W base args ds gs before hval hW _ _ _ hL _ _
  exact contract H enc W base args ds gs before hval hW hL

theorem said : Rows.FnExactShowValSaid :=
  OpenClaim.holds_of_cond 4 Tryd.f4 rfl rfl rfl rfl rfl rfl rfl ⟨rfl, rfl, rfl, rfl, rfl⟩ rfl rfl rfl rfl rfl (by kernel_rfl) Tryd.func4 (by kernel_rfl)
    (of_decide_eq_true (by kernel_rfl)) (by unfold Func.isWrapper; first | (rw [if_pos (by decide +kernel)]; kernel_rfl) | (rw [if_neg (by decide +kernel)]; exact ⟨rfl, rfl⟩))
    (fun os started H enc _ F => by rw [OpenClaim.pre_eq_preRow]; exact lifted os started H enc F)

theorem plain (f : FuncId) (fn : Func) (hf : Tryd.pinned.checked.prog.funcNamed Rows.fnExactShowValRow.func = some f) (hfn : Tryd.pinned.checked.prog.funcs[f]? = some fn) :
    false = Tryd.pinned.checked.prog.looks [] ∧ ∀ (j : Nat) t, fn.params[j]? = some t → Tryd.pinned.checked.prog.wantsStandIn t = false := by
  obtain rfl : f = 4 := Option.some.inj ((show Tryd.prog.funcNamed Rows.fnExactShowValRow.func = some 4 by kernel_rfl).symm.trans hf) |>.symm
  obtain rfl : fn = Tryd.f4 := (Option.some.inj (Tryd.func4.symm.trans hfn)).symm
  refine ⟨by kernel_rfl, fun j t ht => ?_⟩
  rw [Tryd.params4] at ht
  have hm := Array.mem_of_getElem? ht
  simp only [List.mem_toArray, List.mem_cons, List.not_mem_nil, or_false] at hm
  rcases hm with rfl | rfl | rfl
  · exact (show Tryd.prog.wantsStandIn 53 = false by kernel_rfl)
  · exact (show Tryd.prog.wantsStandIn 54 = false by kernel_rfl)
  · exact (show Tryd.prog.wantsStandIn 3 = false by kernel_rfl)

theorem proved : Rows.FnExactShowValCardSaid :=
  Claim7.holds_tied_plain_at .later [] _ _ _ _ said (fun _ h => by cases h) (by kernel_rfl) (fun _ h => by cases h) fnExactShowVal_row_tie rfl ⟨rfl, rfl⟩ (by kernel_rfl) rfl plain (by kernel_rfl)
#print axioms proved
end Go.Proofs.YthmfkbnfdheopaaDoor.fnExactShowVal

namespace Go.Proofs.YthmfkbnfdheopaaDoor
theorem fnExactShowVal_holds : Rows.FnExactShowValCardSaid := fnExactShowVal.proved
#print axioms fnExactShowVal_holds
end Go.Proofs.YthmfkbnfdheopaaDoor
