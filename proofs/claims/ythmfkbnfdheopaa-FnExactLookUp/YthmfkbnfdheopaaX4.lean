/-
  Values: what makes a heap right; HeapOk of the specification. Conditions: written at each theorem.
-/
import Derived.Test.YthmfkbnfdheopaaX2
import Derived.Lib.QuietBelow
namespace Go.Proofs.Ythmfkbnfdheopaa
open Go.ChangeShapes Go.WideShapes Go.ChangeAt Go.RowKit Go.Sort
set_option linter.unusedVariables false

def EnvR (h : Hq) (i : Nat) : Prop := -1 ≤ (h.envs.getD i noCel).next ∧ (h.envs.getD i noCel).next ≤ (i : Int) - 1 ∧ valB h.clos.length h.twos.length h.refs.length (h.envs.getD i noCel).vk (h.envs.getD i noCel).vn = true
def CloR (h : Hq) (i : Nat) : Prop := -1 ≤ (h.clos.getD i noClq).env ∧ (h.clos.getD i noClq).env ≤ (h.envs.length : Int) - 1
def TwoR (h : Hq) (i : Nat) : Prop := valB h.clos.length h.twos.length h.refs.length (h.twos.getD i noTw).ak (h.twos.getD i noTw).an = true ∧ valB h.clos.length h.twos.length h.refs.length (h.twos.getD i noTw).bk (h.twos.getD i noTw).bn = true
def RefR (h : Hq) (i : Nat) : Prop := valB h.clos.length h.twos.length h.refs.length (h.refs.getD i noVl).kind (h.refs.getD i noVl).n = true

/-- A heap that is right. -/
structure HeapR (h : Hq) : Prop where
  env : ∀ i, i < h.envs.length → EnvR h i
  clo : ∀ i, i < h.clos.length → CloR h i
  two : ∀ i, i < h.twos.length → TwoR h i
  ref : ∀ i, i < h.refs.length → RefR h i

/-- What HeapOk answers. -/
def HeapAns (h : Hq) (e : Ending) : Prop := ∃ b, e = .returned (.bool b) ∧ (b = true ↔ HeapR h)

theorem all_step {P : Nat → Prop} {k : Nat} (h : ∀ j, j < k → P j) (hk : P k) : ∀ j, j < k + 1 → P j := fun j hj => by
  rcases Nat.lt_or_ge j k with hl | hl
  · exact h j hl
  · obtain rfl : j = k := by omega
    exact hk

theorem in_regrown {w : World} (n lo hi : Int) (d : Nat) (os : Array Obj) : Calls Try.prog 22 #[.int .i64 n, .int .i64 lo, .int .i64 hi] (grow (redrawn w d) os) fun e w'' => e = .returned (.bool (decide (lo ≤ n) && decide (n ≤ hi))) ∧ ∃ q : Regrown, w'' = grow (redrawn w q.d) q.os :=
  (hp_in n lo hi _).mono fun e w' ⟨h1, h2⟩ => ⟨h1, ⟨⟨d, os⟩, h2⟩⟩

set_option maxHeartbeats 2000000 in
set_option maxRecDepth 20000 in
theorem spec_heap (a0 a1 a2 a3 : Option Addr) (g0 g1 g2 g3 c0 c1 c2 c3 : Nat) (h : Hq) (w : World) (hA : HpAt w a0 a1 a2 a3 g0 g1 g2 g3 h) :
    Calls Try.prog 7 #[.agg #[.slice a0 h.envs.length c0, .slice a1 h.clos.length c1, .slice a2 h.twos.length c2, .slice a3 h.refs.length c3]] w fun e w' => HeapAns h e ∧ Below w.heap.size w w' := by
  have HA : Hid (HpAt w a0 a1 a2 a3 g0 g1 g2 g3 h) := hA
  obtain ⟨wb, hwb⟩ : ∃ wb, w.alloc (.cells #[.slice a0 h.envs.length c0, .slice a1 h.clos.length c1, .slice a2 h.twos.length c2, .slice a3 h.refs.length c3] 35) = wb := ⟨_, rfl⟩
  have HWB : Hid (w.alloc (.cells #[.slice a0 h.envs.length c0, .slice a1 h.clos.length c1, .slice a2 h.twos.length c2, .slice a3 h.refs.length c3] 35) = wb) := hwb
  have BB : Hid (Below w.heap.size w wb) := by show Below w.heap.size w wb; rw [← hwb]; exact (Below.refl _ w).alloc (Nat.le_refl _) _
  have HSB : Hid (wb.heap.size = w.heap.size + 1) := by show wb.heap.size = _; rw [← hwb]; simp
  have RH : Hid (wb.heap[w.heap.size]? = some (.cells #[.slice a0 h.envs.length c0, .slice a1 h.clos.length c1, .slice a2 h.twos.length c2, .slice a3 h.refs.length c3] 35 (0, 0))) := by show wb.heap[w.heap.size]? = _; rw [← hwb]; exact (MapKept.heap_alloc w _).1
  have HXB : Hid (∀ W : World, Below wb.heap.size wb W → W.cell? ⟨w.heap.size, 0, none⟩ = some (.slice a0 h.envs.length c0) ∧ W.cell? ⟨w.heap.size, 1, none⟩ = some (.slice a1 h.clos.length c1) ∧ W.cell? ⟨w.heap.size, 2, none⟩ = some (.slice a2 h.twos.length c2) ∧ W.cell? ⟨w.heap.size, 3, none⟩ = some (.slice a3 h.refs.length c3)) := fun W hh => ⟨(cell_of_row _ _ _ _ _ _ ((hh.block _ (by have := HSB.out; omega)).trans RH.out)).trans rfl, (cell_of_row _ _ _ _ _ _ ((hh.block _ (by have := HSB.out; omega)).trans RH.out)).trans rfl, (cell_of_row _ _ _ _ _ _ ((hh.block _ (by have := HSB.out; omega)).trans RH.out)).trans rfl, (cell_of_row _ _ _ _ _ _ ((hh.block _ (by have := HSB.out; omega)).trans RH.out)).trans rfl⟩
  have HB : Hid (HpAt wb a0 a1 a2 a3 g0 g1 g2 g3 h) := HA.out.below BB.out (Nat.le_refl _)
  have HV : Hid (∀ (k n : Int) (W : World), Calls Try.prog 11 #[.agg #[.slice a0 h.envs.length c0, .slice a1 h.clos.length c1, .slice a2 h.twos.length c2, .slice a3 h.refs.length c3], .agg #[.int .i64 k, .int .i64 n]] W fun e w' => e = .returned (.bool (valB h.clos.length h.twos.length h.refs.length k n)) ∧ Below W.heap.size W w') := fun k n W => spec_val _ _ _ _ _ _ _ _ _ _ _ _ HA.out.l1 HA.out.l2 HA.out.l3 k n W
  have lb0 : h.envs.length ≤ 1048576 := HA.out.l0
  have lb1 : h.clos.length ≤ 1048576 := HA.out.l1
  have lb2 : h.twos.length ≤ 1048576 := HA.out.l2
  have lb3 : h.refs.length ≤ 1048576 := HA.out.l3
  have HS := HSB.out
  clear hwb RH hA
  go_enter Try.func7, Try.ntmps7
  go_wp2
  rw [HWB.out]
  clear HWB
  go_loopw [3] (fun q wr => ∃ k : Nat, k ≤ h.envs.length ∧ q = .int .i64 k ∧ Hid (∀ j, j < k → EnvR h j) ∧ Below wb.heap.size wb wr) (fun q _ => h.envs.length - (intOf q).toNat)
  case atStart => exact ⟨0, by omega, rfl, fun j hj => absurd hj (by omega), Below.refl _ _⟩
  case round =>
    obtain ⟨k, hk, rfl, HP0, hbl⟩ := hrel
    have hsize := hbl.size
    obtain ⟨z0, z1, z2, z3⟩ := HXB.out wr hbl
    by_cases hin : k < h.envs.length
    · have e1 : (k : Int) < h.envs.length := by omega
      obtain rfl := HA.out.e0 (by omega)
      have t := ((HB.out.below hbl (Nat.le_refl _)).r0) k hin
      obtain ⟨⟨x0, x1, x2, x3, x4⟩, hx⟩ : ∃ y, h.envs.getD k noCel = y := ⟨_, rfl⟩
      rw [hx] at t
      have q0 : wr.cell? ⟨g0, k * 5, none⟩ = some (.int .i64 x0) := t.c0
      have q1 : wr.cell? ⟨g0, k * 5 + 1, none⟩ = some (.int .i64 x1) := t.c1
      have q2 : wr.cell? ⟨g0, k * 5 + 2, none⟩ = some (.int .i64 x2) := t.c2
      have q3 : wr.cell? ⟨g0, k * 5 + 3, none⟩ = some (.int .i64 x3) := t.c3
      have q4 : wr.cell? ⟨g0, k * 5 + 4, none⟩ = some (.int .i64 x4) := t.c4
      have HPK : Hid (EnvR h k ↔ (-1 ≤ x4 ∧ x4 ≤ (k : Int) - 1 ∧ valB h.clos.length h.twos.length h.refs.length (x2) (x3) = true)) := by show EnvR h k ↔ _; unfold EnvR; rw [hx]
      clear t hx
      have dz0 := cell_regrown z0
      have dz1 := cell_regrown z1
      have dz2 := cell_regrown z2
      have dz3 := cell_regrown z3
      have dq0 := cell_regrown q0
      have dq1 := cell_regrown q1
      have dq2 := cell_regrown q2
      have dq3 := cell_regrown q3
      have dq4 := cell_regrown q4
      by_cases hn : -1 ≤ x4 ∧ x4 ≤ (k : Int) - 1
      · by_cases hv : valB h.clos.length h.twos.length h.refs.length (x2) (x3) = true
        · have cD1 : ∀ d os, Calls Try.prog 22 #[.int .i64 x4, .int .i64 (-1), .int .i64 ((k : Int) - 1)] (grow (redrawn wr d) os) fun e w'' => e = .returned (.bool true) ∧ ∃ q : Regrown, w'' = grow (redrawn wr q.d) q.os := fun d os => by
            have hh := in_regrown (w := wr) (x4) (-1) ((k : Int) - 1) d os
            rw [show (decide ((-1 : Int) ≤ x4) && decide (x4 ≤ (k : Int) - 1)) = true by simp; omega] at hh
            exact hh
          have cD2 : ∀ d os, Calls Try.prog 11 #[.agg #[.slice (some ⟨g0, 0, none⟩) h.envs.length c0, .slice a1 h.clos.length c1, .slice a2 h.twos.length c2, .slice a3 h.refs.length c3], .agg #[.int .i64 x2, .int .i64 x3]] (grow (redrawn wr d) os) fun e w'' => e = .returned (.bool true) ∧ ∃ q : Regrown, w'' = grow (redrawn wr q.d) q.os := fun d os => by
            have hh := Calls.regrown_of (HV.out (x2) (x3) (grow (redrawn wr d) os))
            rw [hv] at hh
            exact hh
          go_wp2
          refine wp_region_quiet_below (by kernel_rfl) (by kernel_rfl) ?_
          repeat (go_big_quiet_step (first | with_reducible exact cD1 _ _ | with_reducible exact cD2 _ _))
          refine wpQuiet_nil ?_
          intro _ hw'
          obtain ⟨⟨dq, osq⟩, hw''⟩ := hw'
          subst hw''
          have HQ : Hid (Below wb.heap.size wb (grow (redrawn wr dq) osq)) := hbl.trans ((below_regrown wr dq osq).mono hsize)
          clear cD1 cD2 dz0 dz1 dz2 dz3 dq0 dq1 dq2 dq3 dq4
          go_wp2
          go_roundw
          case rel => exact ⟨k + 1, by omega, by go_num, all_step HP0.out (HPK.out.2 ⟨hn.1, hn.2, hv⟩), HQ.out⟩
          case measure => simp [intOf]; omega
        · have hvf : valB h.clos.length h.twos.length h.refs.length x2 x3 = false := by simpa using hv
          have cD1 : ∀ d os, Calls Try.prog 22 #[.int .i64 x4, .int .i64 (-1), .int .i64 ((k : Int) - 1)] (grow (redrawn wr d) os) fun e w'' => e = .returned (.bool true) ∧ ∃ q : Regrown, w'' = grow (redrawn wr q.d) q.os := fun d os => by
            have hh := in_regrown (w := wr) (x4) (-1) ((k : Int) - 1) d os
            rw [show (decide ((-1 : Int) ≤ x4) && decide (x4 ≤ (k : Int) - 1)) = true by simp; omega] at hh
            exact hh
          have cD2 : ∀ d os, Calls Try.prog 11 #[.agg #[.slice (some ⟨g0, 0, none⟩) h.envs.length c0, .slice a1 h.clos.length c1, .slice a2 h.twos.length c2, .slice a3 h.refs.length c3], .agg #[.int .i64 x2, .int .i64 x3]] (grow (redrawn wr d) os) fun e w'' => e = .returned (.bool false) ∧ ∃ q : Regrown, w'' = grow (redrawn wr q.d) q.os := fun d os => by
            have hh := Calls.regrown_of (HV.out (x2) (x3) (grow (redrawn wr d) os))
            rw [hvf] at hh
            exact hh
          go_wp2
          refine wp_region_quiet_below (by kernel_rfl) (by kernel_rfl) ?_
          repeat (go_big_quiet_step (first | with_reducible exact cD1 _ _ | with_reducible exact cD2 _ _))
          refine wpQuiet_nil ?_
          intro _ hw'
          obtain ⟨⟨dq, osq⟩, hw''⟩ := hw'
          subst hw''
          have HQ : Hid (Below wb.heap.size wb (grow (redrawn wr dq) osq)) := hbl.trans ((below_regrown wr dq osq).mono hsize)
          clear cD1 cD2 dz0 dz1 dz2 dz3 dq0 dq1 dq2 dq3 dq4
          go_wp2
          go_ret
          exact ⟨⟨false, rfl, by simp; intro hr; exact (fun hh => hv hh.2.2) (HPK.out.1 (hr.env k hin))⟩, BB.out.trans (HQ.out.mono (by omega))⟩
      · have cD0 := True.intro
        have cD1 : ∀ d os, Calls Try.prog 22 #[.int .i64 x4, .int .i64 (-1), .int .i64 ((k : Int) - 1)] (grow (redrawn wr d) os) fun e w'' => e = .returned (.bool false) ∧ ∃ q : Regrown, w'' = grow (redrawn wr q.d) q.os := fun d os => by
          have hh := in_regrown (w := wr) (x4) (-1) ((k : Int) - 1) d os
          rw [show (decide ((-1 : Int) ≤ x4) && decide (x4 ≤ (k : Int) - 1)) = false by simp; omega] at hh
          exact hh
        go_wp2
        refine wp_region_quiet_below (by kernel_rfl) (by kernel_rfl) ?_
        repeat (go_big_quiet_step (first | with_reducible exact cD1 _ _))
        refine wpQuiet_nil ?_
        intro _ hw'
        obtain ⟨⟨dq, osq⟩, hw''⟩ := hw'
        subst hw''
        have HQ : Hid (Below wb.heap.size wb (grow (redrawn wr dq) osq)) := hbl.trans ((below_regrown wr dq osq).mono hsize)
        clear cD1 dz0 dz1 dz2 dz3 dq0 dq1 dq2 dq3 dq4
        go_wp2
        go_ret
        exact ⟨⟨false, rfl, by simp; intro hr; exact (fun hh => hn ⟨hh.1, hh.2.1⟩) (HPK.out.1 (hr.env k hin))⟩, BB.out.trans (HQ.out.mono (by omega))⟩
    · obtain rfl : k = h.envs.length := by omega
      go_wp2
      go_loopw [4] (fun q wr => ∃ k : Nat, k ≤ h.clos.length ∧ q = .int .i64 k ∧ Hid (∀ j, j < k → CloR h j) ∧ Below wb.heap.size wb wr) (fun q _ => h.clos.length - (intOf q).toNat)
      case atStart => exact ⟨0, by omega, rfl, fun j hj => absurd hj (by omega), hbl⟩
      case round =>
        clear hbl z0 z1 z2 z3
        obtain ⟨k, hk, rfl, HP1, hbl⟩ := hrel
        have hsize := hbl.size
        obtain ⟨z0, z1, z2, z3⟩ := HXB.out wr hbl
        by_cases hin : k < h.clos.length
        · have e1 : (k : Int) < h.clos.length := by omega
          obtain rfl := HA.out.e1 (by omega)
          have t := ((HB.out.below hbl (Nat.le_refl _)).r1) k hin
          obtain ⟨⟨x0, x1⟩, hx⟩ : ∃ y, h.clos.getD k noClq = y := ⟨_, rfl⟩
          rw [hx] at t
          have q0 : wr.cell? ⟨g1, k * 2, none⟩ = some (.int .i64 x0) := t.c0
          have q1 : wr.cell? ⟨g1, k * 2 + 1, none⟩ = some (.int .i64 x1) := t.c1
          have HPK : Hid (CloR h k ↔ (-1 ≤ x1 ∧ x1 ≤ (h.envs.length : Int) - 1)) := by show CloR h k ↔ _; unfold CloR; rw [hx]
          clear t hx
          have dz0 := cell_regrown z0
          have dz1 := cell_regrown z1
          have dz2 := cell_regrown z2
          have dz3 := cell_regrown z3
          have dq0 := cell_regrown q0
          have dq1 := cell_regrown q1
          by_cases hn : -1 ≤ x1 ∧ x1 ≤ (h.envs.length : Int) - 1
          · have cD0 := True.intro
            have cD1 : ∀ d os, Calls Try.prog 22 #[.int .i64 x1, .int .i64 (-1), .int .i64 ((h.envs.length : Int) - 1)] (grow (redrawn wr d) os) fun e w'' => e = .returned (.bool true) ∧ ∃ q : Regrown, w'' = grow (redrawn wr q.d) q.os := fun d os => by
              have hh := in_regrown (w := wr) (x1) (-1) ((h.envs.length : Int) - 1) d os
              rw [show (decide ((-1 : Int) ≤ x1) && decide (x1 ≤ (h.envs.length : Int) - 1)) = true by simp; omega] at hh
              exact hh
            go_wp2
            refine wp_region_quiet_below (by kernel_rfl) (by kernel_rfl) ?_
            repeat (go_big_quiet_step (first | with_reducible exact cD1 _ _))
            refine wpQuiet_nil ?_
            intro _ hw'
            obtain ⟨⟨dq, osq⟩, hw''⟩ := hw'
            subst hw''
            have HQ : Hid (Below wb.heap.size wb (grow (redrawn wr dq) osq)) := hbl.trans ((below_regrown wr dq osq).mono hsize)
            clear cD1 dz0 dz1 dz2 dz3 dq0 dq1
            go_wp2
            go_roundw
            case rel => exact ⟨k + 1, by omega, by go_num, all_step HP1.out (HPK.out.2 hn), HQ.out⟩
            case measure => simp [intOf]; omega
          · have cD0 := True.intro
            have cD1 : ∀ d os, Calls Try.prog 22 #[.int .i64 x1, .int .i64 (-1), .int .i64 ((h.envs.length : Int) - 1)] (grow (redrawn wr d) os) fun e w'' => e = .returned (.bool false) ∧ ∃ q : Regrown, w'' = grow (redrawn wr q.d) q.os := fun d os => by
              have hh := in_regrown (w := wr) (x1) (-1) ((h.envs.length : Int) - 1) d os
              rw [show (decide ((-1 : Int) ≤ x1) && decide (x1 ≤ (h.envs.length : Int) - 1)) = false by simp; omega] at hh
              exact hh
            go_wp2
            refine wp_region_quiet_below (by kernel_rfl) (by kernel_rfl) ?_
            repeat (go_big_quiet_step (first | with_reducible exact cD1 _ _))
            refine wpQuiet_nil ?_
            intro _ hw'
            obtain ⟨⟨dq, osq⟩, hw''⟩ := hw'
            subst hw''
            have HQ : Hid (Below wb.heap.size wb (grow (redrawn wr dq) osq)) := hbl.trans ((below_regrown wr dq osq).mono hsize)
            clear cD1 dz0 dz1 dz2 dz3 dq0 dq1
            go_wp2
            go_ret
            exact ⟨⟨false, rfl, by simp; intro hr; exact hn (HPK.out.1 (hr.clo k hin))⟩, BB.out.trans (HQ.out.mono (by omega))⟩
        · obtain rfl : k = h.clos.length := by omega
          go_wp2
          go_loopw [5] (fun q wr => ∃ k : Nat, k ≤ h.twos.length ∧ q = .int .i64 k ∧ Hid (∀ j, j < k → TwoR h j) ∧ Below wb.heap.size wb wr) (fun q _ => h.twos.length - (intOf q).toNat)
          case atStart => exact ⟨0, by omega, rfl, fun j hj => absurd hj (by omega), hbl⟩
          case round =>
            clear hbl z0 z1 z2 z3
            obtain ⟨k, hk, rfl, HP2, hbl⟩ := hrel
            have hsize := hbl.size
            obtain ⟨z0, z1, z2, z3⟩ := HXB.out wr hbl
            by_cases hin : k < h.twos.length
            · have e1 : (k : Int) < h.twos.length := by omega
              obtain rfl := HA.out.e2 (by omega)
              have t := ((HB.out.below hbl (Nat.le_refl _)).r2) k hin
              obtain ⟨⟨x0, x1, x2, x3⟩, hx⟩ : ∃ y, h.twos.getD k noTw = y := ⟨_, rfl⟩
              rw [hx] at t
              have q0 : wr.cell? ⟨g2, k * 4, none⟩ = some (.int .i64 x0) := t.c0
              have q1 : wr.cell? ⟨g2, k * 4 + 1, none⟩ = some (.int .i64 x1) := t.c1
              have q2 : wr.cell? ⟨g2, k * 4 + 2, none⟩ = some (.int .i64 x2) := t.c2
              have q3 : wr.cell? ⟨g2, k * 4 + 3, none⟩ = some (.int .i64 x3) := t.c3
              have HPK : Hid (TwoR h k ↔ (valB h.clos.length h.twos.length h.refs.length (x0) (x1) = true ∧ valB h.clos.length h.twos.length h.refs.length (x2) (x3) = true)) := by show TwoR h k ↔ _; unfold TwoR; rw [hx]
              clear t hx
              have dz0 := cell_regrown z0
              have dz1 := cell_regrown z1
              have dz2 := cell_regrown z2
              have dz3 := cell_regrown z3
              have dq0 := cell_regrown q0
              have dq1 := cell_regrown q1
              have dq2 := cell_regrown q2
              have dq3 := cell_regrown q3
              by_cases hv : valB h.clos.length h.twos.length h.refs.length (x0) (x1) = true
              · by_cases hu : valB h.clos.length h.twos.length h.refs.length (x2) (x3) = true
                · have cD0 := True.intro
                  have cD1 : ∀ d os, Calls Try.prog 11 #[.agg #[.slice a0 h.envs.length c0, .slice a1 h.clos.length c1, .slice (some ⟨g2, 0, none⟩) h.twos.length c2, .slice a3 h.refs.length c3], .agg #[.int .i64 x0, .int .i64 x1]] (grow (redrawn wr d) os) fun e w'' => e = .returned (.bool true) ∧ ∃ q : Regrown, w'' = grow (redrawn wr q.d) q.os := fun d os => by
                    have hh := Calls.regrown_of (HV.out (x0) (x1) (grow (redrawn wr d) os))
                    rw [hv] at hh
                    exact hh
                  have cD2 : ∀ d os, Calls Try.prog 11 #[.agg #[.slice a0 h.envs.length c0, .slice a1 h.clos.length c1, .slice (some ⟨g2, 0, none⟩) h.twos.length c2, .slice a3 h.refs.length c3], .agg #[.int .i64 x2, .int .i64 x3]] (grow (redrawn wr d) os) fun e w'' => e = .returned (.bool true) ∧ ∃ q : Regrown, w'' = grow (redrawn wr q.d) q.os := fun d os => by
                    have hh := Calls.regrown_of (HV.out (x2) (x3) (grow (redrawn wr d) os))
                    rw [hu] at hh
                    exact hh
                  go_wp2
                  refine wp_region_quiet_below (by kernel_rfl) (by kernel_rfl) ?_
                  repeat (go_big_quiet_step (first | with_reducible exact cD1 _ _ | with_reducible exact cD2 _ _))
                  refine wpQuiet_nil ?_
                  intro _ hw'
                  obtain ⟨⟨dq, osq⟩, hw''⟩ := hw'
                  subst hw''
                  have HQ : Hid (Below wb.heap.size wb (grow (redrawn wr dq) osq)) := hbl.trans ((below_regrown wr dq osq).mono hsize)
                  clear cD1 cD2 dz0 dz1 dz2 dz3 dq0 dq1 dq2 dq3
                  go_wp2
                  go_roundw
                  case rel => exact ⟨k + 1, by omega, by go_num, all_step HP2.out (HPK.out.2 ⟨hv, hu⟩), HQ.out⟩
                  case measure => simp [intOf]; omega
                · have huf : valB h.clos.length h.twos.length h.refs.length x2 x3 = false := by simpa using hu
                  have cD1 : ∀ d os, Calls Try.prog 11 #[.agg #[.slice a0 h.envs.length c0, .slice a1 h.clos.length c1, .slice (some ⟨g2, 0, none⟩) h.twos.length c2, .slice a3 h.refs.length c3], .agg #[.int .i64 x0, .int .i64 x1]] (grow (redrawn wr d) os) fun e w'' => e = .returned (.bool true) ∧ ∃ q : Regrown, w'' = grow (redrawn wr q.d) q.os := fun d os => by
                    have hh := Calls.regrown_of (HV.out (x0) (x1) (grow (redrawn wr d) os))
                    rw [hv] at hh
                    exact hh
                  have cD2 : ∀ d os, Calls Try.prog 11 #[.agg #[.slice a0 h.envs.length c0, .slice a1 h.clos.length c1, .slice (some ⟨g2, 0, none⟩) h.twos.length c2, .slice a3 h.refs.length c3], .agg #[.int .i64 x2, .int .i64 x3]] (grow (redrawn wr d) os) fun e w'' => e = .returned (.bool false) ∧ ∃ q : Regrown, w'' = grow (redrawn wr q.d) q.os := fun d os => by
                    have hh := Calls.regrown_of (HV.out (x2) (x3) (grow (redrawn wr d) os))
                    rw [huf] at hh
                    exact hh
                  go_wp2
                  refine wp_region_quiet_below (by kernel_rfl) (by kernel_rfl) ?_
                  repeat (go_big_quiet_step (first | with_reducible exact cD1 _ _ | with_reducible exact cD2 _ _))
                  refine wpQuiet_nil ?_
                  intro _ hw'
                  obtain ⟨⟨dq, osq⟩, hw''⟩ := hw'
                  subst hw''
                  have HQ : Hid (Below wb.heap.size wb (grow (redrawn wr dq) osq)) := hbl.trans ((below_regrown wr dq osq).mono hsize)
                  clear cD1 cD2 dz0 dz1 dz2 dz3 dq0 dq1 dq2 dq3
                  go_wp2
                  go_ret
                  exact ⟨⟨false, rfl, by simp; intro hr; exact (fun hh => hu hh.2) (HPK.out.1 (hr.two k hin))⟩, BB.out.trans (HQ.out.mono (by omega))⟩
              · have hvf : valB h.clos.length h.twos.length h.refs.length x0 x1 = false := by simpa using hv
                have cD1 : ∀ d os, Calls Try.prog 11 #[.agg #[.slice a0 h.envs.length c0, .slice a1 h.clos.length c1, .slice (some ⟨g2, 0, none⟩) h.twos.length c2, .slice a3 h.refs.length c3], .agg #[.int .i64 x0, .int .i64 x1]] (grow (redrawn wr d) os) fun e w'' => e = .returned (.bool false) ∧ ∃ q : Regrown, w'' = grow (redrawn wr q.d) q.os := fun d os => by
                  have hh := Calls.regrown_of (HV.out (x0) (x1) (grow (redrawn wr d) os))
                  rw [hvf] at hh
                  exact hh
                go_wp2
                refine wp_region_quiet_below (by kernel_rfl) (by kernel_rfl) ?_
                repeat (go_big_quiet_step (first | with_reducible exact cD1 _ _))
                refine wpQuiet_nil ?_
                intro _ hw'
                obtain ⟨⟨dq, osq⟩, hw''⟩ := hw'
                subst hw''
                have HQ : Hid (Below wb.heap.size wb (grow (redrawn wr dq) osq)) := hbl.trans ((below_regrown wr dq osq).mono hsize)
                clear cD1 dz0 dz1 dz2 dz3 dq0 dq1 dq2 dq3
                go_wp2
                go_ret
                exact ⟨⟨false, rfl, by simp; intro hr; exact (fun hh => hv hh.1) (HPK.out.1 (hr.two k hin))⟩, BB.out.trans (HQ.out.mono (by omega))⟩
            · obtain rfl : k = h.twos.length := by omega
              go_wp2
              go_loopw [6] (fun q wr => ∃ k : Nat, k ≤ h.refs.length ∧ q = .int .i64 k ∧ Hid (∀ j, j < k → RefR h j) ∧ Below wb.heap.size wb wr) (fun q _ => h.refs.length - (intOf q).toNat)
              case atStart => exact ⟨0, by omega, rfl, fun j hj => absurd hj (by omega), hbl⟩
              case round =>
                clear hbl z0 z1 z2 z3
                obtain ⟨k, hk, rfl, HP3, hbl⟩ := hrel
                have hsize := hbl.size
                obtain ⟨z0, z1, z2, z3⟩ := HXB.out wr hbl
                by_cases hin : k < h.refs.length
                · have e1 : (k : Int) < h.refs.length := by omega
                  obtain rfl := HA.out.e3 (by omega)
                  have t := ((HB.out.below hbl (Nat.le_refl _)).r3) k hin
                  obtain ⟨⟨x0, x1⟩, hx⟩ : ∃ y, h.refs.getD k noVl = y := ⟨_, rfl⟩
                  rw [hx] at t
                  have q0 : wr.cell? ⟨g3, k * 2, none⟩ = some (.int .i64 x0) := t.c0
                  have q1 : wr.cell? ⟨g3, k * 2 + 1, none⟩ = some (.int .i64 x1) := t.c1
                  have HPK : Hid (RefR h k ↔ (valB h.clos.length h.twos.length h.refs.length (x0) (x1) = true)) := by show RefR h k ↔ _; unfold RefR; rw [hx]
                  clear t hx
                  have dz0 := cell_regrown z0
                  have dz1 := cell_regrown z1
                  have dz2 := cell_regrown z2
                  have dz3 := cell_regrown z3
                  have dq0 := cell_regrown q0
                  have dq1 := cell_regrown q1
                  by_cases hv : valB h.clos.length h.twos.length h.refs.length (x0) (x1) = true
                  · have cD0 := True.intro
                    have cD1 : ∀ d os, Calls Try.prog 11 #[.agg #[.slice a0 h.envs.length c0, .slice a1 h.clos.length c1, .slice a2 h.twos.length c2, .slice (some ⟨g3, 0, none⟩) h.refs.length c3], .agg #[.int .i64 x0, .int .i64 x1]] (grow (redrawn wr d) os) fun e w'' => e = .returned (.bool true) ∧ ∃ q : Regrown, w'' = grow (redrawn wr q.d) q.os := fun d os => by
                      have hh := Calls.regrown_of (HV.out (x0) (x1) (grow (redrawn wr d) os))
                      rw [hv] at hh
                      exact hh
                    go_wp2
                    refine wp_region_quiet_below (by kernel_rfl) (by kernel_rfl) ?_
                    repeat (go_big_quiet_step (first | with_reducible exact cD1 _ _))
                    refine wpQuiet_nil ?_
                    intro _ hw'
                    obtain ⟨⟨dq, osq⟩, hw''⟩ := hw'
                    subst hw''
                    have HQ : Hid (Below wb.heap.size wb (grow (redrawn wr dq) osq)) := hbl.trans ((below_regrown wr dq osq).mono hsize)
                    clear cD1 dz0 dz1 dz2 dz3 dq0 dq1
                    go_wp2
                    go_roundw
                    case rel => exact ⟨k + 1, by omega, by go_num, all_step HP3.out (HPK.out.2 hv), HQ.out⟩
                    case measure => simp [intOf]; omega
                  · have hvf : valB h.clos.length h.twos.length h.refs.length x0 x1 = false := by simpa using hv
                    have cD1 : ∀ d os, Calls Try.prog 11 #[.agg #[.slice a0 h.envs.length c0, .slice a1 h.clos.length c1, .slice a2 h.twos.length c2, .slice (some ⟨g3, 0, none⟩) h.refs.length c3], .agg #[.int .i64 x0, .int .i64 x1]] (grow (redrawn wr d) os) fun e w'' => e = .returned (.bool false) ∧ ∃ q : Regrown, w'' = grow (redrawn wr q.d) q.os := fun d os => by
                      have hh := Calls.regrown_of (HV.out (x0) (x1) (grow (redrawn wr d) os))
                      rw [hvf] at hh
                      exact hh
                    go_wp2
                    refine wp_region_quiet_below (by kernel_rfl) (by kernel_rfl) ?_
                    repeat (go_big_quiet_step (first | with_reducible exact cD1 _ _))
                    refine wpQuiet_nil ?_
                    intro _ hw'
                    obtain ⟨⟨dq, osq⟩, hw''⟩ := hw'
                    subst hw''
                    have HQ : Hid (Below wb.heap.size wb (grow (redrawn wr dq) osq)) := hbl.trans ((below_regrown wr dq osq).mono hsize)
                    clear cD1 dz0 dz1 dz2 dz3 dq0 dq1
                    go_wp2
                    go_ret
                    exact ⟨⟨false, rfl, by simp; intro hr; exact hv (HPK.out.1 (hr.ref k hin))⟩, BB.out.trans (HQ.out.mono (by omega))⟩
                · obtain rfl : k = h.refs.length := by omega
                  go_wp2
                  go_ret
                  exact ⟨⟨true, rfl, by simp; exact ⟨HP0.out, HP1.out, HP2.out, HP3.out⟩⟩, BB.out.trans (hbl.mono (by omega))⟩
end Go.Proofs.Ythmfkbnfdheopaa
