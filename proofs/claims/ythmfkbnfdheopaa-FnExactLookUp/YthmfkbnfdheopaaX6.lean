/-
  Values: HeapOk as it landed. Conditions: written at each theorem.
-/
import Derived.Test.YthmfkbnfdheopaaX5
namespace Go.Proofs.Ythmfkbnfdheopaa
open Go.ChangeShapes Go.WideShapes Go.ChangeAt Go.RowKit Go.Shelf Go.Sort
set_option linter.unusedVariables false

attribute [local go_sem] Oper.semAt_some

set_option maxRecDepth 20000 in
theorem impl_isEnv (a0 a1 a2 a3 : Option Addr) (m0 m1 m2 m3 c0 c1 c2 c3 : Nat) (x : Int) (w : World) :
    Calls Try.prog 28 #[.agg #[.slice a0 m0 c0, .slice a1 m1 c1, .slice a2 m2 c2, .slice a3 m3 c3], .int .i64 x] w fun e w' => e = .returned (.bool (decide (-1 ≤ x) && decide (x < m0))) ∧ Below w.heap.size w w' := by
  by_cases h1 : -1 ≤ x
  · go_enter Try.func28, Try.ntmps28
    go_wp2
    go_ret
    exact ⟨by simp [h1], (Below.refl _ w).alloc (Nat.le_refl _) _⟩
  · go_enter Try.func28, Try.ntmps28
    go_wp2
    go_ret
    exact ⟨by rw [decide_eq_false (show ¬ -1 ≤ x by omega)]; rfl, (Below.refl _ w).alloc (Nat.le_refl _) _⟩

theorem keepsFrom_below {B : Nat} {W W' : World} (h : Below W.heap.size W W') : KeepsFrom B W W' :=
  ⟨h.size, fun k o _ hk _ => (h.block k (Array.getElem?_eq_some_iff.1 hk).1).trans hk⟩

theorem vals_right {h : Hq} (hr : HeapR h) : ∀ x, x ∈ valsL h → valB h.clos.length h.twos.length h.refs.length x.kind x.n = true := fun x hx => by
  rcases List.mem_append.1 hx with hx | hx
  · rcases List.mem_append.1 hx with hx | hx
    · obtain ⟨j, hj, rfl⟩ := List.mem_map.1 hx
      exact (hr.env j (List.mem_range.1 hj)).2.2
    · obtain ⟨j, hj, hx⟩ := List.mem_flatMap.1 hx
      have h2 := hr.two j (List.mem_range.1 hj)
      simp only [List.mem_cons, List.not_mem_nil, or_false] at hx
      rcases hx with rfl | rfl
      · exact h2.1
      · exact h2.2
  · obtain ⟨j, hj, rfl⟩ := List.mem_map.1 hx
    exact hr.ref j (List.mem_range.1 hj)

/-- A heap is right where its values are, each cell leads on to a lesser one, each closure to a cell that is there. -/
theorem right_of {h : Hq} (hv : ∀ x, x ∈ valsL h → valB h.clos.length h.twos.length h.refs.length x.kind x.n = true) (he : ∀ i, i < h.envs.length → -1 ≤ (h.envs.getD i noCel).next ∧ (h.envs.getD i noCel).next < (i : Int)) (hc : ∀ i, i < h.clos.length → CloR h i) : HeapR h where
  env := fun i hi => ⟨(he i hi).1, by have := (he i hi).2; omega, hv ⟨_, _⟩ (V1_sub h (Nat.le_refl _) _ (List.mem_map.2 ⟨i, List.mem_range.2 hi, rfl⟩))⟩
  clo := hc
  two := fun i hi => ⟨hv ⟨_, _⟩ (V2_sub h (Nat.le_refl _) _ (List.mem_flatMap.2 ⟨i, List.mem_range.2 hi, by simp⟩)), hv ⟨_, _⟩ (V2_sub h (Nat.le_refl _) _ (List.mem_flatMap.2 ⟨i, List.mem_range.2 hi, by simp⟩))⟩
  ref := fun i hi => hv _ (V3_sub h (Nat.le_refl _) _ (List.mem_map.2 ⟨i, List.mem_range.2 hi, rfl⟩))

set_option maxRecDepth 100000 in
set_option maxHeartbeats 4000000 in
theorem impl_heap (a0 a1 a2 a3 : Option Addr) (g0 g1 g2 g3 c0 c1 c2 c3 : Nat) (h : Hq) (w : World) (hA : HpAt w a0 a1 a2 a3 g0 g1 g2 g3 h) :
    Calls Try.prog 9 #[.agg #[.slice a0 h.envs.length c0, .slice a1 h.clos.length c1, .slice a2 h.twos.length c2, .slice a3 h.refs.length c3]] w fun e w' => HeapAns h e ∧ Below w.heap.size w w' := by
  have HA : Hid (HpAt w a0 a1 a2 a3 g0 g1 g2 g3 h) := hA
  have HV : Hid (∀ (k n : Int) (W : World), Calls Try.prog 13 #[.agg #[.slice a0 h.envs.length c0, .slice a1 h.clos.length c1, .slice a2 h.twos.length c2, .slice a3 h.refs.length c3], .agg #[.int .i64 k, .int .i64 n]] W fun e w' => e = .returned (.bool (valB h.clos.length h.twos.length h.refs.length k n)) ∧ Below W.heap.size W w') := fun k n W => impl_val _ _ _ _ _ _ _ _ _ _ _ _ hA.l1 hA.l2 hA.l3 k n W
  clear hA
  refine (callsIn_wide (n := 5)).1 ?_
  refine callsIn_of_wp_marks Try.func9 rfl trivial ?_ rfl
  simp only [Try.ntmps9, List.size_toArray, List.length_cons, List.length_nil, Nat.reduceAdd, Nat.reduceSub, Array.replicate_succ, Array.replicate_zero, List.push_toArray, List.append_toArray, List.nil_append, List.cons_append]
  gi_wp2_with (refine ⟨trivial, ?_⟩; gi_at_call 27; refine (callsIn_wide.2 (values_in _ _ _ _ _ _ _ _ _ _ _ _ _)).mono ?_; rintro e w' ⟨rfl, rfl⟩)
  have hB0 : Below w.heap.size w (((w.alloc (.cells #[.slice a0 h.envs.length c0, .slice a1 h.clos.length c1, .slice a2 h.twos.length c2, .slice a3 h.refs.length c3] 35)).alloc (.cells #[.bool false] 4)).alloc (.cells #[.slice a0 h.envs.length c0, .slice a1 h.clos.length c1, .slice a2 h.twos.length c2, .slice a3 h.refs.length c3] 35)) := (((Below.refl _ w).alloc (Nat.le_refl _) _).alloc (by simp) _).alloc (by simp; omega) _
  have hsz : (((w.alloc (.cells #[.slice a0 h.envs.length c0, .slice a1 h.clos.length c1, .slice a2 h.twos.length c2, .slice a3 h.refs.length c3] 35)).alloc (.cells #[.bool false] 4)).alloc (.cells #[.slice a0 h.envs.length c0, .slice a1 h.clos.length c1, .slice a2 h.twos.length c2, .slice a3 h.refs.length c3] 35)).heap.size = w.heap.size + 3 := by simp
  have r0 : (((w.alloc (.cells #[.slice a0 h.envs.length c0, .slice a1 h.clos.length c1, .slice a2 h.twos.length c2, .slice a3 h.refs.length c3] 35)).alloc (.cells #[.bool false] 4)).alloc (.cells #[.slice a0 h.envs.length c0, .slice a1 h.clos.length c1, .slice a2 h.twos.length c2, .slice a3 h.refs.length c3] 35)).heap[w.heap.size]? = some (.cells #[.slice a0 h.envs.length c0, .slice a1 h.clos.length c1, .slice a2 h.twos.length c2, .slice a3 h.refs.length c3] 35 (0, 0)) := by
    rw [Below.heap_alloc _ _ _ (by simp; omega), Below.heap_alloc _ _ _ (by simp)]
    exact (MapKept.heap_alloc w _).1
  have r1 : (((w.alloc (.cells #[.slice a0 h.envs.length c0, .slice a1 h.clos.length c1, .slice a2 h.twos.length c2, .slice a3 h.refs.length c3] 35)).alloc (.cells #[.bool false] 4)).alloc (.cells #[.slice a0 h.envs.length c0, .slice a1 h.clos.length c1, .slice a2 h.twos.length c2, .slice a3 h.refs.length c3] 35)).heap[w.heap.size + 1]? = some (.cells #[.bool false] 4 (0, 0)) := by
    rw [Below.heap_alloc _ _ _ (by simp), heap_alloc2_new]
  have r2 : (((w.alloc (.cells #[.slice a0 h.envs.length c0, .slice a1 h.clos.length c1, .slice a2 h.twos.length c2, .slice a3 h.refs.length c3] 35)).alloc (.cells #[.bool false] 4)).alloc (.cells #[.slice a0 h.envs.length c0, .slice a1 h.clos.length c1, .slice a2 h.twos.length c2, .slice a3 h.refs.length c3] 35)).heap[w.heap.size + 1 + 1]? = some (.cells #[.slice a0 h.envs.length c0, .slice a1 h.clos.length c1, .slice a2 h.twos.length c2, .slice a3 h.refs.length c3] 35 (0, 0)) := by
    have := (MapKept.heap_alloc ((w.alloc (.cells #[.slice a0 h.envs.length c0, .slice a1 h.clos.length c1, .slice a2 h.twos.length c2, .slice a3 h.refs.length c3] 35)).alloc (.cells #[.bool false] 4)) (.cells #[.slice a0 h.envs.length c0, .slice a1 h.clos.length c1, .slice a2 h.twos.length c2, .slice a3 h.refs.length c3] 35)).1
    simpa using this
  obtain ⟨W0, hW0⟩ : ∃ W0, ((w.alloc (.cells #[.slice a0 h.envs.length c0, .slice a1 h.clos.length c1, .slice a2 h.twos.length c2, .slice a3 h.refs.length c3] 35)).alloc (.cells #[.bool false] 4)).alloc (.cells #[.slice a0 h.envs.length c0, .slice a1 h.clos.length c1, .slice a2 h.twos.length c2, .slice a3 h.refs.length c3] 35) = W0 := ⟨_, rfl⟩
  rw [hW0] at hB0 hsz r0 r1 r2 ⊢
  clear hW0
  have R0 : Hid (W0.heap[w.heap.size]? = some (.cells #[.slice a0 h.envs.length c0, .slice a1 h.clos.length c1, .slice a2 h.twos.length c2, .slice a3 h.refs.length c3] 35 (0, 0))) := r0
  have R1 : Hid (W0.heap[w.heap.size + 1]? = some (.cells #[.bool false] 4 (0, 0))) := r1
  have A0 : HpAt W0 a0 a1 a2 a3 g0 g1 g2 g3 h := HA.out.below hB0 (Nat.le_refl _)
  refine wpIn_rangeFunc_ownH rfl (by omega) (gf := 38) (lb := #[.pointer (some ⟨w.heap.size + 1 + 1, 0, none⟩)]) rfl trivial (enters_of Try.func38 (by kernel_rfl) rfl)
    (values_stops Fence.wide _ trivial rfl (by omega) (w.heap.size + 1 + 1) W0.heap.size a0 a1 a2 a3 g0 g1 g2 g3 c0 c1 c2 c3 h (fun q => A0.r0.lt q) (fun q => A0.r1.lt q) (fun q => A0.r2.lt q) (fun q => A0.r3.lt q) (by omega) W0 (Nat.le_refl _) r2 A0)
    (fun hh hk => hh.trans hk) (KC.put (Nat.le_refl _)) (Below.refl _ _) (fun _ => rfl)
    (fun pre W => (∀ x, x ∈ pre → valB h.clos.length h.twos.length h.refs.length x.kind x.n = true) ∧ Below W0.heap.size W0 W)
    (fun c pre W => c = .ret ∧ (∃ x, x ∈ pre ∧ valB h.clos.length h.twos.length h.refs.length x.kind x.n = false) ∧ W.heap[w.heap.size + 1]? = some (.cells #[.bool false] 4 (0, 0)) ∧ Below w.heap.size w W)
    (OwnFrom.and (ownFrom_pure _ _) (ownFrom_below (Nat.le_refl _) (Nat.le_refl _)))
    (fun c => OwnFrom.and (ownFrom_pure _ _) (OwnFrom.and (ownFrom_pure _ _) (OwnFrom.and (fun s X Y row hs hg hr => (hg.block _ (Array.getElem?_eq_some_iff.1 hs).1 (fun e' => by obtain ⟨hb, o, ho, hc⟩ := hr _ e'.symm; rw [hs] at ho; cases ho; cases hc)).trans hs) (ownFrom_below (Nat.le_refl _) (by omega)))))
    ⟨fun x hx => absurd hx (by simp), Below.refl _ _⟩
    (fun x a' W => ∃ Bx, W.heap[Bx]? = some (.cells #[.int .i64 x.kind, .int .i64 x.n] 42 (0, 0)) ∧ a' = { tmps := #[.agg #[.slice a0 h.envs.length c0, .slice a1 h.clos.length c1, .slice a2 h.twos.length c2, .slice a3 h.refs.length c3], .pointer (some ⟨w.heap.size, 0, none⟩), .pointer (some ⟨w.heap.size + 1, 0, none⟩), .pointer (some ⟨Bx, 0, none⟩), undef, undef, undef, undef, .agg #[.slice a0 h.envs.length c0, .slice a1 h.clos.length c1, .slice a2 h.twos.length c2, .slice a3 h.refs.length c3], .func (.func 38) #[] #[.pointer (some ⟨w.heap.size + 1 + 1, 0, none⟩)], .agg #[.int .i64 x.kind, .int .i64 x.n], undef, undef, undef, undef, undef, undef, undef, undef, undef, undef, undef, undef, undef, undef, undef, undef, undef, undef, undef, undef, undef, undef, undef, undef, undef, undef, undef, undef, undef, undef, undef, undef, undef, undef, undef], defers := [] })
    (fun x a' _ X Y row hs hg hr => by obtain ⟨Bx, h1, h2⟩ := hs; exact ⟨Bx, (hg.block _ (Array.getElem?_eq_some_iff.1 h1).1 (fun e' => by obtain ⟨hb, o, ho, hc⟩ := hr _ e'.symm; rw [h1] at ho; cases ho; cases hc)).trans h1, h2⟩)
    ?assign ?body ?done ?stop
  case assign =>
    rintro l pre x W K ⟨hp, hB⟩ hK
    gi_wp2
    exact hK _ _ ((KeepsOthers.alloc _ _).from _) (KC.of_below ((Below.refl _ W).alloc (Nat.le_refl _) _) hB.size) ⟨hp, hB.alloc hB.size _⟩ ⟨W.heap.size, (MapKept.heap_alloc W _).1, rfl⟩
  case body =>
    rintro l pre x a' W hl ⟨rc, hrc⟩ ⟨hp, hB⟩ ⟨Bx, hBx, rfl⟩ hlt
    have HP : Hid (∀ x, x ∈ pre → valB h.clos.length h.twos.length h.refs.length x.kind x.n = true) := hp
    have HBW : Hid (Below W0.heap.size W0 W) := hB
    have h1' : 1 ≤ 5 - 1 - 1 := by omega
    obtain ⟨xk, xn⟩ := x
    simp only at hBx ⊢
    have z0 : W.cell? ⟨w.heap.size, 0, none⟩ = some (.slice a0 h.envs.length c0) := (cell_of_row _ _ _ _ _ _ ((hB.block _ (by omega)).trans R0.out)).trans rfl
    have z1 : W.cell? ⟨w.heap.size, 1, none⟩ = some (.slice a1 h.clos.length c1) := (cell_of_row _ _ _ _ _ _ ((hB.block _ (by omega)).trans R0.out)).trans rfl
    have z2 : W.cell? ⟨w.heap.size, 2, none⟩ = some (.slice a2 h.twos.length c2) := (cell_of_row _ _ _ _ _ _ ((hB.block _ (by omega)).trans R0.out)).trans rfl
    have z3 : W.cell? ⟨w.heap.size, 3, none⟩ = some (.slice a3 h.refs.length c3) := (cell_of_row _ _ _ _ _ _ ((hB.block _ (by omega)).trans R0.out)).trans rfl
    have y0 : W.cell? ⟨Bx, 0, none⟩ = some (.int .i64 xk) := (cell_of_row _ _ _ _ _ _ hBx).trans rfl
    have y1 : W.cell? ⟨Bx, 1, none⟩ = some (.int .i64 xn) := (cell_of_row _ _ _ _ _ _ hBx).trans rfl
    have hsW := hB.size
    clear hp hB hBx hrc hlt r0 r1 r2 A0
    by_cases hv : valB h.clos.length h.twos.length h.refs.length xk xn = true
    · have HVK : Hid (∀ W : World, Calls Try.prog 13 #[.agg #[.slice a0 h.envs.length c0, .slice a1 h.clos.length c1, .slice a2 h.twos.length c2, .slice a3 h.refs.length c3], .agg #[.int .i64 xk, .int .i64 xn]] W fun e w' => e = .returned (.bool true) ∧ Below W.heap.size W w') := fun W => by rw [← hv]; exact HV.out xk xn W
      gi_wp2_with (refine ⟨trivial, ?_⟩; gi_at_call 13; refine (CallsIn.inRound l (callsIn_wide.2 (HVK.out W))).mono ?_; rintro e w3 ⟨rfl, b3⟩)
      exact ⟨keepsFrom_below b3, KC.of_below b3 hsW, fun y hy => (List.mem_append.1 hy).elim (HP.out y) (fun e => by simp at e; subst e; exact hv), HBW.out.trans (b3.mono hsW)⟩
    · have hvf : valB h.clos.length h.twos.length h.refs.length xk xn = false := by simpa using hv
      have HVK : Hid (∀ W : World, Calls Try.prog 13 #[.agg #[.slice a0 h.envs.length c0, .slice a1 h.clos.length c1, .slice a2 h.twos.length c2, .slice a3 h.refs.length c3], .agg #[.int .i64 xk, .int .i64 xn]] W fun e w' => e = .returned (.bool false) ∧ Below W.heap.size W w') := fun W => by rw [← hvf]; exact HV.out xk xn W
      gi_wp2_with (refine ⟨trivial, ?_⟩; gi_at_call 13; refine (CallsIn.inRound l (callsIn_wide.2 (HVK.out W))).mono ?_; rintro e w3 ⟨rfl, b3⟩; have hr3 : w3.heap[w.heap.size + 1]? = some (.cells #[.bool false] 4 (0, 0)) := ((HBW.out.trans (b3.mono hsW)).block _ (by omega)).trans R1.out; have c3' : w3.cell? ⟨w.heap.size + 1, 0, none⟩ = some (.bool false) := (cell_of_row _ _ _ _ _ _ hr3).trans rfl; have f3' : w3.frozen? ⟨w.heap.size + 1, 0, none⟩ = false := frozen_of_row w3 _ _ _ _ hr3)
      exact ⟨(keepsFrom_below b3).trans ((KeepsOthers.setCell _ _ _).from _), rfl, ⟨⟨xk, xn⟩, by simp, hvf⟩, heap_setCell_same _ _ _ _ _ _ hr3, ((hB0.trans (HBW.out.mono (by omega))).trans (b3.mono (by omega))).setCell (p := ⟨w.heap.size + 1, 0, none⟩) (by simp) _⟩
  case done =>
    rintro D xs W hD rfl ⟨hp, hB⟩ hK
    have HP : Hid (∀ x, x ∈ valsL h → valB h.clos.length h.twos.length h.refs.length x.kind x.n = true) := hp
    have HKD : Hid (W.heap[D]? = some (.deferred (some []))) := hK
    have hsW := hB.size
    have hDW : D < W.heap.size := (Array.getElem?_eq_some_iff.1 hK).1
    have HBW : Hid (Below W0.heap.size W0 W) := hB
    have AW : Hid (HpAt W a0 a1 a2 a3 g0 g1 g2 g3 h) := A0.below hB (Nat.le_refl _)
    have lb0 : h.envs.length ≤ 1048576 := HA.out.l0
    have lb1 : h.clos.length ≤ 1048576 := HA.out.l1
    have HXW : Hid (∀ X : World, Below W.heap.size W X → X.cell? ⟨w.heap.size, 0, none⟩ = some (.slice a0 h.envs.length c0) ∧ X.cell? ⟨w.heap.size, 1, none⟩ = some (.slice a1 h.clos.length c1) ∧ X.cell? ⟨w.heap.size, 2, none⟩ = some (.slice a2 h.twos.length c2) ∧ X.cell? ⟨w.heap.size, 3, none⟩ = some (.slice a3 h.refs.length c3) ∧ X.cell? ⟨w.heap.size + 1, 0, none⟩ = some (.bool false) ∧ X.frozen? ⟨w.heap.size + 1, 0, none⟩ = false) := fun X hh =>
      have hh2 : Below W0.heap.size W0 X := HBW.out.trans (hh.mono hsW)
      ⟨(cell_of_row _ _ _ _ _ _ ((hh2.block _ (by omega)).trans R0.out)).trans rfl, (cell_of_row _ _ _ _ _ _ ((hh2.block _ (by omega)).trans R0.out)).trans rfl, (cell_of_row _ _ _ _ _ _ ((hh2.block _ (by omega)).trans R0.out)).trans rfl, (cell_of_row _ _ _ _ _ _ ((hh2.block _ (by omega)).trans R0.out)).trans rfl, (cell_of_row _ _ _ _ _ _ ((hh2.block _ (by omega)).trans R1.out)).trans rfl, frozen_of_row X _ _ _ _ ((hh2.block _ (by omega)).trans R1.out)⟩
    have HEND : Hid (∀ (X : World) (b : Bool) (tmps : Array Value) (ds : List Deferred), Below W.heap.size W X → tmps.getD 2 undef = .pointer (some ⟨w.heap.size + 1, 0, none⟩) → (b = true ↔ HeapR h) →
        bodyPostM Fence.wide 5 Try.prog Try.f9 (fun e w' => HeapAns h e ∧ Below w.heap.size w w') .ret { tmps := tmps, defers := [{ target := .collected D, args := #[] }] } (X.setCell ⟨w.heap.size + 1, 0, none⟩ (.bool b))) := fun X b tmps ds hX ht hb => by
      have c1 := (HXW.out X hX).2.2.2.2.1
      have hKX : X.heap[D]? = some (.deferred (some [])) := (hX.block _ hDW).trans HKD.out
      have hK' := (KeepsOthers.setCell X ⟨w.heap.size + 1, 0, none⟩ (.bool b)).same D _ hKX rfl
      refine ⟨by simp, .inl ⟨_, _, rfl, run_takeDeferred hK', ?_⟩⟩
      have c5 := cell_kept (World.cell?_setCell_same' X ⟨w.heap.size + 1, 0, none⟩ (.bool b) (by rw [c1]; rfl)) (grownBy_putObj' _ D (.deferred none)) (fun r e => by cases e; exact ⟨_, hK', rfl⟩)
      refine ⟨.bool b, ?_, ⟨b, rfl, hb⟩, (((hB0.trans (HBW.out.mono (by omega))).trans (hX.mono (by omega))).setCell (p := ⟨w.heap.size + 1, 0, none⟩) (by simp) _).trans (belowK_b (w := w) (Nat.le_refl _) _ D _ _ (by omega) hK' rfl rfl)⟩
      have ht' : tmps[2]?.getD undef = .pointer (some ⟨w.heap.size + 1, 0, none⟩) := by simpa using ht
      simp [results, Try.f9, go_sem, c5, ht']
    obtain ⟨z0, z1, z2, z3, zc, zf⟩ := HXW.out W (Below.refl _ _)
    clear hp hB hK A0 r0 r1 r2
    gi_wp2
    gi_loopw [18] (fun i wr => ∃ k : Nat, k ≤ h.envs.length ∧ i = .int .i64 k ∧ Hid (∀ j, j < k → -1 ≤ (h.envs.getD j noCel).next ∧ (h.envs.getD j noCel).next < (j : Int)) ∧ Below W.heap.size W wr) (fun i _ => h.envs.length - (intOf i).toNat)
    case atStart => exact ⟨0, Nat.zero_le _, rfl, fun j hj => absurd hj (by omega), Below.refl _ _⟩
    case round =>
      clear z0 z1 z2 z3 zc zf
      obtain ⟨k, hk, rfl, HE, hbl⟩ := hrel
      have hsz1 := hbl.size
      obtain ⟨z0, z1, z2, z3, zc, zf⟩ := HXW.out wr hbl
      by_cases hlt : k < h.envs.length
      · have e1 : (k : Int) < h.envs.length := by omega
        obtain rfl := HA.out.e0 (by omega)
        have t := (AW.out.below hbl (Nat.le_refl _)).r0 k hlt
        obtain ⟨⟨x0, x1, x2, x3, x4⟩, hx⟩ : ∃ y, h.envs.getD k noCel = y := ⟨_, rfl⟩
        rw [hx] at t
        have HX4 : Hid ((h.envs.getD k noCel).next = x4) := by show (h.envs.getD k noCel).next = x4; rw [hx]
        have q0 : wr.cell? ⟨g0, k * 5, none⟩ = some (.int .i64 x0) := t.c0
        have q1 : wr.cell? ⟨g0, k * 5 + 1, none⟩ = some (.int .i64 x1) := t.c1
        have q2 : wr.cell? ⟨g0, k * 5 + 2, none⟩ = some (.int .i64 x2) := t.c2
        have q3 : wr.cell? ⟨g0, k * 5 + 3, none⟩ = some (.int .i64 x3) := t.c3
        have q4 : wr.cell? ⟨g0, k * 5 + 4, none⟩ = some (.int .i64 x4) := t.c4
        clear t hx
        have HW1 : Hid (Below W.heap.size W (wr.alloc (.cells #[.int .i64 x0, .int .i64 x1, .int .i64 x2, .int .i64 x3, .int .i64 x4] 59))) := hbl.alloc hsz1 _
        obtain ⟨y0, y1, y2, y3, yc, yf⟩ := HXW.out _ HW1.out
        by_cases h1 : x4 < -1
        · have HNR : Hid (false = true ↔ HeapR h) := ⟨fun e => (by cases e), fun hr => absurd (hr.env k hlt).1 (by rw [HX4.out]; omega)⟩
          gi_wp2
          refine HEND.out _ false _ [] HW1.out ?_ HNR.out
          rfl
        · by_cases h2 : (k : Int) ≤ x4
          · have HNR : Hid (false = true ↔ HeapR h) := ⟨fun e => (by cases e), fun hr => absurd (hr.env k hlt).2.1 (by rw [HX4.out]; omega)⟩
            gi_wp2
            refine HEND.out _ false _ [] HW1.out ?_ HNR.out
            rfl
          · have HNE : Hid (∀ j, j < k + 1 → -1 ≤ (h.envs.getD j noCel).next ∧ (h.envs.getD j noCel).next < (j : Int)) := all_step HE.out ⟨by rw [HX4.out]; omega, by rw [HX4.out]; omega⟩
            gi_wp2
            go_roundw
            case rel => exact ⟨k + 1, by omega, by go_num, HNE.out, HW1.out⟩
            case measure => simp [intOf]; omega
      · obtain rfl : k = h.envs.length := by omega
        have HEA : Hid (∀ j, j < h.envs.length → -1 ≤ (h.envs.getD j noCel).next ∧ (h.envs.getD j noCel).next < (j : Int)) := HE.out
        have HVE : Hid (∀ (x : Int) (X : World), Calls Try.prog 28 #[.agg #[.slice a0 h.envs.length c0, .slice a1 h.clos.length c1, .slice a2 h.twos.length c2, .slice a3 h.refs.length c3], .int .i64 x] X fun e w' => e = .returned (.bool (decide (-1 ≤ x) && decide (x < h.envs.length))) ∧ Below X.heap.size X w') := fun x X => impl_isEnv _ _ _ _ _ _ _ _ _ _ _ _ x X
        clear HE
        gi_wp2
        gi_loopw [36] (fun i wq => ∃ k : Nat, k ≤ h.clos.length ∧ i = .int .i64 k ∧ Hid (∀ j, j < k → CloR h j) ∧ Below W.heap.size W wq) (fun i _ => h.clos.length - (intOf i).toNat)
        case atStart => exact ⟨0, Nat.zero_le _, rfl, fun j hj => absurd hj (by omega), hbl⟩
        case round =>
          clear z0 z1 z2 z3 zc zf hbl hsz1
          obtain ⟨k, hk, rfl, HC, hbl⟩ := hrel
          have hsz1 := hbl.size
          obtain ⟨z0, z1, z2, z3, zc, zf⟩ := HXW.out wr hbl
          by_cases hlt : k < h.clos.length
          · have e1 : (k : Int) < h.clos.length := by omega
            obtain rfl := HA.out.e1 (by omega)
            have t := (AW.out.below hbl (Nat.le_refl _)).r1 k hlt
            obtain ⟨⟨x0, x1⟩, hx⟩ : ∃ y, h.clos.getD k noClq = y := ⟨_, rfl⟩
            rw [hx] at t
            have HX1 : Hid ((h.clos.getD k noClq).env = x1) := by show (h.clos.getD k noClq).env = x1; rw [hx]
            have q0 : wr.cell? ⟨g1, k * 2, none⟩ = some (.int .i64 x0) := t.c0
            have q1 : wr.cell? ⟨g1, k * 2 + 1, none⟩ = some (.int .i64 x1) := t.c1
            clear t hx
            have HW1 : Hid (Below W.heap.size W (wr.alloc (.cells #[.int .i64 x0, .int .i64 x1] 61))) := hbl.alloc hsz1 _
            obtain ⟨y0, y1, y2, y3, yc, yf⟩ := HXW.out _ HW1.out
            by_cases hv : -1 ≤ x1 ∧ x1 < (h.envs.length : Int)
            · have HVK := HVE.out x1 (wr.alloc (.cells #[.int .i64 x0, .int .i64 x1] 61))
              rw [show (decide (-1 ≤ x1) && decide (x1 < (h.envs.length : Int))) = true by simp; omega] at HVK
              have HVQ : Hid _ := HVK
              have HNC : Hid (∀ j, j < k + 1 → CloR h j) := all_step HC.out ⟨by rw [HX1.out]; omega, by rw [HX1.out]; omega⟩
              clear HVK
              gi_wp2_with (refine ⟨trivial, ?_⟩; gi_at_call 28; refine (callsIn_wide.2 HVQ.out).mono ?_; rintro e w3 ⟨rfl, b3⟩)
              have HW3 : Hid (Below W.heap.size W w3) := HW1.out.trans (b3.mono (by simp; omega))
              go_roundw
              case rel => exact ⟨k + 1, by omega, by go_num, HNC.out, HW3.out⟩
              case measure => simp [intOf]; omega
            · have HVK := HVE.out x1 (wr.alloc (.cells #[.int .i64 x0, .int .i64 x1] 61))
              rw [show (decide (-1 ≤ x1) && decide (x1 < (h.envs.length : Int))) = false by simp; omega] at HVK
              have HVQ : Hid _ := HVK
              have HNR : Hid (false = true ↔ HeapR h) := ⟨fun e => (by cases e), fun hr => by have h4 := hr.clo k hlt; unfold CloR at h4; rw [HX1.out] at h4; exact absurd ⟨h4.1, by omega⟩ hv⟩
              clear HVK
              gi_wp2_with (refine ⟨trivial, ?_⟩; gi_at_call 28; refine (callsIn_wide.2 HVQ.out).mono ?_; rintro e w3 ⟨rfl, b3⟩; have HW3 : Hid (Below W.heap.size W w3) := HW1.out.trans (b3.mono (by simp; omega)); obtain ⟨u0, u1, u2, u3, uc, uf⟩ := HXW.out w3 HW3.out)
              refine HEND.out _ false _ [] HW3.out ?_ HNR.out
              rfl
          · obtain rfl : k = h.clos.length := by omega
            have HR : Hid (HeapR h) := right_of HP.out HEA.out HC.out
            gi_wp2
            refine HEND.out _ true _ [] hbl ?_ (iff_of_true rfl HR.out)
            rfl
  case stop =>
    rintro D c pre W hD hsub ⟨rfl, ⟨x, hx, hbad⟩, hr, hB⟩ hK
    have c1 : W.cell? ⟨w.heap.size + 1, 0, none⟩ = some (.bool false) := (cell_of_row _ _ _ _ _ _ hr).trans rfl
    gi_wp2
    refine ⟨by simp, .inl ⟨_, _, rfl, run_takeDeferred hK, ?_⟩⟩
    have c5 := cell_kept c1 (grownBy_putObj' _ D (.deferred none)) (fun r e => by cases e; exact ⟨_, hK, rfl⟩)
    refine ⟨.bool false, ?_, ⟨false, rfl, by simp; intro hr; exact absurd (vals_right hr x (hsub x hx)) (by rw [hbad]; simp)⟩, hB.trans (belowK_b (w := w) (Nat.le_refl _) W D _ _ (by omega) hK rfl rfl)⟩
    simp [results, Try.f9, go_sem, c5]
end Go.Proofs.Ythmfkbnfdheopaa
