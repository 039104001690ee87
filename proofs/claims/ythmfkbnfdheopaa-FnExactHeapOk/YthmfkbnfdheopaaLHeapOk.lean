/-
  For every heap: FnExactHeapOk answers true, and its argument reads as before: HeapOk answers as the specification does and writes into no argument. No condition.
-/
import Derived.Test.YthmfkbnfdheopaaX6
import Derived.Test.YthmfkbnfdheopaaX3
import Derived.ChangeOld
import Derived.Lib.QuietBelow
namespace Go.Proofs.Ythmfkbnfdheopaa.fnExactHeapOk
open Go.ChangeShapes Go.WideShapes Go.ChangeAt Go.RowKit Go.Sort
set_option linter.unusedVariables false

theorem own : ownKnob Try.prog.godebug = none := by kernel_rfl
theorem laidOut : laidOutB Try.prog = true := by kernel_rfl

theorem th_name : (Try.f8.name == "runtime.NumGoroutine") = false := by kernel_rfl
theorem th_body : Try.f8.body.isNone = false := by kernel_rfl
theorem eh_name : (Try.f10.name == "runtime.NumGoroutine") = false := by kernel_rfl
theorem eh_body : Try.f10.body.isNone = false := by kernel_rfl

set_option maxRecDepth 20000 in
theorem walk (a0 a1 a2 a3 : Option Addr) (c0 c1 c2 c3 g0 g1 g2 g3 o0 o1 o2 o3 : Nat) (h : Hq) (m0 : h.envs.length ≤ maxLen) (m1 : h.clos.length ≤ maxLen) (m2 : h.twos.length ≤ maxLen) (m3 : h.refs.length ≤ maxLen) (w : World) (hA : AHp w a0 a1 a2 a3 g0 g1 g2 g3 o0 o1 o2 o3 h) :
    Calls Try.prog 3 #[.agg #[.slice a0 h.envs.length c0, .slice a1 h.clos.length c1, .slice a2 h.twos.length c2, .slice a3 h.refs.length c3]] w fun e w' => e = .returned (.bool true) ∧ Below w.heap.size w w' := by
  have HA : Hid (AHp w a0 a1 a2 a3 g0 g1 g2 g3 o0 o1 o2 o3 h) := hA
  clear hA
  obtain ⟨wb, hwb⟩ : ∃ wb, w.alloc (.cells #[.slice a0 h.envs.length c0, .slice a1 h.clos.length c1, .slice a2 h.twos.length c2, .slice a3 h.refs.length c3] 27) = wb := ⟨_, rfl⟩
  have HWB : Hid (w.alloc (.cells #[.slice a0 h.envs.length c0, .slice a1 h.clos.length c1, .slice a2 h.twos.length c2, .slice a3 h.refs.length c3] 27) = wb) := hwb
  have BB : Hid (Below w.heap.size w wb) := by show Below w.heap.size w wb; rw [← hwb]; exact (Below.refl _ w).alloc (Nat.le_refl _) _
  have HSB : Hid (wb.heap.size = w.heap.size + 1) := by show wb.heap.size = _; rw [← hwb]; simp
  have RH : Hid (wb.heap[w.heap.size]? = some (.cells #[.slice a0 h.envs.length c0, .slice a1 h.clos.length c1, .slice a2 h.twos.length c2, .slice a3 h.refs.length c3] 27 (0, 0))) := by show wb.heap[w.heap.size]? = _; rw [← hwb]; exact (MapKept.heap_alloc w _).1
  have HXB : Hid (∀ W : World, Below wb.heap.size wb W → W.cell? ⟨w.heap.size, 0, none⟩ = some (.slice a0 h.envs.length c0)
      ∧ W.cell? ⟨w.heap.size, 1, none⟩ = some (.slice a1 h.clos.length c1)
      ∧ W.cell? ⟨w.heap.size, 2, none⟩ = some (.slice a2 h.twos.length c2)
      ∧ W.cell? ⟨w.heap.size, 3, none⟩ = some (.slice a3 h.refs.length c3)) := fun W hh => ⟨(cell_of_row _ _ _ _ _ _ ((hh.block _ (by have := HSB.out; omega)).trans RH.out)).trans rfl, (cell_of_row _ _ _ _ _ _ ((hh.block _ (by have := HSB.out; omega)).trans RH.out)).trans rfl, (cell_of_row _ _ _ _ _ _ ((hh.block _ (by have := HSB.out; omega)).trans RH.out)).trans rfl, (cell_of_row _ _ _ _ _ _ ((hh.block _ (by have := HSB.out; omega)).trans RH.out)).trans rfl⟩
  clear hwb RH
  go_enter Try.func3, Try.ntmps3
  go_wp2_with fail
  rw [HWB.out]
  refine (hp_sz a0 a1 a2 a3 c0 c1 c2 c3 h m0 m1 m2 m3 _).mono ?_
  rintro e w1 ⟨⟨r, rfl, hr⟩, b1⟩
  have s1 := b1.size
  have B1 : Hid (Below w.heap.size w w1) := BB.out.trans (b1.mono (by have := HSB.out; omega))
  have X1 : Hid (Below wb.heap.size wb w1) := b1
  have HS := HSB.out
  clear HWB BB b1
  by_cases hneg : r < 0
  · clear hr
    go_wp2
    go_ret
    exact ⟨rfl, B1.out⟩
  · obtain ⟨l0, l1, l2, l3⟩ := hr (by omega)
    clear hr m0 m1 m2 m3
    have HTO : Hid (∀ W : World, Below w.heap.size w W → Calls Try.prog 8 #[.agg #[.slice a0 h.envs.length c0, .slice a1 h.clos.length c1, .slice a2 h.twos.length c2, .slice a3 h.refs.length c3]] W fun e w' => ∃ k0 k1 k2 k3, e = .returned (.agg #[.slice (some ⟨k0, 0, none⟩) h.envs.length h.envs.length, .slice (some ⟨k1, 0, none⟩) h.clos.length h.clos.length, .slice (some ⟨k2, 0, none⟩) h.twos.length h.twos.length, .slice (some ⟨k3, 0, none⟩) h.refs.length h.refs.length]) ∧ HpAt w' (some ⟨k0, 0, none⟩) (some ⟨k1, 0, none⟩) (some ⟨k2, 0, none⟩) (some ⟨k3, 0, none⟩) k0 k1 k2 k3 h ∧ Below W.heap.size W w') := fun W hW =>
      hp_to a0 a1 a2 a3 g0 g1 g2 g3 o0 o1 o2 o3 c0 c1 c2 c3 h l0 l1 l2 l3 W (HA.out.below hW (Nat.le_refl _))
    obtain ⟨p0, p1, p2, p3⟩ := HXB.out w1 X1.out
    go_wp2_with fail
    refine (HTO.out w1 B1.out).mono ?_
    rintro e w2 ⟨q0, q1, q2, q3, rfl, hq2, b2⟩
    have s2 := b2.size
    go_wp2_with fail
    refine (spec_heap _ _ _ _ q0 q1 q2 q3 _ _ _ _ h w2 hq2).mono ?_
    rintro e w3 ⟨⟨ans, rfl, hans⟩, b3⟩
    have HANS : Hid (ans = true ↔ HeapR h) := hans
    have X3 : Hid (Below w1.heap.size w1 w3) := b2.trans (b3.mono s2)
    clear p0 p1 p2 p3 hq2 b2 b3 s2 hans
    have Y3 : Hid (Below w.heap.size w w3) := B1.out.trans (X3.out.mono (by omega))
    have Z3 : Hid (Below wb.heap.size wb w3) := X1.out.trans (X3.out.mono (by omega))
    obtain ⟨p0, p1, p2, p3⟩ := HXB.out w3 Z3.out
    clear X3
    go_wp2_with fail
    refine (HTO.out w3 Y3.out).mono ?_
    rintro e w4 ⟨x0, x1, x2, x3, rfl, hx4, b4⟩
    have s4 := b4.size
    obtain ⟨w5, hw5⟩ : ∃ w5, w4.alloc (.cells #[.slice (some ⟨x0, 0, none⟩) h.envs.length h.envs.length, .slice (some ⟨x1, 0, none⟩) h.clos.length h.clos.length, .slice (some ⟨x2, 0, none⟩) h.twos.length h.twos.length, .slice (some ⟨x3, 0, none⟩) h.refs.length h.refs.length] 35) = w5 := ⟨_, rfl⟩
    have HW5 : Hid (w4.alloc (.cells #[.slice (some ⟨x0, 0, none⟩) h.envs.length h.envs.length, .slice (some ⟨x1, 0, none⟩) h.clos.length h.clos.length, .slice (some ⟨x2, 0, none⟩) h.twos.length h.twos.length, .slice (some ⟨x3, 0, none⟩) h.refs.length h.refs.length] 35) = w5) := hw5
    have b5 : Below w4.heap.size w4 w5 := by rw [← hw5]; exact (Below.refl _ w4).alloc (Nat.le_refl _) _
    have s5 : w5.heap.size = w4.heap.size + 1 := by rw [← hw5]; simp
    have RX5 : Hid (w5.heap[w4.heap.size]? = some (.cells #[.slice (some ⟨x0, 0, none⟩) h.envs.length h.envs.length, .slice (some ⟨x1, 0, none⟩) h.clos.length h.clos.length, .slice (some ⟨x2, 0, none⟩) h.twos.length h.twos.length, .slice (some ⟨x3, 0, none⟩) h.refs.length h.refs.length] 35 (0, 0))) := by show w5.heap[w4.heap.size]? = _; rw [← hw5]; exact (MapKept.heap_alloc w4 _).1
    have G5 : Hid (HpAt w5 (some ⟨x0, 0, none⟩) (some ⟨x1, 0, none⟩) (some ⟨x2, 0, none⟩) (some ⟨x3, 0, none⟩) x0 x1 x2 x3 h) := hx4.below b5 (Nat.le_refl _)
    have Z5 : Hid (Below wb.heap.size wb w5) := Z3.out.trans ((b4.mono (by have := Z3.out.size; omega)).trans (b5.mono (by have := Z3.out.size; omega)))
    have Y5 : Hid (Below w.heap.size w w5) := Y3.out.trans ((b4.mono (by have := Y3.out.size; omega)).trans (b5.mono (by have := Y3.out.size; omega)))
    have HXX : Hid (∀ W : World, Below w5.heap.size w5 W → W.cell? ⟨w4.heap.size, 0, none⟩ = some (.slice (some ⟨x0, 0, none⟩) h.envs.length h.envs.length) ∧ W.cell? ⟨w4.heap.size, 1, none⟩ = some (.slice (some ⟨x1, 0, none⟩) h.clos.length h.clos.length) ∧ W.cell? ⟨w4.heap.size, 2, none⟩ = some (.slice (some ⟨x2, 0, none⟩) h.twos.length h.twos.length) ∧ W.cell? ⟨w4.heap.size, 3, none⟩ = some (.slice (some ⟨x3, 0, none⟩) h.refs.length h.refs.length)) := fun W hh => ⟨(cell_of_row _ _ _ _ _ _ ((hh.block _ (by omega)).trans RX5.out)).trans rfl, (cell_of_row _ _ _ _ _ _ ((hh.block _ (by omega)).trans RX5.out)).trans rfl, (cell_of_row _ _ _ _ _ _ ((hh.block _ (by omega)).trans RX5.out)).trans rfl, (cell_of_row _ _ _ _ _ _ ((hh.block _ (by omega)).trans RX5.out)).trans rfl⟩
    clear p0 p1 p2 p3 hx4 b4 b5 Y3 Z3 hw5 RX5
    obtain ⟨p0, p1, p2, p3⟩ := HXB.out w5 Z5.out
    obtain ⟨y0, y1, y2, y3⟩ := HXX.out w5 (Below.refl _ _)
    go_wp2_with fail
    rw [HW5.out]
    refine (impl_heap _ _ _ _ x0 x1 x2 x3 _ _ _ _ h w5 G5.out).mono ?_
    rintro e w7 ⟨⟨an2, rfl, han2⟩, b7⟩
    obtain rfl : an2 = ans := by
      have hh := HANS.out
      cases an2 <;> cases ans <;> simp_all
    have X7 : Hid (Below w5.heap.size w5 w7) := b7
    clear b7 han2 y0 y1 y2 y3 HW5 p0 p1 p2 p3
    have Y7 : Hid (Below w.heap.size w w7) := Y5.out.trans (X7.out.mono (by have := Y5.out.size; omega))
    have Z7 : Hid (Below wb.heap.size wb w7) := Z5.out.trans (X7.out.mono (by have := Z5.out.size; omega))
    have G7 : Hid (HpAt w7 (some ⟨x0, 0, none⟩) (some ⟨x1, 0, none⟩) (some ⟨x2, 0, none⟩) (some ⟨x3, 0, none⟩) x0 x1 x2 x3 h) := G5.out.below X7.out (Nat.le_refl _)
    have s7 := X7.out.size
    obtain ⟨p0, p1, p2, p3⟩ := HXB.out w7 Z7.out
    obtain ⟨y0, y1, y2, y3⟩ := HXX.out w7 X7.out
    go_wp2
    go_region_law (first
      | (refine step_call rfl 8 #[.tmp 23] #[27] rfl #[.agg #[.slice a0 h.envs.length c0, .slice a1 h.clos.length c1, .slice a2 h.twos.length c2, .slice a3 h.refs.length c3]] (by simp [Act.eval]) Try.func8 th_name th_body _ (HTO.out w7.drew Y7.out.drew) ?_; rintro e w8 ⟨z0, z1, z2, z3, rfl, hz8, b8⟩; have b8' : Below w7.heap.size w7 w8 := (Below.refl _ w7).drew.trans b8; have s8 := b8'.size; have G8 : Hid (HpAt w8 (some ⟨x0, 0, none⟩) (some ⟨x1, 0, none⟩) (some ⟨x2, 0, none⟩) (some ⟨x3, 0, none⟩) x0 x1 x2 x3 h) := G7.out.below b8' (Nat.le_refl _); have X8 : Hid (Below w5.heap.size w5 w8) := X7.out.trans (b8'.mono s7); have Y8 : Hid (Below w.heap.size w w8) := Y7.out.trans (b8'.mono (by have := Y7.out.size; omega)); have J8 : Hid (HpAt w8 (some ⟨z0, 0, none⟩) (some ⟨z1, 0, none⟩) (some ⟨z2, 0, none⟩) (some ⟨z3, 0, none⟩) z0 z1 z2 z3 h) := hz8; clear hz8 b8 b8'; obtain ⟨pA0, pA1, pA2, pA3⟩ := HXB.out w8 (Z5.out.trans (X8.out.mono (by have := Z5.out.size; omega))); obtain ⟨yA0, yA1, yA2, yA3⟩ := HXX.out w8 X8.out; refine ⟨_, rfl, ?_⟩)
      | (refine step_call rfl 10 #[.tmp 22, .tmp 24] #[35, 35] rfl #[.agg #[.slice (some ⟨x0, 0, none⟩) h.envs.length h.envs.length, .slice (some ⟨x1, 0, none⟩) h.clos.length h.clos.length, .slice (some ⟨x2, 0, none⟩) h.twos.length h.twos.length, .slice (some ⟨x3, 0, none⟩) h.refs.length h.refs.length], .agg #[.slice (some ⟨z0, 0, none⟩) h.envs.length h.envs.length, .slice (some ⟨z1, 0, none⟩) h.clos.length h.clos.length, .slice (some ⟨z2, 0, none⟩) h.twos.length h.twos.length, .slice (some ⟨z3, 0, none⟩) h.refs.length h.refs.length]] (by simp [Act.eval]) Try.func10 eh_name eh_body _ (hp_eq _ _ _ _ _ _ _ _ x0 x1 x2 x3 z0 z1 z2 z3 _ _ _ _ _ _ _ _ h w8 G8.out J8.out) ?_; rintro e w9 ⟨rfl, b9⟩; have Y9 : Hid (Below w.heap.size w w9) := Y8.out.trans (b9.mono (by have := Y8.out.size; omega)); clear b9; refine ⟨_, rfl, ?_⟩))
    all_goals
      clear p0 p1 p2 p3 y0 y1 y2 y3
      go_wp2
      go_ret
      exact ⟨rfl, Y9.out⟩
    

set_option maxRecDepth 100000 in
theorem lifted (os : Os) (started : os.Started) (H : Type) (enc : TypeId × Value → H) :
    ReturnsInHanded {} Try.checked os 3 .any (Rows.fnExactHeapOkSpec.pre6 enc Try.prog Try.f3 Rows.fnExactHeapOkRow.domain false) (Rows.fnExactHeapOkSpec.post enc Try.prog Try.f3 false true false false) := by
  refine returnsInHanded_of_change (C := Try.checked) own started (by kernel_rfl) Try.func3
    (ChangeSpec.witness6 (enc := enc) (C := Try.checked) false ⟨#[], #[.agg #[.slice none 0 0, .slice none 0 0, .slice none 0 0, .slice none 0 0]], []⟩ 8 (by kernel_rfl) (by kernel_rfl) (by kernel_rfl) (by kernel_rfl)) ?_
  intro W base args ds gs before hval0 hW hcnd _
  have hval : ∀ (j : Nat) t v, Try.f3.params[j]? = some t → args[j]? = some v → Value.okWide Try.prog W .any base t v := hval0
  have hW' := hW
  obtain ⟨p, q, hA0, hV, rfl, hfz, hnd⟩ := hW
  have hA : DataW.TrodAll enc Try.prog W 0 (fun _ => true) true Try.f3.params.toList args.toList ds p := hA0
  rw [Try.params3] at hA hval
  obtain ⟨v0, vs0, d0, ds0, p0, q0, hargs, rfl, rfl, h0, r0⟩ := trodAll_cons hA
  obtain ⟨rfl, rfl, rfl⟩ := trodAll_nil r0
  obtain rfl : args = #[v0] := by cases args; simp_all
  obtain ⟨rfl, rfl⟩ := trodVars_none hV
  obtain ⟨cs0, rfl, hsz0⟩ := okWide_struct Try.underlying27 (hval 0 27 v0 rfl rfl)
  rw [hp_cells] at hsz0
  have k0 := h0
  have lt0 : ∀ x ∈ p0, x.block < W.heap.size := by obtain ⟨m, hm⟩ := k0; exact DataW.trod_lt m _ _ _ hm
  obtain ⟨fuel0, hf0⟩ := h0
  obtain ⟨a0, a1, a2, a3, c0, c1, c2, c3, g0, g1, g2, g3, o0, o1, o2, o3, h, hc0, m0, m1, m2, m3, hrow⟩ := hp_of_cells (cs := cs0.toList) (by simpa using hsz0) (by simpa [Value.cells] using hf0)
  obtain rfl : cs0 = ([.slice a0 h.envs.length c0, .slice a1 h.clos.length c1, .slice a2 h.twos.length c2, .slice a3 h.refs.length c3] : List Value).toArray := by rw [← hc0]
  clear hA0 hval0
  refine (walk a0 a1 a2 a3 c0 c1 c2 c3 g0 g1 g2 g3 o0 o1 o2 o3 h m0 m1 m2 m3 W hrow).mono fun e W' ⟨he, bel⟩ => ?_
  subst he
  exact ⟨_, rfl, _, _, _, [], _, [], hW', trodAll_mk1 (shut_bool Try.underlying4 _), (trodAll_cons_mk (Below.trod laidOut (by kernel_rfl) (of_decide_eq_true (by kernel_rfl)) k0 bel lt0) trodAll_mk0), rfl, bel.frame _, fun h => by cases h⟩

theorem over : Rows.fnExactHeapOkRow.holds Try.pinned (OpenSpec.ofChange Rows.fnExactHeapOkSpec) :=
  OpenClaim.holds_of_wide 3 Try.f3 rfl rfl rfl rfl rfl rfl rfl ⟨rfl, rfl, rfl, rfl, rfl⟩ rfl rfl rfl rfl rfl (by kernel_rfl) Try.func3 (by kernel_rfl)
    (of_decide_eq_true (by kernel_rfl)) (by unfold Func.isWrapper; first | (rw [if_pos (by decide +kernel)]; kernel_rfl) | (rw [if_neg (by decide +kernel)]; exact ⟨rfl, rfl⟩))
    (fun os started H enc _ => lifted os started H enc)
theorem proved : Rows.FnExactHeapOkSaid :=
  over
#print axioms proved
end Go.Proofs.Ythmfkbnfdheopaa.fnExactHeapOk

namespace Go.Proofs.Ythmfkbnfdheopaa
theorem fnExactHeapOk_holds : Rows.FnExactHeapOkSaid := fnExactHeapOk.proved
#print axioms fnExactHeapOk_holds
end Go.Proofs.Ythmfkbnfdheopaa
