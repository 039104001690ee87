/-
  Values: LookUp of the specification. Conditions: written at each theorem.
-/
import Derived.Test.YthmfkbnfdheopaaX7
namespace Go.Proofs.Ythmfkbnfdheopaa
open Go.ChangeShapes Go.WideShapes Go.ChangeAt Go.RowKit Go.Sort
set_option linter.unusedVariables false

/-- What LookUp answers. -/
def LookAns (h : Hq) (env n r : Int) (e : Ending) : Prop :=
  ∃ R : Vl × Bool, e = .returned (valT R) ∧ (HeapR h → -1 ≤ env → env < h.envs.length → R = lookA h n r env) ∧ (¬ (HeapR h ∧ -1 ≤ env ∧ env < h.envs.length) → R = (noVl, false))

theorem look_one {h : Hq} {env n r : Int} {R R' : Vl × Bool} (h1 : LookAns h env n r (.returned (valT R))) (h2 : LookAns h env n r (.returned (valT R'))) : R' = R := by
  have inj : ∀ {A B : Vl × Bool}, Ending.returned (valT A) = Ending.returned (valT B) → A = B := by
    rintro ⟨⟨k, n⟩, b⟩ ⟨⟨k', n'⟩, b'⟩ e
    simp [valT] at e
    obtain ⟨⟨rfl, rfl⟩, rfl⟩ := e
    rfl
  obtain ⟨A, e1, p1, q1⟩ := h1
  obtain ⟨B, e2, p2, q2⟩ := h2
  rw [inj e1, inj e2]
  by_cases hh : HeapR h ∧ -1 ≤ env ∧ env < h.envs.length
  · rw [p1 hh.1 hh.2.1 hh.2.2, p2 hh.1 hh.2.1 hh.2.2]
  · rw [q1 hh, q2 hh]

set_option maxHeartbeats 2000000 in
set_option maxRecDepth 20000 in
theorem spec_lookup (a0 a1 a2 a3 : Option Addr) (g0 g1 g2 g3 c0 c1 c2 c3 : Nat) (h : Hq) (env n r : Int) (w : World) (hA : HpAt w a0 a1 a2 a3 g0 g1 g2 g3 h) :
    Calls Try.prog 14 #[.agg #[.slice a0 h.envs.length c0, .slice a1 h.clos.length c1, .slice a2 h.twos.length c2, .slice a3 h.refs.length c3], .int .i64 env, .agg #[.int .i64 n, .int .i64 r]] w fun e w' => LookAns h env n r e ∧ Below w.heap.size w w' := by
  have HA : Hid (HpAt w a0 a1 a2 a3 g0 g1 g2 g3 h) := hA
  have hlen : h.envs.length ≤ 1048576 := hA.l0
  obtain ⟨wb, hwb⟩ : ∃ wb, ((w.alloc (.cells #[.slice a0 h.envs.length c0, .slice a1 h.clos.length c1, .slice a2 h.twos.length c2, .slice a3 h.refs.length c3] 35)).alloc (.cells #[.int .i64 n, .int .i64 r] 49)).alloc (.cells #[.int .i64 0, .int .i64 0] 42) = wb := ⟨_, rfl⟩
  have HWB : Hid (((w.alloc (.cells #[.slice a0 h.envs.length c0, .slice a1 h.clos.length c1, .slice a2 h.twos.length c2, .slice a3 h.refs.length c3] 35)).alloc (.cells #[.int .i64 n, .int .i64 r] 49)).alloc (.cells #[.int .i64 0, .int .i64 0] 42) = wb) := hwb
  have BB : Hid (Below w.heap.size w wb) := by show Below w.heap.size w wb; rw [← hwb]; exact (((Below.refl _ w).alloc (Nat.le_refl _) _).alloc (by simp) _).alloc (by simp; omega) _
  have HSB : Hid (wb.heap.size = w.heap.size + 3) := by show wb.heap.size = _; rw [← hwb]; simp
  have RH : Hid (wb.heap[w.heap.size]? = some (.cells #[.slice a0 h.envs.length c0, .slice a1 h.clos.length c1, .slice a2 h.twos.length c2, .slice a3 h.refs.length c3] 35 (0, 0))) := by
    show wb.heap[w.heap.size]? = _
    rw [← hwb, Below.heap_alloc _ _ _ (by simp; omega), Below.heap_alloc _ _ _ (by simp)]
    exact (MapKept.heap_alloc w _).1
  have RB : Hid (wb.heap[w.heap.size + 1]? = some (.cells #[.int .i64 n, .int .i64 r] 49 (0, 0))) := by
    show wb.heap[w.heap.size + 1]? = _
    rw [← hwb, Below.heap_alloc _ _ _ (by simp), heap_alloc2_new]
  have RV : Hid (wb.heap[w.heap.size + 1 + 1]? = some (.cells #[.int .i64 0, .int .i64 0] 42 (0, 0))) := by
    show wb.heap[w.heap.size + 1 + 1]? = _
    rw [← hwb]
    have := (MapKept.heap_alloc ((w.alloc (.cells #[.slice a0 h.envs.length c0, .slice a1 h.clos.length c1, .slice a2 h.twos.length c2, .slice a3 h.refs.length c3] 35)).alloc (.cells #[.int .i64 n, .int .i64 r] 49)) (.cells #[.int .i64 0, .int .i64 0] 42)).1
    simpa using this
  have HXB : Hid (∀ W : World, Below wb.heap.size wb W → W.cell? ⟨w.heap.size, 0, none⟩ = some (.slice a0 h.envs.length c0) ∧ W.cell? ⟨w.heap.size, 1, none⟩ = some (.slice a1 h.clos.length c1) ∧ W.cell? ⟨w.heap.size, 2, none⟩ = some (.slice a2 h.twos.length c2) ∧ W.cell? ⟨w.heap.size, 3, none⟩ = some (.slice a3 h.refs.length c3) ∧ W.cell? ⟨w.heap.size + 1, 0, none⟩ = some (.int .i64 n) ∧ W.cell? ⟨w.heap.size + 1, 1, none⟩ = some (.int .i64 r) ∧ W.cell? ⟨w.heap.size + 1 + 1, 0, none⟩ = some (.int .i64 0) ∧ W.cell? ⟨w.heap.size + 1 + 1, 1, none⟩ = some (.int .i64 0) ∧ W.frozen? ⟨w.heap.size + 1 + 1, 0, none⟩ = false ∧ W.frozen? ⟨w.heap.size + 1 + 1, 1, none⟩ = false ∧ W.heap[w.heap.size + 1 + 1]? = some (.cells #[.int .i64 0, .int .i64 0] 42 (0, 0))) := fun W hh =>
    have e1 := (hh.block w.heap.size (by have := HSB.out; omega)).trans RH.out
    have e2 := (hh.block (w.heap.size + 1) (by have := HSB.out; omega)).trans RB.out
    have e3 := (hh.block (w.heap.size + 1 + 1) (by have := HSB.out; omega)).trans RV.out
    ⟨(cell_of_row _ _ _ _ _ _ e1).trans rfl, (cell_of_row _ _ _ _ _ _ e1).trans rfl, (cell_of_row _ _ _ _ _ _ e1).trans rfl, (cell_of_row _ _ _ _ _ _ e1).trans rfl, (cell_of_row _ _ _ _ _ _ e2).trans rfl, (cell_of_row _ _ _ _ _ _ e2).trans rfl, (cell_of_row _ _ _ _ _ _ e3).trans rfl, (cell_of_row _ _ _ _ _ _ e3).trans rfl, frozen_of_row W _ _ _ _ e3, frozen_of_row W _ _ _ _ e3, e3⟩
  have HB : Hid (HpAt wb a0 a1 a2 a3 g0 g1 g2 g3 h) := HA.out.below BB.out (Nat.le_refl _)
  have HS := HSB.out
  -- the end: what was stored is told
  have HEND : Hid (∀ (W : World) (R : Vl × Bool) (tmps : Array Value), Below wb.heap.size wb W → tmps.getD 6 undef = .pointer (some ⟨w.heap.size + 1 + 1, 0, none⟩) → tmps.getD 7 undef = .bool R.2 → LookAns h env n r (.returned (valT R)) →
      bodyPost Try.prog Try.f14 (fun e w' => LookAns h env n r e ∧ Below w.heap.size w w') .ret { tmps := tmps, defers := [] } ((W.setCell ⟨w.heap.size + 1 + 1, 0, none⟩ (.int .i64 R.1.kind)).setCell ⟨w.heap.size + 1 + 1, 1, none⟩ (.int .i64 R.1.n))) := fun W R tmps hW h6 h7 hL => by
    have hv := (HXB.out W hW).2.2.2.2.2.2.2.2.2.2
    exact bodyPost_ret (res_row_tmp rfl _ _ (w.heap.size + 1 + 1) _ _ h6 (ld_val (heap_setCell_same _ _ _ _ _ _ (heap_setCell_same _ _ _ _ _ _ hv))) h7) rfl ⟨hL, ((BB.out.trans (hW.mono (by omega))).setCell (p := ⟨w.heap.size + 1 + 1, 0, none⟩) (by simp; omega) _).setCell (p := ⟨w.heap.size + 1 + 1, 1, none⟩) (by simp; omega) _⟩
  obtain ⟨z0, z1, z2, z3, n0, n1, v0, v1, f0, f1, hv⟩ := HXB.out wb (Below.refl _ _)
  clear hwb RH RB RV hA
  go_enter Try.func14, Try.ntmps14
  go_wp2_with fail
  rw [HWB.out]
  refine (spec_heap _ _ _ _ g0 g1 g2 g3 _ _ _ _ h wb HB.out).mono ?_
  rintro e w1 ⟨⟨b, rfl, hb⟩, b1⟩
  have HX1 : Hid (Below wb.heap.size wb w1) := b1
  clear z0 z1 z2 z3 n0 n1 v0 v1 f0 f1 hv HWB
  obtain ⟨z0, z1, z2, z3, n0, n1, v0, v1, f0, f1, hv⟩ := HXB.out w1 b1
  clear b1 hv
  cases b with
  | false =>
    have HN : Hid (LookAns h env n r (.returned (valT (noVl, false)))) := ⟨_, rfl, fun hr => absurd (hb.2 hr) (by simp), fun _ => rfl⟩
    clear hb
    go_wp2
    (try simp only [Exit.inBlock, Exit.then])
    refine HEND.out w1 (noVl, false) _ HX1.out ?_ ?_ HN.out <;> rfl
  | true =>
    have HR : Hid (HeapR h) := hb.1 rfl
    clear hb
    by_cases hin : -1 ≤ env ∧ env < h.envs.length
    · have HIN : Hid (-1 ≤ env ∧ env < h.envs.length) := hin
      have hl1 : (decide (-1 ≤ env) && decide (env ≤ (h.envs.length : Int) - 1)) = true := by simp; omega
      go_wp2_with fail
      refine (hp_in _ _ _ _).mono ?_
      rintro e w2 ⟨rfl, hw2⟩
      rw [hl1]
      have b2 : Below w1.heap.size w1 w2 := by rw [hw2]; exact Below.refl _ _
      clear hw2 hl1 hin
      have HXQ : Hid (Below wb.heap.size wb w2) := HX1.out.trans (b2.mono HX1.out.size)
      obtain ⟨hin0, hin1⟩ := HIN.out
      clear z0 z1 z2 z3 n0 n1 v0 v1 f0 f1 b2
      obtain ⟨z0, z1, z2, z3, n0, n1, v0, v1, f0, f1, hv⟩ := HXB.out w2 HXQ.out
      clear hv
      go_wp2_with fail
      refine (spec_look _ _ _ _ g0 g1 g2 g3 _ _ _ _ h HR.out env n r hin0 hin1 w2 (HB.out.below HXQ.out (Nat.le_refl _))).mono ?_
      rintro e w3 ⟨rfl, b3⟩
      have HX3 : Hid (Below wb.heap.size wb w3) := HXQ.out.trans (b3.mono HXQ.out.size)
      clear z0 z1 z2 z3 n0 n1 v0 v1 f0 f1 b3
      obtain ⟨z0, z1, z2, z3, n0, n1, v0, v1, f0, f1, hv⟩ := HXB.out w3 HX3.out
      have HN : Hid (LookAns h env n r (.returned (valT (lookA h n r env)))) := ⟨_, rfl, fun _ _ _ => rfl, fun hh => absurd ⟨HR.out, HIN.out⟩ hh⟩
      generalize lookA h n r env = R at *
      clear hv
      go_wp2
      (try simp only [Exit.inBlock, Exit.then])
      refine HEND.out w3 R _ HX3.out ?_ ?_ HN.out <;> rfl
    · have HN : Hid (LookAns h env n r (.returned (valT (noVl, false)))) := ⟨_, rfl, fun _ h1 h2 => absurd ⟨h1, h2⟩ hin, fun _ => rfl⟩
      have hl1 : (decide (-1 ≤ env) && decide (env ≤ (h.envs.length : Int) - 1)) = false := by simp; omega
      go_wp2_with fail
      refine (hp_in _ _ _ _).mono ?_
      rintro e w2 ⟨rfl, hw2⟩
      rw [hl1]
      have b2 : Below w1.heap.size w1 w2 := by rw [hw2]; exact Below.refl _ _
      clear hw2 hl1 hin
      have HXQ : Hid (Below wb.heap.size wb w2) := HX1.out.trans (b2.mono HX1.out.size)
      clear z0 z1 z2 z3 n0 n1 v0 v1 f0 f1 b2
      obtain ⟨z0, z1, z2, z3, n0, n1, v0, v1, f0, f1, hv⟩ := HXB.out w2 HXQ.out
      clear hv
      go_wp2
      (try simp only [Exit.inBlock, Exit.then])
      refine HEND.out w2 (noVl, false) _ HXQ.out ?_ ?_ HN.out <;> rfl
end Go.Proofs.Ythmfkbnfdheopaa
