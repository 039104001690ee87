/-
  Values: ShowVal as it landed. Conditions: written at each theorem.
-/
import Derived.Test.YthmfkbnfdheopaaDoorXe
import Derived.Test.YthmfkbnfdheopaaDoorX6
namespace Go.Proofs.YthmfkbnfdheopaaDoor
open Go.ChangeShapes Go.WideShapes Go.ChangeAt Go.RowKit Go.Sort
set_option linter.unusedVariables false

set_option maxHeartbeats 4000000 in
set_option maxRecDepth 20000 in
theorem impl_showval (a0 a1 a2 a3 : Option Addr) (g0 g1 g2 g3 c0 c1 c2 c3 : Nat) (h : Hq) (d k n : Int) (w : World) (hA : HpAt w a0 a1 a2 a3 g0 g1 g2 g3 h) (hp : PowIs w) :
    Calls Tryd.prog 12 #[.agg #[.slice a0 h.envs.length c0, .slice a1 h.clos.length c1, .slice a2 h.twos.length c2, .slice a3 h.refs.length c3], .agg #[.int .i64 k, .int .i64 n], .int .i64 d] w fun e w' => ShowAns h d k n e ∧ Below w.heap.size w w' := by
  have HA : Hid (HpAt w a0 a1 a2 a3 g0 g1 g2 g3 h) := hA
  have lb1 : h.clos.length ≤ 1048576 := hA.l1
  have lb2 : h.twos.length ≤ 1048576 := hA.l2
  have lb3 : h.refs.length ≤ 1048576 := hA.l3
  have HP : Hid (PowIs w) := hp
  obtain ⟨wb, hwb⟩ : ∃ wb, (w.alloc (.cells #[.slice a0 h.envs.length c0, .slice a1 h.clos.length c1, .slice a2 h.twos.length c2, .slice a3 h.refs.length c3] 29)).alloc (.cells #[.int .i64 k, .int .i64 n] 35) = wb := ⟨_, rfl⟩
  have HWB : Hid ((w.alloc (.cells #[.slice a0 h.envs.length c0, .slice a1 h.clos.length c1, .slice a2 h.twos.length c2, .slice a3 h.refs.length c3] 29)).alloc (.cells #[.int .i64 k, .int .i64 n] 35) = wb) := hwb
  have BB : Hid (Below w.heap.size w wb) := by show Below w.heap.size w wb; rw [← hwb]; exact ((Below.refl _ w).alloc (Nat.le_refl _) _).alloc (by simp) _
  have HSB : Hid (wb.heap.size = w.heap.size + 2) := by show wb.heap.size = _; rw [← hwb]; simp
  have RH : Hid (wb.heap[w.heap.size]? = some (.cells #[.slice a0 h.envs.length c0, .slice a1 h.clos.length c1, .slice a2 h.twos.length c2, .slice a3 h.refs.length c3] 29 (0, 0))) := by
    show wb.heap[w.heap.size]? = _
    rw [← hwb, Below.heap_alloc _ _ _ (by simp)]
    exact (MapKept.heap_alloc w _).1
  have RV : Hid (wb.heap[w.heap.size + 1]? = some (.cells #[.int .i64 k, .int .i64 n] 35 (0, 0))) := by
    show wb.heap[w.heap.size + 1]? = _
    rw [← hwb]
    have := (MapKept.heap_alloc (w.alloc (.cells #[.slice a0 h.envs.length c0, .slice a1 h.clos.length c1, .slice a2 h.twos.length c2, .slice a3 h.refs.length c3] 29)) (.cells #[.int .i64 k, .int .i64 n] 35)).1
    simpa using this
  have HXB : Hid (∀ W : World, Below wb.heap.size wb W → W.cell? ⟨w.heap.size, 0, none⟩ = some (.slice a0 h.envs.length c0) ∧ W.cell? ⟨w.heap.size, 1, none⟩ = some (.slice a1 h.clos.length c1) ∧ W.cell? ⟨w.heap.size, 2, none⟩ = some (.slice a2 h.twos.length c2) ∧ W.cell? ⟨w.heap.size, 3, none⟩ = some (.slice a3 h.refs.length c3) ∧ W.cell? ⟨w.heap.size + 1, 0, none⟩ = some (.int .i64 k) ∧ W.cell? ⟨w.heap.size + 1, 1, none⟩ = some (.int .i64 n)) := fun W hh =>
    have e1 := (hh.block w.heap.size (by have := HSB.out; omega)).trans RH.out
    have e2 := (hh.block (w.heap.size + 1) (by have := HSB.out; omega)).trans RV.out
    ⟨(cell_of_row _ _ _ _ _ _ e1).trans rfl, (cell_of_row _ _ _ _ _ _ e1).trans rfl, (cell_of_row _ _ _ _ _ _ e1).trans rfl, (cell_of_row _ _ _ _ _ _ e1).trans rfl, (cell_of_row _ _ _ _ _ _ e2).trans rfl, (cell_of_row _ _ _ _ _ _ e2).trans rfl⟩
  have HB : Hid (HpAt wb a0 a1 a2 a3 g0 g1 g2 g3 h) := HA.out.below BB.out (Nat.le_refl _)
  have HS := HSB.out
  clear hwb RH RV
  clear hA hp
  obtain ⟨z0, z1, z2, z3, y0, y1⟩ := HXB.out wb (Below.refl _ _)
  go_enter Tryd.func12, Tryd.ntmps12
  go_wp2_with fail
  rw [HWB.out]
  refine (impl_heap _ _ _ _ g0 g1 g2 g3 _ _ _ _ h wb HB.out).mono ?_
  rintro e w1 ⟨⟨b, rfl, hb⟩, b1⟩
  have HX1 : Hid (Below wb.heap.size wb w1) := b1
  clear z0 z1 z2 z3 y0 y1 HWB
  obtain ⟨z0, z1, z2, z3, y0, y1⟩ := HXB.out w1 b1
  clear b1
  cases b with
  | false =>
    have HN : Hid (ShowAns h d k n (.returned (.string ⟨#[]⟩))) := ⟨_, rfl, fun hr => absurd (hb.2 hr) (by simp), fun _ => rfl⟩
    clear hb
    go_wp2
    go_ret
    exact ⟨HN.out, BB.out.trans (HX1.out.mono (by omega))⟩
  | true =>
    have HR : Hid (HeapR h) := hb.1 rfl
    clear hb
    go_wp2_with fail
    refine (impl_val _ _ _ _ _ _ _ _ _ _ _ _ lb1 lb2 lb3 k n w1).mono ?_
    rintro e w2 ⟨rfl, b2⟩
    have HX2 : Hid (Below wb.heap.size wb w2) := HX1.out.trans (b2.mono HX1.out.size)
    clear z0 z1 z2 z3 y0 y1 b2
    obtain ⟨z0, z1, z2, z3, y0, y1⟩ := HXB.out w2 HX2.out
    cases hvk : valB h.clos.length h.twos.length h.refs.length k n with
    | false =>
      have HN : Hid (ShowAns h d k n (.returned (.string ⟨#[]⟩))) := ⟨_, rfl, fun _ hv => absurd hv (by rw [hvk]; simp), fun _ => rfl⟩
      clear hvk
      go_wp2
      go_ret
      exact ⟨HN.out, BB.out.trans (HX2.out.mono (by omega))⟩
    | true =>
      have HVK : Hid (valB h.clos.length h.twos.length h.refs.length k n = true) := hvk
      clear hvk
      by_cases hd : 0 ≤ d ∧ d ≤ 8
      · obtain ⟨e', rfl⟩ : ∃ e' : Nat, d = (e' : Int) := ⟨d.toNat, by omega⟩
        have hle : e' ≤ 8 := by omega
        have HN : Hid (ShowAns h (e' : Int) k n (.returned (.string ⟨(shwL h e' k n).toArray⟩))) := ⟨_, rfl, fun _ _ _ _ => by rw [Int.toNat_natCast], fun hh => absurd ⟨HR.out, HVK.out, by omega, by omega⟩ hh⟩
        have hPW : Hid (PowIs w2) := Pow.below HP.out (BB.out.trans (HX2.out.mono (by omega)))
        have hd0 : decide ((e' : Int) < 0) = false := decide_eq_false (by omega)
        have hd8 : decide ((8 : Int) < (e' : Int)) = false := decide_eq_false (by omega)
        have hn0 : ¬ (e' : Int) < 0 := by omega
        have hn8 : ¬ (8 : Int) < (e' : Int) := by omega
        clear hd
        go_wp2_with fail
        refine (impl_text e' _ _ _ _ g0 g1 g2 g3 _ _ _ _ h HR.out k n hle HVK.out w2 (HB.out.below HX2.out (Nat.le_refl _)) hPW.out).mono ?_
        rintro e w4 ⟨rfl, b4⟩
        generalize shwL h e' k n = S at *
        have BB4 : Hid (Below w.heap.size w w4) := (BB.out.trans (HX2.out.mono (by omega))).trans (b4.mono (by have := HX2.out.size; omega))
        clear z0 z1 z2 z3 y0 y1 b4
        go_wp2
        go_ret
        exact ⟨HN.out, BB4.out⟩
      · have HN : Hid (ShowAns h d k n (.returned (.string ⟨#[]⟩))) := ⟨_, rfl, fun _ _ h0 h8 => absurd ⟨h0, h8⟩ hd, fun _ => rfl⟩
        by_cases hneg : d < 0
        · clear hd
          go_wp2
          go_ret
          exact ⟨HN.out, BB.out.trans (HX2.out.mono (by omega))⟩
        · have hgt : 8 < d := by omega
          clear hd
          go_wp2
          go_ret
          exact ⟨HN.out, BB.out.trans (HX2.out.mono (by omega))⟩

end Go.Proofs.YthmfkbnfdheopaaDoor
