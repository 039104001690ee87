/-
  Values: names looked up; the specification's. Conditions: written at each theorem.
-/
import Derived.Test.YthmfkbnfdheopaaX4
namespace Go.Proofs.Ythmfkbnfdheopaa
open Go.ChangeShapes Go.WideShapes Go.ChangeAt Go.RowKit Go.Sort
set_option linter.unusedVariables false

/-- From cell e on, at most f cells: the first one of that node and role. -/
def lookB (h : Hq) (n r : Int) : Nat → Int → Vl × Bool
  | 0, _ => (noVl, false)
  | f + 1, e => if e < 0 then (noVl, false) else if (h.envs.getD e.toNat noCel).node = n ∧ (h.envs.getD e.toNat noCel).role = r then (⟨(h.envs.getD e.toNat noCel).vk, (h.envs.getD e.toNat noCel).vn⟩, true) else lookB h n r f (h.envs.getD e.toNat noCel).next

theorem lookB_fuel {h : Hq} (hr : HeapR h) (n r : Int) : ∀ (f g : Nat) (e : Int), e < f → e < g → e < h.envs.length → lookB h n r f e = lookB h n r g e
  | 0, 0, e, _, _, _ => rfl
  | 0, g + 1, e, hf, _, _ => by rw [lookB, lookB, if_pos (by omega)]
  | f + 1, 0, e, _, hg, _ => by rw [lookB, lookB, if_pos (by omega)]
  | f + 1, g + 1, e, hf, hg, hl => by
    rw [lookB, lookB]
    by_cases h0 : e < 0
    · rw [if_pos h0, if_pos h0]
    · rw [if_neg h0, if_neg h0]
      have hn := (hr.env e.toNat (by omega)).2.1
      split
      · rfl
      · exact lookB_fuel hr n r f g _ (by omega) (by omega) (by omega)

def lookA (h : Hq) (n r e : Int) : Vl × Bool := lookB h n r (e + 1).toNat e

theorem lookA_neg (h : Hq) (n r : Int) {e : Int} (he : e < 0) : lookA h n r e = (noVl, false) := by
  rw [lookA, show (e + 1).toNat = 0 by omega]; rfl

theorem lookA_hit {h : Hq} {n r e : Int} (h0 : 0 ≤ e) {c : Cel} (hc : h.envs.getD e.toNat noCel = c) (hm : c.node = n ∧ c.role = r) : lookA h n r e = (⟨c.vk, c.vn⟩, true) := by
  rw [lookA, show (e + 1).toNat = e.toNat + 1 by omega, lookB, if_neg (by omega), hc, if_pos hm]

theorem lookA_next {h : Hq} (hr : HeapR h) {n r e : Int} (h0 : 0 ≤ e) (hl : e < h.envs.length) {c : Cel} (hc : h.envs.getD e.toNat noCel = c) (hm : ¬ (c.node = n ∧ c.role = r)) : lookA h n r e = lookA h n r c.next := by
  have hn := (hr.env e.toNat (by omega)).2.1
  rw [hc] at hn
  rw [lookA, show (e + 1).toNat = e.toNat + 1 by omega, lookB, if_neg (by omega), hc, if_neg hm, lookA]
  exact lookB_fuel hr n r _ _ _ (by omega) (by omega) (by omega)

theorem next_lt {h : Hq} (hr : HeapR h) {e : Int} (h0 : 0 ≤ e) (hl : e < h.envs.length) {c : Cel} (hc : h.envs.getD e.toNat noCel = c) : -1 ≤ c.next ∧ c.next < e := by
  have hn := hr.env e.toNat (by omega)
  unfold EnvR at hn
  rw [hc] at hn
  exact ⟨hn.1, by omega⟩

theorem res_row_tmp {fn : Func} {p u : Tmp} {ty : TypeId} (h : fn.results = #[.cell p ty, .tmp u]) (tmps : Array Value) {P : Program} (w : World) (g : Nat) (v v2 : Value)
    (hp : tmps.getD p undef = .pointer (some ⟨g, 0, none⟩)) (hg : (loadVar ty ⟨g, 0, none⟩).run P w = .ok v w) (hv : tmps.getD u undef = v2) :
    (results fn tmps).run P w = .ok (.tuple #[v, v2]) w := by
  have hp' : tmps[p]?.getD undef = .pointer (some ⟨g, 0, none⟩) := by simpa using hp
  have hv' : tmps[u]?.getD undef = v2 := by simpa using hv
  simp [results, h, hp', hv', asAddr, hg]

theorem ld_val {w : World} {g : Nat} {k n : Int} {t : TypeId} {z : Nat × Nat} (h : w.heap[g]? = some (.cells #[.int .i64 k, .int .i64 n] t z)) :
    (loadVar 42 ⟨g, 0, none⟩).run Try.prog w = .ok (.agg #[.int .i64 k, .int .i64 n]) w := run_loadVar_row w g t 42 _ z _ h Try.underlying42 rfl (by kernel_rfl)

/-- The value of a cell pair, and a flag. -/
def valT (R : Vl × Bool) : Value := .tuple #[.agg #[.int .i64 R.1.kind, .int .i64 R.1.n], .bool R.2]

set_option maxHeartbeats 2000000 in
set_option maxRecDepth 20000 in
theorem spec_look (a0 a1 a2 a3 : Option Addr) (g0 g1 g2 g3 c0 c1 c2 c3 : Nat) (h : Hq) (hr : HeapR h) (env n r : Int) (l0 : -1 ≤ env) (l1 : env < h.envs.length) (w : World) (hA : HpAt w a0 a1 a2 a3 g0 g1 g2 g3 h) :
    Calls Try.prog 33 #[.agg #[.slice a0 h.envs.length c0, .slice a1 h.clos.length c1, .slice a2 h.twos.length c2, .slice a3 h.refs.length c3], .int .i64 env, .agg #[.int .i64 n, .int .i64 r]] w fun e w' =>
      e = .returned (.tuple #[.agg #[.int .i64 (lookA h n r env).1.kind, .int .i64 (lookA h n r env).1.n], .bool (lookA h n r env).2]) ∧ Below w.heap.size w w' := by
  have HA : Hid (HpAt w a0 a1 a2 a3 g0 g1 g2 g3 h) := hA
  have HR : Hid (HeapR h) := hr
  obtain ⟨R, hR⟩ : ∃ R, lookA h n r env = R := ⟨_, rfl⟩
  have HL : Hid (lookA h n r env = R) := hR
  rw [hR]
  have hlen : h.envs.length ≤ 1048576 := hA.l0
  obtain ⟨wb, hwb⟩ : ∃ wb, ((w.alloc (.cells #[.slice a0 h.envs.length c0, .slice a1 h.clos.length c1, .slice a2 h.twos.length c2, .slice a3 h.refs.length c3] 35)).alloc (.cells #[.int .i64 n, .int .i64 r] 49)).alloc (.cells #[.int .i64 0, .int .i64 0] 42) = wb := ⟨_, rfl⟩
  have HWB : Hid (((w.alloc (.cells #[.slice a0 h.envs.length c0, .slice a1 h.clos.length c1, .slice a2 h.twos.length c2, .slice a3 h.refs.length c3] 35)).alloc (.cells #[.int .i64 n, .int .i64 r] 49)).alloc (.cells #[.int .i64 0, .int .i64 0] 42) = wb) := hwb
  have BB : Hid (Below w.heap.size w wb) := by show Below w.heap.size w wb; rw [← hwb]; exact (((Below.refl _ w).alloc (Nat.le_refl _) _).alloc (by simp) _).alloc (by simp; omega) _
  have HSB : Hid (wb.heap.size = w.heap.size + 3) := by show wb.heap.size = _; rw [← hwb]; simp
  have RH : Hid (wb.heap[w.heap.size]? = some (.cells #[.slice a0 h.envs.length c0, .slice a1 h.clos.length c1, .slice a2 h.twos.length c2, .slice a3 h.refs.length c3] 35 (0, 0))) := by
    show wb.heap[w.heap.size]? = _
    rw [← hwb, Below.heap_alloc _ _ _ (by simp; omega), Below.heap_alloc _ _ _ (by simp)]
    exact (MapKept.heap_alloc w _).1
  have RB : Hid (wb.heap[w.heap.size + 1]? = some (.cells #[.int .i64 n, .int .i64 r] 49 (0, 0))) := by
    show wb.heap[w.heap.size + 1]? = _
    rw [← hwb, Below.heap_alloc _ _ _ (by simp), heap_alloc2_new]
  have RV : Hid (wb.heap[w.heap.size + 1 + 1]? = some (.cells #[.int .i64 0, .int .i64 0] 42 (0, 0))) := by
    show wb.heap[w.heap.size + 1 + 1]? = _
    rw [← hwb]
    have := (MapKept.heap_alloc ((w.alloc (.cells #[.slice a0 h.envs.length c0, .slice a1 h.clos.length c1, .slice a2 h.twos.length c2, .slice a3 h.refs.length c3] 35)).alloc (.cells #[.int .i64 n, .int .i64 r] 49)) (.cells #[.int .i64 0, .int .i64 0] 42)).1
    simpa using this
  have HXB : Hid (∀ W : World, Below wb.heap.size wb W → W.cell? ⟨w.heap.size, 0, none⟩ = some (.slice a0 h.envs.length c0) ∧ W.cell? ⟨w.heap.size + 1, 0, none⟩ = some (.int .i64 n) ∧ W.cell? ⟨w.heap.size + 1, 1, none⟩ = some (.int .i64 r)
      ∧ W.cell? ⟨w.heap.size + 1 + 1, 0, none⟩ = some (.int .i64 0) ∧ W.cell? ⟨w.heap.size + 1 + 1, 1, none⟩ = some (.int .i64 0) ∧ W.frozen? ⟨w.heap.size + 1 + 1, 0, none⟩ = false ∧ W.frozen? ⟨w.heap.size + 1 + 1, 1, none⟩ = false ∧ W.heap[w.heap.size + 1 + 1]? = some (.cells #[.int .i64 0, .int .i64 0] 42 (0, 0))) := fun W hh =>
    have e1 := (hh.block w.heap.size (by have := HSB.out; omega)).trans RH.out
    have e2 := (hh.block (w.heap.size + 1) (by have := HSB.out; omega)).trans RB.out
    have e3 := (hh.block (w.heap.size + 1 + 1) (by have := HSB.out; omega)).trans RV.out
    ⟨(cell_of_row _ _ _ _ _ _ e1).trans rfl, (cell_of_row _ _ _ _ _ _ e2).trans rfl, (cell_of_row _ _ _ _ _ _ e2).trans rfl, (cell_of_row _ _ _ _ _ _ e3).trans rfl, (cell_of_row _ _ _ _ _ _ e3).trans rfl, frozen_of_row W _ _ _ _ e3, frozen_of_row W _ _ _ _ e3, e3⟩
  have HB : Hid (HpAt wb a0 a1 a2 a3 g0 g1 g2 g3 h) := HA.out.below BB.out (Nat.le_refl _)
  have HS := HSB.out
  clear hwb RH RB RV hA hr hR
  go_enter Try.func33, Try.ntmps33
  go_wp2
  rw [HWB.out]
  clear HWB
  go_loopw [1] (fun q wr => ∃ e : Int, q = .int .i64 e ∧ -1 ≤ e ∧ e < h.envs.length ∧ Hid (lookA h n r e = R) ∧ Below wb.heap.size wb wr) (fun q _ => (intOf q + 1).toNat)
  case atStart => exact ⟨env, rfl, l0, l1, HL.out, Below.refl _ _⟩
  case round =>
    obtain ⟨e, rfl, hl0, hl1, HE, hbl⟩ := hrel
    clear l0 l1 HL
    have hsize := hbl.size
    obtain ⟨z0, n0, n1, v0, v1, f0, f1, hv⟩ := HXB.out wr hbl
    have HV : Hid (wr.heap[w.heap.size + 1 + 1]? = some (.cells #[.int .i64 0, .int .i64 0] 42 (0, 0))) := hv
    clear hv
    by_cases hneg : e < 0
    · have hres := lookA_neg h n r hneg
      rw [HE.out] at hres
      subst hres
      clear HE
      go_wp2
      (try simp only [Exit.inBlock, Exit.then])
      refine bodyPost_ret (res_row_tmp rfl _ _ (w.heap.size + 1 + 1) _ _ rfl (ld_val (heap_setCell_same _ _ _ _ _ _ (heap_setCell_same _ _ _ _ _ _ HV.out))) rfl) rfl ?_
      exact ⟨rfl, ((BB.out.trans (hbl.mono (by omega))).setCell (p := ⟨w.heap.size + 1 + 1, 0, none⟩) (by simp; omega) _).setCell (p := ⟨w.heap.size + 1 + 1, 1, none⟩) (by simp; omega) _⟩
    · obtain ⟨k, rfl⟩ : ∃ k : Nat, e = (k : Int) := ⟨e.toNat, by omega⟩
      have e1 : (k : Int) < h.envs.length := hl1
      have hk : k < h.envs.length := by omega
      obtain rfl := HA.out.e0 (by omega)
      have t := ((HB.out.below hbl (Nat.le_refl _)).r0) k hk
      obtain ⟨⟨x0, x1, x2, x3, x4⟩, hx⟩ : ∃ y, h.envs.getD k noCel = y := ⟨_, rfl⟩
      rw [hx] at t
      have hx' : h.envs.getD (k : Int).toNat noCel = ⟨x0, x1, x2, x3, x4⟩ := by simpa using hx
      have hnx := next_lt HR.out (by omega) hl1 hx'
      simp only at hnx
      have q0 : wr.cell? ⟨g0, k * 5, none⟩ = some (.int .i64 x0) := t.c0
      have q1 : wr.cell? ⟨g0, k * 5 + 1, none⟩ = some (.int .i64 x1) := t.c1
      have q2 : wr.cell? ⟨g0, k * 5 + 2, none⟩ = some (.int .i64 x2) := t.c2
      have q3 : wr.cell? ⟨g0, k * 5 + 3, none⟩ = some (.int .i64 x3) := t.c3
      have q4 : wr.cell? ⟨g0, k * 5 + 4, none⟩ = some (.int .i64 x4) := t.c4
      have HW1 : Hid (Below wb.heap.size wb (wr.alloc (.cells #[.int .i64 x0, .int .i64 x1, .int .i64 x2, .int .i64 x3, .int .i64 x4] 59))) := hbl.alloc hsize _
      obtain ⟨z0', n0', n1', v0', v1', f0', f1', hv'⟩ := HXB.out _ HW1.out
      have HV1 : Hid ((wr.alloc (.cells #[.int .i64 x0, .int .i64 x1, .int .i64 x2, .int .i64 x3, .int .i64 x4] 59)).heap[w.heap.size + 1 + 1]? = some (.cells #[.int .i64 0, .int .i64 0] 42 (0, 0))) := hv'
      clear t hx hv'
      by_cases hm : x0 = n ∧ x1 = r
      · have hres := lookA_hit (h := h) (n := n) (r := r) (by omega) hx' hm
        rw [HE.out] at hres
        subst hres
        obtain ⟨rfl, rfl⟩ := hm
        clear HE hx'
        go_wp2
        (try simp only [Exit.inBlock, Exit.then])
        refine bodyPost_ret (res_row_tmp rfl _ _ (w.heap.size + 1 + 1) _ _ rfl (ld_val (heap_setCell_same _ _ _ _ _ _ (heap_setCell_same _ _ _ _ _ _ HV1.out))) rfl) rfl ?_
        exact ⟨rfl, ((BB.out.trans (HW1.out.mono (by omega))).setCell (p := ⟨w.heap.size + 1 + 1, 0, none⟩) (by simp; omega) _).setCell (p := ⟨w.heap.size + 1 + 1, 1, none⟩) (by simp; omega) _⟩
      · have HN : Hid (lookA h n r x4 = R) := by show lookA h n r x4 = R; rw [← lookA_next HR.out (by omega) hl1 hx' hm]; exact HE.out
        clear HE hx'
        by_cases hm0 : x0 = n
        · have hm1 : (x1 == r) = false := by simp; exact fun hh => hm ⟨hm0, hh⟩
          subst hm0
          clear hm
          go_wp2
          go_roundw
          case rel => exact ⟨x4, rfl, hnx.1, by omega, HN.out, HW1.out⟩
          case measure => simp [intOf]; omega
        · have hm1 : (x0 == n) = false := by simpa using hm0
          clear hm hm0
          go_wp2
          go_roundw
          case rel => exact ⟨x4, rfl, hnx.1, by omega, HN.out, HW1.out⟩
          case measure => simp [intOf]; omega
end Go.Proofs.Ythmfkbnfdheopaa
