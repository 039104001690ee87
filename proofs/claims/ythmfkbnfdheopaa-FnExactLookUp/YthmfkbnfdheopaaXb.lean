/-
  Values: the iterator over the cells of a way, nearest, and LookUp as it landed. Conditions: written at each theorem.
-/
import Derived.Test.YthmfkbnfdheopaaX8
import Derived.Test.YthmfkbnfdheopaaX9
namespace Go.Proofs.Ythmfkbnfdheopaa
open Go.ChangeShapes Go.WideShapes Go.ChangeAt Go.RowKit Go.Shelf Go.Sort
set_option linter.unusedVariables false

attribute [local go_sem] Oper.semAt_some

theorem cells_in (a0 a1 a2 a3 : Option Addr) (m0 m1 m2 m3 c0 c1 c2 c3 : Nat) (env : Int) (w : World) :
    Calls Try.prog 42 #[.agg #[.slice a0 m0 c0, .slice a1 m1 c1, .slice a2 m2 c2, .slice a3 m3 c3], .int .i64 env] w fun e w' =>
      e = .returned (.func (.func 43) #[] #[.pointer (some ⟨w.heap.size + 1, 0, none⟩), .pointer (some ⟨w.heap.size, 0, none⟩)]) ∧ w' = (w.alloc (.cells #[.slice a0 m0 c0, .slice a1 m1 c1, .slice a2 m2 c2, .slice a3 m3 c3] 35)).alloc (.cells #[.int .i64 env] 3) := by
  go_enter Try.func42, Try.ntmps42
  go_wp2
  go_ret
  exact ⟨rfl, rfl⟩

/-- How far the way still is: what the iterator's own cell tells. -/
def wayLeft (Be : Nat) (W : World) : Nat := match W.cell? ⟨Be, 0, none⟩ with
  | some (.int _ e) => (e + 1).toNat
  | _ => 0

theorem wayLeft_eq {Be : Nat} {W : World} {e : Int} (h : W.cell? ⟨Be, 0, none⟩ = some (.int .i64 e)) : wayLeft Be W = (e + 1).toNat := by
  unfold wayLeft
  rw [h]

set_option maxRecDepth 100000 in
set_option maxHeartbeats 4000000 in
theorem cells1_in (F : Fence) (n : Nat) (hf : F.fn 43) (hro : F.round = none) (hn : 1 ≤ n) (l Be Bh : Nat) (a0 : Option Addr) (g0 c0 : Nat) (h : Hq) (hr : HeapR h) (hlen : h.envs.length ≤ 1048576) (ha : 0 < h.envs.length → a0 = some ⟨g0, 0, none⟩)
    (J J2 : Int → World → Prop) (Jx : World → Prop)
    (hJ : ∀ e W, J e W → (W.cell? ⟨Be, 0, none⟩ = some (.int .i64 e) ∧ W.frozen? ⟨Be, 0, none⟩ = false ∧ W.cell? ⟨Bh, 0, none⟩ = some (.slice a0 h.envs.length c0) ∧ CelAt W g0 h.envs))
    (hJ2 : ∀ e W, J2 e W → (W.cell? ⟨Be, 0, none⟩ = some (.int .i64 e) ∧ W.frozen? ⟨Be, 0, none⟩ = false ∧ W.cell? ⟨Bh, 0, none⟩ = some (.slice a0 h.envs.length c0) ∧ CelAt W g0 h.envs))
    (hS : ∀ (k : Nat) W, k < h.envs.length → J2 k W → J (h.envs.getD k noCel).next (W.setCell ⟨Be, 0, none⟩ (.int .i64 (h.envs.getD k noCel).next)))
    (hY : ∀ (k : Nat) W, k < h.envs.length → J k W → YieldAt F (n - 1) Try.prog l #[.agg #[.int .i64 (h.envs.getD k noCel).node, .int .i64 (h.envs.getD k noCel).role, .int .i64 (h.envs.getD k noCel).vk, .int .i64 (h.envs.getD k noCel).vn, .int .i64 (h.envs.getD k noCel).next]] W fun e W' => (e = .returned (.bool true) ∧ J2 k W') ∨ (e = .returned (.bool false) ∧ Jx W'))
    (env : Int) (l0 : -1 ≤ env) (l1 : env < h.envs.length) (W : World) (h0 : J env W) :
    CallsIn F n Try.prog 43 #[.func (.yield l) #[] #[], .pointer (some ⟨Be, 0, none⟩), .pointer (some ⟨Bh, 0, none⟩)] W fun e W' => (∃ v, e = .returned v) ∧ (J (-1) W' ∨ Jx W') := by
  have HJ : Hid (∀ e W, J e W → (W.cell? ⟨Be, 0, none⟩ = some (.int .i64 e) ∧ W.frozen? ⟨Be, 0, none⟩ = false ∧ W.cell? ⟨Bh, 0, none⟩ = some (.slice a0 h.envs.length c0) ∧ CelAt W g0 h.envs)) := hJ
  have HJ2 : Hid (∀ e W, J2 e W → (W.cell? ⟨Be, 0, none⟩ = some (.int .i64 e) ∧ W.frozen? ⟨Be, 0, none⟩ = false ∧ W.cell? ⟨Bh, 0, none⟩ = some (.slice a0 h.envs.length c0) ∧ CelAt W g0 h.envs)) := hJ2
  have HS : Hid (∀ (k : Nat) W, k < h.envs.length → J2 k W → J (h.envs.getD k noCel).next (W.setCell ⟨Be, 0, none⟩ (.int .i64 (h.envs.getD k noCel).next))) := hS
  have HY : Hid (∀ (k : Nat) W, k < h.envs.length → J k W → YieldAt F (n - 1) Try.prog l #[.agg #[.int .i64 (h.envs.getD k noCel).node, .int .i64 (h.envs.getD k noCel).role, .int .i64 (h.envs.getD k noCel).vk, .int .i64 (h.envs.getD k noCel).vn, .int .i64 (h.envs.getD k noCel).next]] W fun e W' => (e = .returned (.bool true) ∧ J2 k W') ∨ (e = .returned (.bool false) ∧ Jx W')) := hY
  have H0 : Hid (J env W) := h0
  have HR : Hid (HeapR h) := hr
  clear hJ hJ2 hS hY h0 hr
  refine callsIn_of_wp Try.func43 rfl hf ?_ hro
  simp only [Try.ntmps43, List.size_toArray, List.length_cons, List.length_nil, Nat.reduceAdd, Nat.reduceSub, Array.replicate_succ, Array.replicate_zero, List.push_toArray, List.append_toArray, List.nil_append, List.cons_append]
  gi_wp2
  gi_loopw [4] (fun _ wr => ∃ e : Int, -1 ≤ e ∧ e < h.envs.length ∧ Hid (J e wr)) (fun _ wr => wayLeft Be wr)
  case atStart => exact ⟨env, l0, l1, H0.out⟩
  case round =>
    obtain ⟨e, hl0, hl1, HE⟩ := hrel
    clear l0 l1 H0
    obtain ⟨cb, cf, ch, hA⟩ := HJ.out e wr HE.out
    by_cases hneg : e = -1
    · subst hneg
      clear hA
      gi_wp2
      go_end0
      exact ⟨⟨_, rfl⟩, .inl HE.out⟩
    · obtain ⟨k, rfl⟩ : ∃ k : Nat, e = (k : Int) := ⟨e.toNat, by omega⟩
      have e1 : (k : Int) < h.envs.length := hl1
      have hk : k < h.envs.length := by omega
      have hk1 : ((k : Int) == -1) = false := by simp
      obtain rfl := ha (by omega)
      have t := hA k hk
      have hst := HS.out k
      obtain ⟨fn, tmps, assign, body, hy, hRn⟩ := HY.out k wr hk HE.out
      have hnx := next_lt HR.out (e := (k : Int)) (by omega) hl1 (c := h.envs.getD k noCel) (by simp)
      obtain ⟨⟨x0, x1, x2, x3, x4⟩, hx⟩ : ∃ y, h.envs.getD k noCel = y := ⟨_, rfl⟩
      have HX : Hid (h.envs.getD k noCel = ⟨x0, x1, x2, x3, x4⟩) := hx
      rw [hx] at t hst hnx
      simp only [hx] at hy
      simp only at hnx hst
      have HST : Hid (∀ W, k < h.envs.length → J2 k W → J x4 (W.setCell ⟨Be, 0, none⟩ (.int .i64 x4))) := hst
      have q0 : wr.cell? ⟨g0, k * 5, none⟩ = some (.int .i64 x0) := t.c0
      have q1 : wr.cell? ⟨g0, k * 5 + 1, none⟩ = some (.int .i64 x1) := t.c1
      have q2 : wr.cell? ⟨g0, k * 5 + 2, none⟩ = some (.int .i64 x2) := t.c2
      have q3 : wr.cell? ⟨g0, k * 5 + 3, none⟩ = some (.int .i64 x3) := t.c3
      have q4 : wr.cell? ⟨g0, k * 5 + 4, none⟩ = some (.int .i64 x4) := t.c4
      have HM : Hid (wayLeft Be wr = k + 1) := by show wayLeft Be wr = k + 1; rw [wayLeft_eq cb]; omega
      clear t hx hst hA hneg
      gi_wp2
      refine hRn.mono ?_
      rintro e W3 (⟨rfl, hJ3⟩ | ⟨rfl, hJx3⟩)
      · obtain ⟨cb3, cf3, ch3, hA3⟩ := HJ2.out k W3 hJ3
        have t3 := hA3 k hk
        rw [HX.out] at t3
        have p4 : W3.cell? ⟨g0, k * 5 + 4, none⟩ = some (.int .i64 x4) := t3.c4
        have HJ3 : Hid (J x4 (W3.setCell ⟨Be, 0, none⟩ (.int .i64 x4))) := HST.out W3 hk hJ3
        have cb5 := (HJ.out _ _ HJ3.out).1
        have HM3 : Hid (wayLeft Be (W3.setCell ⟨Be, 0, none⟩ (.int .i64 x4)) = (x4 + 1).toNat) := wayLeft_eq cb5
        clear t3 hA3 hy hRn hJ3 cb5
        gi_wp2
        go_roundw
        case rel => exact ⟨x4, hnx.1, by omega, HJ3.out⟩
        case measure => rw [HM3.out, HM.out]; omega
      · have HJX : Hid (Jx W3) := hJx3
        clear hy hRn hJx3
        gi_wp2
        refine bodyPost_ret (results_none rfl _ _ _) rfl ?_
        exact ⟨⟨_, rfl⟩, .inr HJX.out⟩

/-- All blocks of the first world but one are as they were. -/
structure KB (B : Nat) (w w' : World) : Prop where
  os : w'.os = w.os
  tape : w'.tape = w.tape
  output : w'.output = w.output
  size : w.heap.size ≤ w'.heap.size
  blk : ∀ k, k < w.heap.size → k ≠ B → w'.heap[k]? = w.heap[k]?

theorem KB.refl (B : Nat) (w : World) : KB B w w := ⟨rfl, rfl, rfl, Nat.le_refl _, fun _ _ _ => rfl⟩
theorem KB.set {B : Nat} {w w' : World} (h : KB B w w') (v : Value) (j : Nat) : KB B w (w'.setCell ⟨B, j, none⟩ v) :=
  ⟨h.os, h.tape, h.output, by simpa using h.size, fun k hk hn => (heap_setCell_other _ _ _ _ hn).trans (h.blk k hk hn)⟩

theorem res_rows2 {fn : Func} {p q : Tmp} {ty ty2 : TypeId} (h : fn.results = #[.cell p ty, .cell q ty2]) (tmps : Array Value) {P : Program} (w : World) (g g2 : Nat) (v v2 : Value)
    (hp : tmps.getD p undef = .pointer (some ⟨g, 0, none⟩)) (hg : (loadVar ty ⟨g, 0, none⟩).run P w = .ok v w)
    (hp2 : tmps.getD q undef = .pointer (some ⟨g2, 0, none⟩)) (hg2 : (loadVar ty2 ⟨g2, 0, none⟩).run P w = .ok v2 w) :
    (results fn tmps).run P w = .ok (.tuple #[v, v2]) w := by
  have hp' : tmps[p]?.getD undef = .pointer (some ⟨g, 0, none⟩) := by simpa using hp
  have hp2' : tmps[q]?.getD undef = .pointer (some ⟨g2, 0, none⟩) := by simpa using hp2
  simp [results, h, hp', hp2', asAddr, hg, hg2]

theorem ld_bool {w : World} {g : Nat} {b : Bool} (h : w.heap[g]? = some (.cells #[.bool b] 4 (0, 0))) : (loadVar 4 ⟨g, 0, none⟩).run Try.prog w = .ok (.bool b) w := by
  have hc : w.cell? ⟨g, 0, none⟩ = some (.bool b) := (cell_of_row _ _ _ _ _ _ h).trans rfl
  simp [go_sem, hc]

/-- How nearest ends: what was stored is told; the block for deferred calls is shut. -/
theorem nearest_end {w Z : World} {D : Nat} {R : Vl × Bool} (h2 : Z.heap[w.heap.size + 1 + 1]? = some (.cells #[.int .i64 R.1.kind, .int .i64 R.1.n] 42 (0, 0))) (h3 : Z.heap[w.heap.size + 1 + 1 + 1]? = some (.cells #[.bool R.2] 4 (0, 0)))
    (hD : Z.heap[D]? = some (.deferred (some []))) (hlt : w.heap.size + 3 < D) (hB : Below w.heap.size w Z) (tmps : Array Value) (t6 : tmps.getD 6 undef = .pointer (some ⟨w.heap.size + 1 + 1, 0, none⟩)) (t7 : tmps.getD 7 undef = .pointer (some ⟨w.heap.size + 1 + 1 + 1, 0, none⟩)) :
    bodyPostM Fence.wide 5 Try.prog Try.f34 (fun e w' => e = .returned (valT R) ∧ Below w.heap.size w w') .ret { tmps := tmps, defers := [{ target := .collected D, args := #[] }] } Z := by
  refine ⟨by simp, .inl ⟨_, _, rfl, run_takeDeferred hD, ?_⟩⟩
  have e2 := (World.putObj_heap_other (w := Z) (r := D) (o := .deferred none) (k := w.heap.size + 1 + 1) (by omega)).trans h2
  have e3 := (World.putObj_heap_other (w := Z) (r := D) (o := .deferred none) (k := w.heap.size + 1 + 1 + 1) (by omega)).trans h3
  exact ⟨_, res_rows2 rfl _ _ (w.heap.size + 1 + 1) (w.heap.size + 1 + 1 + 1) _ _ t6 (ld_val e2) t7 (ld_bool e3), rfl, hB.trans (belowK_b (w := w) (Nat.le_refl _) Z D _ _ (by omega) hD rfl rfl)⟩

set_option maxRecDepth 100000 in
set_option maxHeartbeats 4000000 in
theorem impl_nearest (a0 a1 a2 a3 : Option Addr) (g0 g1 g2 g3 c0 c1 c2 c3 : Nat) (h : Hq) (hr : HeapR h) (env n r : Int) (l0 : -1 ≤ env) (l1 : env < h.envs.length) (w : World) (hA : HpAt w a0 a1 a2 a3 g0 g1 g2 g3 h) :
    Calls Try.prog 34 #[.agg #[.slice a0 h.envs.length c0, .slice a1 h.clos.length c1, .slice a2 h.twos.length c2, .slice a3 h.refs.length c3], .int .i64 env, .agg #[.int .i64 n, .int .i64 r]] w fun e w' => e = .returned (valT (lookA h n r env)) ∧ Below w.heap.size w w' := by
  have HR : Hid (HeapR h) := hr
  obtain ⟨R, hR⟩ : ∃ R, lookA h n r env = R := ⟨_, rfl⟩
  have HL : Hid (lookA h n r env = R) := hR
  have hlen : h.envs.length ≤ 1048576 := hA.l0
  rw [hR]
  have hB0 : Below w.heap.size w ((((((w.alloc (.cells #[.slice a0 h.envs.length c0, .slice a1 h.clos.length c1, .slice a2 h.twos.length c2, .slice a3 h.refs.length c3] 35)).alloc (.cells #[.int .i64 n, .int .i64 r] 49)).alloc (.cells #[.int .i64 0, .int .i64 0] 42)).alloc (.cells #[.bool false] 4)).alloc (.cells #[.slice a0 h.envs.length c0, .slice a1 h.clos.length c1, .slice a2 h.twos.length c2, .slice a3 h.refs.length c3] 35)).alloc (.cells #[.int .i64 env] 3)) := ((((((Below.refl _ w).alloc (Nat.le_refl _) _).alloc (by simp) _).alloc (by simp; omega) _).alloc (by simp; omega) _).alloc (by simp; omega) _).alloc (by simp; omega) _
  have hsz : ((((((w.alloc (.cells #[.slice a0 h.envs.length c0, .slice a1 h.clos.length c1, .slice a2 h.twos.length c2, .slice a3 h.refs.length c3] 35)).alloc (.cells #[.int .i64 n, .int .i64 r] 49)).alloc (.cells #[.int .i64 0, .int .i64 0] 42)).alloc (.cells #[.bool false] 4)).alloc (.cells #[.slice a0 h.envs.length c0, .slice a1 h.clos.length c1, .slice a2 h.twos.length c2, .slice a3 h.refs.length c3] 35)).alloc (.cells #[.int .i64 env] 3)).heap.size = w.heap.size + 6 := by simp
  have hr1 : ((((((w.alloc (.cells #[.slice a0 h.envs.length c0, .slice a1 h.clos.length c1, .slice a2 h.twos.length c2, .slice a3 h.refs.length c3] 35)).alloc (.cells #[.int .i64 n, .int .i64 r] 49)).alloc (.cells #[.int .i64 0, .int .i64 0] 42)).alloc (.cells #[.bool false] 4)).alloc (.cells #[.slice a0 h.envs.length c0, .slice a1 h.clos.length c1, .slice a2 h.twos.length c2, .slice a3 h.refs.length c3] 35)).alloc (.cells #[.int .i64 env] 3)).heap[w.heap.size + 1]? = some (.cells #[.int .i64 n, .int .i64 r] 49 (0, 0)) := by
    rw [Below.heap_alloc _ _ _ (by simp; try omega), Below.heap_alloc _ _ _ (by simp; try omega), Below.heap_alloc _ _ _ (by simp; try omega), Below.heap_alloc _ _ _ (by simp), heap_alloc2_new]
  have hr2 : ((((((w.alloc (.cells #[.slice a0 h.envs.length c0, .slice a1 h.clos.length c1, .slice a2 h.twos.length c2, .slice a3 h.refs.length c3] 35)).alloc (.cells #[.int .i64 n, .int .i64 r] 49)).alloc (.cells #[.int .i64 0, .int .i64 0] 42)).alloc (.cells #[.bool false] 4)).alloc (.cells #[.slice a0 h.envs.length c0, .slice a1 h.clos.length c1, .slice a2 h.twos.length c2, .slice a3 h.refs.length c3] 35)).alloc (.cells #[.int .i64 env] 3)).heap[w.heap.size + 1 + 1]? = some (.cells #[.int .i64 0, .int .i64 0] 42 (0, 0)) := by
    rw [Below.heap_alloc _ _ _ (by simp; try omega), Below.heap_alloc _ _ _ (by simp; try omega), Below.heap_alloc _ _ _ (by simp)]
    have := (MapKept.heap_alloc ((w.alloc (.cells #[.slice a0 h.envs.length c0, .slice a1 h.clos.length c1, .slice a2 h.twos.length c2, .slice a3 h.refs.length c3] 35)).alloc (.cells #[.int .i64 n, .int .i64 r] 49)) (.cells #[.int .i64 0, .int .i64 0] 42)).1
    simpa using this
  have hr3 : ((((((w.alloc (.cells #[.slice a0 h.envs.length c0, .slice a1 h.clos.length c1, .slice a2 h.twos.length c2, .slice a3 h.refs.length c3] 35)).alloc (.cells #[.int .i64 n, .int .i64 r] 49)).alloc (.cells #[.int .i64 0, .int .i64 0] 42)).alloc (.cells #[.bool false] 4)).alloc (.cells #[.slice a0 h.envs.length c0, .slice a1 h.clos.length c1, .slice a2 h.twos.length c2, .slice a3 h.refs.length c3] 35)).alloc (.cells #[.int .i64 env] 3)).heap[w.heap.size + 1 + 1 + 1]? = some (.cells #[.bool false] 4 (0, 0)) := by
    rw [Below.heap_alloc _ _ _ (by simp; try omega), Below.heap_alloc _ _ _ (by simp)]
    have := (MapKept.heap_alloc (((w.alloc (.cells #[.slice a0 h.envs.length c0, .slice a1 h.clos.length c1, .slice a2 h.twos.length c2, .slice a3 h.refs.length c3] 35)).alloc (.cells #[.int .i64 n, .int .i64 r] 49)).alloc (.cells #[.int .i64 0, .int .i64 0] 42)) (.cells #[.bool false] 4)).1
    simpa using this
  have hr4 : ((((((w.alloc (.cells #[.slice a0 h.envs.length c0, .slice a1 h.clos.length c1, .slice a2 h.twos.length c2, .slice a3 h.refs.length c3] 35)).alloc (.cells #[.int .i64 n, .int .i64 r] 49)).alloc (.cells #[.int .i64 0, .int .i64 0] 42)).alloc (.cells #[.bool false] 4)).alloc (.cells #[.slice a0 h.envs.length c0, .slice a1 h.clos.length c1, .slice a2 h.twos.length c2, .slice a3 h.refs.length c3] 35)).alloc (.cells #[.int .i64 env] 3)).heap[w.heap.size + 1 + 1 + 1 + 1]? = some (.cells #[.slice a0 h.envs.length c0, .slice a1 h.clos.length c1, .slice a2 h.twos.length c2, .slice a3 h.refs.length c3] 35 (0, 0)) := by
    rw [Below.heap_alloc _ _ _ (by simp)]
    have := (MapKept.heap_alloc ((((w.alloc (.cells #[.slice a0 h.envs.length c0, .slice a1 h.clos.length c1, .slice a2 h.twos.length c2, .slice a3 h.refs.length c3] 35)).alloc (.cells #[.int .i64 n, .int .i64 r] 49)).alloc (.cells #[.int .i64 0, .int .i64 0] 42)).alloc (.cells #[.bool false] 4)) (.cells #[.slice a0 h.envs.length c0, .slice a1 h.clos.length c1, .slice a2 h.twos.length c2, .slice a3 h.refs.length c3] 35)).1
    simpa using this
  have hr5 : ((((((w.alloc (.cells #[.slice a0 h.envs.length c0, .slice a1 h.clos.length c1, .slice a2 h.twos.length c2, .slice a3 h.refs.length c3] 35)).alloc (.cells #[.int .i64 n, .int .i64 r] 49)).alloc (.cells #[.int .i64 0, .int .i64 0] 42)).alloc (.cells #[.bool false] 4)).alloc (.cells #[.slice a0 h.envs.length c0, .slice a1 h.clos.length c1, .slice a2 h.twos.length c2, .slice a3 h.refs.length c3] 35)).alloc (.cells #[.int .i64 env] 3)).heap[w.heap.size + 1 + 1 + 1 + 1 + 1]? = some (.cells #[.int .i64 env] 3 (0, 0)) := by
    have := (MapKept.heap_alloc (((((w.alloc (.cells #[.slice a0 h.envs.length c0, .slice a1 h.clos.length c1, .slice a2 h.twos.length c2, .slice a3 h.refs.length c3] 35)).alloc (.cells #[.int .i64 n, .int .i64 r] 49)).alloc (.cells #[.int .i64 0, .int .i64 0] 42)).alloc (.cells #[.bool false] 4)).alloc (.cells #[.slice a0 h.envs.length c0, .slice a1 h.clos.length c1, .slice a2 h.twos.length c2, .slice a3 h.refs.length c3] 35)) (.cells #[.int .i64 env] 3)).1
    simpa using this
  refine (callsIn_wide (n := 5)).1 ?_
  refine callsIn_of_wp_marks Try.func34 rfl trivial ?_ rfl
  simp only [Try.ntmps34, List.size_toArray, List.length_cons, List.length_nil, Nat.reduceAdd, Nat.reduceSub, Array.replicate_succ, Array.replicate_zero, List.push_toArray, List.append_toArray, List.nil_append, List.cons_append]
  obtain ⟨W0, hW0⟩ : ∃ W0, (((((w.alloc (.cells #[.slice a0 h.envs.length c0, .slice a1 h.clos.length c1, .slice a2 h.twos.length c2, .slice a3 h.refs.length c3] 35)).alloc (.cells #[.int .i64 n, .int .i64 r] 49)).alloc (.cells #[.int .i64 0, .int .i64 0] 42)).alloc (.cells #[.bool false] 4)).alloc (.cells #[.slice a0 h.envs.length c0, .slice a1 h.clos.length c1, .slice a2 h.twos.length c2, .slice a3 h.refs.length c3] 35)).alloc (.cells #[.int .i64 env] 3) = W0 := ⟨_, rfl⟩
  rw [hW0] at hB0 hsz hr1 hr2 hr3 hr4 hr5
  have HW0 : Hid ((((((w.alloc (.cells #[.slice a0 h.envs.length c0, .slice a1 h.clos.length c1, .slice a2 h.twos.length c2, .slice a3 h.refs.length c3] 35)).alloc (.cells #[.int .i64 n, .int .i64 r] 49)).alloc (.cells #[.int .i64 0, .int .i64 0] 42)).alloc (.cells #[.bool false] 4)).alloc (.cells #[.slice a0 h.envs.length c0, .slice a1 h.clos.length c1, .slice a2 h.twos.length c2, .slice a3 h.refs.length c3] 35)).alloc (.cells #[.int .i64 env] 3) = W0) := hW0
  have HA0 : Hid (HpAt W0 a0 a1 a2 a3 g0 g1 g2 g3 h) := hA.below hB0 (Nat.le_refl _)
  have HAG : Hid (0 < h.envs.length → g0 < w.heap.size) := fun q => hA.r0.lt q
  clear hW0 hr hR hA
  gi_wp2_with (refine ⟨trivial, ?_⟩; gi_at_call 42; refine (callsIn_wide.2 (cells_in _ _ _ _ _ _ _ _ _ _ _ _ _ _)).mono ?_; rintro e w' ⟨rfl, rfl⟩)
  rw [HW0.out]
  clear HW0
  refine range_of rfl (by omega) (gf := 43) (lb := #[.pointer (some ⟨w.heap.size + 1 + 1 + 1 + 1 + 1, 0, none⟩), .pointer (some ⟨w.heap.size + 1 + 1 + 1 + 1, 0, none⟩)]) rfl trivial (enters_of Try.func43 (by kernel_rfl) rfl) ?_
  intro fn hfn rc hrc
  have HRC : Hid (rc = _) := hrc
  clear hrc
  have HD1 : Hid (∀ rc : Loop, ((W0.alloc (.deferred (some []))).alloc (.loop rc)).heap[W0.heap.size]? = some (.deferred (some []))) := fun rc => (Below.heap_alloc _ _ _ (by simp)).trans (World.alloc_heap_new W0 _)
  have HL1 : Hid (∀ rc : Loop, ((W0.alloc (.deferred (some []))).alloc (.loop rc)).heap[W0.heap.size + 1]? = some (.loop rc)) := fun rc => by have := World.alloc_heap_new (W0.alloc (.deferred (some []))) (.loop rc); rwa [World.size_alloc] at this
  have HO1 : Hid (∀ (rc : Loop) (k : Nat), k < W0.heap.size → ((W0.alloc (.deferred (some []))).alloc (.loop rc)).heap[k]? = W0.heap[k]?) := fun rc k hk => (Below.heap_alloc _ _ _ (by simp; omega)).trans (Below.heap_alloc _ _ _ hk)
  have HB1 : Hid (∀ rc : Loop, Below w.heap.size w ((W0.alloc (.deferred (some []))).alloc (.loop rc))) := fun rc => (hB0.alloc (by omega) _).alloc (by simp; omega) _
  have HS1 : Hid (∀ rc : Loop, ((W0.alloc (.deferred (some []))).alloc (.loop rc)).heap.size = w.heap.size + 8) := fun rc => by simp; omega
  have HKB : Hid (∀ (rc : Loop) (W : World), KB (w.heap.size + 1 + 1 + 1 + 1 + 1) ((W0.alloc (.deferred (some []))).alloc (.loop rc)) W →
      W.heap[w.heap.size + 1]? = some (.cells #[.int .i64 n, .int .i64 r] 49 (0, 0)) ∧ W.heap[w.heap.size + 1 + 1]? = some (.cells #[.int .i64 0, .int .i64 0] 42 (0, 0)) ∧ W.heap[w.heap.size + 1 + 1 + 1]? = some (.cells #[.bool false] 4 (0, 0)) ∧
      W.heap[w.heap.size + 1 + 1 + 1 + 1]? = some (.cells #[.slice a0 h.envs.length c0, .slice a1 h.clos.length c1, .slice a2 h.twos.length c2, .slice a3 h.refs.length c3] 35 (0, 0)) ∧ W.heap[W0.heap.size]? = some (.deferred (some [])) ∧ W.heap[W0.heap.size + 1]? = some (.loop rc) ∧ CelAt W g0 h.envs ∧ Below w.heap.size w W ∧ w.heap.size + 8 ≤ W.heap.size) := fun rc W hk => by
    have sz := HS1.out rc
    have old : ∀ k, k < W0.heap.size → k ≠ w.heap.size + 1 + 1 + 1 + 1 + 1 → W.heap[k]? = W0.heap[k]? := fun k h1 h2 => (hk.blk k (by omega) h2).trans (HO1.out rc k h1)
    refine ⟨(old _ (by omega) (by omega)).trans hr1, (old _ (by omega) (by omega)).trans hr2, (old _ (by omega) (by omega)).trans hr3, (old _ (by omega) (by omega)).trans hr4, (hk.blk _ (by omega) (by omega)).trans (HD1.out rc), (hk.blk _ (by omega) (by omega)).trans (HL1.out rc), fun i hi => ?_, ?_, by have := hk.size; omega⟩
    · have t := HA0.out.r0 i hi
      have hg := HAG.out (by omega)
      have e := old g0 (by omega) (by omega)
      exact ⟨(World.cell?_of_block e).trans t.c0, (World.cell?_of_block e).trans t.c1, (World.cell?_of_block e).trans t.c2, (World.cell?_of_block e).trans t.c3, (World.cell?_of_block e).trans t.c4⟩
    · have hb := HB1.out rc
      exact ⟨hk.os.trans hb.os, hk.tape.trans hb.tape, hk.output.trans hb.output, by have := hk.size; omega, fun k hkk => (hk.blk k (by omega) (by omega)).trans (hb.block k hkk)⟩
  have hR0 : ∀ rc : Loop, ((W0.alloc (.deferred (some []))).alloc (.loop rc)).heap[w.heap.size + 1 + 1 + 1 + 1 + 1]? = some (.cells #[.int .i64 env] 3 (0, 0)) := fun rc => (HO1.out rc _ (by omega)).trans hr5
  have HSZ : Hid (W0.heap.size = w.heap.size + 6) := hsz
  refine (cells1_in Fence.wide _ trivial rfl (by omega) (W0.heap.size + 1) (w.heap.size + 1 + 1 + 1 + 1 + 1) (w.heap.size + 1 + 1 + 1 + 1) a0 g0 c0 h HR.out hlen HA0.out.e0
    (fun e W => KB (w.heap.size + 1 + 1 + 1 + 1 + 1) ((W0.alloc (.deferred (some []))).alloc (.loop rc)) W ∧ W.heap[w.heap.size + 1 + 1 + 1 + 1 + 1]? = some (.cells #[.int .i64 e] 3 (0, 0)) ∧ lookA h n r e = R)
    (fun e W => KB (w.heap.size + 1 + 1 + 1 + 1 + 1) ((W0.alloc (.deferred (some []))).alloc (.loop rc)) W ∧ W.heap[w.heap.size + 1 + 1 + 1 + 1 + 1]? = some (.cells #[.int .i64 e] 3 (0, 0)) ∧ lookA h n r (h.envs.getD e.toNat noCel).next = R)
    (fun W => W.heap[W0.heap.size + 1]? = some (.loop { rc with state := .done, pending := some .ret }) ∧ W.heap[W0.heap.size]? = some (.deferred (some [])) ∧ R.2 = true ∧ W.heap[w.heap.size + 1 + 1]? = some (.cells #[.int .i64 R.1.kind, .int .i64 R.1.n] 42 (0, 0)) ∧ W.heap[w.heap.size + 1 + 1 + 1]? = some (.cells #[.bool true] 4 (0, 0)) ∧ Below w.heap.size w W)
    ?hJ ?hJ2 ?hS ?hY env l0 l1 _ ⟨KB.refl _ _, hR0 _, HL.out⟩).mono ?_
  case hJ =>
    rintro e W ⟨hk, hrow, _⟩
    obtain ⟨-, -, -, q4, -, -, qc, -⟩ := HKB.out _ W hk
    exact ⟨(cell_of_row _ _ _ _ _ _ hrow).trans rfl, frozen_of_row W _ _ _ _ hrow, (cell_of_row _ _ _ _ _ _ q4).trans rfl, qc⟩
  case hJ2 =>
    rintro e W ⟨hk, hrow, _⟩
    obtain ⟨-, -, -, q4, -, -, qc, -⟩ := HKB.out _ W hk
    exact ⟨(cell_of_row _ _ _ _ _ _ hrow).trans rfl, frozen_of_row W _ _ _ _ hrow, (cell_of_row _ _ _ _ _ _ q4).trans rfl, qc⟩
  case hS =>
    rintro k W hk ⟨hkb, hrow, hl⟩
    exact ⟨hkb.set _ _, heap_setCell_same _ _ _ _ _ _ hrow, by simpa using hl⟩
  case hY =>
    rintro k W hk ⟨hkb, hrow, hl⟩
    obtain ⟨q1, q2, q3, q4, qD, qL, qc, qB, qs⟩ := HKB.out _ W hkb
    obtain ⟨⟨x0, x1, x2, x3, x4⟩, hx⟩ : ∃ y, h.envs.getD k noCel = y := ⟨_, rfl⟩
    have hx' : h.envs.getD (k : Int).toNat noCel = ⟨x0, x1, x2, x3, x4⟩ := by simpa using hx
    have HHIT : Hid (x0 = n ∧ x1 = r → lookA h n r k = (⟨x2, x3⟩, true)) := fun hm => lookA_hit (h := h) (n := n) (r := r) (e := (k : Int)) (by omega) hx' hm
    have HMISS : Hid (¬ (x0 = n ∧ x1 = r) → lookA h n r k = lookA h n r x4) := fun hm => lookA_next HR.out (n := n) (r := r) (e := (k : Int)) (by omega) (by omega) hx' hm
    have HL2 : Hid (lookA h n r k = R) := hl
    simp only [hx, hx']
    have WA1 : Hid (∀ j, j < W.heap.size → (W.alloc (.cells #[.int .i64 x0, .int .i64 x1, .int .i64 x2, .int .i64 x3, .int .i64 x4] 59)).heap[j]? = W.heap[j]?) := fun j hj => Below.heap_alloc _ _ _ hj
    have WA2 : Hid ((W.alloc (.cells #[.int .i64 x0, .int .i64 x1, .int .i64 x2, .int .i64 x3, .int .i64 x4] 59)).heap[W.heap.size]? = some (.cells #[.int .i64 x0, .int .i64 x1, .int .i64 x2, .int .i64 x3, .int .i64 x4] 59 (0, 0))) := (MapKept.heap_alloc W _).1
    have eA := congrArg Loop.assign HRC.out
    have eB := congrArg Loop.body HRC.out
    have eP := congrArg Loop.params HRC.out
    have eT := congrArg Loop.tmps HRC.out
    simp only [rec0] at eA eB eP eT
    refine round_of (r := rc) trivial qL (by rw [HRC.out]; rfl) eA eB eP eT rfl ?_
    clear eA eB eP eT hl hx hx'
    have hLT : W0.heap.size + 1 < W.heap.size := (Array.getElem?_eq_some_iff.1 qL).1
    have QL : Hid (W.heap[W0.heap.size + 1]? = some (.loop rc)) := qL
    have HKW : Hid (KB (w.heap.size + 1 + 1 + 1 + 1 + 1) ((W0.alloc (.deferred (some []))).alloc (.loop rc)) W) := hkb
    have HROW : Hid (W.heap[w.heap.size + 1 + 1 + 1 + 1 + 1]? = some (.cells #[.int .i64 (k : Int)] 3 (0, 0))) := hrow
    have HQS : Hid (W.heap[w.heap.size + 1]? = some (.cells #[.int .i64 n, .int .i64 r] 49 (0, 0)) ∧ W.heap[w.heap.size + 1 + 1]? = some (.cells #[.int .i64 0, .int .i64 0] 42 (0, 0)) ∧ W.heap[w.heap.size + 1 + 1 + 1]? = some (.cells #[.bool false] 4 (0, 0)) ∧ W.heap[W0.heap.size]? = some (.deferred (some [])) ∧ Below w.heap.size w W) := ⟨q1, q2, q3, qD, qB⟩
    clear q1 q2 q3 q4 qD qL qc qB hkb hrow hsz
    gi_wp2
    have hsz := HSZ.out
    refine ⟨(WA1.out _ hLT).trans QL.out, ?_⟩
    -- the world in which the body begins
    obtain ⟨X, hX⟩ : ∃ X, (W.alloc (.cells #[.int .i64 x0, .int .i64 x1, .int .i64 x2, .int .i64 x3, .int .i64 x4] 59)).putObj (W0.heap.size + 1) (.loop { rc with state := .busy }) = X := ⟨_, rfl⟩
    have XO : ∀ j, j < W.heap.size → j ≠ W0.heap.size + 1 → X.heap[j]? = W.heap[j]? := fun j hj hn => by rw [← hX]; exact (World.putObj_heap_other hn).trans (WA1.out j hj)
    have XL : X.heap[W0.heap.size + 1]? = some (.loop { rc with state := .busy }) := by rw [← hX]; exact World.putObj_heap_same (by simp; omega)
    have XB : X.heap[W.heap.size]? = some (.cells #[.int .i64 x0, .int .i64 x1, .int .i64 x2, .int .i64 x3, .int .i64 x4] 59 (0, 0)) := by rw [← hX]; exact (World.putObj_heap_other (by omega)).trans WA2.out
    have XS : X.heap.size = W.heap.size + 1 := by rw [← hX]; simp
    have XI : X.os = W.os ∧ X.tape = W.tape ∧ X.output = W.output := by rw [← hX]; exact ⟨rfl, rfl, rfl⟩
    rw [hX]
    clear hX
    obtain ⟨q1, q2, q3, qD, qB⟩ := HQS.out
    have n0 : X.cell? ⟨w.heap.size + 1, 0, none⟩ = some (.int .i64 n) := (cell_of_row _ _ _ _ _ _ ((XO _ (by omega) (by omega)).trans q1)).trans rfl
    have n1 : X.cell? ⟨w.heap.size + 1, 1, none⟩ = some (.int .i64 r) := (cell_of_row _ _ _ _ _ _ ((XO _ (by omega) (by omega)).trans q1)).trans rfl
    have X2 : X.heap[w.heap.size + 1 + 1]? = some (.cells #[.int .i64 0, .int .i64 0] 42 (0, 0)) := (XO _ (by omega) (by omega)).trans q2
    have X3 : X.heap[w.heap.size + 1 + 1 + 1]? = some (.cells #[.bool false] 4 (0, 0)) := (XO _ (by omega) (by omega)).trans q3
    have v0 : X.cell? ⟨w.heap.size + 1 + 1, 0, none⟩ = some (.int .i64 0) := (cell_of_row _ _ _ _ _ _ X2).trans rfl
    have v1 : X.cell? ⟨w.heap.size + 1 + 1, 1, none⟩ = some (.int .i64 0) := (cell_of_row _ _ _ _ _ _ X2).trans rfl
    have u0 : X.frozen? ⟨w.heap.size + 1 + 1, 0, none⟩ = false := frozen_of_row X _ _ _ _ X2
    have u1 : X.frozen? ⟨w.heap.size + 1 + 1, 1, none⟩ = false := frozen_of_row X _ _ _ _ X2
    have v2 : X.cell? ⟨w.heap.size + 1 + 1 + 1, 0, none⟩ = some (.bool false) := (cell_of_row _ _ _ _ _ _ X3).trans rfl
    have u2 : X.frozen? ⟨w.heap.size + 1 + 1 + 1, 0, none⟩ = false := frozen_of_row X _ _ _ _ X3
    have y0 : X.cell? ⟨W.heap.size, 0, none⟩ = some (.int .i64 x0) := (cell_of_row _ _ _ _ _ _ XB).trans rfl
    have y1 : X.cell? ⟨W.heap.size, 1, none⟩ = some (.int .i64 x1) := (cell_of_row _ _ _ _ _ _ XB).trans rfl
    have y2 : X.cell? ⟨W.heap.size, 2, none⟩ = some (.int .i64 x2) := (cell_of_row _ _ _ _ _ _ XB).trans rfl
    have y3 : X.cell? ⟨W.heap.size, 3, none⟩ = some (.int .i64 x3) := (cell_of_row _ _ _ _ _ _ XB).trans rfl
    have HXO : Hid (∀ j, j < W.heap.size → j ≠ W0.heap.size + 1 → X.heap[j]? = W.heap[j]?) := XO
    have HXL : Hid (X.heap[W0.heap.size + 1]? = some (.loop { rc with state := .busy })) := XL
    have HX2 : Hid (X.heap[w.heap.size + 1 + 1]? = some (.cells #[.int .i64 0, .int .i64 0] 42 (0, 0))) := X2
    have HX3 : Hid (X.heap[w.heap.size + 1 + 1 + 1]? = some (.cells #[.bool false] 4 (0, 0))) := X3
    have HXI : Hid (X.os = W.os ∧ X.tape = W.tape ∧ X.output = W.output) := XI
    clear q1 q2 q3 qD qB XO XL X2 X3 XB XI
    by_cases hm : x0 = n ∧ x1 = r
    · have hres := HHIT.out hm
      rw [HL2.out] at hres
      have HRES : Hid (R = (⟨x2, x3⟩, true)) := hres
      obtain ⟨rfl, rfl⟩ := hm
      clear hres hsz XS
      gi_wp2
      have hRX := HRES.out
      have hsz := HSZ.out
      obtain ⟨q1, q2, q3, qD, qB⟩ := HQS.out
      have hWS := qB.size
      have hlX : W0.heap.size + 1 < X.heap.size := (Array.getElem?_eq_some_iff.1 HXL.out).1
      have hBX : Below w.heap.size w X := ⟨HXI.out.1.trans qB.os, HXI.out.2.1.trans qB.tape, HXI.out.2.2.trans qB.output, by omega, fun j hj => (HXO.out j (by omega) (by omega)).trans (qB.block j hj)⟩
      have rowL : (((X.setCell ⟨w.heap.size + 1 + 1, 0, none⟩ (.int .i64 x2)).setCell ⟨w.heap.size + 1 + 1, 1, none⟩ (.int .i64 x3)).setCell ⟨w.heap.size + 1 + 1 + 1, 0, none⟩ (.bool true)).heap[W0.heap.size + 1]? = some (.loop { rc with state := .busy }) :=
        (heap_setCell_other _ _ _ _ (by simp; omega)).trans ((heap_setCell_other _ _ _ _ (by simp; omega)).trans ((heap_setCell_other _ _ _ _ (by simp; omega)).trans HXL.out))
      have row2 : (((X.setCell ⟨w.heap.size + 1 + 1, 0, none⟩ (.int .i64 x2)).setCell ⟨w.heap.size + 1 + 1, 1, none⟩ (.int .i64 x3)).setCell ⟨w.heap.size + 1 + 1 + 1, 0, none⟩ (.bool true)).heap[w.heap.size + 1 + 1]? = some (.cells #[.int .i64 x2, .int .i64 x3] 42 (0, 0)) :=
        (heap_setCell_other _ _ _ _ (by simp)).trans (heap_setCell_same _ _ _ _ _ _ (heap_setCell_same _ _ _ _ _ _ HX2.out))
      have row3 : (((X.setCell ⟨w.heap.size + 1 + 1, 0, none⟩ (.int .i64 x2)).setCell ⟨w.heap.size + 1 + 1, 1, none⟩ (.int .i64 x3)).setCell ⟨w.heap.size + 1 + 1 + 1, 0, none⟩ (.bool true)).heap[w.heap.size + 1 + 1 + 1]? = some (.cells #[.bool true] 4 (0, 0)) :=
        heap_setCell_same _ _ _ _ _ _ ((heap_setCell_other _ _ _ _ (by simp)).trans ((heap_setCell_other _ _ _ _ (by simp)).trans HX3.out))
      have rowD : (((X.setCell ⟨w.heap.size + 1 + 1, 0, none⟩ (.int .i64 x2)).setCell ⟨w.heap.size + 1 + 1, 1, none⟩ (.int .i64 x3)).setCell ⟨w.heap.size + 1 + 1 + 1, 0, none⟩ (.bool true)).heap[W0.heap.size]? = some (.deferred (some [])) :=
        (heap_setCell_other _ _ _ _ (by simp; omega)).trans ((heap_setCell_other _ _ _ _ (by simp; omega)).trans ((heap_setCell_other _ _ _ _ (by simp; omega)).trans ((HXO.out _ (by omega) (by omega)).trans qD)))
      refine ⟨rowL, .inr ⟨rfl, World.putObj_heap_same (by simpa using hlX), (World.putObj_heap_other (by omega)).trans rowD, by rw [hRX], ?_, (World.putObj_heap_other (by omega)).trans row3, ?_⟩⟩
      · rw [hRX]
        exact (World.putObj_heap_other (by omega)).trans row2
      · exact (((hBX.setCell (p := ⟨w.heap.size + 1 + 1, 0, none⟩) (by simp; omega) _).setCell (p := ⟨w.heap.size + 1 + 1, 1, none⟩) (by simp; omega) _).setCell (p := ⟨w.heap.size + 1 + 1 + 1, 0, none⟩) (by simp; omega) _).trans (belowK_b (w := w) (Nat.le_refl _) _ (W0.heap.size + 1) _ _ (by omega) rowL rfl rfl)
    · have hres := HMISS.out hm
      rw [HL2.out] at hres
      have HRES : Hid (lookA h n r x4 = R) := hres.symm
      have HGO : Hid (W0.heap.size + 1 < X.heap.size ∧ KB (w.heap.size + 1 + 1 + 1 + 1 + 1) ((W0.alloc (.deferred (some []))).alloc (.loop rc)) (X.putObj (W0.heap.size + 1) (.loop { rc with state := .ready, pending := none })) ∧ (X.putObj (W0.heap.size + 1) (.loop { rc with state := .ready, pending := none })).heap[w.heap.size + 1 + 1 + 1 + 1 + 1]? = some (.cells #[.int .i64 (k : Int)] 3 (0, 0))) := by
        have hk' := HKW.out
        have erc : ({ rc with state := .ready, pending := none } : Loop) = rc := by rw [HRC.out]; rfl
        have szx : W0.heap.size + 1 < X.heap.size := by omega
        refine ⟨szx, ⟨HXI.out.1.trans hk'.os, HXI.out.2.1.trans hk'.tape, HXI.out.2.2.trans hk'.output, by have := hk'.size; simp; simp at this; omega, fun j hj hn => ?_⟩, ?_⟩
        · by_cases ej : j = W0.heap.size + 1
          · subst ej
            rw [World.putObj_heap_same szx, erc]
            exact (HL1.out rc).symm
          · rw [World.putObj_heap_other ej]
            exact (HXO.out j (by have := hk'.size; omega) ej).trans (hk'.blk j hj hn)
        · rw [World.putObj_heap_other (by omega)]
          exact (HXO.out _ (by omega) (by omega)).trans HROW.out
      clear hres hsz XS
      by_cases hm0 : n = x0
      · have hm1 : ¬ r = x1 := fun e => hm ⟨hm0.symm, e.symm⟩
        have hm2 : (r == x1) = false := by simpa using hm1
        subst hm0
        clear hm
        gi_wp2
        exact ⟨HXL.out, .inl ⟨rfl, HGO.out.2.1, HGO.out.2.2, HRES.out⟩⟩
      · have hm2 : (n == x0) = false := by simpa using hm0
        clear hm
        gi_wp2
        exact ⟨HXL.out, .inl ⟨rfl, HGO.out.2.1, HGO.out.2.2, HRES.out⟩⟩
  rintro e W2 ⟨⟨v, rfl⟩, (⟨hkb, hrow, hl⟩ | ⟨hL, hD, hR2, hv, hb, hB⟩)⟩
  · obtain ⟨q1, q2, q3, q4, qD, qL, qc, qB, qs⟩ := HKB.out _ W2 hkb
    have hres := lookA_neg h n r (e := -1) (by omega)
    rw [hl] at hres
    subst hres
    refine ⟨v, rfl, .inl ⟨qL, ?_⟩⟩
    have hLT : W0.heap.size + 1 < W2.heap.size := (Array.getElem?_eq_some_iff.1 qL).1
    obtain ⟨Z, hZ⟩ : ∃ Z, W2.putObj (W0.heap.size + 1) (.loop { rc with state := .exhausted }) = Z := ⟨_, rfl⟩
    have Z2 : Z.heap[w.heap.size + 1 + 1]? = some (.cells #[.int .i64 0, .int .i64 0] 42 (0, 0)) := by rw [← hZ]; exact (World.putObj_heap_other (by omega)).trans q2
    have Z3 : Z.heap[w.heap.size + 1 + 1 + 1]? = some (.cells #[.bool false] 4 (0, 0)) := by rw [← hZ]; exact (World.putObj_heap_other (by omega)).trans q3
    have ZD : Z.heap[W0.heap.size]? = some (.deferred (some [])) := by rw [← hZ]; exact (World.putObj_heap_other (by omega)).trans qD
    have ZB : Below w.heap.size w Z := by rw [← hZ]; exact qB.trans (belowK_b (w := w) (Nat.le_refl _) _ (W0.heap.size + 1) _ _ (by omega) qL rfl rfl)
    rw [hZ]
    have v0 : Z.cell? ⟨w.heap.size + 1 + 1, 0, none⟩ = some (.int .i64 0) := (cell_of_row _ _ _ _ _ _ Z2).trans rfl
    have v1 : Z.cell? ⟨w.heap.size + 1 + 1, 1, none⟩ = some (.int .i64 0) := (cell_of_row _ _ _ _ _ _ Z2).trans rfl
    have u0 : Z.frozen? ⟨w.heap.size + 1 + 1, 0, none⟩ = false := frozen_of_row Z _ _ _ _ Z2
    have u1 : Z.frozen? ⟨w.heap.size + 1 + 1, 1, none⟩ = false := frozen_of_row Z _ _ _ _ Z2
    have v2 : Z.cell? ⟨w.heap.size + 1 + 1 + 1, 0, none⟩ = some (.bool false) := (cell_of_row _ _ _ _ _ _ Z3).trans rfl
    have u2 : Z.frozen? ⟨w.heap.size + 1 + 1 + 1, 0, none⟩ = false := frozen_of_row Z _ _ _ _ Z3
    have HZ2 : Hid (Z.heap[w.heap.size + 1 + 1]? = some (.cells #[.int .i64 0, .int .i64 0] 42 (0, 0))) := Z2
    have HZ3 : Hid (Z.heap[w.heap.size + 1 + 1 + 1]? = some (.cells #[.bool false] 4 (0, 0))) := Z3
    have HZD : Hid (Z.heap[W0.heap.size]? = some (.deferred (some []))) := ZD
    have HZB : Hid (Below w.heap.size w Z) := ZB
    clear q1 q2 q3 q4 qD qL qc qB qs hkb hrow hl hZ Z2 Z3 ZD ZB hsz hR0 hr5 hLT
    gi_wp2
    have hsz := HSZ.out
    refine nearest_end (R := (noVl, false)) ?_ ?_ ?_ (by omega) ?_ _ rfl rfl
    · exact (heap_setCell_other _ _ _ _ (by simp)).trans (heap_setCell_same _ _ _ _ _ _ (heap_setCell_same _ _ _ _ _ _ HZ2.out))
    · exact heap_setCell_same _ _ _ _ _ _ ((heap_setCell_other _ _ _ _ (by simp)).trans ((heap_setCell_other _ _ _ _ (by simp)).trans HZ3.out))
    · exact (heap_setCell_other _ _ _ _ (by simp; omega)).trans ((heap_setCell_other _ _ _ _ (by simp; omega)).trans ((heap_setCell_other _ _ _ _ (by simp; omega)).trans HZD.out))
    · exact ((HZB.out.setCell (p := ⟨w.heap.size + 1 + 1, 0, none⟩) (by simp; omega) _).setCell (p := ⟨w.heap.size + 1 + 1, 1, none⟩) (by simp; omega) _).setCell (p := ⟨w.heap.size + 1 + 1 + 1, 0, none⟩) (by simp; omega) _
  · refine ⟨v, rfl, .inr ⟨hL, ?_⟩⟩
    have hLT : W0.heap.size + 1 < W2.heap.size := (Array.getElem?_eq_some_iff.1 hL).1
    obtain ⟨Z, hZ⟩ : ∃ Z, W2.putObj (W0.heap.size + 1) (.loop { rc with state := .exhausted, pending := some .ret }) = Z := ⟨_, rfl⟩
    have HZ2 : Hid (Z.heap[w.heap.size + 1 + 1]? = some (.cells #[.int .i64 R.1.kind, .int .i64 R.1.n] 42 (0, 0))) := by show Z.heap[w.heap.size + 1 + 1]? = _; rw [← hZ]; exact (World.putObj_heap_other (by omega)).trans hv
    have HZ3 : Hid (Z.heap[w.heap.size + 1 + 1 + 1]? = some (.cells #[.bool true] 4 (0, 0))) := by show Z.heap[w.heap.size + 1 + 1 + 1]? = _; rw [← hZ]; exact (World.putObj_heap_other (by omega)).trans hb
    have HZD : Hid (Z.heap[W0.heap.size]? = some (.deferred (some []))) := by show Z.heap[W0.heap.size]? = _; rw [← hZ]; exact (World.putObj_heap_other (by omega)).trans hD
    have HZB : Hid (Below w.heap.size w Z) := by show Below w.heap.size w Z; rw [← hZ]; exact hB.trans (belowK_b (w := w) (Nat.le_refl _) _ (W0.heap.size + 1) _ _ (by omega) hL rfl rfl)
    have HR2 : Hid (R.2 = true) := hR2
    rw [hZ]
    clear hL hD hR2 hv hb hB hZ hsz hR0 hr5 hLT
    gi_wp2
    have hsz := HSZ.out
    exact nearest_end (R := R) HZ2.out (by rw [HR2.out]; exact HZ3.out) HZD.out (by omega) HZB.out _ rfl rfl

set_option maxHeartbeats 2000000 in
set_option maxRecDepth 20000 in
theorem impl_lookup (a0 a1 a2 a3 : Option Addr) (g0 g1 g2 g3 c0 c1 c2 c3 : Nat) (h : Hq) (env n r : Int) (w : World) (hA : HpAt w a0 a1 a2 a3 g0 g1 g2 g3 h) :
    Calls Try.prog 16 #[.agg #[.slice a0 h.envs.length c0, .slice a1 h.clos.length c1, .slice a2 h.twos.length c2, .slice a3 h.refs.length c3], .int .i64 env, .agg #[.int .i64 n, .int .i64 r]] w fun e w' => LookAns h env n r e ∧ Below w.heap.size w w' := by
  have HA : Hid (HpAt w a0 a1 a2 a3 g0 g1 g2 g3 h) := hA
  have hlen : h.envs.length ≤ 1048576 := hA.l0
  obtain ⟨wb, hwb⟩ : ∃ wb, ((w.alloc (.cells #[.slice a0 h.envs.length c0, .slice a1 h.clos.length c1, .slice a2 h.twos.length c2, .slice a3 h.refs.length c3] 35)).alloc (.cells #[.int .i64 n, .int .i64 r] 49)).alloc (.cells #[.int .i64 0, .int .i64 0] 42) = wb := ⟨_, rfl⟩
  have HWB : Hid (((w.alloc (.cells #[.slice a0 h.envs.length c0, .slice a1 h.clos.length c1, .slice a2 h.twos.length c2, .slice a3 h.refs.length c3] 35)).alloc (.cells #[.int .i64 n, .int .i64 r] 49)).alloc (.cells #[.int .i64 0, .int .i64 0] 42) = wb) := hwb
  have BB : Hid (Below w.heap.size w wb) := by show Below w.heap.size w wb; rw [← hwb]; exact (((Below.refl _ w).alloc (Nat.le_refl _) _).alloc (by simp) _).alloc (by simp; omega) _
  have HSB : Hid (wb.heap.size = w.heap.size + 3) := by show wb.heap.size = _; rw [← hwb]; simp
  have RH : Hid (wb.heap[w.heap.size]? = some (.cells #[.slice a0 h.envs.length c0, .slice a1 h.clos.length c1, .slice a2 h.twos.length c2, .slice a3 h.refs.length c3] 35 (0, 0))) := by
    show wb.heap[w.heap.size]? = _
    rw [← hwb, Below.heap_alloc _ _ _ (by simp; omega), Below.heap_alloc _ _ _ (by simp)]
    exact (MapKept.heap_alloc w _).1
  have RB : Hid (wb.heap[w.heap.size + 1]? = some (.cells #[.int .i64 n, .int .i64 r] 49 (0, 0))) := by
    show wb.heap[w.heap.size + 1]? = _
    rw [← hwb, Below.heap_alloc _ _ _ (by simp), heap_alloc2_new]
  have RV : Hid (wb.heap[w.heap.size + 1 + 1]? = some (.cells #[.int .i64 0, .int .i64 0] 42 (0, 0))) := by
    show wb.heap[w.heap.size + 1 + 1]? = _
    rw [← hwb]
    have := (MapKept.heap_alloc ((w.alloc (.cells #[.slice a0 h.envs.length c0, .slice a1 h.clos.length c1, .slice a2 h.twos.length c2, .slice a3 h.refs.length c3] 35)).alloc (.cells #[.int .i64 n, .int .i64 r] 49)) (.cells #[.int .i64 0, .int .i64 0] 42)).1
    simpa using this
  have HXB : Hid (∀ W : World, Below wb.heap.size wb W → W.cell? ⟨w.heap.size, 0, none⟩ = some (.slice a0 h.envs.length c0) ∧ W.cell? ⟨w.heap.size, 1, none⟩ = some (.slice a1 h.clos.length c1) ∧ W.cell? ⟨w.heap.size, 2, none⟩ = some (.slice a2 h.twos.length c2) ∧ W.cell? ⟨w.heap.size, 3, none⟩ = some (.slice a3 h.refs.length c3) ∧ W.cell? ⟨w.heap.size + 1, 0, none⟩ = some (.int .i64 n) ∧ W.cell? ⟨w.heap.size + 1, 1, none⟩ = some (.int .i64 r) ∧ W.cell? ⟨w.heap.size + 1 + 1, 0, none⟩ = some (.int .i64 0) ∧ W.cell? ⟨w.heap.size + 1 + 1, 1, none⟩ = some (.int .i64 0) ∧ W.frozen? ⟨w.heap.size + 1 + 1, 0, none⟩ = false ∧ W.frozen? ⟨w.heap.size + 1 + 1, 1, none⟩ = false ∧ W.heap[w.heap.size + 1 + 1]? = some (.cells #[.int .i64 0, .int .i64 0] 42 (0, 0))) := fun W hh =>
    have e1 := (hh.block w.heap.size (by have := HSB.out; omega)).trans RH.out
    have e2 := (hh.block (w.heap.size + 1) (by have := HSB.out; omega)).trans RB.out
    have e3 := (hh.block (w.heap.size + 1 + 1) (by have := HSB.out; omega)).trans RV.out
    ⟨(cell_of_row _ _ _ _ _ _ e1).trans rfl, (cell_of_row _ _ _ _ _ _ e1).trans rfl, (cell_of_row _ _ _ _ _ _ e1).trans rfl, (cell_of_row _ _ _ _ _ _ e1).trans rfl, (cell_of_row _ _ _ _ _ _ e2).trans rfl, (cell_of_row _ _ _ _ _ _ e2).trans rfl, (cell_of_row _ _ _ _ _ _ e3).trans rfl, (cell_of_row _ _ _ _ _ _ e3).trans rfl, frozen_of_row W _ _ _ _ e3, frozen_of_row W _ _ _ _ e3, e3⟩
  have HB : Hid (HpAt wb a0 a1 a2 a3 g0 g1 g2 g3 h) := HA.out.below BB.out (Nat.le_refl _)
  have HS := HSB.out
  -- the end: what was stored is told
  have HEND : Hid (∀ (W : World) (R : Vl × Bool) (tmps : Array Value), Below wb.heap.size wb W → tmps.getD 6 undef = .pointer (some ⟨w.heap.size + 1 + 1, 0, none⟩) → tmps.getD 7 undef = .bool R.2 → LookAns h env n r (.returned (valT R)) →
      bodyPost Try.prog Try.f16 (fun e w' => LookAns h env n r e ∧ Below w.heap.size w w') .ret { tmps := tmps, defers := [] } ((W.setCell ⟨w.heap.size + 1 + 1, 0, none⟩ (.int .i64 R.1.kind)).setCell ⟨w.heap.size + 1 + 1, 1, none⟩ (.int .i64 R.1.n))) := fun W R tmps hW h6 h7 hL => by
    have hv := (HXB.out W hW).2.2.2.2.2.2.2.2.2.2
    exact bodyPost_ret (res_row_tmp rfl _ _ (w.heap.size + 1 + 1) _ _ h6 (ld_val (heap_setCell_same _ _ _ _ _ _ (heap_setCell_same _ _ _ _ _ _ hv))) h7) rfl ⟨hL, ((BB.out.trans (hW.mono (by omega))).setCell (p := ⟨w.heap.size + 1 + 1, 0, none⟩) (by simp; omega) _).setCell (p := ⟨w.heap.size + 1 + 1, 1, none⟩) (by simp; omega) _⟩
  obtain ⟨z0, z1, z2, z3, n0, n1, v0, v1, f0, f1, hv⟩ := HXB.out wb (Below.refl _ _)
  clear hwb RH RB RV hA
  go_enter Try.func16, Try.ntmps16
  go_wp2_with fail
  rw [HWB.out]
  refine (impl_heap _ _ _ _ g0 g1 g2 g3 _ _ _ _ h wb HB.out).mono ?_
  rintro e w1 ⟨⟨b, rfl, hb⟩, b1⟩
  have HX1 : Hid (Below wb.heap.size wb w1) := b1
  clear z0 z1 z2 z3 n0 n1 v0 v1 f0 f1 hv HWB
  obtain ⟨z0, z1, z2, z3, n0, n1, v0, v1, f0, f1, hv⟩ := HXB.out w1 b1
  clear b1 hv
  cases b with
  | false =>
    have HN : Hid (LookAns h env n r (.returned (valT (noVl, false)))) := ⟨_, rfl, fun hr => absurd (hb.2 hr) (by simp), fun _ => rfl⟩
    clear hb
    go_wp2
    (try simp only [Exit.inBlock, Exit.then])
    refine HEND.out w1 (noVl, false) _ HX1.out ?_ ?_ HN.out <;> rfl
  | true =>
    have HR : Hid (HeapR h) := hb.1 rfl
    clear hb
    by_cases hin : -1 ≤ env ∧ env < h.envs.length
    · have HIN : Hid (-1 ≤ env ∧ env < h.envs.length) := hin
      have hl1 : (decide (-1 ≤ env) && decide (env < (h.envs.length : Int))) = true := by simp; omega
      go_wp2_with fail
      refine (impl_isEnv _ _ _ _ _ _ _ _ _ _ _ _ env w1).mono ?_
      rintro e w2 ⟨rfl, b2⟩
      rw [hl1]
      clear hl1 hin
      have HXQ : Hid (Below wb.heap.size wb w2) := HX1.out.trans (b2.mono HX1.out.size)
      obtain ⟨hin0, hin1⟩ := HIN.out
      clear z0 z1 z2 z3 n0 n1 v0 v1 f0 f1 b2
      obtain ⟨z0, z1, z2, z3, n0, n1, v0, v1, f0, f1, hv⟩ := HXB.out w2 HXQ.out
      clear hv
      go_wp2_with fail
      refine (impl_nearest _ _ _ _ g0 g1 g2 g3 _ _ _ _ h HR.out env n r hin0 hin1 w2 (HB.out.below HXQ.out (Nat.le_refl _))).mono ?_
      rintro e w3 ⟨rfl, b3⟩
      have HX3 : Hid (Below wb.heap.size wb w3) := HXQ.out.trans (b3.mono HXQ.out.size)
      clear z0 z1 z2 z3 n0 n1 v0 v1 f0 f1 b3
      obtain ⟨z0, z1, z2, z3, n0, n1, v0, v1, f0, f1, hv⟩ := HXB.out w3 HX3.out
      have HN : Hid (LookAns h env n r (.returned (valT (lookA h n r env)))) := ⟨_, rfl, fun _ _ _ => rfl, fun hh => absurd ⟨HR.out, HIN.out⟩ hh⟩
      generalize lookA h n r env = R at *
      clear hv
      simp only [valT]
      go_wp2
      (try simp only [Exit.inBlock, Exit.then])
      refine HEND.out w3 R _ HX3.out ?_ ?_ HN.out <;> rfl
    · have HN : Hid (LookAns h env n r (.returned (valT (noVl, false)))) := ⟨_, rfl, fun _ h1 h2 => absurd ⟨h1, h2⟩ hin, fun _ => rfl⟩
      have hl1 : (decide (-1 ≤ env) && decide (env < (h.envs.length : Int))) = false := by simp; omega
      go_wp2_with fail
      refine (impl_isEnv _ _ _ _ _ _ _ _ _ _ _ _ env w1).mono ?_
      rintro e w2 ⟨rfl, b2⟩
      rw [hl1]
      clear hl1 hin
      have HXQ : Hid (Below wb.heap.size wb w2) := HX1.out.trans (b2.mono HX1.out.size)
      clear z0 z1 z2 z3 n0 n1 v0 v1 f0 f1 b2
      obtain ⟨z0, z1, z2, z3, n0, n1, v0, v1, f0, f1, hv⟩ := HXB.out w2 HXQ.out
      clear hv
      go_wp2
      (try simp only [Exit.inBlock, Exit.then])
      refine HEND.out w2 (noVl, false) _ HXQ.out ?_ ?_ HN.out <;> rfl
end Go.Proofs.Ythmfkbnfdheopaa
