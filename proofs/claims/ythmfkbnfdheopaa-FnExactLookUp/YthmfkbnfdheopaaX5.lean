/-
  Values: the iterator over all values of a heap. Conditions: written at each theorem.
-/
import Derived.RangeFuncBox
import Derived.RangeFuncKeeps
import Derived.RangeFuncNested
import Derived.RangeFuncBound
import Derived.RangeFuncCalls
import Derived.RangeFuncLeaves
import Derived.Shelf.Abstract
import Derived.Shelf.RegionOpen
import Derived.OwnWalkIn
import Derived.TacticsInMore
import Derived.LoopNIn
import Derived.LoopIn
import Derived.Test.YthmfkbnfdheopaaX4
namespace Go.Proofs.Ythmfkbnfdheopaa
open Go.ChangeShapes Go.WideShapes Go.ChangeAt Go.RowKit Go.Shelf
set_option linter.unusedVariables false

attribute [local go_sem] Oper.semAt_some

def V1 (h : Hq) (k : Nat) : List Vl := (List.range k).map fun j => ⟨(h.envs.getD j noCel).vk, (h.envs.getD j noCel).vn⟩
def V2 (h : Hq) (k : Nat) : List Vl := (List.range k).flatMap fun j => [⟨(h.twos.getD j noTw).ak, (h.twos.getD j noTw).an⟩, ⟨(h.twos.getD j noTw).bk, (h.twos.getD j noTw).bn⟩]
def V3 (h : Hq) (k : Nat) : List Vl := (List.range k).map fun j => h.refs.getD j noVl
/-- All values that stand in a heap. -/
def valsL (h : Hq) : List Vl := V1 h h.envs.length ++ V2 h h.twos.length ++ V3 h h.refs.length

theorem V1_succ (h : Hq) (k : Nat) : V1 h (k + 1) = V1 h k ++ [⟨(h.envs.getD k noCel).vk, (h.envs.getD k noCel).vn⟩] := by simp [V1, List.range_succ]
theorem V2_succ (h : Hq) (k : Nat) : V2 h (k + 1) = V2 h k ++ [⟨(h.twos.getD k noTw).ak, (h.twos.getD k noTw).an⟩] ++ [⟨(h.twos.getD k noTw).bk, (h.twos.getD k noTw).bn⟩] := by simp [V2, List.range_succ]
theorem V3_succ (h : Hq) (k : Nat) : V3 h (k + 1) = V3 h k ++ [h.refs.getD k noVl] := by simp [V3, List.range_succ]
theorem V1_length (h : Hq) (k : Nat) : (V1 h k).length = k := by simp [V1]
theorem V2_length (h : Hq) : ∀ k, (V2 h k).length = 2 * k
  | 0 => rfl
  | k + 1 => by rw [V2_succ]; simp [V2_length h k]; omega
theorem V3_length (h : Hq) (k : Nat) : (V3 h k).length = k := by simp [V3]
theorem valsL_length (h : Hq) : (valsL h).length = h.envs.length + 2 * h.twos.length + h.refs.length := by simp [valsL, V1_length, V2_length, V3_length]; omega
theorem V1_sub (h : Hq) {k : Nat} (hk : k ≤ h.envs.length) : ∀ x, x ∈ V1 h k → x ∈ valsL h := fun x hx => by
  obtain ⟨j, hj, rfl⟩ := List.mem_map.1 hx
  exact List.mem_append_left _ (List.mem_append_left _ (List.mem_map.2 ⟨j, List.mem_range.2 (Nat.lt_of_lt_of_le (List.mem_range.1 hj) hk), rfl⟩))
theorem V2_sub (h : Hq) {k : Nat} (hk : k ≤ h.twos.length) : ∀ x, x ∈ V2 h k → x ∈ valsL h := fun x hx => by
  obtain ⟨j, hj, hx⟩ := List.mem_flatMap.1 hx
  exact List.mem_append_left _ (List.mem_append_right _ (List.mem_flatMap.2 ⟨j, List.mem_range.2 (Nat.lt_of_lt_of_le (List.mem_range.1 hj) hk), hx⟩))
theorem V3_sub (h : Hq) {k : Nat} (hk : k ≤ h.refs.length) : ∀ x, x ∈ V3 h k → x ∈ valsL h := fun x hx => by
  obtain ⟨j, hj, rfl⟩ := List.mem_map.1 hx
  exact List.mem_append_right _ (List.mem_map.2 ⟨j, List.mem_range.2 (Nat.lt_of_lt_of_le (List.mem_range.1 hj) hk), rfl⟩)

/-- The rows stay where whatever lay below n stays. -/
theorem HpAt.keep {w w' : World} {B : Nat} {a0 a1 a2 a3 : Option Addr} {g0 g1 g2 g3 : Nat} {h : Hq} (H : HpAt w a0 a1 a2 a3 g0 g1 g2 g3 h) (hb : Below B w w') (k0 : 0 < h.envs.length → g0 < B) (k1 : 0 < h.clos.length → g1 < B) (k2 : 0 < h.twos.length → g2 < B) (k3 : 0 < h.refs.length → g3 < B) : HpAt w' a0 a1 a2 a3 g0 g1 g2 g3 h :=
  ⟨H.e0, H.l0, H.r0.below hb k0, H.e1, H.l1, H.r1.below hb k1, H.e2, H.l2, H.r2.below hb k2, H.e3, H.l3, H.r3.below hb k3⟩

theorem abides_alloc {B : Nat} {J : List Vl → World → Prop} (h : AbidesFrom B J) {s : List Vl} {W : World} (o : Obj) (hs : J s W) : J s (W.alloc o) :=
  h s W _ none hs (World.grownBy_alloc W o none) (fun r e => by cases e)

/-- What a round keeps that goes on: whatever lay below n, and all cells. -/
structure KC (n : Nat) (W W' : World) : Prop where
  below : Below n W W'
  cells : ∀ (k : Nat) (o : Obj), W.heap[k]? = some o → o.isCells = true → W'.heap[k]? = some o

theorem KC.trans {n : Nat} {A B C : World} (h : KC n A B) (k : KC n B C) : KC n A C := ⟨h.below.trans k.below, fun i o hi ho => k.cells i o (h.cells i o hi ho) ho⟩

theorem KC.put {n : Nat} {w : World} (hn : n ≤ w.heap.size) (W : World) (l : Nat) (o o' : Obj) (hl : w.heap.size ≤ l) (h : W.heap[l]? = some o) (hc : o.isCells = false) (hw : o.isWalk = false) : KC n W (W.putObj l o') :=
  ⟨belowK_b hn W l o o' hl h hc hw, fun i o2 hi ho => by
    by_cases e : i = l
    · subst e; rw [h] at hi; cases hi; rw [hc] at ho; cases ho
    · exact (World.putObj_heap_other e).trans hi⟩

theorem KC.of_below {n : Nat} {W W' : World} (h : Below W.heap.size W W') (hn : n ≤ W.heap.size) : KC n W W' :=
  ⟨h.mono hn, fun k o hk _ => (h.block k (Array.getElem?_eq_some_iff.1 hk).1).trans hk⟩

set_option maxRecDepth 100000 in
set_option maxHeartbeats 4000000 in
theorem values1_in (F : Fence) (n : Nat) (hf : F.fn 38) (hro : F.round = none) (hn : 1 ≤ n) (l Bs n₀ : Nat) (a0 a1 a2 a3 : Option Addr) (g0 g1 g2 g3 c0 c1 c2 c3 : Nat) (h : Hq)
    (k0 : 0 < h.envs.length → g0 < n₀) (k1 : 0 < h.clos.length → g1 < n₀) (k2 : 0 < h.twos.length → g2 < n₀) (k3 : 0 < h.refs.length → g3 < n₀) (hBs : Bs < n₀)
    (J Jx : List Vl → World → Prop) (W : World) (hn₀ : n₀ ≤ W.heap.size) (hJ : AbidesFrom W.heap.size J)
    (hY : ∀ pre x W1, J pre W1 → pre.length < (valsL h).length → YieldAt F (n - 1) Try.prog l #[.agg #[.int .i64 x.kind, .int .i64 x.n]] W1 fun e W' =>
      (e = .returned (.bool true) ∧ J (pre ++ [x]) W' ∧ KC n₀ W1 W') ∨ (e = .returned (.bool false) ∧ Jx (pre ++ [x]) W'))
    (hR : W.heap[Bs]? = some (.cells #[.slice a0 h.envs.length c0, .slice a1 h.clos.length c1, .slice a2 h.twos.length c2, .slice a3 h.refs.length c3] 35 (0, 0)))
    (hA : HpAt W a0 a1 a2 a3 g0 g1 g2 g3 h) (h0 : J [] W) :
    CallsIn F n Try.prog 38 #[.func (.yield l) #[] #[], .pointer (some ⟨Bs, 0, none⟩)] W fun e W' => (∃ v, e = .returned v) ∧
      ((∃ ys, ys = valsL h ∧ J ys W') ∨ (∃ pre, (∀ x, x ∈ pre → x ∈ valsL h) ∧ Jx pre W')) := by
  have HJ : Hid (AbidesFrom W.heap.size J) := hJ
  have HY : Hid (∀ pre x W1, J pre W1 → pre.length < (valsL h).length → YieldAt F (n - 1) Try.prog l #[.agg #[.int .i64 x.kind, .int .i64 x.n]] W1 fun e W' =>
      (e = .returned (.bool true) ∧ J (pre ++ [x]) W' ∧ KC n₀ W1 W') ∨ (e = .returned (.bool false) ∧ Jx (pre ++ [x]) W')) := hY
  have HA : Hid (HpAt W a0 a1 a2 a3 g0 g1 g2 g3 h) := hA
  have HX : Hid (∀ W' : World, Below n₀ W W' → W'.cell? ⟨Bs, 0, none⟩ = some (.slice a0 h.envs.length c0) ∧ W'.cell? ⟨Bs, 1, none⟩ = some (.slice a1 h.clos.length c1) ∧ W'.cell? ⟨Bs, 2, none⟩ = some (.slice a2 h.twos.length c2) ∧ W'.cell? ⟨Bs, 3, none⟩ = some (.slice a3 h.refs.length c3)) := fun W' hh =>
    ⟨(cell_of_row _ _ _ _ _ _ ((hh.block _ hBs).trans hR)).trans rfl, (cell_of_row _ _ _ _ _ _ ((hh.block _ hBs).trans hR)).trans rfl, (cell_of_row _ _ _ _ _ _ ((hh.block _ hBs).trans hR)).trans rfl, (cell_of_row _ _ _ _ _ _ ((hh.block _ hBs).trans hR)).trans rfl⟩
  have HK : Hid (∀ W' : World, Below n₀ W W' → HpAt W' a0 a1 a2 a3 g0 g1 g2 g3 h) := fun W' hh => hA.keep hh k0 k1 k2 k3
  have lb0 : h.envs.length ≤ 1048576 := hA.l0
  have lb2 : h.twos.length ≤ 1048576 := hA.l2
  have lb3 : h.refs.length ≤ 1048576 := hA.l3
  have HN : Hid ((valsL h).length = h.envs.length + 2 * h.twos.length + h.refs.length) := valsL_length h
  have HJ0 : Hid (J [] W) := h0
  obtain ⟨z0, z1, z2, z3⟩ := HX.out W (Below.refl _ _)
  clear hJ hY hR hA h0 k0 k1 k2 k3
  refine callsIn_of_wp Try.func38 rfl hf ?_ hro
  simp only [Try.ntmps38, List.size_toArray, List.length_cons, List.length_nil, Nat.reduceAdd, Nat.reduceSub, Array.replicate_succ, Array.replicate_zero, List.push_toArray, List.append_toArray, List.nil_append, List.cons_append]
  gi_wp2
  gi_loopw [12] (fun i wr => ∃ k : Nat, k ≤ h.envs.length ∧ i = .int .i64 k ∧ Hid (J (V1 h k) wr) ∧ Below n₀ W wr) (fun i _ => h.envs.length - (intOf i).toNat)
  case atStart => exact ⟨0, Nat.zero_le _, rfl, HJ0.out, Below.refl _ _⟩
  case round =>
    clear z0 z1 z2 z3
    obtain ⟨k, hk, rfl, hJs, hbl⟩ := hrel
    have hsz := hbl.size
    obtain ⟨z0, z1, z2, z3⟩ := HX.out wr hbl
    by_cases hlt : k < h.envs.length
    · have e1 : (k : Int) < h.envs.length := by omega
      obtain rfl := HA.out.e0 (by omega)
      have t := (HK.out wr hbl).r0 k hlt
      have hsu := V1_succ h k
      obtain ⟨⟨x0, x1, x2, x3, x4⟩, hx⟩ : ∃ y, h.envs.getD k noCel = y := ⟨_, rfl⟩
      rw [hx] at t hsu
      have q0 : wr.cell? ⟨g0, k * 5, none⟩ = some (.int .i64 x0) := t.c0
      have q1 : wr.cell? ⟨g0, k * 5 + 1, none⟩ = some (.int .i64 x1) := t.c1
      have q2 : wr.cell? ⟨g0, k * 5 + 2, none⟩ = some (.int .i64 x2) := t.c2
      have q3 : wr.cell? ⟨g0, k * 5 + 3, none⟩ = some (.int .i64 x3) := t.c3
      have q4 : wr.cell? ⟨g0, k * 5 + 4, none⟩ = some (.int .i64 x4) := t.c4
      have HSU : Hid (_ = _) := hsu
      clear t hx hsu
      have hJ1 : J (V1 h k) (wr.alloc (.cells #[.int .i64 x0, .int .i64 x1, .int .i64 x2, .int .i64 x3, .int .i64 x4] 59)) := abides_alloc HJ.out _ hJs.out
      have HB1 : Hid (Below n₀ W (wr.alloc (.cells #[.int .i64 x0, .int .i64 x1, .int .i64 x2, .int .i64 x3, .int .i64 x4] 59))) := hbl.alloc (by omega) _
      obtain ⟨fn, tmps, assign, body, hy, hR⟩ := HY.out _ ⟨x2, x3⟩ _ hJ1 (by rw [HN.out]; rw [V1_length]; omega)
      dsimp only at hy
      gi_wp2
      refine hR.mono ?_
      rintro e W3 (⟨rfl, hJ3, hk3⟩ | ⟨rfl, hJx3⟩)
      · have HJ3 : Hid (J (V1 h (k + 1)) W3) := by show J (V1 h (k + 1)) W3; rw [HSU.out]; exact hJ3
        clear hy hR hJ3
        gi_wp2
        go_roundw
        case rel => exact ⟨k + 1, by omega, by go_num, HJ3.out, HB1.out.trans hk3.below⟩
        case measure => simp [intOf]; omega
      · have HJX : Hid (Jx (V1 h (k + 1)) W3) := by show Jx (V1 h (k + 1)) W3; rw [HSU.out]; exact hJx3
        clear hy hR hJx3
        gi_wp2
        refine bodyPost_ret (results_none rfl _ _ _) rfl ?_
        exact ⟨⟨_, rfl⟩, .inr ⟨_, V1_sub h (by omega), HJX.out⟩⟩
    · obtain rfl : k = h.envs.length := by omega
      gi_wp2
      gi_loopw [25] (fun i wr => ∃ k : Nat, k ≤ h.twos.length ∧ i = .int .i64 k ∧ Hid (J (V1 h h.envs.length ++ V2 h k) wr) ∧ Below n₀ W wr) (fun i _ => h.twos.length - (intOf i).toNat)
      case atStart => exact ⟨0, Nat.zero_le _, rfl, by show J (V1 h h.envs.length ++ []) wr; rw [List.append_nil]; exact hJs.out, hbl⟩
      case round =>
        clear z0 z1 z2 z3 hJs hbl hsz
        obtain ⟨k, hk, rfl, hJs, hbl⟩ := hrel
        have hsz := hbl.size
        obtain ⟨z0, z1, z2, z3⟩ := HX.out wr hbl
        by_cases hlt : k < h.twos.length
        · have e1 : (k : Int) < h.twos.length := by omega
          obtain rfl := HA.out.e2 (by omega)
          have t := (HK.out wr hbl).r2 k hlt
          have hsu := V2_succ h k
          obtain ⟨⟨x0, x1, x2, x3⟩, hx⟩ : ∃ y, h.twos.getD k noTw = y := ⟨_, rfl⟩
          rw [hx] at t hsu
          have q0 : wr.cell? ⟨g2, k * 4, none⟩ = some (.int .i64 x0) := t.c0
          have q1 : wr.cell? ⟨g2, k * 4 + 1, none⟩ = some (.int .i64 x1) := t.c1
          have q2 : wr.cell? ⟨g2, k * 4 + 2, none⟩ = some (.int .i64 x2) := t.c2
          have q3 : wr.cell? ⟨g2, k * 4 + 3, none⟩ = some (.int .i64 x3) := t.c3
          have HSU : Hid (_ = _) := hsu
          clear t hx hsu
          have hJ1 : J (V1 h h.envs.length ++ V2 h k) (wr.alloc (.cells #[.int .i64 x0, .int .i64 x1, .int .i64 x2, .int .i64 x3] 63)) := abides_alloc HJ.out _ hJs.out
          have HB1 : Hid (Below n₀ W (wr.alloc (.cells #[.int .i64 x0, .int .i64 x1, .int .i64 x2, .int .i64 x3] 63))) := hbl.alloc (by omega) _
          have hrow : (wr.alloc (.cells #[.int .i64 x0, .int .i64 x1, .int .i64 x2, .int .i64 x3] 63)).heap[wr.heap.size]? = some (.cells #[.int .i64 x0, .int .i64 x1, .int .i64 x2, .int .i64 x3] 63 (0, 0)) := (MapKept.heap_alloc wr _).1
          have HROW : Hid ((wr.alloc (.cells #[.int .i64 x0, .int .i64 x1, .int .i64 x2, .int .i64 x3] 63)).heap[wr.heap.size]? = some (.cells #[.int .i64 x0, .int .i64 x1, .int .i64 x2, .int .i64 x3] 63 (0, 0))) := hrow
          clear hrow
          obtain ⟨fn, tmps, assign, body, hy, hR⟩ := HY.out _ ⟨x0, x1⟩ _ hJ1 (by rw [HN.out]; simp only [List.length_append, V1_length, V2_length]; omega)
          dsimp only at hy
          gi_wp2
          refine hR.mono ?_
          rintro e W3 (⟨rfl, hJ3, hk3⟩ | ⟨rfl, hJx3⟩)
          · have hrow3 := hk3.cells _ _ HROW.out rfl
            have y0 : W3.cell? ⟨wr.heap.size, 0, none⟩ = some (.int .i64 x0) := (cell_of_row _ _ _ _ _ _ hrow3).trans rfl
            have y1 : W3.cell? ⟨wr.heap.size, 1, none⟩ = some (.int .i64 x1) := (cell_of_row _ _ _ _ _ _ hrow3).trans rfl
            have y2 : W3.cell? ⟨wr.heap.size, 2, none⟩ = some (.int .i64 x2) := (cell_of_row _ _ _ _ _ _ hrow3).trans rfl
            have y3 : W3.cell? ⟨wr.heap.size, 3, none⟩ = some (.int .i64 x3) := (cell_of_row _ _ _ _ _ _ hrow3).trans rfl
            obtain ⟨fn2, tmps2, assign2, body2, hy2, hR2⟩ := HY.out _ ⟨x2, x3⟩ _ hJ3 (by rw [HN.out]; simp only [List.length_append, V1_length, V2_length, List.length_cons, List.length_nil]; omega)
            dsimp only at hy2
            clear hy hR hJ3 hrow3
            gi_wp2
            refine hR2.mono ?_
            rintro e W4 (⟨rfl, hJ4, hk4⟩ | ⟨rfl, hJx4⟩)
            · have HJ4 : Hid (J (V1 h h.envs.length ++ V2 h (k + 1)) W4) := by show J (V1 h h.envs.length ++ V2 h (k + 1)) W4; rw [HSU.out, ← List.append_assoc, ← List.append_assoc]; exact hJ4
              clear hy2 hR2 hJ4
              gi_wp2
              go_roundw
              case rel => exact ⟨k + 1, by omega, by go_num, HJ4.out, (HB1.out.trans hk3.below).trans hk4.below⟩
              case measure => simp [intOf]; omega
            · have HJX : Hid (Jx (V1 h h.envs.length ++ V2 h (k + 1)) W4) := by show Jx (V1 h h.envs.length ++ V2 h (k + 1)) W4; rw [HSU.out, ← List.append_assoc, ← List.append_assoc]; exact hJx4
              clear hy2 hR2 hJx4
              gi_wp2
              refine bodyPost_ret (results_none rfl _ _ _) rfl ?_
              exact ⟨⟨_, rfl⟩, .inr ⟨_, fun x hx => (List.mem_append.1 hx).elim (V1_sub h (Nat.le_refl _) x) (V2_sub h (by omega) x), HJX.out⟩⟩
          · have HJX : Hid (Jx (V1 h h.envs.length ++ V2 h k ++ [⟨x0, x1⟩]) W3) := hJx3
            have HSUB : Hid (∀ x, x ∈ V1 h h.envs.length ++ V2 h k ++ [⟨x0, x1⟩] → x ∈ valsL h) := fun x hx => by
              have hx2 : x ∈ V1 h h.envs.length ++ V2 h (k + 1) := by rw [HSU.out, ← List.append_assoc, ← List.append_assoc]; exact List.mem_append_left _ hx
              exact (List.mem_append.1 hx2).elim (V1_sub h (Nat.le_refl _) x) (V2_sub h (by omega) x)
            clear hy hR hJx3
            gi_wp2
            refine ⟨fun _ h => (by cases h), ?_⟩
            gi_wp2
            refine bodyPost_ret (results_none rfl _ _ _) rfl ?_
            exact ⟨⟨_, rfl⟩, .inr ⟨_, HSUB.out, HJX.out⟩⟩
        · obtain rfl : k = h.twos.length := by omega
          gi_wp2
          gi_loopw [45] (fun i wr => ∃ k : Nat, k ≤ h.refs.length ∧ i = .int .i64 k ∧ Hid (J (V1 h h.envs.length ++ V2 h h.twos.length ++ V3 h k) wr) ∧ Below n₀ W wr) (fun i _ => h.refs.length - (intOf i).toNat)
          case atStart => exact ⟨0, Nat.zero_le _, rfl, by show J (V1 h h.envs.length ++ V2 h h.twos.length ++ []) wr; rw [List.append_nil]; exact hJs.out, hbl⟩
          case round =>
            clear z0 z1 z2 z3 hJs hbl hsz
            obtain ⟨k, hk, rfl, hJs, hbl⟩ := hrel
            have hsz := hbl.size
            obtain ⟨z0, z1, z2, z3⟩ := HX.out wr hbl
            by_cases hlt : k < h.refs.length
            · have e1 : (k : Int) < h.refs.length := by omega
              obtain rfl := HA.out.e3 (by omega)
              have t := (HK.out wr hbl).r3 k hlt
              have hsu := V3_succ h k
              obtain ⟨⟨x0, x1⟩, hx⟩ : ∃ y, h.refs.getD k noVl = y := ⟨_, rfl⟩
              rw [hx] at t hsu
              have q0 : wr.cell? ⟨g3, k * 2, none⟩ = some (.int .i64 x0) := t.c0
              have q1 : wr.cell? ⟨g3, k * 2 + 1, none⟩ = some (.int .i64 x1) := t.c1
              have HSU : Hid (_ = _) := hsu
              clear t hx hsu
              have hJ1 : J (V1 h h.envs.length ++ V2 h h.twos.length ++ V3 h k) (wr.alloc (.cells #[.int .i64 x0, .int .i64 x1] 42)) := abides_alloc HJ.out _ hJs.out
              have HB1 : Hid (Below n₀ W (wr.alloc (.cells #[.int .i64 x0, .int .i64 x1] 42))) := hbl.alloc (by omega) _
              obtain ⟨fn, tmps, assign, body, hy, hR⟩ := HY.out _ ⟨x0, x1⟩ _ hJ1 (by rw [HN.out]; simp only [List.length_append, V1_length, V2_length, V3_length]; omega)
              dsimp only at hy
              gi_wp2
              refine hR.mono ?_
              rintro e W3 (⟨rfl, hJ3, hk3⟩ | ⟨rfl, hJx3⟩)
              · have HJ3 : Hid (J (V1 h h.envs.length ++ V2 h h.twos.length ++ V3 h (k + 1)) W3) := by show J (V1 h h.envs.length ++ V2 h h.twos.length ++ V3 h (k + 1)) W3; rw [HSU.out]; rw [← List.append_assoc]; exact hJ3
                clear hy hR hJ3
                gi_wp2
                go_roundw
                case rel => exact ⟨k + 1, by omega, by go_num, HJ3.out, HB1.out.trans hk3.below⟩
                case measure => simp [intOf]; omega
              · have HJX : Hid (Jx (V1 h h.envs.length ++ V2 h h.twos.length ++ V3 h (k + 1)) W3) := by show Jx (V1 h h.envs.length ++ V2 h h.twos.length ++ V3 h (k + 1)) W3; rw [HSU.out]; rw [← List.append_assoc]; exact hJx3
                clear hy hR hJx3
                gi_wp2
                refine bodyPost_ret (results_none rfl _ _ _) rfl ?_
                exact ⟨⟨_, rfl⟩, .inr ⟨_, fun x hx => (List.mem_append.1 hx).elim (fun hx => (List.mem_append.1 hx).elim (V1_sub h (Nat.le_refl _) x) (V2_sub h (Nat.le_refl _) x)) (V3_sub h (by omega) x), HJX.out⟩⟩
            · obtain rfl : k = h.refs.length := by omega
              gi_wp2
              go_end0
              exact ⟨⟨_, rfl⟩, .inl ⟨_, rfl, hJs.out⟩⟩

/-- 'h.values()': the heap is boxed; the function value captures the box. -/
theorem values_in (a0 a1 a2 a3 : Option Addr) (m0 m1 m2 m3 c0 c1 c2 c3 : Nat) (w : World) :
    Calls Try.prog 27 #[.agg #[.slice a0 m0 c0, .slice a1 m1 c1, .slice a2 m2 c2, .slice a3 m3 c3]] w fun e w' => e = .returned (.func (.func 38) #[] #[.pointer (some ⟨w.heap.size, 0, none⟩)]) ∧ w' = w.alloc (.cells #[.slice a0 m0 c0, .slice a1 m1 c1, .slice a2 m2 c2, .slice a3 m3 c3] 35) := by
  go_enter Try.func27, Try.ntmps27
  go_wp2
  go_ret
  exact ⟨rfl, rfl⟩

theorem values_stops (F : Fence) (n : Nat) (hf : F.fn 38) (hro : F.round = none) (hn : 1 ≤ n) (Bs n₀ : Nat) (a0 a1 a2 a3 : Option Addr) (g0 g1 g2 g3 c0 c1 c2 c3 : Nat) (h : Hq)
    (k0 : 0 < h.envs.length → g0 < n₀) (k1 : 0 < h.clos.length → g1 < n₀) (k2 : 0 < h.twos.length → g2 < n₀) (k3 : 0 < h.refs.length → g3 < n₀) (hBs : Bs < n₀) (w : World) (hn₀ : n₀ ≤ w.heap.size)
    (hR : w.heap[Bs]? = some (.cells #[.slice a0 h.envs.length c0, .slice a1 h.clos.length c1, .slice a2 h.twos.length c2, .slice a3 h.refs.length c3] 35 (0, 0))) (hA : HpAt w a0 a1 a2 a3 g0 g1 g2 g3 h) :
    SeqStopsK F n Try.prog 38 #[.pointer (some ⟨Bs, 0, none⟩)] (fun x : Vl => #[Value.agg #[.int .i64 x.kind, .int .i64 x.n]]) (KC n₀) (fun ys => ys = valsL h) (fun pre => ∀ x, x ∈ pre → x ∈ valsL h) (valsL h).length w := fun l J Jx W hW hJ _ hY h0 =>
  values1_in F n hf hro hn l Bs n₀ a0 a1 a2 a3 g0 g1 g2 g3 c0 c1 c2 c3 h k0 k1 k2 k3 hBs J Jx W (Nat.le_trans hn₀ hW.size) hJ hY ((hW.block _ (Nat.lt_of_lt_of_le hBs hn₀)).trans hR) (hA.below hW (Nat.le_refl _)) h0
end Go.Proofs.Ythmfkbnfdheopaa
