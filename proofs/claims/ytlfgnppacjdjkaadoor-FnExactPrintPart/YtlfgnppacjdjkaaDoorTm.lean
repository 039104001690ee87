/-
  Nodes as they landed: trees are laid out. Conditions: written at each theorem.
-/
import Derived.Test.YtlfgnppacjdjkaaDoorTl
namespace Go.Proofs.YtlfgnppacjdjkaaDoor
open Go.ChangeShapes Go.WideShapes Go.ChangeAt Go.RowKit
set_option linter.unusedVariables false

/-- The nodes of a tree of 0 kids, behind so many nodes. -/
def seg0 (t : Nod) (n : Nat) : List Nod := [⟨t.kind, t.a, t.b, t.c, t.n, t.name, t.other⟩]

set_option maxHeartbeats 4000000 in
set_option maxRecDepth 20000 in
theorem lay_leaf (t : Nod) (s : Int) (hs : t.name.size ≤ 281474976710656) (ho : t.other.size ≤ 281474976710656) :
    LayC 155 (.agg (spotL t s ++ []).toArray) (seg0 t) := by
  intro out v B w hown hB hlen
  have HB : Hid (B ≤ w.heap.size) := hB
  have HCP : Hid (∀ w : World, Calls Tryd.prog 156 #[.agg (nodCells t).toArray] w fun e w' => e = .returned (.agg (nodCells t).toArray) ∧ Below w.heap.size w w') := impl_copy t hs ho
  obtain ⟨x0, x1, x2, x3, x4, x5, x6⟩ := t
  have HO0 : Hid (ownNod w B v out) := hown
  have HVB : Hid (∀ k, v.ownBlock = some k → k < w.heap.size) := fun k hk => (hown.lt k hk).2
  obtain ⟨G, hG⟩ : ∃ G, out ++ seg0 ⟨x0, x1, x2, x3, x4, x5, x6⟩ out.length = G := ⟨_, rfl⟩
  have HG : Hid (G = out ++ [⟨x0, x1, x2, x3, x4, x5, x6⟩]) := by
    show G = _
    rw [← hG]
    rfl
  have HLN : Hid (G.length ≤ 1000) := by
    show G.length ≤ 1000
    rw [← hG, List.length_append]; exact hlen
  have HLo : Hid (out.length + 1 ≤ 1000) := by
    have h := HLN.out
    rw [HG.out, List.length_append] at h
    show out.length + 1 ≤ 1000
    exact h
  clear hown hlen hB hs ho
  show Calls Tryd.prog 155 #[.agg #[.int .i64 x0, .int .i64 x1, .int .i64 x2, .int .i64 x3, .int .i64 x4, .string x5, .string x6, .int .i64 s], v] w fun e w' => LayEnd B w v (out ++ seg0 ⟨x0, x1, x2, x3, x4, x5, x6⟩ out.length) e w'
  rw [hG]
  clear hG
  have HCN : Hid (∀ w : World, Calls Tryd.prog 156 #[.agg #[.int .i64 x0, .int .i64 x1, .int .i64 x2, .int .i64 x3, .int .i64 x4, .string x5, .string x6]] w fun e w' => e = .returned (.agg #[.int .i64 x0, .int .i64 x1, .int .i64 x2, .int .i64 x3, .int .i64 x4, .string x5, .string x6]) ∧ Below w.heap.size w w') := HCP.out
  clear HCP
  obtain ⟨W0, hW0⟩ : ∃ W0, w.alloc (.cells #[.int .i64 x0, .int .i64 x1, .int .i64 x2, .int .i64 x3, .int .i64 x4, .string x5, .string x6, .int .i64 s] 140) = W0 := ⟨_, rfl⟩
  have HW0 : Hid (w.alloc (.cells #[.int .i64 x0, .int .i64 x1, .int .i64 x2, .int .i64 x3, .int .i64 x4, .string x5, .string x6, .int .i64 s] 140) = W0) := hW0
  have R0 : Hid (W0.heap[w.heap.size]? = some (.cells #[.int .i64 x0, .int .i64 x1, .int .i64 x2, .int .i64 x3, .int .i64 x4, .string x5, .string x6, .int .i64 s] 140 (0, 0))) := by rw [← hW0]; exact (MapKept.heap_alloc w _).1
  have SZ0 : Hid (W0.heap.size = w.heap.size + 1) := by
    show W0.heap.size = w.heap.size + 1
    rw [← hW0]; simp
  have B0 : Hid (Below w.heap.size w W0) := by rw [← hW0]; exact (Below.refl _ w).alloc (Nat.le_refl _) _
  clear hW0
  go_enter Tryd.func155, Tryd.ntmps155
  go_wp2_with fail
  rw [HW0.out]
  refine (HCN.out W0).mono ?_
  rintro e w1 ⟨rfl, hb1⟩
  have hs1 := hb1.size
  rw [SZ0.out] at hs1
  have R1 : Hid (w1.heap[w.heap.size]? = some (.cells #[.int .i64 x0, .int .i64 x1, .int .i64 x2, .int .i64 x3, .int .i64 x4, .string x5, .string x6, .int .i64 s] 140 (0, 0))) := (hb1.block w.heap.size (by rw [SZ0.out]; omega)).trans R0.out
  have B1 : Hid (Below w.heap.size w w1) := B0.out.trans (hb1.mono (by rw [SZ0.out]; omega))
  clear hb1 HW0 R0 B0 HCN SZ0
  have O1 : Hid (ownNod w1 B v out) := ownNod_kept HO0.out B1.out (Nat.le_refl _)
  have GR : Hid (Grew w w1 v v) := Grew.of_below B1.out
  obtain ⟨i0, hi, hz0, hz1, hz2⟩ := info_parts info_nod
  clear HO0 B1 R1
  go_wp2_with (at_builtin; refine wpList_append_at _ rfl _ _ 24 rfl B 49 i0 _ 7 72 Tryd.underlying24 hi hz0 hz1 hz2 rfl (by decide) _ _ _ rfl (O1.out.alloc _) ⟨w1.heap.size, 0, none⟩ 1 1 (nodCells ⟨x0, x1, x2, x3, x4, x5, x6⟩) rfl rfl ?a0 ?b0 ?z0 ?c0 ?d0 ?e0 ?_)
  case a0 => exact nod_new rfl _ _ _ _ _ _ _ _
  case b0 => exact nod_one _
  case z0 => omega
  case c0 => have := HLo.out; unfold maxLen; omega
  case d0 => have := HLo.out; omega
  case e0 => have := HB.out; simp; omega
  intro v' W3 hown' hgrow
  have HE : Hid (LayEnd B w v G (.returned v') W3) := by
    show LayEnd B w v G (.returned v') W3
    rw [HG.out]
    exact ⟨v', rfl, ownNod_next ⟨x0, x1, x2, x3, x4, x5, x6⟩ hown' rfl rfl, GR.out.trans ((Grew.of_below ((Below.refl _ w1).alloc (Nat.le_refl _) _)).trans hgrow)⟩
  clear hown' hgrow
  go_wp2
  go_ret
  exact HE.out

/-- The nodes of a tree of 1 kids, behind so many nodes. -/
def seg1 (t : Nod) (S0 : Nat → List Nod) (n : Nat) : List Nod := S0 n ++ [⟨t.kind, (((n + (S0 n).length) : Nat) : Int) - 1, t.b, t.c, t.n, t.name, t.other⟩]

theorem seg1_at (t : Nod) (S0 : Nat → List Nod) (out : List Nod) : out ++ seg1 t S0 out.length = (out ++ S0 out.length) ++ [⟨t.kind, (((out ++ S0 out.length).length : Int) - 1), t.b, t.c, t.n, t.name, t.other⟩] := by
  simp only [seg1, List.length_append, List.append_assoc]

set_option maxHeartbeats 4000000 in
set_option maxRecDepth 20000 in
theorem lay_one (t : Nod) (s : Int) (hs : t.name.size ≤ 281474976710656) (ho : t.other.size ≤ 281474976710656) {T0 : TypeId} {u0 : Value} {S0 : Nat → List Nod} (h0 : LayV (.iface T0 u0) S0) :
    LayC 157 (.agg (spotL t s ++ [Value.iface T0 u0]).toArray) (seg1 t S0) := by
  intro out v B w hown hB hlen
  have HB : Hid (B ≤ w.heap.size) := hB
  have HCP : Hid (∀ w : World, Calls Tryd.prog 156 #[.agg (nodCells t).toArray] w fun e w' => e = .returned (.agg (nodCells t).toArray) ∧ Below w.heap.size w w') := impl_copy t hs ho
  have HL0 : Hid (LayV (.iface T0 u0) S0) := h0
  obtain ⟨x0, x1, x2, x3, x4, x5, x6⟩ := t
  have HO0 : Hid (ownNod w B v out) := hown
  have HVB : Hid (∀ k, v.ownBlock = some k → k < w.heap.size) := fun k hk => (hown.lt k hk).2
  obtain ⟨G, hG⟩ : ∃ G, out ++ seg1 ⟨x0, x1, x2, x3, x4, x5, x6⟩ S0 out.length = G := ⟨_, rfl⟩
  have HG : Hid (G = (out ++ S0 out.length) ++ [⟨x0, (((out ++ S0 out.length).length : Int) - 1), x2, x3, x4, x5, x6⟩]) := by
    show G = _
    rw [← hG]
    exact seg1_at ⟨x0, x1, x2, x3, x4, x5, x6⟩ S0 out
  have HLN : Hid (G.length ≤ 1000) := by
    show G.length ≤ 1000
    rw [← hG, List.length_append]; exact hlen
  have HL0n : Hid (out.length + (S0 out.length).length ≤ 1000) := by
    have h := HLN.out
    rw [HG.out] at h
    simp only [List.length_append, List.length_cons, List.length_nil] at h
    show out.length + (S0 out.length).length ≤ 1000
    skip
    omega
  have HLo : Hid ((out ++ S0 out.length).length + 1 ≤ 1000) := by
    have h := HLN.out
    rw [HG.out, List.length_append] at h
    show (out ++ S0 out.length).length + 1 ≤ 1000
    exact h
  clear hown hlen hB hs ho h0
  show Calls Tryd.prog 157 #[.agg #[.int .i64 x0, .int .i64 x1, .int .i64 x2, .int .i64 x3, .int .i64 x4, .string x5, .string x6, .int .i64 s, Value.iface T0 u0], v] w fun e w' => LayEnd B w v (out ++ seg1 ⟨x0, x1, x2, x3, x4, x5, x6⟩ S0 out.length) e w'
  rw [hG]
  clear hG
  have HCN : Hid (∀ w : World, Calls Tryd.prog 156 #[.agg #[.int .i64 x0, .int .i64 x1, .int .i64 x2, .int .i64 x3, .int .i64 x4, .string x5, .string x6]] w fun e w' => e = .returned (.agg #[.int .i64 x0, .int .i64 x1, .int .i64 x2, .int .i64 x3, .int .i64 x4, .string x5, .string x6]) ∧ Below w.heap.size w w') := HCP.out
  clear HCP
  obtain ⟨W0, hW0⟩ : ∃ W0, w.alloc (.cells #[.int .i64 x0, .int .i64 x1, .int .i64 x2, .int .i64 x3, .int .i64 x4, .string x5, .string x6, .int .i64 s, Value.iface T0 u0] 142) = W0 := ⟨_, rfl⟩
  have HW0 : Hid (w.alloc (.cells #[.int .i64 x0, .int .i64 x1, .int .i64 x2, .int .i64 x3, .int .i64 x4, .string x5, .string x6, .int .i64 s, Value.iface T0 u0] 142) = W0) := hW0
  have R0 : Hid (W0.heap[w.heap.size]? = some (.cells #[.int .i64 x0, .int .i64 x1, .int .i64 x2, .int .i64 x3, .int .i64 x4, .string x5, .string x6, .int .i64 s, Value.iface T0 u0] 142 (0, 0))) := by rw [← hW0]; exact (MapKept.heap_alloc w _).1
  have SZ0 : Hid (W0.heap.size = w.heap.size + 1) := by
    show W0.heap.size = w.heap.size + 1
    rw [← hW0]; simp
  have B0 : Hid (Below w.heap.size w W0) := by rw [← hW0]; exact (Below.refl _ w).alloc (Nat.le_refl _) _
  clear hW0
  go_enter Tryd.func157, Tryd.ntmps157
  go_wp2_with fail
  rw [HW0.out]
  refine (HCN.out W0).mono ?_
  rintro e w1 ⟨rfl, hb1⟩
  have hs1 := hb1.size
  rw [SZ0.out] at hs1
  have R1 : Hid (w1.heap[w.heap.size]? = some (.cells #[.int .i64 x0, .int .i64 x1, .int .i64 x2, .int .i64 x3, .int .i64 x4, .string x5, .string x6, .int .i64 s, Value.iface T0 u0] 142 (0, 0))) := (hb1.block w.heap.size (by rw [SZ0.out]; omega)).trans R0.out
  have B1 : Hid (Below w.heap.size w w1) := B0.out.trans (hb1.mono (by rw [SZ0.out]; omega))
  clear hb1 HW0 R0 B0 HCN SZ0
  have L0 : Hid (LSt w v B w.heap.size w1.heap.size #[.int .i64 x0, .int .i64 x1, .int .i64 x2, .int .i64 x3, .int .i64 x4, .string x5, .string x6, .int .i64 s, Value.iface T0 u0] 142 ⟨x0, x1, x2, x3, x4, x5, x6⟩ out v (w1.alloc (.cells #[.int .i64 x0, .int .i64 x1, .int .i64 x2, .int .i64 x3, .int .i64 x4, .string x5, .string x6] 49))) := by
    have hb := B1.out.alloc (show w.heap.size ≤ w1.heap.size by omega) (.cells #[.int .i64 x0, .int .i64 x1, .int .i64 x2, .int .i64 x3, .int .i64 x4, .string x5, .string x6] 49)
    refine ⟨Grew.of_below hb, ownNod_kept HO0.out hb (Nat.le_refl _), ?_, (MapKept.heap_alloc w1 _).1, fun k hk => ?_, by omega, Nat.le_refl _, by omega⟩
    · exact (((Below.refl w1.heap.size w1).alloc (Nat.le_refl _) _).block w.heap.size (by omega)).trans R1.out
    · have := HVB.out k hk; exact ⟨by omega, by omega⟩
  have p8 : w1.cell? ⟨w.heap.size, 8, none⟩ = some (Value.iface T0 u0) := row_cell R1.out 8 rfl
  have hsz1 : w.heap.size < w1.heap.size := by omega
  clear R1 B1 HO0
  go_wp2_with fail
  refine (impl_layKid (Value.iface T0 u0) S0 HL0.out out v B _ L0.out.own (by have := HB.out; have := L0.out.grew.1.size; omega) HL0n.out).mono ?_
  rintro e w2 ⟨y0, rfl, hown0, hgr0⟩
  have L1a' := L0.out.kid hown0 hgr0
  have HN0 : Hid (∃ n0 : Int, ((out ++ S0 out.length).length : Int) - 1 = n0) := ⟨_, rfl⟩
  obtain ⟨n0, hn0⟩ := HN0.out
  have HE0 : Hid (((out ++ S0 out.length).length : Int) - 1 = n0) := hn0
  rw [hn0]
  have L1a : Hid (LSt w v B w.heap.size w1.heap.size #[.int .i64 x0, .int .i64 x1, .int .i64 x2, .int .i64 x3, .int .i64 x4, .string x5, .string x6, .int .i64 s, Value.iface T0 u0] 142 ⟨x0, x1, x2, x3, x4, x5, x6⟩ (out ++ S0 out.length) y0 w2) := L1a'
  have L1 : Hid (LSt w v B w.heap.size w1.heap.size #[.int .i64 x0, .int .i64 x1, .int .i64 x2, .int .i64 x3, .int .i64 x4, .string x5, .string x6, .int .i64 s, Value.iface T0 u0] 142 ⟨x0, n0, x2, x3, x4, x5, x6⟩ (out ++ S0 out.length) y0 (w2.setCell ⟨w1.heap.size, 1, none⟩ (.int .i64 n0))) := L1a'.set 1 (.int .i64 n0) rfl
  clear hown0 hgr0 hn0 HN0 L1a' L0 p8
  obtain ⟨q10, q11, q12, q13, q14, q15, q16⟩ := cells7_of L1a.out.nd
  have f1 : ∀ o, w2.frozen? ⟨w1.heap.size, o, none⟩ = false := fun o => frozen_of_row w2 _ _ _ _ L1a.out.nd
  obtain ⟨i0, hi, hz0, hz1, hz2⟩ := info_parts info_nod
  have hszk : (w2.setCell ⟨w1.heap.size, 1, none⟩ (.int .i64 n0)).heap.size = w2.heap.size := by simp
  go_wp2_with (at_builtin; refine wpList_append_at _ rfl _ _ 24 rfl B 49 i0 _ 7 72 Tryd.underlying24 hi hz0 hz1 hz2 rfl (by decide) _ _ _ rfl (L1.out.own.alloc _) ⟨w2.heap.size, 0, none⟩ 1 1 (nodCells ⟨x0, n0, x2, x3, x4, x5, x6⟩) rfl rfl ?a0 ?b0 ?z0 ?c0 ?d0 ?e0 ?_)
  case a0 => exact nod_new (by simp) _ _ _ _ _ _ _ _
  case b0 => exact nod_one _
  case z0 => omega
  case c0 => have := HLo.out; unfold maxLen; omega
  case d0 => have := HLo.out; omega
  case e0 => have := HB.out; have := L1.out.grew.1.size; simp at this ⊢; omega
  intro v' W3 hown' hgrow
  have HE : Hid (LayEnd B w v G (.returned v') W3) := by
    show LayEnd B w v G (.returned v') W3
    rw [HG.out, HE0.out]
    exact L1.out.last hown' (by first | rfl | (simp only [List.length_append]; done) | simp only [List.length_append, Nat.add_assoc]) (by first | rfl | (simp only [List.flatMap_append, List.append_assoc]; done) | simp only [List.flatMap_append, List.append_assoc, List.length_append]) hgrow
  clear hown' hgrow L1 L1a
  go_wp2
  go_ret
  exact HE.out

/-- The nodes of a tree of 2 kids, behind so many nodes. -/
def seg2 (t : Nod) (S0 : Nat → List Nod) (S1 : Nat → List Nod) (n : Nat) : List Nod := S0 n ++ (S1 (n + (S0 n).length) ++ [⟨t.kind, (((n + (S0 n).length) : Nat) : Int) - 1, (((n + (S0 n).length + (S1 (n + (S0 n).length)).length) : Nat) : Int) - 1, t.c, t.n, t.name, t.other⟩])

theorem seg2_at (t : Nod) (S0 : Nat → List Nod) (S1 : Nat → List Nod) (out : List Nod) : out ++ seg2 t S0 S1 out.length = ((out ++ S0 out.length) ++ S1 (out ++ S0 out.length).length) ++ [⟨t.kind, (((out ++ S0 out.length).length : Int) - 1), ((((out ++ S0 out.length) ++ S1 (out ++ S0 out.length).length).length : Int) - 1), t.c, t.n, t.name, t.other⟩] := by
  simp only [seg2, List.length_append, List.append_assoc, Nat.add_assoc]

set_option maxHeartbeats 4000000 in
set_option maxRecDepth 20000 in
theorem lay_two (t : Nod) (s : Int) (hs : t.name.size ≤ 281474976710656) (ho : t.other.size ≤ 281474976710656) {T0 T1 : TypeId} {u0 u1 : Value} {S0 S1 : Nat → List Nod} (h0 : LayV (.iface T0 u0) S0) (h1 : LayV (.iface T1 u1) S1) :
    LayC 159 (.agg (spotL t s ++ [Value.iface T0 u0, Value.iface T1 u1]).toArray) (seg2 t S0 S1) := by
  intro out v B w hown hB hlen
  have HB : Hid (B ≤ w.heap.size) := hB
  have HCP : Hid (∀ w : World, Calls Tryd.prog 156 #[.agg (nodCells t).toArray] w fun e w' => e = .returned (.agg (nodCells t).toArray) ∧ Below w.heap.size w w') := impl_copy t hs ho
  have HL0 : Hid (LayV (.iface T0 u0) S0) := h0
  have HL1 : Hid (LayV (.iface T1 u1) S1) := h1
  obtain ⟨x0, x1, x2, x3, x4, x5, x6⟩ := t
  have HO0 : Hid (ownNod w B v out) := hown
  have HVB : Hid (∀ k, v.ownBlock = some k → k < w.heap.size) := fun k hk => (hown.lt k hk).2
  obtain ⟨G, hG⟩ : ∃ G, out ++ seg2 ⟨x0, x1, x2, x3, x4, x5, x6⟩ S0 S1 out.length = G := ⟨_, rfl⟩
  have HG : Hid (G = ((out ++ S0 out.length) ++ S1 (out ++ S0 out.length).length) ++ [⟨x0, (((out ++ S0 out.length).length : Int) - 1), ((((out ++ S0 out.length) ++ S1 (out ++ S0 out.length).length).length : Int) - 1), x3, x4, x5, x6⟩]) := by
    show G = _
    rw [← hG]
    exact seg2_at ⟨x0, x1, x2, x3, x4, x5, x6⟩ S0 S1 out
  have HLN : Hid (G.length ≤ 1000) := by
    show G.length ≤ 1000
    rw [← hG, List.length_append]; exact hlen
  have HL0n : Hid (out.length + (S0 out.length).length ≤ 1000) := by
    have h := HLN.out
    rw [HG.out] at h
    simp only [List.length_append, List.length_cons, List.length_nil] at h
    show out.length + (S0 out.length).length ≤ 1000
    skip
    omega
  have HL1n : Hid ((out ++ S0 out.length).length + (S1 (out ++ S0 out.length).length).length ≤ 1000) := by
    have h := HLN.out
    rw [HG.out] at h
    simp only [List.length_append, List.length_cons, List.length_nil] at h
    show (out ++ S0 out.length).length + (S1 (out ++ S0 out.length).length).length ≤ 1000
    simp only [List.length_append]
    omega
  have HLo : Hid (((out ++ S0 out.length) ++ S1 (out ++ S0 out.length).length).length + 1 ≤ 1000) := by
    have h := HLN.out
    rw [HG.out, List.length_append] at h
    show ((out ++ S0 out.length) ++ S1 (out ++ S0 out.length).length).length + 1 ≤ 1000
    exact h
  clear hown hlen hB hs ho h0 h1
  show Calls Tryd.prog 159 #[.agg #[.int .i64 x0, .int .i64 x1, .int .i64 x2, .int .i64 x3, .int .i64 x4, .string x5, .string x6, .int .i64 s, Value.iface T0 u0, Value.iface T1 u1], v] w fun e w' => LayEnd B w v (out ++ seg2 ⟨x0, x1, x2, x3, x4, x5, x6⟩ S0 S1 out.length) e w'
  rw [hG]
  clear hG
  have HCN : Hid (∀ w : World, Calls Tryd.prog 156 #[.agg #[.int .i64 x0, .int .i64 x1, .int .i64 x2, .int .i64 x3, .int .i64 x4, .string x5, .string x6]] w fun e w' => e = .returned (.agg #[.int .i64 x0, .int .i64 x1, .int .i64 x2, .int .i64 x3, .int .i64 x4, .string x5, .string x6]) ∧ Below w.heap.size w w') := HCP.out
  clear HCP
  obtain ⟨W0, hW0⟩ : ∃ W0, w.alloc (.cells #[.int .i64 x0, .int .i64 x1, .int .i64 x2, .int .i64 x3, .int .i64 x4, .string x5, .string x6, .int .i64 s, Value.iface T0 u0, Value.iface T1 u1] 144) = W0 := ⟨_, rfl⟩
  have HW0 : Hid (w.alloc (.cells #[.int .i64 x0, .int .i64 x1, .int .i64 x2, .int .i64 x3, .int .i64 x4, .string x5, .string x6, .int .i64 s, Value.iface T0 u0, Value.iface T1 u1] 144) = W0) := hW0
  have R0 : Hid (W0.heap[w.heap.size]? = some (.cells #[.int .i64 x0, .int .i64 x1, .int .i64 x2, .int .i64 x3, .int .i64 x4, .string x5, .string x6, .int .i64 s, Value.iface T0 u0, Value.iface T1 u1] 144 (0, 0))) := by rw [← hW0]; exact (MapKept.heap_alloc w _).1
  have SZ0 : Hid (W0.heap.size = w.heap.size + 1) := by
    show W0.heap.size = w.heap.size + 1
    rw [← hW0]; simp
  have B0 : Hid (Below w.heap.size w W0) := by rw [← hW0]; exact (Below.refl _ w).alloc (Nat.le_refl _) _
  clear hW0
  go_enter Tryd.func159, Tryd.ntmps159
  go_wp2_with fail
  rw [HW0.out]
  refine (HCN.out W0).mono ?_
  rintro e w1 ⟨rfl, hb1⟩
  have hs1 := hb1.size
  rw [SZ0.out] at hs1
  have R1 : Hid (w1.heap[w.heap.size]? = some (.cells #[.int .i64 x0, .int .i64 x1, .int .i64 x2, .int .i64 x3, .int .i64 x4, .string x5, .string x6, .int .i64 s, Value.iface T0 u0, Value.iface T1 u1] 144 (0, 0))) := (hb1.block w.heap.size (by rw [SZ0.out]; omega)).trans R0.out
  have B1 : Hid (Below w.heap.size w w1) := B0.out.trans (hb1.mono (by rw [SZ0.out]; omega))
  clear hb1 HW0 R0 B0 HCN SZ0
  have L0 : Hid (LSt w v B w.heap.size w1.heap.size #[.int .i64 x0, .int .i64 x1, .int .i64 x2, .int .i64 x3, .int .i64 x4, .string x5, .string x6, .int .i64 s, Value.iface T0 u0, Value.iface T1 u1] 144 ⟨x0, x1, x2, x3, x4, x5, x6⟩ out v (w1.alloc (.cells #[.int .i64 x0, .int .i64 x1, .int .i64 x2, .int .i64 x3, .int .i64 x4, .string x5, .string x6] 49))) := by
    have hb := B1.out.alloc (show w.heap.size ≤ w1.heap.size by omega) (.cells #[.int .i64 x0, .int .i64 x1, .int .i64 x2, .int .i64 x3, .int .i64 x4, .string x5, .string x6] 49)
    refine ⟨Grew.of_below hb, ownNod_kept HO0.out hb (Nat.le_refl _), ?_, (MapKept.heap_alloc w1 _).1, fun k hk => ?_, by omega, Nat.le_refl _, by omega⟩
    · exact (((Below.refl w1.heap.size w1).alloc (Nat.le_refl _) _).block w.heap.size (by omega)).trans R1.out
    · have := HVB.out k hk; exact ⟨by omega, by omega⟩
  have p8 : w1.cell? ⟨w.heap.size, 8, none⟩ = some (Value.iface T0 u0) := row_cell R1.out 8 rfl
  have hsz1 : w.heap.size < w1.heap.size := by omega
  clear R1 B1 HO0
  go_wp2_with fail
  refine (impl_layKid (Value.iface T0 u0) S0 HL0.out out v B _ L0.out.own (by have := HB.out; have := L0.out.grew.1.size; omega) HL0n.out).mono ?_
  rintro e w2 ⟨y0, rfl, hown0, hgr0⟩
  have L1a' := L0.out.kid hown0 hgr0
  have HN0 : Hid (∃ n0 : Int, ((out ++ S0 out.length).length : Int) - 1 = n0) := ⟨_, rfl⟩
  obtain ⟨n0, hn0⟩ := HN0.out
  have HE0 : Hid (((out ++ S0 out.length).length : Int) - 1 = n0) := hn0
  rw [hn0]
  have L1a : Hid (LSt w v B w.heap.size w1.heap.size #[.int .i64 x0, .int .i64 x1, .int .i64 x2, .int .i64 x3, .int .i64 x4, .string x5, .string x6, .int .i64 s, Value.iface T0 u0, Value.iface T1 u1] 144 ⟨x0, x1, x2, x3, x4, x5, x6⟩ (out ++ S0 out.length) y0 w2) := L1a'
  have L1 : Hid (LSt w v B w.heap.size w1.heap.size #[.int .i64 x0, .int .i64 x1, .int .i64 x2, .int .i64 x3, .int .i64 x4, .string x5, .string x6, .int .i64 s, Value.iface T0 u0, Value.iface T1 u1] 144 ⟨x0, n0, x2, x3, x4, x5, x6⟩ (out ++ S0 out.length) y0 (w2.setCell ⟨w1.heap.size, 1, none⟩ (.int .i64 n0))) := L1a'.set 1 (.int .i64 n0) rfl
  clear hown0 hgr0 hn0 HN0 L1a' L0 p8
  obtain ⟨q10, q11, q12, q13, q14, q15, q16⟩ := cells7_of L1a.out.nd
  have f1 : ∀ o, w2.frozen? ⟨w1.heap.size, o, none⟩ = false := fun o => frozen_of_row w2 _ _ _ _ L1a.out.nd
  have p9 : w2.cell? ⟨w.heap.size, 9, none⟩ = some (Value.iface T1 u1) := row_cell L1a.out.row 9 rfl
  go_wp2_with fail
  refine (impl_layKid (Value.iface T1 u1) S1 HL1.out (out ++ S0 out.length) y0 B _ L1.out.own (by have := HB.out; have := L1.out.grew.1.size; omega) HL1n.out).mono ?_
  rintro e w3 ⟨y1, rfl, hown1, hgr1⟩
  have L2a' := L1.out.kid hown1 hgr1
  have HN1 : Hid (∃ n1 : Int, (((out ++ S0 out.length) ++ S1 (out ++ S0 out.length).length).length : Int) - 1 = n1) := ⟨_, rfl⟩
  obtain ⟨n1, hn1⟩ := HN1.out
  have HE1 : Hid ((((out ++ S0 out.length) ++ S1 (out ++ S0 out.length).length).length : Int) - 1 = n1) := hn1
  rw [hn1]
  have L2a : Hid (LSt w v B w.heap.size w1.heap.size #[.int .i64 x0, .int .i64 x1, .int .i64 x2, .int .i64 x3, .int .i64 x4, .string x5, .string x6, .int .i64 s, Value.iface T0 u0, Value.iface T1 u1] 144 ⟨x0, n0, x2, x3, x4, x5, x6⟩ ((out ++ S0 out.length) ++ S1 (out ++ S0 out.length).length) y1 w3) := L2a'
  have L2 : Hid (LSt w v B w.heap.size w1.heap.size #[.int .i64 x0, .int .i64 x1, .int .i64 x2, .int .i64 x3, .int .i64 x4, .string x5, .string x6, .int .i64 s, Value.iface T0 u0, Value.iface T1 u1] 144 ⟨x0, n0, n1, x3, x4, x5, x6⟩ ((out ++ S0 out.length) ++ S1 (out ++ S0 out.length).length) y1 (w3.setCell ⟨w1.heap.size, 2, none⟩ (.int .i64 n1))) := L2a'.set 2 (.int .i64 n1) rfl
  clear hown1 hgr1 hn1 HN1 L2a' L1 p9 q10 q11 q12 q13 q14 q15 q16 f1 L1a
  obtain ⟨q20, q21, q22, q23, q24, q25, q26⟩ := cells7_of L2a.out.nd
  have f2 : ∀ o, w3.frozen? ⟨w1.heap.size, o, none⟩ = false := fun o => frozen_of_row w3 _ _ _ _ L2a.out.nd
  obtain ⟨i0, hi, hz0, hz1, hz2⟩ := info_parts info_nod
  have hszk : (w3.setCell ⟨w1.heap.size, 2, none⟩ (.int .i64 n1)).heap.size = w3.heap.size := by simp
  go_wp2_with (at_builtin; refine wpList_append_at _ rfl _ _ 24 rfl B 49 i0 _ 7 72 Tryd.underlying24 hi hz0 hz1 hz2 rfl (by decide) _ _ _ rfl (L2.out.own.alloc _) ⟨w3.heap.size, 0, none⟩ 1 1 (nodCells ⟨x0, n0, n1, x3, x4, x5, x6⟩) rfl rfl ?a0 ?b0 ?z0 ?c0 ?d0 ?e0 ?_)
  case a0 => exact nod_new (by simp) _ _ _ _ _ _ _ _
  case b0 => exact nod_one _
  case z0 => omega
  case c0 => have := HLo.out; unfold maxLen; omega
  case d0 => have := HLo.out; omega
  case e0 => have := HB.out; have := L2.out.grew.1.size; simp at this ⊢; omega
  intro v' W3 hown' hgrow
  have HE : Hid (LayEnd B w v G (.returned v') W3) := by
    show LayEnd B w v G (.returned v') W3
    rw [HG.out, HE0.out, HE1.out]
    exact L2.out.last hown' (by first | rfl | (simp only [List.length_append]; done) | simp only [List.length_append, Nat.add_assoc]) (by first | rfl | (simp only [List.flatMap_append, List.append_assoc]; done) | simp only [List.flatMap_append, List.append_assoc, List.length_append]) hgrow
  clear hown' hgrow L2 L2a
  go_wp2
  go_ret
  exact HE.out

/-- The nodes of a tree of 3 kids, behind so many nodes. -/
def seg3 (t : Nod) (S0 : Nat → List Nod) (S1 : Nat → List Nod) (S2 : Nat → List Nod) (n : Nat) : List Nod := S0 n ++ (S1 (n + (S0 n).length) ++ (S2 (n + (S0 n).length + (S1 (n + (S0 n).length)).length) ++ [⟨t.kind, (((n + (S0 n).length) : Nat) : Int) - 1, (((n + (S0 n).length + (S1 (n + (S0 n).length)).length) : Nat) : Int) - 1, (((n + (S0 n).length + (S1 (n + (S0 n).length)).length + (S2 (n + (S0 n).length + (S1 (n + (S0 n).length)).length)).length) : Nat) : Int) - 1, t.n, t.name, t.other⟩]))

theorem seg3_at (t : Nod) (S0 : Nat → List Nod) (S1 : Nat → List Nod) (S2 : Nat → List Nod) (out : List Nod) : out ++ seg3 t S0 S1 S2 out.length = (((out ++ S0 out.length) ++ S1 (out ++ S0 out.length).length) ++ S2 ((out ++ S0 out.length) ++ S1 (out ++ S0 out.length).length).length) ++ [⟨t.kind, (((out ++ S0 out.length).length : Int) - 1), ((((out ++ S0 out.length) ++ S1 (out ++ S0 out.length).length).length : Int) - 1), (((((out ++ S0 out.length) ++ S1 (out ++ S0 out.length).length) ++ S2 ((out ++ S0 out.length) ++ S1 (out ++ S0 out.length).length).length).length : Int) - 1), t.n, t.name, t.other⟩] := by
  simp only [seg3, List.length_append, List.append_assoc, Nat.add_assoc]

set_option maxHeartbeats 4000000 in
set_option maxRecDepth 20000 in
theorem lay_three (t : Nod) (s : Int) (hs : t.name.size ≤ 281474976710656) (ho : t.other.size ≤ 281474976710656) {T0 T1 T2 : TypeId} {u0 u1 u2 : Value} {S0 S1 S2 : Nat → List Nod} (h0 : LayV (.iface T0 u0) S0) (h1 : LayV (.iface T1 u1) S1) (h2 : LayV (.iface T2 u2) S2) :
    LayC 160 (.agg (spotL t s ++ [Value.iface T0 u0, Value.iface T1 u1, Value.iface T2 u2]).toArray) (seg3 t S0 S1 S2) := by
  intro out v B w hown hB hlen
  have HB : Hid (B ≤ w.heap.size) := hB
  have HCP : Hid (∀ w : World, Calls Tryd.prog 156 #[.agg (nodCells t).toArray] w fun e w' => e = .returned (.agg (nodCells t).toArray) ∧ Below w.heap.size w w') := impl_copy t hs ho
  have HL0 : Hid (LayV (.iface T0 u0) S0) := h0
  have HL1 : Hid (LayV (.iface T1 u1) S1) := h1
  have HL2 : Hid (LayV (.iface T2 u2) S2) := h2
  obtain ⟨x0, x1, x2, x3, x4, x5, x6⟩ := t
  have HO0 : Hid (ownNod w B v out) := hown
  have HVB : Hid (∀ k, v.ownBlock = some k → k < w.heap.size) := fun k hk => (hown.lt k hk).2
  obtain ⟨G, hG⟩ : ∃ G, out ++ seg3 ⟨x0, x1, x2, x3, x4, x5, x6⟩ S0 S1 S2 out.length = G := ⟨_, rfl⟩
  have HG : Hid (G = (((out ++ S0 out.length) ++ S1 (out ++ S0 out.length).length) ++ S2 ((out ++ S0 out.length) ++ S1 (out ++ S0 out.length).length).length) ++ [⟨x0, (((out ++ S0 out.length).length : Int) - 1), ((((out ++ S0 out.length) ++ S1 (out ++ S0 out.length).length).length : Int) - 1), (((((out ++ S0 out.length) ++ S1 (out ++ S0 out.length).length) ++ S2 ((out ++ S0 out.length) ++ S1 (out ++ S0 out.length).length).length).length : Int) - 1), x4, x5, x6⟩]) := by
    show G = _
    rw [← hG]
    exact seg3_at ⟨x0, x1, x2, x3, x4, x5, x6⟩ S0 S1 S2 out
  have HLN : Hid (G.length ≤ 1000) := by
    show G.length ≤ 1000
    rw [← hG, List.length_append]; exact hlen
  have HL0n : Hid (out.length + (S0 out.length).length ≤ 1000) := by
    have h := HLN.out
    rw [HG.out] at h
    simp only [List.length_append, List.length_cons, List.length_nil] at h
    show out.length + (S0 out.length).length ≤ 1000
    skip
    omega
  have HL1n : Hid ((out ++ S0 out.length).length + (S1 (out ++ S0 out.length).length).length ≤ 1000) := by
    have h := HLN.out
    rw [HG.out] at h
    simp only [List.length_append, List.length_cons, List.length_nil] at h
    show (out ++ S0 out.length).length + (S1 (out ++ S0 out.length).length).length ≤ 1000
    simp only [List.length_append]
    omega
  have HL2n : Hid (((out ++ S0 out.length) ++ S1 (out ++ S0 out.length).length).length + (S2 ((out ++ S0 out.length) ++ S1 (out ++ S0 out.length).length).length).length ≤ 1000) := by
    have h := HLN.out
    rw [HG.out] at h
    simp only [List.length_append, List.length_cons, List.length_nil] at h
    show ((out ++ S0 out.length) ++ S1 (out ++ S0 out.length).length).length + (S2 ((out ++ S0 out.length) ++ S1 (out ++ S0 out.length).length).length).length ≤ 1000
    simp only [List.length_append]
    omega
  have HLo : Hid ((((out ++ S0 out.length) ++ S1 (out ++ S0 out.length).length) ++ S2 ((out ++ S0 out.length) ++ S1 (out ++ S0 out.length).length).length).length + 1 ≤ 1000) := by
    have h := HLN.out
    rw [HG.out, List.length_append] at h
    show (((out ++ S0 out.length) ++ S1 (out ++ S0 out.length).length) ++ S2 ((out ++ S0 out.length) ++ S1 (out ++ S0 out.length).length).length).length + 1 ≤ 1000
    exact h
  clear hown hlen hB hs ho h0 h1 h2
  show Calls Tryd.prog 160 #[.agg #[.int .i64 x0, .int .i64 x1, .int .i64 x2, .int .i64 x3, .int .i64 x4, .string x5, .string x6, .int .i64 s, Value.iface T0 u0, Value.iface T1 u1, Value.iface T2 u2], v] w fun e w' => LayEnd B w v (out ++ seg3 ⟨x0, x1, x2, x3, x4, x5, x6⟩ S0 S1 S2 out.length) e w'
  rw [hG]
  clear hG
  have HCN : Hid (∀ w : World, Calls Tryd.prog 156 #[.agg #[.int .i64 x0, .int .i64 x1, .int .i64 x2, .int .i64 x3, .int .i64 x4, .string x5, .string x6]] w fun e w' => e = .returned (.agg #[.int .i64 x0, .int .i64 x1, .int .i64 x2, .int .i64 x3, .int .i64 x4, .string x5, .string x6]) ∧ Below w.heap.size w w') := HCP.out
  clear HCP
  obtain ⟨W0, hW0⟩ : ∃ W0, w.alloc (.cells #[.int .i64 x0, .int .i64 x1, .int .i64 x2, .int .i64 x3, .int .i64 x4, .string x5, .string x6, .int .i64 s, Value.iface T0 u0, Value.iface T1 u1, Value.iface T2 u2] 146) = W0 := ⟨_, rfl⟩
  have HW0 : Hid (w.alloc (.cells #[.int .i64 x0, .int .i64 x1, .int .i64 x2, .int .i64 x3, .int .i64 x4, .string x5, .string x6, .int .i64 s, Value.iface T0 u0, Value.iface T1 u1, Value.iface T2 u2] 146) = W0) := hW0
  have R0 : Hid (W0.heap[w.heap.size]? = some (.cells #[.int .i64 x0, .int .i64 x1, .int .i64 x2, .int .i64 x3, .int .i64 x4, .string x5, .string x6, .int .i64 s, Value.iface T0 u0, Value.iface T1 u1, Value.iface T2 u2] 146 (0, 0))) := by rw [← hW0]; exact (MapKept.heap_alloc w _).1
  have SZ0 : Hid (W0.heap.size = w.heap.size + 1) := by
    show W0.heap.size = w.heap.size + 1
    rw [← hW0]; simp
  have B0 : Hid (Below w.heap.size w W0) := by rw [← hW0]; exact (Below.refl _ w).alloc (Nat.le_refl _) _
  clear hW0
  go_enter Tryd.func160, Tryd.ntmps160
  go_wp2_with fail
  rw [HW0.out]
  refine (HCN.out W0).mono ?_
  rintro e w1 ⟨rfl, hb1⟩
  have hs1 := hb1.size
  rw [SZ0.out] at hs1
  have R1 : Hid (w1.heap[w.heap.size]? = some (.cells #[.int .i64 x0, .int .i64 x1, .int .i64 x2, .int .i64 x3, .int .i64 x4, .string x5, .string x6, .int .i64 s, Value.iface T0 u0, Value.iface T1 u1, Value.iface T2 u2] 146 (0, 0))) := (hb1.block w.heap.size (by rw [SZ0.out]; omega)).trans R0.out
  have B1 : Hid (Below w.heap.size w w1) := B0.out.trans (hb1.mono (by rw [SZ0.out]; omega))
  clear hb1 HW0 R0 B0 HCN SZ0
  have L0 : Hid (LSt w v B w.heap.size w1.heap.size #[.int .i64 x0, .int .i64 x1, .int .i64 x2, .int .i64 x3, .int .i64 x4, .string x5, .string x6, .int .i64 s, Value.iface T0 u0, Value.iface T1 u1, Value.iface T2 u2] 146 ⟨x0, x1, x2, x3, x4, x5, x6⟩ out v (w1.alloc (.cells #[.int .i64 x0, .int .i64 x1, .int .i64 x2, .int .i64 x3, .int .i64 x4, .string x5, .string x6] 49))) := by
    have hb := B1.out.alloc (show w.heap.size ≤ w1.heap.size by omega) (.cells #[.int .i64 x0, .int .i64 x1, .int .i64 x2, .int .i64 x3, .int .i64 x4, .string x5, .string x6] 49)
    refine ⟨Grew.of_below hb, ownNod_kept HO0.out hb (Nat.le_refl _), ?_, (MapKept.heap_alloc w1 _).1, fun k hk => ?_, by omega, Nat.le_refl _, by omega⟩
    · exact (((Below.refl w1.heap.size w1).alloc (Nat.le_refl _) _).block w.heap.size (by omega)).trans R1.out
    · have := HVB.out k hk; exact ⟨by omega, by omega⟩
  have p8 : w1.cell? ⟨w.heap.size, 8, none⟩ = some (Value.iface T0 u0) := row_cell R1.out 8 rfl
  have hsz1 : w.heap.size < w1.heap.size := by omega
  clear R1 B1 HO0
  go_wp2_with fail
  refine (impl_layKid (Value.iface T0 u0) S0 HL0.out out v B _ L0.out.own (by have := HB.out; have := L0.out.grew.1.size; omega) HL0n.out).mono ?_
  rintro e w2 ⟨y0, rfl, hown0, hgr0⟩
  have L1a' := L0.out.kid hown0 hgr0
  have HN0 : Hid (∃ n0 : Int, ((out ++ S0 out.length).length : Int) - 1 = n0) := ⟨_, rfl⟩
  obtain ⟨n0, hn0⟩ := HN0.out
  have HE0 : Hid (((out ++ S0 out.length).length : Int) - 1 = n0) := hn0
  rw [hn0]
  have L1a : Hid (LSt w v B w.heap.size w1.heap.size #[.int .i64 x0, .int .i64 x1, .int .i64 x2, .int .i64 x3, .int .i64 x4, .string x5, .string x6, .int .i64 s, Value.iface T0 u0, Value.iface T1 u1, Value.iface T2 u2] 146 ⟨x0, x1, x2, x3, x4, x5, x6⟩ (out ++ S0 out.length) y0 w2) := L1a'
  have L1 : Hid (LSt w v B w.heap.size w1.heap.size #[.int .i64 x0, .int .i64 x1, .int .i64 x2, .int .i64 x3, .int .i64 x4, .string x5, .string x6, .int .i64 s, Value.iface T0 u0, Value.iface T1 u1, Value.iface T2 u2] 146 ⟨x0, n0, x2, x3, x4, x5, x6⟩ (out ++ S0 out.length) y0 (w2.setCell ⟨w1.heap.size, 1, none⟩ (.int .i64 n0))) := L1a'.set 1 (.int .i64 n0) rfl
  clear hown0 hgr0 hn0 HN0 L1a' L0 p8
  obtain ⟨q10, q11, q12, q13, q14, q15, q16⟩ := cells7_of L1a.out.nd
  have f1 : ∀ o, w2.frozen? ⟨w1.heap.size, o, none⟩ = false := fun o => frozen_of_row w2 _ _ _ _ L1a.out.nd
  have p9 : w2.cell? ⟨w.heap.size, 9, none⟩ = some (Value.iface T1 u1) := row_cell L1a.out.row 9 rfl
  go_wp2_with fail
  refine (impl_layKid (Value.iface T1 u1) S1 HL1.out (out ++ S0 out.length) y0 B _ L1.out.own (by have := HB.out; have := L1.out.grew.1.size; omega) HL1n.out).mono ?_
  rintro e w3 ⟨y1, rfl, hown1, hgr1⟩
  have L2a' := L1.out.kid hown1 hgr1
  have HN1 : Hid (∃ n1 : Int, (((out ++ S0 out.length) ++ S1 (out ++ S0 out.length).length).length : Int) - 1 = n1) := ⟨_, rfl⟩
  obtain ⟨n1, hn1⟩ := HN1.out
  have HE1 : Hid ((((out ++ S0 out.length) ++ S1 (out ++ S0 out.length).length).length : Int) - 1 = n1) := hn1
  rw [hn1]
  have L2a : Hid (LSt w v B w.heap.size w1.heap.size #[.int .i64 x0, .int .i64 x1, .int .i64 x2, .int .i64 x3, .int .i64 x4, .string x5, .string x6, .int .i64 s, Value.iface T0 u0, Value.iface T1 u1, Value.iface T2 u2] 146 ⟨x0, n0, x2, x3, x4, x5, x6⟩ ((out ++ S0 out.length) ++ S1 (out ++ S0 out.length).length) y1 w3) := L2a'
  have L2 : Hid (LSt w v B w.heap.size w1.heap.size #[.int .i64 x0, .int .i64 x1, .int .i64 x2, .int .i64 x3, .int .i64 x4, .string x5, .string x6, .int .i64 s, Value.iface T0 u0, Value.iface T1 u1, Value.iface T2 u2] 146 ⟨x0, n0, n1, x3, x4, x5, x6⟩ ((out ++ S0 out.length) ++ S1 (out ++ S0 out.length).length) y1 (w3.setCell ⟨w1.heap.size, 2, none⟩ (.int .i64 n1))) := L2a'.set 2 (.int .i64 n1) rfl
  clear hown1 hgr1 hn1 HN1 L2a' L1 p9 q10 q11 q12 q13 q14 q15 q16 f1 L1a
  obtain ⟨q20, q21, q22, q23, q24, q25, q26⟩ := cells7_of L2a.out.nd
  have f2 : ∀ o, w3.frozen? ⟨w1.heap.size, o, none⟩ = false := fun o => frozen_of_row w3 _ _ _ _ L2a.out.nd
  have p10 : w3.cell? ⟨w.heap.size, 10, none⟩ = some (Value.iface T2 u2) := row_cell L2a.out.row 10 rfl
  go_wp2_with fail
  refine (impl_layKid (Value.iface T2 u2) S2 HL2.out ((out ++ S0 out.length) ++ S1 (out ++ S0 out.length).length) y1 B _ L2.out.own (by have := HB.out; have := L2.out.grew.1.size; omega) HL2n.out).mono ?_
  rintro e w4 ⟨y2, rfl, hown2, hgr2⟩
  have L3a' := L2.out.kid hown2 hgr2
  have HN2 : Hid (∃ n2 : Int, ((((out ++ S0 out.length) ++ S1 (out ++ S0 out.length).length) ++ S2 ((out ++ S0 out.length) ++ S1 (out ++ S0 out.length).length).length).length : Int) - 1 = n2) := ⟨_, rfl⟩
  obtain ⟨n2, hn2⟩ := HN2.out
  have HE2 : Hid (((((out ++ S0 out.length) ++ S1 (out ++ S0 out.length).length) ++ S2 ((out ++ S0 out.length) ++ S1 (out ++ S0 out.length).length).length).length : Int) - 1 = n2) := hn2
  rw [hn2]
  have L3a : Hid (LSt w v B w.heap.size w1.heap.size #[.int .i64 x0, .int .i64 x1, .int .i64 x2, .int .i64 x3, .int .i64 x4, .string x5, .string x6, .int .i64 s, Value.iface T0 u0, Value.iface T1 u1, Value.iface T2 u2] 146 ⟨x0, n0, n1, x3, x4, x5, x6⟩ (((out ++ S0 out.length) ++ S1 (out ++ S0 out.length).length) ++ S2 ((out ++ S0 out.length) ++ S1 (out ++ S0 out.length).length).length) y2 w4) := L3a'
  have L3 : Hid (LSt w v B w.heap.size w1.heap.size #[.int .i64 x0, .int .i64 x1, .int .i64 x2, .int .i64 x3, .int .i64 x4, .string x5, .string x6, .int .i64 s, Value.iface T0 u0, Value.iface T1 u1, Value.iface T2 u2] 146 ⟨x0, n0, n1, n2, x4, x5, x6⟩ (((out ++ S0 out.length) ++ S1 (out ++ S0 out.length).length) ++ S2 ((out ++ S0 out.length) ++ S1 (out ++ S0 out.length).length).length) y2 (w4.setCell ⟨w1.heap.size, 3, none⟩ (.int .i64 n2))) := L3a'.set 3 (.int .i64 n2) rfl
  clear hown2 hgr2 hn2 HN2 L3a' L2 p10 q20 q21 q22 q23 q24 q25 q26 f2 L2a
  obtain ⟨q30, q31, q32, q33, q34, q35, q36⟩ := cells7_of L3a.out.nd
  have f3 : ∀ o, w4.frozen? ⟨w1.heap.size, o, none⟩ = false := fun o => frozen_of_row w4 _ _ _ _ L3a.out.nd
  obtain ⟨i0, hi, hz0, hz1, hz2⟩ := info_parts info_nod
  have hszk : (w4.setCell ⟨w1.heap.size, 3, none⟩ (.int .i64 n2)).heap.size = w4.heap.size := by simp
  go_wp2_with (at_builtin; refine wpList_append_at _ rfl _ _ 24 rfl B 49 i0 _ 7 72 Tryd.underlying24 hi hz0 hz1 hz2 rfl (by decide) _ _ _ rfl (L3.out.own.alloc _) ⟨w4.heap.size, 0, none⟩ 1 1 (nodCells ⟨x0, n0, n1, n2, x4, x5, x6⟩) rfl rfl ?a0 ?b0 ?z0 ?c0 ?d0 ?e0 ?_)
  case a0 => exact nod_new (by simp) _ _ _ _ _ _ _ _
  case b0 => exact nod_one _
  case z0 => omega
  case c0 => have := HLo.out; unfold maxLen; omega
  case d0 => have := HLo.out; omega
  case e0 => have := HB.out; have := L3.out.grew.1.size; simp at this ⊢; omega
  intro v' W3 hown' hgrow
  have HE : Hid (LayEnd B w v G (.returned v') W3) := by
    show LayEnd B w v G (.returned v') W3
    rw [HG.out, HE0.out, HE1.out, HE2.out]
    exact L3.out.last hown' (by first | rfl | (simp only [List.length_append]; done) | simp only [List.length_append, Nat.add_assoc]) (by first | rfl | (simp only [List.flatMap_append, List.append_assoc]; done) | simp only [List.flatMap_append, List.append_assoc, List.length_append]) hgrow
  clear hown' hgrow L3 L3a
  go_wp2
  go_ret
  exact HE.out

end Go.Proofs.YtlfgnppacjdjkaaDoor
