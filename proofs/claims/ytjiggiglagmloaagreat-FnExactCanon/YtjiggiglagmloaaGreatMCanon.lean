/-
  For every list of nodes: FnExactCanon answers true, and its argument reads as before: Canon answers as the specification does, writes into no argument, and its answer owns its memory, behind another call too. No condition.
-/
import Derived.Test.YtjiggiglagmloaaGreatKc
import Derived.Test.YtjiggiglagmloaaGreatKd
import Derived.ChangeOld
namespace Go.Proofs.YtjiggiglagmloaaGreat.fnExactCanon
open Go.ChangeShapes Go.WideShapes Go.ChangeAt Go.RowKit
set_option linter.unusedVariables false

theorem own : ownKnob Tryz.prog.godebug = none := by kernel_rfl
theorem laidOut : laidOutB Tryz.prog = true := by kernel_rfl

theorem canB_length (ts : List Nod) : (canB ts).length ≤ 150 := by
  unfold canB
  split
  · rename_i h
    obtain ⟨_, h2, _⟩ := nodesB_starts h
    rw [renL_length]
    exact h2
  · simp

theorem spec_canV (g cap : Nat) (ts : List Nod) (hl : ts.length ≤ 1048576)
    (hst : ∀ i, i < ts.length → (ts.getD i noNod).name.size ≤ maxLen ∧ (ts.getD i noNod).other.size ≤ maxLen) (w : World) (hA : NodAt w g ts) :
    Calls Tryz.prog 21 #[.slice (some ⟨g, 0, none⟩) ts.length cap] w fun e w' => ∃ v, e = .returned v ∧ ownNod w' w.heap.size v (canB ts) ∧ Below w.heap.size w w' :=
  (spec_canon g cap ts hl hst w hA).mono fun e w' ⟨G, c, he, ho, hb⟩ => ⟨_, he, ho.own, hb⟩

/-- What is asked of Canon as it landed. -/
def Asked : Prop := ∀ (g cap : Nat) (ts : List Nod), ts.length ≤ 1048576 → ts.length ≤ cap → cap ≤ maxLen →
  (∀ i, i < ts.length → (ts.getD i noNod).name.size ≤ maxLen ∧ (ts.getD i noNod).other.size ≤ maxLen) → ∀ (w : World), NodAt w g ts →
    Calls Tryz.prog 13 #[.slice (some ⟨g, 0, none⟩) ts.length cap] w fun e w' => ∃ v, e = .returned v ∧ ownNod w' w.heap.size v (canB ts) ∧ Below w.heap.size w w'

set_option maxHeartbeats 2000000 in
set_option maxRecDepth 20000 in
theorem walk (impl_canon0 : Asked) (a : Option Addr) (b o cap : Nat) (ts : List Nod) (hne : 0 < ts.length → a = some ⟨b, o, none⟩) (hm : ts.length ≤ maxLen)
    (hst : ∀ i, i < ts.length → (ts.getD i noNod).name.size ≤ maxLen ∧ (ts.getD i noNod).other.size ≤ maxLen) (w : World) (hA : ANods w b o ts) :
    Calls Tryz.prog 4 #[.slice a ts.length cap] w fun e w' => e = .returned (.bool true) ∧ Below w.heap.size w w' := by
  have HA : Hid (ANods w b o ts) := hA
  have HT : Hid (∀ i, i < ts.length → (ts.getD i noNod).name.size ≤ maxLen ∧ (ts.getD i noNod).other.size ≤ maxLen) := hst
  have HI : Hid Asked := impl_canon0
  clear hA hst impl_canon0
  go_enter Tryz.func4, Tryz.ntmps4
  go_wp2_with fail
  refine (nod_sz_row a b o cap ts hne hm 1048576 (by omega) (by omega) HT.out w HA.out).mono ?_
  rintro e w1 ⟨⟨r, rfl, hr⟩, b1⟩
  have s1 := b1.size
  by_cases hneg : r < 0
  · clear hr
    go_wp2
    go_ret
    exact ⟨rfl, b1⟩
  · have hz := hr (by omega)
    have HZ : Hid (ts.length ≤ 1048576 ∧ ts.length ≤ maxLen) := by
      refine ⟨by omega, ?_⟩
      unfold maxLen
      omega
    have hpl := canB_length ts
    clear hr hz hm
    have A1 : Hid (ANods w1 b o ts) := HA.out.below b1 (fun h => HA.out.lt h)
    go_wp2_with fail
    refine (nod_to_row a b o cap ts hne HZ.out.1 w1 A1.out).mono ?_
    rintro e w2 ⟨rfl, hg2, b2⟩
    have G2 : Hid (NodAt w2 w1.heap.size ts) := nod_of_room hg2
    have s2 := b2.size
    have B2 : Hid (Below w.heap.size w w2) := b1.trans (b2.mono s1)
    clear hg2
    go_wp2_with fail
    refine (spec_canV w1.heap.size ts.length ts HZ.out.1 HT.out w2 G2.out).mono ?_
    rintro e w3 ⟨v3, rfl, ho3, b3⟩
    have s3 := b3.size
    have B3 : Hid (Below w.heap.size w w3) := B2.out.trans (b3.mono (by omega))
    have A3 : Hid (ANods w3 b o ts) := HA.out.below B3.out (fun h => HA.out.lt h)
    obtain ⟨a3, g3, c3, sp3, rfl, ha3, hT3, hB3, hl3, hr3⟩ := ownNod_form ho3
    have P3 : Hid (NodAt w3 g3 (canB ts)) := hT3
    have LA3 : Hid (0 < (canB ts).length → a3 = some ⟨g3, 0, none⟩) := ha3
    have LG3 : Hid (0 < (canB ts).length → g3 < w3.heap.size) := hl3
    clear ho3 hT3 ha3 hl3 hr3 b1 b2 b3 A1 G2 hB3
    go_wp2_with fail
    refine (nod_to_row a b o cap ts hne HZ.out.1 w3 A3.out).mono ?_
    rintro e w4 ⟨rfl, hg4, b4⟩
    have s4 := b4.size
    have R4 : Hid (w4.heap[w3.heap.size]? = some (.cells (ts.flatMap nodCells).toArray 38 (0, 0))) := hg4
    have G4 : Hid (NodAt w4 w3.heap.size ts) := nod_of_room hg4
    have L4 : w3.heap.size < w4.heap.size := (Array.getElem?_eq_some_iff.1 hg4).1
    have B4 : Hid (Below w.heap.size w w4) := B3.out.trans (b4.mono (by omega))
    have P4 : Hid (NodAt w4 g3 (canB ts)) := P3.out.below b4 LG3.out
    clear hg4 b4 P3
    go_wp2_with fail
    refine (HI.out w3.heap.size ts.length ts HZ.out.1 (Nat.le_refl _) HZ.out.2 HT.out w4 G4.out).mono ?_
    rintro e w5 ⟨v5, rfl, ho5, b5⟩
    have s5 := b5.size
    have R5 : Hid (w5.heap[w3.heap.size]? = some (.cells (ts.flatMap nodCells).toArray 38 (0, 0))) := (b5.block _ L4).trans R4.out
    have B5 : Hid (Below w.heap.size w w5) := B4.out.trans (b5.mono (by omega))
    have A5 : Hid (ANods w5 b o ts) := HA.out.below B5.out (fun h => HA.out.lt h)
    have P5 : Hid (NodAt w5 g3 (canB ts)) := P4.out.below b5 (fun h => by have := LG3.out h; omega)
    obtain ⟨a5, g5, c5, sp5, rfl, ha5, hT5, hB5, hl5, hr5⟩ := ownNod_form ho5
    have Q5 : Hid (NodAt w5 g5 (canB ts)) := hT5
    have LA5 : Hid (0 < (canB ts).length → a5 = some ⟨g5, 0, none⟩) := ha5
    have LG5 : Hid (0 < (canB ts).length → g5 < w5.heap.size) := hl5
    have RQ5 : Hid (0 < (canB ts).length → w5.heap[g5]? = some (.cells ((canB ts).flatMap nodCells ++ sp5).toArray 38 (0, 0))) := hr5
    have hB5' : w4.heap.size ≤ g5 := hB5
    clear ho5 hT5 ha5 hl5 hr5 b5 P4 R4 G4 hB5
    generalize hps : canB ts = ps at *
    have HP : Hid (canB ts = ps) := hps
    clear hps
    go_wp2_with fail
    refine (nod_eq_row a5 a3 g5 g3 c5 c3 ps (by omega) LA5.out LA3.out w5 Q5.out P5.out).mono ?_
    rintro e w6 ⟨rfl, b6⟩
    have s6 := b6.size
    have B6 : Hid (Below w.heap.size w w6) := B5.out.trans (b6.mono (by omega))
    have A6 : Hid (ANods w6 b o ts) := HA.out.below B6.out (fun h => HA.out.lt h)
    have R6 : Hid (w6.heap[w3.heap.size]? = some (.cells (ts.flatMap nodCells).toArray 38 (0, 0))) := (b6.block _ (by omega)).trans R5.out
    have P6 : Hid (NodAt w6 g3 ps) := P5.out.below b6 (fun h => by have := LG3.out h; omega)
    have RQ6 : Hid (0 < ps.length → w6.heap[g5]? = some (.cells (ps.flatMap nodCells ++ sp5).toArray 38 (0, 0))) := fun h => (b6.block _ (LG5.out h)).trans (RQ5.out h)
    clear b6 P5 Q5 R5 RQ5 A5
    go_wp2_with fail
    refine (nod_to_row a b o cap ts hne HZ.out.1 w6 A6.out).mono ?_
    rintro e w7 ⟨rfl, hg7, b7⟩
    have s7 := b7.size
    have G7 : Hid (NodAt w7 w6.heap.size ts) := nod_of_room hg7
    have R7 : Hid (w7.heap[w3.heap.size]? = some (.cells (ts.flatMap nodCells).toArray 38 (0, 0))) := (b7.block _ (by omega)).trans R6.out
    have B7 : Hid (Below w.heap.size w w7) := B6.out.trans (b7.mono (by omega))
    have P7 : Hid (NodAt w7 g3 ps) := P6.out.below b7 (fun h => by have := LG3.out h; omega)
    have RQ7 : Hid (0 < ps.length → w7.heap[g5]? = some (.cells (ps.flatMap nodCells ++ sp5).toArray 38 (0, 0))) := fun h => (b7.block _ (by have := LG5.out h; omega)).trans (RQ6.out h)
    clear hg7 b7 P6 R6 RQ6 A6
    go_wp2_with fail
    refine (nod_eq_row _ _ w3.heap.size w6.heap.size ts.length ts.length ts HZ.out.1 (fun _ => rfl) (fun _ => rfl) w7 (nod_of_room R7.out) G7.out).mono ?_
    rintro e w8 ⟨rfl, b8⟩
    have s8 := b8.size
    have R8 : Hid (0 < ts.length → w8.heap[w3.heap.size]? = some (.cells (ts.flatMap nodCells ++ []).toArray 38 (0, 0))) := fun _ => by rw [List.append_nil]; exact (b8.block _ (by omega)).trans R7.out
    have B8 : Hid (Below w.heap.size w w8) := B7.out.trans (b8.mono (by omega))
    have P8 : Hid (NodAt w8 g3 ps) := P7.out.below b8 (fun h => by have := LG3.out h; omega)
    have RQ8 : Hid (0 < ps.length → w8.heap[g5]? = some (.cells (ps.flatMap nodCells ++ sp5).toArray 38 (0, 0))) := fun h => (b8.block _ (by have := LG5.out h; omega)).trans (RQ7.out h)
    clear b8 P7 R7 RQ7 G7
    go_wp2_with fail
    refine (nod_mark_row _ w3.heap.size ts.length w3.heap.size ts [] HZ.out.1 (fun _ => rfl) w8 R8.out (Nat.le_refl _) (by omega)).mono ?_
    rintro e w9 ⟨rfl, hr9, b9, t9⟩
    have s9 := t9.1
    have B9 : Hid (Below w.heap.size w w9) := B8.out.trans (b9.mono (by omega))
    have P9 : Hid (NodAt w9 g3 ps) := P8.out.below b9 LG3.out
    have RQ9 : Hid (0 < ps.length → w9.heap[g5]? = some (.cells (ps.flatMap nodCells ++ sp5).toArray 38 (0, 0))) := fun h => (t9.2 g5 (by have := LG5.out h; omega) (by omega)).trans (RQ8.out h)
    have hpos : ¬ ((1 + 7 * ts.length : Nat) : Int) < 0 := by omega
    clear hr9 b9 t9 P8 R8 RQ8
    go_wp2_with fail
    refine (nod_eq_row a5 a3 g5 g3 c5 c3 ps (by omega) LA5.out LA3.out w9 (fun i hi => nod_of_row (RQ9.out (by omega)) i hi) P9.out).mono ?_
    rintro e w10 ⟨rfl, b10⟩
    have s10 := b10.size
    have B10 : Hid (Below w.heap.size w w10) := B9.out.trans (b10.mono (by omega))
    have P10 : Hid (NodAt w10 g3 ps) := P9.out.below b10 (fun h => by have := LG3.out h; omega)
    have RQ10 : Hid (0 < ps.length → w10.heap[g5]? = some (.cells (ps.flatMap nodCells ++ sp5).toArray 38 (0, 0))) := fun h => (b10.block _ (by have := LG5.out h; omega)).trans (RQ9.out h)
    clear b10 P9 RQ9 hpos
    go_wp2_with fail
    refine (nod_mark_row a5 g5 c5 w4.heap.size ps sp5 (by omega) LA5.out w10 RQ10.out hB5' (by omega)).mono ?_
    rintro e w11 ⟨rfl, hr11, b11, t11⟩
    have s11 := t11.1
    have B11 : Hid (Below w.heap.size w w11) := B10.out.trans (b11.mono (by omega))
    have P11 : Hid (NodAt w11 g3 ps) := P10.out.below b11 (fun h => by have := LG3.out h; omega)
    have ml : (nodMkd ps 1 ps.length).length = ps.length := nodMkd_length ps 1 ps.length
    have M11 : Hid (NodAt w11 g5 (nodMkd ps 1 ps.length)) := fun i hi => nod_of_row (hr11 (by rw [ml] at hi; omega)) i hi
    have HM : Hid (∀ i, i < (nodMkd ps 1 ps.length).length → (nodMkd ps 1 ps.length).getD i noNod = nodMark (1 + 7 * i)) := fun i hi => nodMkd_at ps 1 ps.length i (by rw [ml] at hi; exact hi) (by rw [ml] at hi; exact hi)
    have ML : Hid ((nodMkd ps 1 ps.length).length = ps.length) := ml
    clear hr11 b11 t11 P10 RQ10 ml
    go_wp2_with fail
    refine (nod_held_row a5 g5 c5 ps.length (nodMkd ps 1 ps.length) ML.out (by omega) LA5.out w11 M11.out HM.out).mono ?_
    rintro e w12 ⟨rfl, b12⟩
    have s12 := b12.size
    have B12 : Hid (Below w.heap.size w w12) := B11.out.trans (b12.mono (by omega))
    have P12 : Hid (NodAt w12 g3 ps) := P11.out.below b12 (fun h => by have := LG3.out h; omega)
    have M12 : Hid (NodAt w12 g5 (nodMkd ps 1 ps.length)) := M11.out.below b12 (fun h => by rw [ML.out] at h; have := LG5.out h; omega)
    have A12 : Hid (ANods w12 b o ts) := HA.out.below B12.out (fun h => HA.out.lt h)
    have hpos : ¬ ((1 + 7 * ps.length : Nat) : Int) < 0 := by omega
    clear b12 P11 M11
    go_wp2_with fail
    refine (nod_to_row a b o cap ts hne HZ.out.1 w12 A12.out).mono ?_
    rintro e w13 ⟨rfl, hg13, b13⟩
    have s13 := b13.size
    have G13 : Hid (NodAt w13 w12.heap.size ts) := nod_of_room hg13
    have B13 : Hid (Below w.heap.size w w13) := B12.out.trans (b13.mono (by omega))
    have P13 : Hid (NodAt w13 g3 ps) := P12.out.below b13 (fun h => by have := LG3.out h; omega)
    have M13 : Hid (NodAt w13 g5 (nodMkd ps 1 ps.length)) := M12.out.below b13 (fun h => by rw [ML.out] at h; have := LG5.out h; omega)
    clear hg13 b13 P12 M12 A12
    go_wp2_with fail
    refine (HI.out w12.heap.size ts.length ts HZ.out.1 (Nat.le_refl _) HZ.out.2 HT.out w13 G13.out).mono ?_
    rintro e w14 ⟨v14, rfl, ho14, b14⟩
    rw [HP.out] at ho14
    obtain ⟨a14, g14, c14, sp14, rfl, ha14, hT14, hB14, hl14, hr14⟩ := ownNod_form ho14
    have s14 := b14.size
    have Q14 : Hid (NodAt w14 g14 ps) := hT14
    have LA14 : Hid (0 < ps.length → a14 = some ⟨g14, 0, none⟩) := ha14
    have B14 : Hid (Below w.heap.size w w14) := B13.out.trans (b14.mono (by omega))
    have P14 : Hid (NodAt w14 g3 ps) := P13.out.below b14 (fun h => by have := LG3.out h; omega)
    have M14 : Hid (NodAt w14 g5 (nodMkd ps 1 ps.length)) := M13.out.below b14 (fun h => by rw [ML.out] at h; have := LG5.out h; omega)
    clear ho14 ha14 hT14 hB14 hl14 hr14 b14 P13 M13 G13
    go_wp2_with fail
    refine (nod_eq_row a14 a3 g14 g3 c14 c3 ps (by omega) LA14.out LA3.out w14 Q14.out P14.out).mono ?_
    rintro e w15 ⟨rfl, b15⟩
    have s15 := b15.size
    have B15 : Hid (Below w.heap.size w w15) := B14.out.trans (b15.mono (by omega))
    have M15 : Hid (NodAt w15 g5 (nodMkd ps 1 ps.length)) := M14.out.below b15 (fun h => by rw [ML.out] at h; have := LG5.out h; omega)
    clear b15 P14 M14 Q14
    go_wp2_with fail
    refine (nod_held_row a5 g5 c5 ps.length (nodMkd ps 1 ps.length) ML.out (by omega) LA5.out w15 M15.out HM.out).mono ?_
    rintro e w16 ⟨rfl, b16⟩
    go_wp2
    go_ret
    exact ⟨rfl, B15.out.trans (b16.mono (by omega))⟩

set_option maxRecDepth 100000 in
theorem lifted (ask : Asked) (os : Os) (started : os.Started) (H : Type) (enc : TypeId × Value → H) :
    ReturnsInHanded {} Tryz.checked os 4 .any (Rows.fnExactCanonSpec.pre6 enc Tryz.prog Tryz.f4 Rows.fnExactCanonRow.domain false) (Rows.fnExactCanonSpec.post enc Tryz.prog Tryz.f4 false true false false) := by
  refine returnsInHanded_of_change (C := Tryz.checked) own started (by kernel_rfl) Tryz.func4
    (ChangeSpec.witness6 (enc := enc) (C := Tryz.checked) false ⟨#[], #[.slice none 0 0], []⟩ 8 (by kernel_rfl) (by kernel_rfl) (by kernel_rfl) (by kernel_rfl)) ?_
  intro W base args ds gs before hval0 hW hcnd _
  have hval : ∀ (j : Nat) t v, Tryz.f4.params[j]? = some t → args[j]? = some v → Value.okWide Tryz.prog W .any base t v := hval0
  have hW' := hW
  obtain ⟨p, q, hA0, hV, rfl, hfz, hnd⟩ := hW
  have hA : DataW.TrodAll enc Tryz.prog W 0 (fun _ => true) true Tryz.f4.params.toList args.toList ds p := hA0
  rw [Tryz.params4] at hA hval
  obtain ⟨v0, vs0, d0, ds0, p0, q0, hargs, rfl, rfl, h0, r0⟩ := trodAll_cons hA
  obtain ⟨rfl, rfl, rfl⟩ := trodAll_nil r0
  obtain rfl : args = #[v0] := by cases args; simp_all
  obtain ⟨rfl, rfl⟩ := trodVars_none hV
  obtain ⟨a0, len0, cap0, rfl⟩ := okWide_slice Tryz.underlying43 (hval 0 43 v0 rfl rfl)
  have k0 := h0
  have lt0 : ∀ x ∈ p0, x.block < W.heap.size := by obtain ⟨m, hm⟩ := k0; exact DataW.trod_lt m _ _ _ hm
  obtain ⟨fuel0, hf0⟩ := h0
  obtain ⟨ts0, b0, o0, rfl, hne0, hm0, hst0, hrow0⟩ := open_nods (by simpa [Value.cells] using hf0)
  clear hA0 hval0
  refine (walk ask a0 b0 o0 cap0 ts0 hne0 hm0 hst0 W hrow0).mono fun e W' ⟨he, bel⟩ => ?_
  subst he
  exact ⟨_, rfl, _, _, _, [], _, [], hW', trodAll_mk1 (shut_bool Tryz.underlying4 _), (trodAll_cons_mk (Below.trod laidOut (by kernel_rfl) (of_decide_eq_true (by kernel_rfl)) k0 bel lt0) trodAll_mk0), rfl, bel.frame _, fun h => by cases h⟩

theorem over (ask : Asked) : Rows.fnExactCanonRow.holds Tryz.pinned (OpenSpec.ofChange Rows.fnExactCanonSpec) :=
  OpenClaim.holds_of_wide 4 Tryz.f4 rfl rfl rfl rfl rfl rfl rfl ⟨rfl, rfl, rfl, rfl, rfl⟩ rfl rfl rfl rfl rfl (by kernel_rfl) Tryz.func4 (by kernel_rfl)
    (of_decide_eq_true (by kernel_rfl)) (by unfold Func.isWrapper; first | (rw [if_pos (by decide +kernel)]; kernel_rfl) | (rw [if_neg (by decide +kernel)]; exact ⟨rfl, rfl⟩))
    (fun os started H enc _ => lifted ask os started H enc)
end Go.Proofs.YtjiggiglagmloaaGreat.fnExactCanon

namespace Go.Proofs.YtjiggiglagmloaaGreat.fnExactCanon
open Go.ChangeShapes Go.WideShapes Go.ChangeAt Go.RowKit
set_option linter.unusedVariables false

theorem asked : Asked := fun g cap ts hl _ _ hst w hA => (impl_canon g cap ts hl hst w hA).mono fun e w' ⟨v, he, ho, _, hb⟩ => ⟨v, he, ho, hb⟩

theorem proved : Rows.FnExactCanonSaid :=
  over asked
#print axioms proved
end Go.Proofs.YtjiggiglagmloaaGreat.fnExactCanon

namespace Go.Proofs.YtjiggiglagmloaaGreat
theorem fnExactCanon_holds : Rows.FnExactCanonSaid := fnExactCanon.proved
#print axioms fnExactCanon_holds
end Go.Proofs.YtjiggiglagmloaaGreat
