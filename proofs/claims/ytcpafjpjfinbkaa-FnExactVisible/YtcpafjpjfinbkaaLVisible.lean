/-
  For every list of nodes and every number: FnExactVisible answers true, and its arguments read as before: Visible answers as the specification does, writes into no argument, and its answer owns its memory, behind another call too. No condition.
-/
import Derived.Test.YtcpafjpjfinbkaaSk
import Derived.Test.YtcpafjpjfinbkaaSk
import Derived.Test.YtcpafjpjfinbkaaSn
import Derived.Test.YtcpafjpjfinbkaaNo
import Derived.Test.YtcpafjpjfinbkaaNe
import Derived.Test.YtcpafjpjfinbkaaNm
import Derived.ChangeOld
namespace Go.Proofs.Ytcpafjpjfinbkaa.fnExactVisible
open Go.ChangeShapes Go.WideShapes Go.ChangeAt Go.RowKit
set_option linter.unusedVariables false

theorem own : ownKnob Try.prog.godebug = none := by kernel_rfl
theorem laidOut : laidOutB Try.prog = true := by kernel_rfl

/-- What is asked of Visible as it landed. -/
def Asked : Prop := ∀ (a : Option Addr) (g cap : Nat) (ts : List Nod) (i : Int), -9223372036854775808 ≤ i → i ≤ 9223372036854775807 → (0 < ts.length → a = some ⟨g, 0, none⟩) → ts.length ≤ 1048576 → ts.length ≤ cap → cap ≤ maxLen →
  (∀ i, i < ts.length → (ts.getD i noNod).name.size ≤ maxLen ∧ (ts.getD i noNod).other.size ≤ maxLen) → ∀ (w : World), NodAt w g ts →
    Calls Try.prog 32 #[.slice a ts.length cap, .int .i64 i] w fun e w' => ∃ v, e = .returned v ∧ ownS w' w.heap.size v (visB ts i) ∧ Below w.heap.size w w'

set_option maxHeartbeats 2000000 in
set_option maxRecDepth 20000 in
theorem walk (impl_it : Asked) (a : Option Addr) (b o cap : Nat) (ts : List Nod) (i : Int) (hi1 : -9223372036854775808 ≤ i) (hi2 : i ≤ 9223372036854775807) (hne : 0 < ts.length → a = some ⟨b, o, none⟩) (hm : ts.length ≤ maxLen)
    (hst : ∀ i, i < ts.length → (ts.getD i noNod).name.size ≤ maxLen ∧ (ts.getD i noNod).other.size ≤ maxLen) (w : World) (hA : ANods w b o ts) :
    Calls Try.prog 8 #[.slice a ts.length cap, .int .i64 i] w fun e w' => e = .returned (.bool true) ∧ Below w.heap.size w w' := by
  have HA : Hid (ANods w b o ts) := hA
  have HT : Hid (∀ i, i < ts.length → (ts.getD i noNod).name.size ≤ maxLen ∧ (ts.getD i noNod).other.size ≤ maxLen) := hst
  have HI : Hid Asked := impl_it
  have HJ : Hid (-9223372036854775808 ≤ i ∧ i ≤ 9223372036854775807) := ⟨hi1, hi2⟩
  clear hA hst impl_it hi1 hi2
  go_enter Try.func8, Try.ntmps8
  go_wp2_with fail
  refine (nod_sz_row a b o cap ts hne hm 1048576 (by omega) (by omega) HT.out w HA.out).mono ?_
  rintro e w1 ⟨⟨r, rfl, hr⟩, b1⟩
  have s1 := b1.size
  by_cases hneg : r < 0
  · clear hr
    go_wp2
    go_ret
    exact ⟨rfl, b1⟩
  · have hz := hr (by omega)
    have HZ : Hid (ts.length ≤ 1048576 ∧ ts.length ≤ maxLen) := by
      refine ⟨by omega, ?_⟩
      unfold maxLen
      omega
    have hpl : (strsB (visB ts i)).length ≤ 2000 := by rw [strsB_length]; have := visB_length ts i; omega
    clear hr hz hm
    have A1 : Hid (ANods w1 b o ts) := HA.out.below b1 (fun h => HA.out.lt h)
    go_wp2_with fail
    refine (nod_to_row a b o cap ts hne HZ.out.1 w1 A1.out).mono ?_
    rintro e w2 ⟨rfl, hg2, b2⟩
    have G2 : Hid (NodAt w2 w1.heap.size ts) := nod_of_room hg2
    have s2 := b2.size
    have B2 : Hid (Below w.heap.size w w2) := b1.trans (b2.mono s1)
    clear hg2
    go_wp2_with fail
    refine (spec_visible _ w1.heap.size ts.length ts i (fun _ => rfl) HZ.out.1 HT.out w2 G2.out).mono ?_
    rintro e w3 ⟨v3, rfl, ho3, b3⟩
    have s3 := b3.size
    have B3 : Hid (Below w.heap.size w w3) := B2.out.trans (b3.mono (by omega))
    have A3 : Hid (ANods w3 b o ts) := HA.out.below B3.out (fun h => HA.out.lt h)
    obtain ⟨a3, g3, c3, sp3, rfl, ha3, hB3, hr3⟩ := ownS_open ho3
    have hT3 := str_of_row hr3
    have hl3 : 0 < (strsB (visB ts i)).length → g3 < w3.heap.size := fun h => (Array.getElem?_eq_some_iff.1 (hr3 h)).1
    have P3 : Hid (StrAt w3 g3 (strsB (visB ts i))) := hT3
    have LA3 : Hid (0 < (strsB (visB ts i)).length → a3 = some ⟨g3, 0, none⟩) := ha3
    have LG3 : Hid (0 < (strsB (visB ts i)).length → g3 < w3.heap.size) := hl3
    clear ho3 hT3 ha3 hl3 hr3 b1 b2 b3 A1 G2 hB3
    go_wp2_with fail
    refine (nod_to_row a b o cap ts hne HZ.out.1 w3 A3.out).mono ?_
    rintro e w4 ⟨rfl, hg4, b4⟩
    have s4 := b4.size
    have R4 : Hid (w4.heap[w3.heap.size]? = some (.cells (ts.flatMap nodCells).toArray 52 (0, 0))) := hg4
    have G4 : Hid (NodAt w4 w3.heap.size ts) := nod_of_room hg4
    have L4 : w3.heap.size < w4.heap.size := (Array.getElem?_eq_some_iff.1 hg4).1
    have B4 : Hid (Below w.heap.size w w4) := B3.out.trans (b4.mono (by omega))
    have P4 : Hid (StrAt w4 g3 (strsB (visB ts i))) := P3.out.below b4 LG3.out
    clear hg4 b4 P3
    go_wp2_with fail
    refine (HI.out _ w3.heap.size ts.length ts i HJ.out.1 HJ.out.2 (fun _ => rfl) HZ.out.1 (Nat.le_refl _) HZ.out.2 HT.out w4 G4.out).mono ?_
    rintro e w5 ⟨v5, rfl, ho5, b5⟩
    have s5 := b5.size
    have R5 : Hid (w5.heap[w3.heap.size]? = some (.cells (ts.flatMap nodCells).toArray 52 (0, 0))) := (b5.block _ L4).trans R4.out
    have B5 : Hid (Below w.heap.size w w5) := B4.out.trans (b5.mono (by omega))
    have A5 : Hid (ANods w5 b o ts) := HA.out.below B5.out (fun h => HA.out.lt h)
    have P5 : Hid (StrAt w5 g3 (strsB (visB ts i))) := P4.out.below b5 (fun h => by have := LG3.out h; omega)
    obtain ⟨a5, g5, c5, sp5, rfl, ha5, hB5, hr5⟩ := ownS_open ho5
    have hT5 := str_of_row hr5
    have hl5 : 0 < (strsB (visB ts i)).length → g5 < w5.heap.size := fun h => (Array.getElem?_eq_some_iff.1 (hr5 h)).1
    have Q5 : Hid (StrAt w5 g5 (strsB (visB ts i))) := hT5
    have LA5 : Hid (0 < (strsB (visB ts i)).length → a5 = some ⟨g5, 0, none⟩) := ha5
    have LG5 : Hid (0 < (strsB (visB ts i)).length → g5 < w5.heap.size) := hl5
    have RQ5 : Hid (0 < (strsB (visB ts i)).length → w5.heap[g5]? = some (.cells (strRow (strsB (visB ts i)) sp5) 9 (0, 0))) := hr5
    have hB5' : w4.heap.size ≤ g5 := hB5
    clear ho5 hT5 ha5 hl5 hr5 b5 P4 R4 G4 hB5
    generalize hps : strsB (visB ts i) = ps at *
    have HP : Hid (strsB (visB ts i) = ps) := hps
    clear hps
    go_wp2_with fail
    refine (str_eq_row a5 a3 g5 g3 c5 c3 ps (by omega) LA5.out LA3.out w5 Q5.out P5.out).mono ?_
    rintro e w6 ⟨rfl, b6⟩
    have s6 := b6.size
    have B6 : Hid (Below w.heap.size w w6) := B5.out.trans (b6.mono (by omega))
    have A6 : Hid (ANods w6 b o ts) := HA.out.below B6.out (fun h => HA.out.lt h)
    have R6 : Hid (w6.heap[w3.heap.size]? = some (.cells (ts.flatMap nodCells).toArray 52 (0, 0))) := (b6.block _ (by omega)).trans R5.out
    have P6 : Hid (StrAt w6 g3 ps) := P5.out.below b6 (fun h => by have := LG3.out h; omega)
    have RQ6 : Hid (0 < ps.length → w6.heap[g5]? = some (.cells (strRow (ps) sp5) 9 (0, 0))) := fun h => (b6.block _ (LG5.out h)).trans (RQ5.out h)
    clear b6 P5 Q5 R5 RQ5 A5
    go_wp2_with fail
    refine (nod_to_row a b o cap ts hne HZ.out.1 w6 A6.out).mono ?_
    rintro e w7 ⟨rfl, hg7, b7⟩
    have s7 := b7.size
    have G7 : Hid (NodAt w7 w6.heap.size ts) := nod_of_room hg7
    have R7 : Hid (w7.heap[w3.heap.size]? = some (.cells (ts.flatMap nodCells).toArray 52 (0, 0))) := (b7.block _ (by omega)).trans R6.out
    have B7 : Hid (Below w.heap.size w w7) := B6.out.trans (b7.mono (by omega))
    have P7 : Hid (StrAt w7 g3 ps) := P6.out.below b7 (fun h => by have := LG3.out h; omega)
    have RQ7 : Hid (0 < ps.length → w7.heap[g5]? = some (.cells (strRow (ps) sp5) 9 (0, 0))) := fun h => (b7.block _ (by have := LG5.out h; omega)).trans (RQ6.out h)
    clear hg7 b7 P6 R6 RQ6 A6
    go_wp2_with fail
    refine (nod_eq_row _ _ w3.heap.size w6.heap.size ts.length ts.length ts HZ.out.1 (fun _ => rfl) (fun _ => rfl) w7 (nod_of_room R7.out) G7.out).mono ?_
    rintro e w8 ⟨rfl, b8⟩
    have s8 := b8.size
    have R8 : Hid (0 < ts.length → w8.heap[w3.heap.size]? = some (.cells (ts.flatMap nodCells ++ []).toArray 52 (0, 0))) := fun _ => by rw [List.append_nil]; exact (b8.block _ (by omega)).trans R7.out
    have B8 : Hid (Below w.heap.size w w8) := B7.out.trans (b8.mono (by omega))
    have P8 : Hid (StrAt w8 g3 ps) := P7.out.below b8 (fun h => by have := LG3.out h; omega)
    have RQ8 : Hid (0 < ps.length → w8.heap[g5]? = some (.cells (strRow (ps) sp5) 9 (0, 0))) := fun h => (b8.block _ (by have := LG5.out h; omega)).trans (RQ7.out h)
    clear b8 P7 R7 RQ7 G7
    go_wp2_with fail
    refine (nod_mark_row _ w3.heap.size ts.length w3.heap.size ts [] HZ.out.1 (fun _ => rfl) w8 R8.out (Nat.le_refl _) (by omega)).mono ?_
    rintro e w9 ⟨rfl, hr9, b9, t9⟩
    have s9 := t9.1
    have B9 : Hid (Below w.heap.size w w9) := B8.out.trans (b9.mono (by omega))
    have P9 : Hid (StrAt w9 g3 ps) := P8.out.below b9 LG3.out
    have RQ9 : Hid (0 < ps.length → w9.heap[g5]? = some (.cells (strRow (ps) sp5) 9 (0, 0))) := fun h => (t9.2 g5 (by have := LG5.out h; omega) (by omega)).trans (RQ8.out h)
    have hpos : ¬ ((1 + 7 * ts.length : Nat) : Int) < 0 := by omega
    clear hr9 b9 t9 P8 R8 RQ8
    go_wp2_with fail
    refine (str_eq_row a5 a3 g5 g3 c5 c3 ps (by omega) LA5.out LA3.out w9 (str_of_row RQ9.out) P9.out).mono ?_
    rintro e w10 ⟨rfl, b10⟩
    have s10 := b10.size
    have B10 : Hid (Below w.heap.size w w10) := B9.out.trans (b10.mono (by omega))
    have P10 : Hid (StrAt w10 g3 ps) := P9.out.below b10 (fun h => by have := LG3.out h; omega)
    have RQ10 : Hid (0 < ps.length → w10.heap[g5]? = some (.cells (strRow (ps) sp5) 9 (0, 0))) := fun h => (b10.block _ (by have := LG5.out h; omega)).trans (RQ9.out h)
    clear b10 P9 RQ9 hpos
    go_wp2_with fail
    refine (str_mark_row a5 g5 c5 w4.heap.size ps sp5 (by omega) LA5.out w10 RQ10.out hB5' (by omega)).mono ?_
    rintro e w11 ⟨rfl, hr11, b11⟩
    have s11 := b11.size
    have B11 : Hid (Below w.heap.size w w11) := B10.out.trans (b11.mono (by omega))
    have P11 : Hid (StrAt w11 g3 ps) := P10.out.below b11 (fun h => by have := LG3.out h; omega)
    have ml : (strMkd ps ps.length).length = ps.length := strMkd_length ps ps.length
    have M11 : Hid (StrAt w11 g5 (strMkd ps ps.length)) := str_of_row (fun h => hr11 (by rw [ml] at h; exact h))
    have HM : Hid (∀ i, i < (strMkd ps ps.length).length → (strMkd ps ps.length).getD i ByteArray.empty = markS (1 + i)) := fun i hi => strMkd_at ps ps.length i (by rw [ml] at hi; exact hi) (by rw [ml] at hi; exact hi)
    have ML : Hid ((strMkd ps ps.length).length = ps.length) := ml
    clear hr11 b11 P10 RQ10 ml
    go_wp2_with fail
    refine (str_held_row a5 g5 c5 ps.length (strMkd ps ps.length) ML.out (by omega) LA5.out w11 M11.out HM.out).mono ?_
    rintro e w12 ⟨rfl, b12⟩
    have s12 := b12.size
    have B12 : Hid (Below w.heap.size w w12) := B11.out.trans (b12.mono (by omega))
    have P12 : Hid (StrAt w12 g3 ps) := P11.out.below b12 (fun h => by have := LG3.out h; omega)
    have M12 : Hid (StrAt w12 g5 (strMkd ps ps.length)) := M11.out.below b12 (fun h => by rw [ML.out] at h; have := LG5.out h; omega)
    have A12 : Hid (ANods w12 b o ts) := HA.out.below B12.out (fun h => HA.out.lt h)
    have hpos : ¬ ((1 + ps.length : Nat) : Int) < 0 := by omega
    clear b12 P11 M11
    go_wp2_with fail
    refine (nod_to_row a b o cap ts hne HZ.out.1 w12 A12.out).mono ?_
    rintro e w13 ⟨rfl, hg13, b13⟩
    have s13 := b13.size
    have G13 : Hid (NodAt w13 w12.heap.size ts) := nod_of_room hg13
    have B13 : Hid (Below w.heap.size w w13) := B12.out.trans (b13.mono (by omega))
    have P13 : Hid (StrAt w13 g3 ps) := P12.out.below b13 (fun h => by have := LG3.out h; omega)
    have M13 : Hid (StrAt w13 g5 (strMkd ps ps.length)) := M12.out.below b13 (fun h => by rw [ML.out] at h; have := LG5.out h; omega)
    clear hg13 b13 P12 M12 A12
    go_wp2_with fail
    refine (HI.out _ w12.heap.size ts.length ts i HJ.out.1 HJ.out.2 (fun _ => rfl) HZ.out.1 (Nat.le_refl _) HZ.out.2 HT.out w13 G13.out).mono ?_
    rintro e w14 ⟨v14, rfl, ho14, b14⟩
    obtain ⟨a14, g14, c14, sp14, rfl, ha14, hB14, hr14⟩ := ownS_open ho14
    rw [HP.out] at ha14 hr14 ⊢
    have hT14 := str_of_row hr14
    have s14 := b14.size
    have Q14 : Hid (StrAt w14 g14 ps) := hT14
    have LA14 : Hid (0 < ps.length → a14 = some ⟨g14, 0, none⟩) := ha14
    have B14 : Hid (Below w.heap.size w w14) := B13.out.trans (b14.mono (by omega))
    have P14 : Hid (StrAt w14 g3 ps) := P13.out.below b14 (fun h => by have := LG3.out h; omega)
    have M14 : Hid (StrAt w14 g5 (strMkd ps ps.length)) := M13.out.below b14 (fun h => by rw [ML.out] at h; have := LG5.out h; omega)
    clear ho14 ha14 hT14 hB14 hr14 b14 P13 M13 G13
    go_wp2_with fail
    refine (str_eq_row a14 a3 g14 g3 c14 c3 ps (by omega) LA14.out LA3.out w14 Q14.out P14.out).mono ?_
    rintro e w15 ⟨rfl, b15⟩
    have s15 := b15.size
    have B15 : Hid (Below w.heap.size w w15) := B14.out.trans (b15.mono (by omega))
    have M15 : Hid (StrAt w15 g5 (strMkd ps ps.length)) := M14.out.below b15 (fun h => by rw [ML.out] at h; have := LG5.out h; omega)
    clear b15 P14 M14 Q14
    go_wp2_with fail
    refine (str_held_row a5 g5 c5 ps.length (strMkd ps ps.length) ML.out (by omega) LA5.out w15 M15.out HM.out).mono ?_
    rintro e w16 ⟨rfl, b16⟩
    go_wp2
    go_ret
    exact ⟨rfl, B15.out.trans (b16.mono (by omega))⟩

set_option maxRecDepth 100000 in
theorem lifted (ask : Asked) (os : Os) (started : os.Started) (H : Type) (enc : TypeId × Value → H) :
    ReturnsInHanded {} Try.checked os 8 .any (Rows.fnExactVisibleSpec.pre6 enc Try.prog Try.f8 Rows.fnExactVisibleRow.domain false) (Rows.fnExactVisibleSpec.post enc Try.prog Try.f8 false true false false) := by
  refine returnsInHanded_of_change (C := Try.checked) own started (by kernel_rfl) Try.func8
    (ChangeSpec.witness6 (enc := enc) (C := Try.checked) false ⟨#[], #[.slice none 0 0, .int .i64 0], []⟩ 8 (by kernel_rfl) (by kernel_rfl) (by kernel_rfl) (by kernel_rfl)) ?_
  intro W base args ds gs before hval0 hW hcnd _
  have hval : ∀ (j : Nat) t v, Try.f8.params[j]? = some t → args[j]? = some v → Value.okWide Try.prog W .any base t v := hval0
  have hW' := hW
  obtain ⟨p, q, hA0, hV, rfl, hfz, hnd⟩ := hW
  have hA : DataW.TrodAll enc Try.prog W 0 (fun _ => true) true Try.f8.params.toList args.toList ds p := hA0
  rw [Try.params8] at hA hval
  obtain ⟨v0, vs0, d0, ds0, p0, q0, hargs, rfl, rfl, h0, r0⟩ := trodAll_cons hA
  obtain ⟨v1, vs1, d1, ds1, p1, q1, rfl, rfl, rfl, h1, r1⟩ := trodAll_cons r0
  obtain ⟨rfl, rfl, rfl⟩ := trodAll_nil r1
  obtain rfl : args = #[v0, v1] := by cases args; simp_all
  obtain ⟨rfl, rfl⟩ := trodVars_none hV
  obtain ⟨a0, len0, cap0, rfl⟩ := okWide_slice Try.underlying22 (hval 0 22 v0 rfl rfl)
  have k0 := h0
  have lt0 : ∀ x ∈ p0, x.block < W.heap.size := by obtain ⟨m, hm⟩ := k0; exact DataW.trod_lt m _ _ _ hm
  obtain ⟨fuel0, hf0⟩ := h0
  obtain ⟨ts0, b0, o0, rfl, hne0, hm0, hst0, hrow0⟩ := open_nods (by simpa [Value.cells] using hf0)
  obtain ⟨a1, rfl, rfl, rfl, w1⟩ := open_int Try.underlying3 (hval 1 3 v1 rfl rfl) h1
  have r1i : -9223372036854775808 ≤ a1 ∧ a1 ≤ 9223372036854775807 := by simpa [Lit.wf, IntKind.min, IntKind.max, IntKind.signed, IntKind.bits] using w1
  clear hA0 hval0
  simp only [List.append_nil] at hW'
  refine (walk ask a0 b0 o0 cap0 ts0 a1 r1i.1 r1i.2 hne0 hm0 hst0 W hrow0).mono fun e W' ⟨he, bel⟩ => ?_
  subst he
  exact ⟨_, rfl, _, _, _, [], _, [], hW', trodAll_mk1 (shut_bool Try.underlying4 _), (trodAll_cons_mk (Below.trod laidOut (by kernel_rfl) (of_decide_eq_true (by kernel_rfl)) k0 bel lt0) (trodAll_cons_mk (shut_int Try.underlying3 w1) trodAll_mk0)), rfl, bel.frame _, fun h => by cases h⟩

theorem over (ask : Asked) : Rows.fnExactVisibleRow.holds Try.pinned (OpenSpec.ofChange Rows.fnExactVisibleSpec) :=
  OpenClaim.holds_of_wide 8 Try.f8 rfl rfl rfl rfl rfl rfl rfl ⟨rfl, rfl, rfl, rfl, rfl⟩ rfl rfl rfl rfl rfl (by kernel_rfl) Try.func8 (by kernel_rfl)
    (of_decide_eq_true (by kernel_rfl)) (by unfold Func.isWrapper; first | (rw [if_pos (by decide +kernel)]; kernel_rfl) | (rw [if_neg (by decide +kernel)]; exact ⟨rfl, rfl⟩))
    (fun os started H enc _ => lifted ask os started H enc)
end Go.Proofs.Ytcpafjpjfinbkaa.fnExactVisible
