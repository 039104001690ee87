/-
  For every list of nodes and every number: FnExactIsValue answers true, and its arguments read as before: IsValue answers as the specification does and writes into no argument. No condition.
-/
import Derived.Test.YtjjanmccijghgaaVi
import Derived.Test.YtjjanmccijghgaaVs
import Derived.Test.YtjjanmccijghgaaNo
import Derived.Test.YtjjanmccijghgaaNe
import Derived.ChangeOld
namespace Go.Proofs.Ytjjanmccijghgaa.fnExactIsValue
open Go.ChangeShapes Go.WideShapes Go.ChangeAt Go.RowKit
set_option linter.unusedVariables false

theorem own : ownKnob Try.prog.godebug = none := by kernel_rfl
theorem laidOut : laidOutB Try.prog = true := by kernel_rfl

/-- What is asked of IsValue as it landed. -/
def Asked : Prop := ∀ (a : Option Addr) (g cap : Nat) (ts : List Nod) (i : Int), -9223372036854775808 ≤ i → i ≤ 9223372036854775807 → (0 < ts.length → a = some ⟨g, 0, none⟩) → ts.length ≤ 1048576 →
  (∀ i, i < ts.length → (ts.getD i noNod).name.size ≤ maxLen ∧ (ts.getD i noNod).other.size ≤ maxLen) → ∀ (w : World), NodAt w g ts →
    Calls Try.prog 7 #[.slice a ts.length cap, .int .i64 i] w fun e w' => e = .returned (.bool (valB ts i)) ∧ Below w.heap.size w w'

set_option maxRecDepth 20000 in
theorem walk (impl_nodes : Asked) (a : Option Addr) (b o cap : Nat) (ts : List Nod) (i : Int) (hi1 : -9223372036854775808 ≤ i) (hi2 : i ≤ 9223372036854775807) (hne : 0 < ts.length → a = some ⟨b, o, none⟩) (hm : ts.length ≤ maxLen)
    (hst : ∀ i, i < ts.length → (ts.getD i noNod).name.size ≤ maxLen ∧ (ts.getD i noNod).other.size ≤ maxLen) (w : World) (hA : ANods w b o ts) :
    Calls Try.prog 3 #[.slice a ts.length cap, .int .i64 i] w fun e w' => e = .returned (.bool true) ∧ Below w.heap.size w w' := by
  have HA : Hid (ANods w b o ts) := hA
  have HT : Hid (∀ i, i < ts.length → (ts.getD i noNod).name.size ≤ maxLen ∧ (ts.getD i noNod).other.size ≤ maxLen) := hst
  have HI : Hid Asked := impl_nodes
  have HJ : Hid (-9223372036854775808 ≤ i ∧ i ≤ 9223372036854775807) := ⟨hi1, hi2⟩
  clear hA hst impl_nodes hi1 hi2
  go_enter Try.func3, Try.ntmps3
  go_wp2_with fail
  refine (nod_sz_row a b o cap ts hne hm 1048576 (by omega) (by omega) HT.out w HA.out).mono ?_
  rintro e w1 ⟨⟨r, rfl, hr⟩, b1⟩
  have s1 := b1.size
  by_cases hneg : r < 0
  · clear hr
    go_wp2
    go_ret
    exact ⟨rfl, b1⟩
  · have hz := hr (by omega)
    have HZ : Hid (ts.length ≤ 1048576) := by show ts.length ≤ 1048576; omega
    clear hr hz hm
    have A1 : Hid (ANods w1 b o ts) := HA.out.below b1 (fun h => HA.out.lt h)
    go_wp2_with fail
    refine (nod_to_row a b o cap ts hne HZ.out w1 A1.out).mono ?_
    rintro e w2 ⟨rfl, hg2, b2⟩
    have G2 : Hid (NodAt w2 w1.heap.size ts) := nod_of_room hg2
    have s2 := b2.size
    have B2 : Hid (Below w.heap.size w w2) := b1.trans (b2.mono s1)
    clear hg2
    go_wp2_with fail
    refine (spec_valB _ w1.heap.size ts.length ts i (fun _ => rfl) HZ.out HT.out w2 G2.out).mono ?_
    rintro e w3 ⟨rfl, b3⟩
    have s3 := b3.size
    have B3 : Hid (Below w.heap.size w w3) := B2.out.trans (b3.mono (by omega))
    have A3 : Hid (ANods w3 b o ts) := HA.out.below B3.out (fun h => HA.out.lt h)
    go_wp2_with fail
    refine (nod_to_row a b o cap ts hne HZ.out w3 A3.out).mono ?_
    rintro e w4 ⟨rfl, hg4, b4⟩
    have s4 := b4.size
    have G4 : Hid (NodAt w4 w3.heap.size ts) := nod_of_room hg4
    have L4 : w3.heap.size < w4.heap.size := (Array.getElem?_eq_some_iff.1 hg4).1
    have B4 : Hid (Below w.heap.size w w4) := B3.out.trans (b4.mono (by omega))
    clear hg4
    go_wp2_with fail
    refine (HI.out _ w3.heap.size ts.length ts i HJ.out.1 HJ.out.2 (fun _ => rfl) HZ.out HT.out w4 G4.out).mono ?_
    rintro e w5 ⟨rfl, b5⟩
    have s5 := b5.size
    have G5 : Hid (NodAt w5 w3.heap.size ts) := G4.out.below b5 (fun _ => L4)
    have B5 : Hid (Below w.heap.size w w5) := B4.out.trans (b5.mono (by omega))
    have A5 : Hid (ANods w5 b o ts) := HA.out.below B5.out (fun h => HA.out.lt h)
    generalize valB ts i = ans
    go_wp2_with fail
    refine (nod_to_row a b o cap ts hne HZ.out w5 A5.out).mono ?_
    rintro e w6 ⟨rfl, hg6, b6⟩
    have s6 := b6.size
    have G6 : Hid (NodAt w6 w5.heap.size ts) := nod_of_room hg6
    have G7 : Hid (NodAt w6 w3.heap.size ts) := G5.out.below b6 (fun _ => by omega)
    have B6 : Hid (Below w.heap.size w w6) := B5.out.trans (b6.mono (by omega))
    clear hg6
    go_wp2_with fail
    refine (nod_eq_row _ _ w3.heap.size w5.heap.size ts.length ts.length ts HZ.out (fun _ => rfl) (fun _ => rfl) w6 G7.out G6.out).mono ?_
    rintro e w7 ⟨rfl, b7⟩
    go_wp2
    go_ret
    exact ⟨rfl, B6.out.trans (b7.mono (by omega))⟩

set_option maxRecDepth 100000 in
theorem lifted (ask : Asked) (os : Os) (started : os.Started) (H : Type) (enc : TypeId × Value → H) :
    ReturnsInHanded {} Try.checked os 3 .any (Rows.fnExactIsValueSpec.pre6 enc Try.prog Try.f3 Rows.fnExactIsValueRow.domain false) (Rows.fnExactIsValueSpec.post enc Try.prog Try.f3 false true false false) := by
  refine returnsInHanded_of_change (C := Try.checked) own started (by kernel_rfl) Try.func3
    (ChangeSpec.witness6 (enc := enc) (C := Try.checked) false ⟨#[], #[.slice none 0 0, .int .i64 0], []⟩ 8 (by kernel_rfl) (by kernel_rfl) (by kernel_rfl) (by kernel_rfl)) ?_
  intro W base args ds gs before hval0 hW hcnd _
  have hval : ∀ (j : Nat) t v, Try.f3.params[j]? = some t → args[j]? = some v → Value.okWide Try.prog W .any base t v := hval0
  have hW' := hW
  obtain ⟨p, q, hA0, hV, rfl, hfz, hnd⟩ := hW
  have hA : DataW.TrodAll enc Try.prog W 0 (fun _ => true) true Try.f3.params.toList args.toList ds p := hA0
  rw [Try.params3] at hA hval
  obtain ⟨v0, vs0, d0, ds0, p0, q0, hargs, rfl, rfl, h0, r0⟩ := trodAll_cons hA
  obtain ⟨v1, vs1, d1, ds1, p1, q1, rfl, rfl, rfl, h1, r1⟩ := trodAll_cons r0
  obtain ⟨rfl, rfl, rfl⟩ := trodAll_nil r1
  obtain rfl : args = #[v0, v1] := by cases args; simp_all
  obtain ⟨rfl, rfl⟩ := trodVars_none hV
  obtain ⟨a0, len0, cap0, rfl⟩ := okWide_slice Try.underlying22 (hval 0 22 v0 rfl rfl)
  have k0 := h0
  have lt0 : ∀ x ∈ p0, x.block < W.heap.size := by obtain ⟨m, hm⟩ := k0; exact DataW.trod_lt m _ _ _ hm
  obtain ⟨fuel0, hf0⟩ := h0
  obtain ⟨ts0, b0, o0, rfl, hne0, hm0, hst0, hrow0⟩ := open_nods (by simpa [Value.cells] using hf0)
  obtain ⟨a1, rfl, rfl, rfl, w1⟩ := open_int Try.underlying3 (hval 1 3 v1 rfl rfl) h1
  have r1i : -9223372036854775808 ≤ a1 ∧ a1 ≤ 9223372036854775807 := by simpa [Lit.wf, IntKind.min, IntKind.max, IntKind.signed, IntKind.bits] using w1
  clear hA0 hval0
  simp only [List.append_nil] at hW'
  refine (walk ask a0 b0 o0 cap0 ts0 a1 r1i.1 r1i.2 hne0 hm0 hst0 W hrow0).mono fun e W' ⟨he, bel⟩ => ?_
  subst he
  exact ⟨_, rfl, _, _, _, [], _, [], hW', trodAll_mk1 (shut_bool Try.underlying4 _), (trodAll_cons_mk (Below.trod laidOut (by kernel_rfl) (of_decide_eq_true (by kernel_rfl)) k0 bel lt0) (trodAll_cons_mk (shut_int Try.underlying3 w1) trodAll_mk0)), rfl, bel.frame _, fun h => by cases h⟩

theorem over (ask : Asked) : Rows.fnExactIsValueRow.holds Try.pinned (OpenSpec.ofChange Rows.fnExactIsValueSpec) :=
  OpenClaim.holds_of_wide 3 Try.f3 rfl rfl rfl rfl rfl rfl rfl ⟨rfl, rfl, rfl, rfl, rfl⟩ rfl rfl rfl rfl rfl (by kernel_rfl) Try.func3 (by kernel_rfl)
    (of_decide_eq_true (by kernel_rfl)) (by unfold Func.isWrapper; first | (rw [if_pos (by decide +kernel)]; kernel_rfl) | (rw [if_neg (by decide +kernel)]; exact ⟨rfl, rfl⟩))
    (fun os started H enc _ => lifted ask os started H enc)
end Go.Proofs.Ytjjanmccijghgaa.fnExactIsValue
