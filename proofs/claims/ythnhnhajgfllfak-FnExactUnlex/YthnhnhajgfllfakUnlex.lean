/-
  For every slice of tokens: FnExactUnlex answers true, and its argument reads as before: Unlex answers as the specification does and writes into no argument. No condition.
-/
import Derived.Test.YthnhnhajgfllfakUo
import Derived.Test.YthnhnhajgfllfakUi
import Derived.Test.YthnhnhajgfllfakUs
import Derived.Test.YthnhnhajgfllfakEq
import Derived.ChangeOld
namespace Go.Proofs.Ythnhnhajgfllfak.fnExactUnlex
open Go.ChangeShapes Go.WideShapes Go.ChangeAt Go.RowKit
set_option linter.unusedVariables false

theorem own : ownKnob Try.prog.godebug = none := by kernel_rfl
theorem laidOut : laidOutB Try.prog = true := by kernel_rfl

set_option maxRecDepth 20000 in
theorem walk (a : Option Addr) (b o cap : Nat) (ts : List Tok) (hne : 0 < ts.length → a = some ⟨b, o, none⟩) (hm : ts.length ≤ maxLen) (hst : ∀ i, i < ts.length → (textOf ts i).size ≤ maxLen) (w : World) (hA : ARow w b o ts) :
    Calls Try.prog 3 #[.slice a ts.length cap] w fun e w' => e = .returned (.bool true) ∧ Below w.heap.size w w' := by
  have HA : Hid (ARow w b o ts) := hA
  have HT : Hid (∀ i, i < ts.length → (textOf ts i).size ≤ maxLen) := hst
  clear hA hst
  go_enter Try.func3, Try.ntmps3
  go_wp2_with fail
  refine (sz_row a b o cap ts hne hm HT.out w HA.out).mono ?_
  rintro e w1 ⟨⟨r, rfl, hr⟩, b1⟩
  have s1 := b1.size
  by_cases hneg : r < 0
  · clear hr
    go_wp2
    go_ret
    exact ⟨rfl, b1⟩
  · have hz := hr (by omega)
    have HZ : Hid (ts.length + lens ts ts.length ≤ 1048576) := hz
    clear hr hz hm
    have A1 : Hid (ARow w1 b o ts) := HA.out.below b1 (fun h => HA.out.lt h)
    go_wp2_with fail
    refine (to_row a b o cap ts hne (by have := HZ.out; omega) w1 A1.out).mono ?_
    rintro e w2 ⟨rfl, hg2, b2⟩
    have G2 : Hid (TokAt w2 w1.heap.size ts) := tokAt_room hg2
    have s2 := b2.size
    have B2 : Hid (Below w.heap.size w w2) := b1.trans (b2.mono s1)
    clear hg2
    go_wp2_with fail
    refine (spec_unlex _ w1.heap.size ts.length ts (fun _ => rfl) (by have := HZ.out; omega) (by have := HZ.out; omega) w2 G2.out).mono ?_
    rintro e w3 ⟨rfl, rfl⟩
    have A2 : Hid (ARow w3 b o ts) := HA.out.below B2.out (fun h => HA.out.lt h)
    go_wp2_with fail
    refine (to_row a b o cap ts hne (by have := HZ.out; omega) w3 A2.out).mono ?_
    rintro e w4 ⟨rfl, hg4, b4⟩
    have s4 := b4.size
    have G4 : Hid (TokAt w4 w3.heap.size ts) := tokAt_room hg4
    have L4 : w3.heap.size < w4.heap.size := (Array.getElem?_eq_some_iff.1 hg4).1
    have B4 : Hid (Below w.heap.size w w4) := B2.out.trans (b4.mono (by omega))
    clear hg4
    go_wp2_with fail
    refine (impl_unlex _ w3.heap.size ts.length ts (fun _ => rfl) (by have := HZ.out; omega) (by have := HZ.out; omega) w4 G4.out).mono ?_
    rintro e w5 ⟨rfl, b5⟩
    have s5 := b5.size
    have G5 : Hid (TokAt w5 w3.heap.size ts) := G4.out.below b5 L4
    have B5 : Hid (Below w.heap.size w w5) := B4.out.trans (b5.mono (by omega))
    have A5 : Hid (ARow w5 b o ts) := HA.out.below B5.out (fun h => HA.out.lt h)
    go_wp2_with fail
    refine (to_row a b o cap ts hne (by have := HZ.out; omega) w5 A5.out).mono ?_
    rintro e w6 ⟨rfl, hg6, b6⟩
    have s6 := b6.size
    have G6 : Hid (TokAt w6 w5.heap.size ts) := tokAt_room hg6
    have G7 : Hid (TokAt w6 w3.heap.size ts) := G5.out.below b6 (by omega)
    have B6 : Hid (Below w.heap.size w w6) := B5.out.trans (b6.mono (by omega))
    clear hg6
    go_wp2_with fail
    refine (eq_row _ _ w3.heap.size w5.heap.size ts.length ts.length ts (by have := HZ.out; omega) (fun _ => rfl) (fun _ => rfl) w6 G7.out G6.out).mono ?_
    rintro e w7 ⟨rfl, b7⟩
    go_wp2
    go_ret
    exact ⟨rfl, B6.out.trans (b7.mono (by omega))⟩

set_option maxRecDepth 100000 in
theorem lifted (os : Os) (started : os.Started) (H : Type) (enc : TypeId × Value → H) :
    ReturnsInHanded {} Try.checked os 3 .any (Rows.fnExactUnlexSpec.pre6 enc Try.prog Try.f3 Rows.fnExactUnlexRow.domain false) (Rows.fnExactUnlexSpec.post enc Try.prog Try.f3 false true false false) := by
  refine returnsInHanded_of_change (C := Try.checked) own started (by kernel_rfl) Try.func3
    (ChangeSpec.witness6 (enc := enc) (C := Try.checked) false ⟨#[], #[.slice none 0 0], []⟩ 8 (by kernel_rfl) (by kernel_rfl) (by kernel_rfl) (by kernel_rfl)) ?_
  intro W base args ds gs before hval0 hW hcnd _
  have hval : ∀ (j : Nat) t v, Try.f3.params[j]? = some t → args[j]? = some v → Value.okWide Try.prog W .any base t v := hval0
  have hW' := hW
  obtain ⟨p, q, hA0, hV, rfl, hfz, hnd⟩ := hW
  have hA : DataW.TrodAll enc Try.prog W 0 (fun _ => true) true Try.f3.params.toList args.toList ds p := hA0
  rw [Try.params3] at hA hval
  obtain ⟨v0, vs0, d0, ds0, p0, q0, hargs, rfl, rfl, h0, r0⟩ := trodAll_cons hA
  obtain ⟨rfl, rfl, rfl⟩ := trodAll_nil r0
  obtain rfl : args = #[v0] := by cases args; simp_all
  obtain ⟨rfl, rfl⟩ := trodVars_none hV
  obtain ⟨a0, len0, cap0, rfl⟩ := okWide_slice Try.underlying22 (hval 0 22 v0 rfl rfl)
  have k0 := h0
  have lt0 : ∀ x ∈ p0, x.block < W.heap.size := by obtain ⟨m, hm⟩ := k0; exact DataW.trod_lt m _ _ _ hm
  obtain ⟨fuel, hf⟩ := h0
  obtain ⟨ts, b, o, rfl, hne, hm, hst, hrow⟩ := open_toks (by simpa [Value.cells] using hf)
  clear hA0 hval0
  refine (walk a0 b o cap0 ts hne hm hst W hrow).mono fun e W' ⟨he, bel⟩ => ?_
  subst he
  exact ⟨_, rfl, _, _, _, [], _, [], hW', trodAll_mk1 (shut_bool Try.underlying4 _), (trodAll_cons_mk (Below.trod laidOut (by kernel_rfl) (of_decide_eq_true (by kernel_rfl)) k0 bel lt0) trodAll_mk0), rfl, bel.frame _, fun h => by cases h⟩

theorem over : Rows.fnExactUnlexRow.holds Try.pinned (OpenSpec.ofChange Rows.fnExactUnlexSpec) :=
  OpenClaim.holds_of_wide 3 Try.f3 rfl rfl rfl rfl rfl rfl rfl ⟨rfl, rfl, rfl, rfl, rfl⟩ rfl rfl rfl rfl rfl (by kernel_rfl) Try.func3 (by kernel_rfl)
    (of_decide_eq_true (by kernel_rfl)) (by unfold Func.isWrapper; first | (rw [if_pos (by decide +kernel)]; kernel_rfl) | (rw [if_neg (by decide +kernel)]; exact ⟨rfl, rfl⟩))
    (fun os started H enc _ => lifted os started H enc)

theorem proved : Rows.FnExactUnlexSaid :=
  over
#print axioms proved
end Go.Proofs.Ythnhnhajgfllfak.fnExactUnlex

namespace Go.Proofs.Ythnhnhajgfllfak
theorem fnExactUnlex_holds : Rows.FnExactUnlexSaid := fnExactUnlex.proved
#print axioms fnExactUnlex_holds
end Go.Proofs.Ythnhnhajgfllfak
