/-
  For every table of types: FnExactTableOk answers true, and its argument reads as before: TableOk answers as the specification does and writes into no argument. No condition.
-/
import Derived.Test.YtbhfpfoekalphaaHd
import Derived.Test.YtbhfpfoekalphaaYo
import Derived.Test.YtbhfpfoekalphaaHz
import Derived.Test.YtbhfpfoekalphaaYe
import Derived.ChangeOld
namespace Go.Proofs.Ytbhfpfoekalphaa.fnExactTableOk
open Go.ChangeShapes Go.WideShapes Go.ChangeAt Go.RowKit
set_option linter.unusedVariables false

theorem own : ownKnob Try.prog.godebug = none := by kernel_rfl
theorem laidOut : laidOutB Try.prog = true := by kernel_rfl

/-- What is asked of TableOk as it landed. -/
def Asked : Prop := ∀ (a : Option Addr) (g cap : Nat) (ts : List Typ), (0 < ts.length → a = some ⟨g, 0, none⟩) → ts.length ≤ 1048576 →
  ∀ (w : World), TypAt w g ts →
    Calls Try.prog 8 #[.slice a ts.length cap] w fun e w' => e = .returned (.bool (tabB ts)) ∧ Below w.heap.size w w'

set_option maxRecDepth 20000 in
theorem walk (impl_nodes : Asked) (a : Option Addr) (b o cap : Nat) (ts : List Typ) (hne : 0 < ts.length → a = some ⟨b, o, none⟩) (hm : ts.length ≤ maxLen)
    (w : World) (hA : ATyps w b o ts) :
    Calls Try.prog 3 #[.slice a ts.length cap] w fun e w' => e = .returned (.bool true) ∧ Below w.heap.size w w' := by
  have HA : Hid (ATyps w b o ts) := hA
  have HI : Hid Asked := impl_nodes
  clear hA impl_nodes
  go_enter Try.func3, Try.ntmps3
  go_wp2_with fail
  refine (typ_sz_row a cap ts.length 1048576 (by omega) (by omega) hm w).mono ?_
  rintro e w1 ⟨⟨r, rfl, hr⟩, b1⟩
  have s1 := b1.size
  by_cases hneg : r < 0
  · clear hr
    go_wp2
    go_ret
    exact ⟨rfl, b1⟩
  · have hz := hr (by omega)
    have HZ : Hid (ts.length ≤ 1048576) := by show ts.length ≤ 1048576; omega
    clear hr hz hm
    have A1 : Hid (ATyps w1 b o ts) := HA.out.below b1 (fun h => HA.out.lt h)
    go_wp2_with fail
    refine (typ_to_row a b o cap ts hne HZ.out w1 A1.out).mono ?_
    rintro e w2 ⟨rfl, hg2, b2⟩
    have G2 : Hid (TypAt w2 w1.heap.size ts) := typ_of_room hg2
    have s2 := b2.size
    have B2 : Hid (Below w.heap.size w w2) := b1.trans (b2.mono s1)
    clear hg2
    go_wp2_with fail
    refine (spec_table _ w1.heap.size ts.length ts (fun _ => rfl) HZ.out w2 G2.out).mono ?_
    rintro e w3 ⟨rfl, b3⟩
    have s3 := b3.size
    have B3 : Hid (Below w.heap.size w w3) := B2.out.trans (b3.mono (by omega))
    have A3 : Hid (ATyps w3 b o ts) := HA.out.below B3.out (fun h => HA.out.lt h)
    go_wp2_with fail
    refine (typ_to_row a b o cap ts hne HZ.out w3 A3.out).mono ?_
    rintro e w4 ⟨rfl, hg4, b4⟩
    have s4 := b4.size
    have G4 : Hid (TypAt w4 w3.heap.size ts) := typ_of_room hg4
    have L4 : w3.heap.size < w4.heap.size := (Array.getElem?_eq_some_iff.1 hg4).1
    have B4 : Hid (Below w.heap.size w w4) := B3.out.trans (b4.mono (by omega))
    clear hg4
    go_wp2_with fail
    refine (HI.out _ w3.heap.size ts.length ts (fun _ => rfl) HZ.out w4 G4.out).mono ?_
    rintro e w5 ⟨rfl, b5⟩
    have s5 := b5.size
    have G5 : Hid (TypAt w5 w3.heap.size ts) := G4.out.below b5 (fun _ => L4)
    have B5 : Hid (Below w.heap.size w w5) := B4.out.trans (b5.mono (by omega))
    have A5 : Hid (ATyps w5 b o ts) := HA.out.below B5.out (fun h => HA.out.lt h)
    generalize tabB ts = ans
    go_wp2_with fail
    refine (typ_to_row a b o cap ts hne HZ.out w5 A5.out).mono ?_
    rintro e w6 ⟨rfl, hg6, b6⟩
    have s6 := b6.size
    have G6 : Hid (TypAt w6 w5.heap.size ts) := typ_of_room hg6
    have G7 : Hid (TypAt w6 w3.heap.size ts) := G5.out.below b6 (fun _ => by omega)
    have B6 : Hid (Below w.heap.size w w6) := B5.out.trans (b6.mono (by omega))
    clear hg6
    go_wp2_with fail
    refine (typ_eq_row _ _ w3.heap.size w5.heap.size ts.length ts.length ts HZ.out (fun _ => rfl) (fun _ => rfl) w6 G7.out G6.out).mono ?_
    rintro e w7 ⟨rfl, b7⟩
    go_wp2
    go_ret
    exact ⟨rfl, B6.out.trans (b7.mono (by omega))⟩

set_option maxRecDepth 100000 in
theorem lifted (ask : Asked) (os : Os) (started : os.Started) (H : Type) (enc : TypeId × Value → H) :
    ReturnsInHanded {} Try.checked os 3 .any (Rows.fnExactTableOkSpec.pre6 enc Try.prog Try.f3 Rows.fnExactTableOkRow.domain false) (Rows.fnExactTableOkSpec.post enc Try.prog Try.f3 false true false false) := by
  refine returnsInHanded_of_change (C := Try.checked) own started (by kernel_rfl) Try.func3
    (ChangeSpec.witness6 (enc := enc) (C := Try.checked) false ⟨#[], #[.slice none 0 0], []⟩ 8 (by kernel_rfl) (by kernel_rfl) (by kernel_rfl) (by kernel_rfl)) ?_
  intro W base args ds gs before hval0 hW hcnd _
  have hval : ∀ (j : Nat) t v, Try.f3.params[j]? = some t → args[j]? = some v → Value.okWide Try.prog W .any base t v := hval0
  have hW' := hW
  obtain ⟨p, q, hA0, hV, rfl, hfz, hnd⟩ := hW
  have hA : DataW.TrodAll enc Try.prog W 0 (fun _ => true) true Try.f3.params.toList args.toList ds p := hA0
  rw [Try.params3] at hA hval
  obtain ⟨v0, vs0, d0, ds0, p0, q0, hargs, rfl, rfl, h0, r0⟩ := trodAll_cons hA
  obtain ⟨rfl, rfl, rfl⟩ := trodAll_nil r0
  obtain rfl : args = #[v0] := by cases args; simp_all
  obtain ⟨rfl, rfl⟩ := trodVars_none hV
  obtain ⟨a0, len0, cap0, rfl⟩ := okWide_slice Try.underlying22 (hval 0 22 v0 rfl rfl)
  have k0 := h0
  have lt0 : ∀ x ∈ p0, x.block < W.heap.size := by obtain ⟨m, hm⟩ := k0; exact DataW.trod_lt m _ _ _ hm
  obtain ⟨fuel, hf⟩ := h0
  obtain ⟨ts, b, o, rfl, hne, hm, hrow⟩ := open_typs (by simpa [Value.cells] using hf)
  clear hA0 hval0
  refine (walk ask a0 b o cap0 ts hne hm W hrow).mono fun e W' ⟨he, bel⟩ => ?_
  subst he
  exact ⟨_, rfl, _, _, _, [], _, [], hW', trodAll_mk1 (shut_bool Try.underlying4 _), (trodAll_cons_mk (Below.trod laidOut (by kernel_rfl) (of_decide_eq_true (by kernel_rfl)) k0 bel lt0) trodAll_mk0), rfl, bel.frame _, fun h => by cases h⟩

theorem over (ask : Asked) : Rows.fnExactTableOkRow.holds Try.pinned (OpenSpec.ofChange Rows.fnExactTableOkSpec) :=
  OpenClaim.holds_of_wide 3 Try.f3 rfl rfl rfl rfl rfl rfl rfl ⟨rfl, rfl, rfl, rfl, rfl⟩ rfl rfl rfl rfl rfl (by kernel_rfl) Try.func3 (by kernel_rfl)
    (of_decide_eq_true (by kernel_rfl)) (by unfold Func.isWrapper; first | (rw [if_pos (by decide +kernel)]; kernel_rfl) | (rw [if_neg (by decide +kernel)]; exact ⟨rfl, rfl⟩))
    (fun os started H enc _ => lifted ask os started H enc)
end Go.Proofs.Ytbhfpfoekalphaa.fnExactTableOk
