/-
  For every table of types and every number: FnExactShowType answers true, and its arguments read as before: ShowType answers as the specification does, and writes into no argument. Condition: the library's tables lie as their texts lay them (the card's).
-/
import Derived.Test.YtbhfpfoekalphaaDoorLaidV
import Derived.Test.YtbhfpfoekalphaaDoorHz
import Derived.Test.YtbhfpfoekalphaaDoorYo
import Derived.Test.YtbhfpfoekalphaaDoorYe
import Derived.ProofKit
import Derived.OpenShut
import Derived.ShutString
import Derived.ChangeOld
import Derived.Below
namespace Go.Proofs.YtbhfpfoekalphaaDoor.fnExactShowType
open Go.ChangeShapes Go.WideShapes Go.ChangeAt Go.RowKit
set_option linter.unusedVariables false

theorem pow_rd {W : World} (h : laidMet Tryd.prog Rows.fnExactShowTypeRow.laid W) : PowIs W :=
  Lib.tabIs_of_head gPow gPowType Tryd.underlying129 Tryd.underlying123 cellsU cellsP h.tail.tail

set_option maxHeartbeats 1000000 in
set_option maxRecDepth 20000 in
theorem walk (a : Option Addr) (b o cap : Nat) (ts : List Typ) (i : Int) (hi1 : -9223372036854775808 ≤ i) (hi2 : i ≤ 9223372036854775807) (hne : 0 < ts.length → a = some ⟨b, o, none⟩) (hm : ts.length ≤ maxLen)
    (w : World) (hA : ATyps w b o ts) (hp : PowIs w) :
    Calls Tryd.prog 5 #[.slice a ts.length cap, .int .i64 i] w fun e w' => e = .returned (.bool true) ∧ Below w.heap.size w w' := by
  have HA : Hid (ATyps w b o ts) := hA
  have HW : Hid (PowIs w) := hp
  have HJ : Hid (-9223372036854775808 ≤ i ∧ i ≤ 9223372036854775807) := ⟨hi1, hi2⟩
  have hgp : 1 < w.heap.size := var_lt gPow hp
  clear hA hp hi1 hi2
  go_enter Tryd.func5, Tryd.ntmps5
  go_wp2_with fail
  refine (typ_sz_row a cap ts.length 1048576 (by omega) (by omega) hm w).mono ?_
  rintro e w1 ⟨⟨r, rfl, hr⟩, b1⟩
  have s1 := b1.size
  by_cases hneg : r < 0
  · clear hr
    go_wp2
    go_ret
    exact ⟨rfl, b1⟩
  · have hz := hr (by omega)
    have HZ : Hid (ts.length ≤ 1048576 ∧ ts.length ≤ maxLen) := by
      refine ⟨by omega, ?_⟩
      unfold maxLen
      omega
    clear hr hz hm
    have A1 : Hid (ATyps w1 b o ts) := HA.out.below b1 (fun h => HA.out.lt h)
    go_wp2_with fail
    refine (typ_to_row a b o cap ts hne HZ.out.1 w1 A1.out).mono ?_
    rintro e w2 ⟨rfl, hg2, b2⟩
    have G2 : Hid (TypAt w2 w1.heap.size ts) := typ_of_room hg2
    have s2 := b2.size
    have B2 : Hid (Below w.heap.size w w2) := b1.trans (b2.mono s1)
    clear hg2
    go_wp2_with fail
    refine (spec_showType _ w1.heap.size ts.length ts i (fun _ => rfl) HZ.out.1 w2 G2.out).mono ?_
    rintro e w3 ⟨rfl, b3⟩
    have s3 := b3.size
    have B3 : Hid (Below w.heap.size w w3) := B2.out.trans (b3.mono (by omega))
    have A3 : Hid (ATyps w3 b o ts) := HA.out.below B3.out (fun h => HA.out.lt h)
    clear b1 b2 b3 A1 G2 B2
    go_wp2_with fail
    refine (typ_to_row a b o cap ts hne HZ.out.1 w3 A3.out).mono ?_
    rintro e w4 ⟨rfl, hg4, b4⟩
    have s4 := b4.size
    have R4 : Hid (w4.heap[w3.heap.size]? = some (.cells (ts.flatMap typCells).toArray 35 (0, 0))) := hg4
    have G4 : Hid (TypAt w4 w3.heap.size ts) := typ_of_room hg4
    have L4 : w3.heap.size < w4.heap.size := (Array.getElem?_eq_some_iff.1 hg4).1
    have B4 : Hid (Below w.heap.size w w4) := B3.out.trans (b4.mono (by omega))
    clear hg4 b4 A3 B3
    go_wp2_with fail
    refine (impl_showType _ w3.heap.size ts.length ts i HJ.out.1 HJ.out.2 (fun _ => rfl) HZ.out.1 w4 (fun w' h' => var?_below (B4.out.trans (h'.mono (by have := B4.out.size; omega))) gPow hgp HW.out) G4.out).mono ?_
    rintro e w5 ⟨rfl, b5⟩
    have s5 := b5.size
    have R5 : Hid (w5.heap[w3.heap.size]? = some (.cells (ts.flatMap typCells).toArray 35 (0, 0))) := (b5.block _ L4).trans R4.out
    have B5 : Hid (Below w.heap.size w w5) := B4.out.trans (b5.mono (by omega))
    have A5 : Hid (ATyps w5 b o ts) := HA.out.below B5.out (fun h => HA.out.lt h)
    clear b5 R4 G4 B4
    obtain ⟨PT, hPT⟩ : ∃ PT : ByteArray, ⟨(shoB ts i).toArray⟩ = PT := ⟨_, rfl⟩
    rw [hPT]
    clear hPT
    go_wp2_with fail
    refine (typ_to_row a b o cap ts hne HZ.out.1 w5 A5.out).mono ?_
    rintro e w7 ⟨rfl, hg7, b7⟩
    have s7 := b7.size
    have G7 : Hid (TypAt w7 w5.heap.size ts) := typ_of_room hg7
    have R7 : Hid (w7.heap[w3.heap.size]? = some (.cells (ts.flatMap typCells).toArray 35 (0, 0))) := (b7.block _ (by omega)).trans R5.out
    have B7 : Hid (Below w.heap.size w w7) := B5.out.trans (b7.mono (by omega))
    clear hg7 b7 R5 A5 B5
    go_wp2_with fail
    refine (typ_eq_row _ _ w3.heap.size w5.heap.size ts.length ts.length ts HZ.out.1 (fun _ => rfl) (fun _ => rfl) w7 (typ_of_room R7.out) G7.out).mono ?_
    rintro e w8 ⟨rfl, b8⟩
    have B8 : Hid (Below w.heap.size w w8) := B7.out.trans (b8.mono (by omega))
    clear b8 R7 G7 B7
    go_wp2
    go_ret
    exact ⟨rfl, B8.out⟩

set_option maxRecDepth 100000 in
theorem contract (H : Type) (enc : TypeId × Value → H) (W : World) (base : Nat) (args : Array Value) (ds gs : List (DataW H)) (before : List MemPlace)
    (hval : ∀ (j : Nat) t v, Tryd.f5.params[j]? = some t → args[j]? = some v → Value.okWide Tryd.prog W .any base t v)
    (hW : DataW.Whole enc Tryd.prog Tryd.f5.params.toList Rows.fnExactShowTypeSpec.vars false W args.toList ds gs before) (hL : laidMet Tryd.prog Rows.fnExactShowTypeRow.laid W) :
    Calls Tryd.prog 5 args W fun e W' => ∃ v, e = .returned v ∧ Rows.fnExactShowTypeSpec.post enc Tryd.prog Tryd.f5 false true false false W args v W' := by
  have hW' := hW
  obtain ⟨p, q, hA0, hV, rfl, hfz, hnd⟩ := hW
  have hA : DataW.TrodAll enc Tryd.prog W 0 (fun _ => true) true Tryd.f5.params.toList args.toList ds p := hA0
  rw [Tryd.params5] at hA hval
  obtain ⟨v0, vs0, d0, ds0, p0, q0, hargs, rfl, rfl, h0, r0⟩ := trodAll_cons hA
  obtain ⟨v1, vs1, d1, ds1, p1, q1, rfl, rfl, rfl, h1, r1⟩ := trodAll_cons r0
  obtain ⟨rfl, rfl, rfl⟩ := trodAll_nil r1
  obtain rfl : args = #[v0, v1] := by cases args; simp_all
  obtain ⟨rfl, rfl⟩ := trodVars_none hV
  obtain ⟨a0, len0, cap0, rfl⟩ := okWide_slice Tryd.underlying36 (hval 0 36 v0 rfl rfl)
  have k0 := h0
  have lt0 : ∀ x ∈ p0, x.block < W.heap.size := by obtain ⟨m, hm⟩ := k0; exact DataW.trod_lt m _ _ _ hm
  obtain ⟨fuel0, hf0⟩ := h0
  obtain ⟨ts0, b0, o0, rfl, hne0, hm0, hrow0⟩ := open_typs (by simpa [Value.cells] using hf0)
  obtain ⟨a1, rfl, rfl, rfl, w1⟩ := open_int Tryd.underlying3 (hval 1 3 v1 rfl rfl) h1
  have r1i : -9223372036854775808 ≤ a1 ∧ a1 ≤ 9223372036854775807 := by simpa [Lit.wf, IntKind.min, IntKind.max, IntKind.signed, IntKind.bits] using w1
  clear hA0
  simp only [List.append_nil] at hW'
  refine (walk a0 b0 o0 cap0 ts0 a1 r1i.1 r1i.2 hne0 hm0 W hrow0 (pow_rd hL)).mono fun e W' ⟨he, bel⟩ => ?_
  subst he
  exact ⟨_, rfl, _, _, _, [], _, [], hW', trodAll_mk1 (shut_bool Tryd.underlying4 _), (trodAll_cons_mk (Below.trod laidOut (by kernel_rfl) (of_decide_eq_true (by kernel_rfl)) k0 bel lt0) (trodAll_cons_mk (shut_int Tryd.underlying3 w1) trodAll_mk0)), rfl, bel.frame _, fun h => by cases h⟩

theorem laid_met (os : Os) : laidMet Tryd.prog Rows.fnExactShowTypeRow.laid ((laidOf Tryd.prog os).forCall (fun _ _ => 0) ⟨#[], #[.slice none 0 0, .int .i64 0], []⟩).memory :=
  laidMet_of_run' 8 (by kernel_rfl) (by kernel_rfl)
theorem reads (os : Os) {H : Type} (enc : TypeId × Value → H) : ∃ places, DataW.whole enc Tryd.prog ((laidOf Tryd.prog os).forCall (fun _ _ => 0) ⟨#[], #[.slice none 0 0, .int .i64 0], []⟩).memory Tryd.f5.params.toList Rows.fnExactShowTypeSpec.vars false (#[.slice none 0 0, .int .i64 0] : Array Value).toList 8 = some ([.nil, .lit (.int .i64 0)], [], places) :=
  ⟨[], by kernel_rfl⟩

set_option maxRecDepth 100000 in
theorem lifted (os : Os) (started : os.Started) (H : Type) (enc : TypeId × Value → H) (F : Stop.Interp) :
    ReturnsInHanded {} Tryd.checked os 5 .any ((OpenSpec.ofChange Rows.fnExactShowTypeSpec).preRow enc Tryd.prog Tryd.f5 Rows.fnExactShowTypeRow.domain false Rows.fnExactShowTypeRow.laid) (((OpenSpec.ofChange Rows.fnExactShowTypeSpec).at F).post enc Tryd.prog Tryd.f5 false true false false) := by
  obtain ⟨places, hx⟩ := reads os enc
  refine returnsInHanded_of_row (C := Tryd.checked) (s := OpenSpec.ofChange Rows.fnExactShowTypeSpec) own started (by kernel_rfl) Tryd.func5
    (witness_row_at (enc := enc) (C := Tryd.checked) false (laidOf Tryd.prog os) #[.slice none 0 0, .int .i64 0] rfl (by kernel_rfl) (by kernel_rfl) (by kernel_rfl)
      (OpenSpec.preRow_of_cond 8 hx (by kernel_rfl) (fun k hk => by cases hk) (by kernel_rfl) (laid_met os))) ?_
  intro W base args ds gs before hval hW _ _ _ hL _ _
  exact contract H enc W base args ds gs before hval hW hL

theorem said : Rows.FnExactShowTypeSaid :=
  OpenClaim.holds_of_cond 5 Tryd.f5 rfl rfl rfl rfl rfl rfl rfl ⟨rfl, rfl, rfl, rfl, rfl⟩ rfl rfl rfl rfl rfl (by kernel_rfl) Tryd.func5 (by kernel_rfl)
    (of_decide_eq_true (by kernel_rfl)) (by unfold Func.isWrapper; first | (rw [if_pos (by decide +kernel)]; kernel_rfl) | (rw [if_neg (by decide +kernel)]; exact ⟨rfl, rfl⟩))
    (fun os started H enc _ F => by rw [OpenClaim.pre_eq_preRow]; exact lifted os started H enc F)

theorem plain (f : FuncId) (fn : Func) (hf : Tryd.pinned.checked.prog.funcNamed Rows.fnExactShowTypeRow.func = some f) (hfn : Tryd.pinned.checked.prog.funcs[f]? = some fn) :
    true = Tryd.pinned.checked.prog.looks [] ∧ ∀ (j : Nat) t, fn.params[j]? = some t → Tryd.pinned.checked.prog.wantsStandIn t = false := by
  obtain rfl : f = 5 := Option.some.inj ((show Tryd.prog.funcNamed Rows.fnExactShowTypeRow.func = some 5 by kernel_rfl).symm.trans hf) |>.symm
  obtain rfl : fn = Tryd.f5 := (Option.some.inj (Tryd.func5.symm.trans hfn)).symm
  refine ⟨by kernel_rfl, fun j t ht => ?_⟩
  rw [Tryd.params5] at ht
  have hm := Array.mem_of_getElem? ht
  simp only [List.mem_toArray, List.mem_cons, List.not_mem_nil, or_false] at hm
  rcases hm with rfl | rfl
  · exact (show Tryd.prog.wantsStandIn 36 = false by kernel_rfl)
  · exact (show Tryd.prog.wantsStandIn 3 = false by kernel_rfl)

theorem proved : Rows.FnExactShowTypeCardSaid :=
  Claim7.holds_tied_plain_at .later [] _ _ _ _ said (fun _ h => by cases h) (by kernel_rfl) (fun _ h => by cases h) fnExactShowType_row_tie rfl ⟨rfl, rfl⟩ (by kernel_rfl) rfl plain (by kernel_rfl)
#print axioms proved
end Go.Proofs.YtbhfpfoekalphaaDoor.fnExactShowType

namespace Go.Proofs.YtbhfpfoekalphaaDoor
theorem fnExactShowType_holds : Rows.FnExactShowTypeCardSaid := fnExactShowType.proved
#print axioms fnExactShowType_holds
end Go.Proofs.YtbhfpfoekalphaaDoor
