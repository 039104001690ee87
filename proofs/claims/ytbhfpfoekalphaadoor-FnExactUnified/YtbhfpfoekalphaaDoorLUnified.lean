/-
  For every table of types and every two numbers: FnExactUnified answers true, and its arguments read as before: Unified answers as the specification does and writes into no argument. Conditions: the library's tables and the error errApart lie as their texts lay them.
-/
import Derived.Test.YtbhfpfoekalphaaDoorLaidU
import Derived.Test.YtbhfpfoekalphaaDoorHz
import Derived.Test.YtbhfpfoekalphaaDoorYo
import Derived.Test.YtbhfpfoekalphaaDoorYe
import Derived.ProofKit
import Derived.OpenShut
import Derived.ShutString
import Derived.ChangeOld
import Derived.Below
namespace Go.Proofs.YtbhfpfoekalphaaDoor.fnExactUnified
open Go.ChangeShapes Go.WideShapes Go.ChangeAt Go.RowKit
set_option linter.unusedVariables false

theorem pow_rd {W : World} (h : laidMet Tryd.prog Rows.fnExactUnifiedRow.laid W) : PowIs W :=
  Lib.tabIs_of_head gPow gPowType Tryd.underlying129 Tryd.underlying123 cellsU cellsP h.tail.tail

theorem err_rd {W : World} (h : laidMet Tryd.prog Rows.fnExactUnifiedRow.laid W) : ∃ eg, ErrAt W (errE eg) ∧ W.var? Tryd.prog "loop.example/g01292/impl.errApart" = some #[errE eg] := by
  obtain ⟨a, s, hv, _, _, _⟩ := laid_sentinel h.tail.tail.tail gAp gApType Tryd.underlying51 rowE Tryd.underlying136 Tryd.underlying158 rfl rfl Tryd.underlying9 cellsE cells9
  exact ⟨_, by have h0 := World.var?_cell gAp hv 0; unfold ErrAt; simpa using h0, hv⟩

set_option maxHeartbeats 1000000 in
set_option maxRecDepth 20000 in
theorem walk (a : Option Addr) (b o cap : Nat) (ts : List Typ) (i i2 : Int) (eg : Addr) (hne : 0 < ts.length → a = some ⟨b, o, none⟩) (hm : ts.length ≤ maxLen)
    (w : World) (hA : ATyps w b o ts) (hp : PowIs w) (he : ErrAt w (errE eg)) :
    Calls Tryd.prog 6 #[.slice a ts.length cap, .int .i64 i, .int .i64 i2] w fun e w' => e = .returned (.bool true) ∧ Below w.heap.size w w' := by
  have HA : Hid (ATyps w b o ts) := hA
  have HW : Hid (PowIs w) := hp
  have HEE : Hid (ErrAt w (errE eg)) := he
  have hgp : 1 < w.heap.size := var_lt gPow hp
  clear hA hp he
  go_enter Tryd.func6, Tryd.ntmps6
  go_wp2_with fail
  refine (typ_sz_row a cap ts.length 1048576 (by omega) (by omega) hm w).mono ?_
  rintro e w1 ⟨⟨r, rfl, hr⟩, b1⟩
  have s1 := b1.size
  by_cases hneg : r < 0
  · clear hr
    go_wp2
    go_ret
    exact ⟨rfl, b1⟩
  · have hz := hr (by omega)
    have HZ : Hid (ts.length ≤ 1048576 ∧ ts.length ≤ maxLen) := by
      refine ⟨by omega, ?_⟩
      unfold maxLen
      omega
    clear hr hz hm
    have A1 : Hid (ATyps w1 b o ts) := HA.out.below b1 (fun h => HA.out.lt h)
    go_wp2_with fail
    refine (typ_to_row a b o cap ts hne HZ.out.1 w1 A1.out).mono ?_
    rintro e w2 ⟨rfl, hg2, b2⟩
    have G2 : Hid (TypAt w2 w1.heap.size ts) := typ_of_room hg2
    have s2 := b2.size
    have B2 : Hid (Below w.heap.size w w2) := b1.trans (b2.mono s1)
    clear hg2
    go_wp2_with fail
    refine (spec_unified _ w1.heap.size ts.length ts i i2 (fun _ => rfl) HZ.out.1 w2 G2.out).mono ?_
    rintro e w3 ⟨s3', v3', rfl, hu3, b3⟩
    have HU3 : Hid (UniE ts i i2 s3' v3') := hu3
    clear hu3
    have s3 := b3.size
    have B3 : Hid (Below w.heap.size w w3) := B2.out.trans (b3.mono (by omega))
    have A3 : Hid (ATyps w3 b o ts) := HA.out.below B3.out (fun h => HA.out.lt h)
    clear b1 b2 b3 A1 G2 B2
    go_wp2_with fail
    refine (typ_to_row a b o cap ts hne HZ.out.1 w3 A3.out).mono ?_
    rintro e w4 ⟨rfl, hg4, b4⟩
    have s4 := b4.size
    have R4 : Hid (w4.heap[w3.heap.size]? = some (.cells (ts.flatMap typCells).toArray 35 (0, 0))) := hg4
    have G4 : Hid (TypAt w4 w3.heap.size ts) := typ_of_room hg4
    have L4 : w3.heap.size < w4.heap.size := (Array.getElem?_eq_some_iff.1 hg4).1
    have B4 : Hid (Below w.heap.size w w4) := B3.out.trans (b4.mono (by omega))
    clear hg4 b4 A3 B3
    go_wp2_with fail
    refine (impl_unified _ w3.heap.size ts.length ts i i2 eg (fun _ => rfl) HZ.out.1 w4 (fun w' h' => var?_below (B4.out.trans (h'.mono (by have := B4.out.size; omega))) gPow hgp HW.out) (HEE.out.below B4.out) G4.out).mono ?_
    rintro e w5 ⟨s5', v5', rfl, hu5, b5⟩
    obtain ⟨rfl, rfl⟩ := uniE_one HU3.out hu5
    clear hu5
    have s5 := b5.size
    have R5 : Hid (w5.heap[w3.heap.size]? = some (.cells (ts.flatMap typCells).toArray 35 (0, 0))) := (b5.block _ L4).trans R4.out
    have B5 : Hid (Below w.heap.size w w5) := B4.out.trans (b5.mono (by omega))
    have A5 : Hid (ATyps w5 b o ts) := HA.out.below B5.out (fun h => HA.out.lt h)
    clear b5 R4 G4 B4
    generalize (⟨s3'.toArray⟩ : ByteArray) = PT
    go_wp2_with fail
    refine (typ_to_row a b o cap ts hne HZ.out.1 w5 A5.out).mono ?_
    rintro e w7 ⟨rfl, hg7, b7⟩
    have s7 := b7.size
    have G7 : Hid (TypAt w7 w5.heap.size ts) := typ_of_room hg7
    have R7 : Hid (w7.heap[w3.heap.size]? = some (.cells (ts.flatMap typCells).toArray 35 (0, 0))) := (b7.block _ (by omega)).trans R5.out
    have B7 : Hid (Below w.heap.size w w7) := B5.out.trans (b7.mono (by omega))
    clear hg7 b7 R5 A5 B5
    go_wp2_with fail
    refine (typ_eq_row _ _ w3.heap.size w5.heap.size ts.length ts.length ts HZ.out.1 (fun _ => rfl) (fun _ => rfl) w7 (typ_of_room R7.out) G7.out).mono ?_
    rintro e w8 ⟨rfl, b8⟩
    have B8 : Hid (Below w.heap.size w w8) := B7.out.trans (b8.mono (by omega))
    clear b8 R7 G7 B7
    go_wp2
    go_ret
    exact ⟨rfl, B8.out⟩

set_option maxRecDepth 100000 in
theorem contract (H : Type) (enc : TypeId × Value → H) (W : World) (base : Nat) (args : Array Value) (ds gs : List (DataW H)) (before : List MemPlace)
    (hval : ∀ (j : Nat) t v, Tryd.f6.params[j]? = some t → args[j]? = some v → Value.okWide Tryd.prog W .any base t v)
    (hW : DataW.Whole enc Tryd.prog Tryd.f6.params.toList Rows.fnExactUnifiedSpec.vars false W args.toList ds gs before) (hL : laidMet Tryd.prog Rows.fnExactUnifiedRow.laid W) :
    Calls Tryd.prog 6 args W fun e W' => ∃ v, e = .returned v ∧ Rows.fnExactUnifiedSpec.post enc Tryd.prog Tryd.f6 false true false false W args v W' := by
  have hW' := hW
  obtain ⟨p, q, hA0, hV, rfl, hfz, hnd⟩ := hW
  have hA : DataW.TrodAll enc Tryd.prog W 0 (fun _ => true) true Tryd.f6.params.toList args.toList ds p := hA0
  rw [Tryd.params6] at hA hval
  obtain ⟨v0, vs0, d0, ds0, p0, q0, hargs, rfl, rfl, h0, r0⟩ := trodAll_cons hA
  obtain ⟨v1, vs1, d1, ds1, p1, q1, rfl, rfl, rfl, h1, r1⟩ := trodAll_cons r0
  obtain ⟨v2, vs2, d2, ds2, p2, q2, rfl, rfl, rfl, h2, r2⟩ := trodAll_cons r1
  obtain ⟨rfl, rfl, rfl⟩ := trodAll_nil r2
  obtain rfl : args = #[v0, v1, v2] := by cases args; simp_all
  obtain ⟨gv, tv, cv, fv, dv, pv, rfl, hgn, hgt, hvar, hd, rfl⟩ := trodVars_one hV
  obtain rfl : gv = 0 := Option.some.inj (hgn.symm.trans gAp)
  obtain rfl : tv = 51 := Option.some.inj (hgt.symm.trans gApType)
  obtain ⟨a0, len0, cap0, rfl⟩ := okWide_slice Tryd.underlying36 (hval 0 36 v0 rfl rfl)
  have k0 := h0
  have lt0 : ∀ x ∈ p0, x.block < W.heap.size := by obtain ⟨m, hm⟩ := k0; exact DataW.trod_lt m _ _ _ hm
  obtain ⟨fuel0, hf0⟩ := h0
  obtain ⟨ts0, b0, o0, rfl, hne0, hm0, hrow0⟩ := open_typs (by simpa [Value.cells] using hf0)
  obtain ⟨a1, rfl, rfl, rfl, w1⟩ := open_int Tryd.underlying3 (hval 1 3 v1 rfl rfl) h1
  obtain ⟨a2, rfl, rfl, rfl, w2⟩ := open_int Tryd.underlying3 (hval 2 3 v2 rfl rfl) h2
  obtain ⟨eg, hee, hv2⟩ := err_rd hL
  obtain rfl : cv = #[errE eg] := Option.some.inj (hvar.symm.trans hv2)
  have k9 : DataW.Trod enc Tryd.prog W 0 (fun _ => true) true 51 (errE eg) dv pv := ⟨fv, by simpa [Value.cells] using hd⟩
  have lt9 : ∀ x ∈ pv, x.block < W.heap.size := by obtain ⟨m, hm⟩ := k9; exact DataW.trod_lt m _ _ _ hm
  have hgl : 0 < W.heap.size := typ_lt hee
  clear hA0
  simp only [List.append_nil] at hW'
  refine (walk a0 b0 o0 cap0 ts0 a1 a2 eg hne0 hm0 W hrow0 (pow_rd hL) hee).mono fun e W' ⟨he, bel⟩ => ?_
  subst he
  obtain ⟨f9, hd9⟩ := Below.trod laidOut (by kernel_rfl) (of_decide_eq_true (by kernel_rfl)) k9 bel lt9
  exact ⟨_, rfl, _, _, _, [], _, _, hW', trodAll_mk1 (shut_bool Tryd.underlying4 _), (trodAll_cons_mk (Below.trod laidOut (by kernel_rfl) (of_decide_eq_true (by kernel_rfl)) k0 bel lt0) (trodAll_cons_mk (shut_int Tryd.underlying3 w1) (trodAll_cons_mk (shut_int Tryd.underlying3 w2) trodAll_mk0))), trodVars_mk1 hgn hgt (var?_below bel gAp hgl hvar) (by simpa [Value.cells] using hd9), bel.frame _, fun h => by cases h⟩

theorem laid_met (os : Os) : laidMet Tryd.prog Rows.fnExactUnifiedRow.laid ((laidOfE Tryd.prog os).forCall (fun _ _ => 0) ⟨#[], #[.slice none 0 0, .int .i64 0, .int .i64 0], []⟩).memory :=
  laidMet_of_run' 8 (by kernel_rfl) (by kernel_rfl)
theorem reads (os : Os) {H : Type} (enc : TypeId × Value → H) : ∃ places, DataW.whole enc Tryd.prog ((laidOfE Tryd.prog os).forCall (fun _ _ => 0) ⟨#[], #[.slice none 0 0, .int .i64 0, .int .i64 0], []⟩).memory Tryd.f6.params.toList Rows.fnExactUnifiedSpec.vars false (#[.slice none 0 0, .int .i64 0, .int .i64 0] : Array Value).toList 8 = some ([.nil, .lit (.int .i64 0), .lit (.int .i64 0)], [.held (enc (136, .pointer (some ⟨lowOf Tryd.prog, 0, none⟩)))], places) :=
  ⟨[.cell 0 0], by kernel_rfl⟩

set_option maxRecDepth 100000 in
theorem lifted (os : Os) (started : os.Started) (H : Type) (enc : TypeId × Value → H) (F : Stop.Interp) :
    ReturnsInHanded {} Tryd.checked os 6 .any ((OpenSpec.ofChange Rows.fnExactUnifiedSpec).preRow enc Tryd.prog Tryd.f6 Rows.fnExactUnifiedRow.domain false Rows.fnExactUnifiedRow.laid) (((OpenSpec.ofChange Rows.fnExactUnifiedSpec).at F).post enc Tryd.prog Tryd.f6 false true false false) := by
  obtain ⟨places, hx⟩ := reads os enc
  refine returnsInHanded_of_row (C := Tryd.checked) (s := OpenSpec.ofChange Rows.fnExactUnifiedSpec) own started (by kernel_rfl) Tryd.func6
    (witness_row_at (enc := enc) (C := Tryd.checked) false (laidOfE Tryd.prog os) #[.slice none 0 0, .int .i64 0, .int .i64 0] rfl (by kernel_rfl) (by kernel_rfl) (by kernel_rfl)
      (OpenSpec.preRow_of_cond 8 hx (by kernel_rfl) (fun k hk => by cases hk) (by kernel_rfl) (laid_met os))) ?_
  intro W base args ds gs before hval hW _ _ _ hL _ _
  exact contract H enc W base args ds gs before hval hW hL

theorem said : Rows.FnExactUnifiedSaid :=
  OpenClaim.holds_of_cond 6 Tryd.f6 rfl rfl rfl rfl rfl rfl rfl ⟨rfl, rfl, rfl, rfl, rfl⟩ rfl rfl rfl rfl rfl (by kernel_rfl) Tryd.func6 (by kernel_rfl)
    (of_decide_eq_true (by kernel_rfl)) (by unfold Func.isWrapper; first | (rw [if_pos (by decide +kernel)]; kernel_rfl) | (rw [if_neg (by decide +kernel)]; exact ⟨rfl, rfl⟩))
    (fun os started H enc _ F => by rw [OpenClaim.pre_eq_preRow]; exact lifted os started H enc F)

theorem plain (f : FuncId) (fn : Func) (hf : Tryd.pinned.checked.prog.funcNamed Rows.fnExactUnifiedRow.func = some f) (hfn : Tryd.pinned.checked.prog.funcs[f]? = some fn) :
    true = Tryd.pinned.checked.prog.looks [] ∧ ∀ (j : Nat) t, fn.params[j]? = some t → Tryd.pinned.checked.prog.wantsStandIn t = false := by
  obtain rfl : f = 6 := Option.some.inj ((show Tryd.prog.funcNamed Rows.fnExactUnifiedRow.func = some 6 by kernel_rfl).symm.trans hf) |>.symm
  obtain rfl : fn = Tryd.f6 := (Option.some.inj (Tryd.func6.symm.trans hfn)).symm
  refine ⟨by kernel_rfl, fun j t ht => ?_⟩
  rw [Tryd.params6] at ht
  have hm := Array.mem_of_getElem? ht
  simp only [List.mem_toArray, List.mem_cons, List.not_mem_nil, or_false] at hm
  rcases hm with rfl | rfl | rfl
  · exact (show Tryd.prog.wantsStandIn 36 = false by kernel_rfl)
  · exact (show Tryd.prog.wantsStandIn 3 = false by kernel_rfl)
  · exact (show Tryd.prog.wantsStandIn 3 = false by kernel_rfl)

theorem proved : Rows.FnExactUnifiedCardSaid :=
  Claim7.holds_tied_plain_at .later [] _ _ _ _ said (fun _ h => by cases h) (by kernel_rfl) (fun _ h => by cases h) fnExactUnified_row_tie rfl ⟨rfl, rfl⟩ (by kernel_rfl) rfl plain (by kernel_rfl)
#print axioms proved
end Go.Proofs.YtbhfpfoekalphaaDoor.fnExactUnified

namespace Go.Proofs.YtbhfpfoekalphaaDoor
theorem fnExactUnified_holds : Rows.FnExactUnifiedCardSaid := fnExactUnified.proved
#print axioms fnExactUnified_holds
end Go.Proofs.YtbhfpfoekalphaaDoor
