/-
  For every text: FnExactParse answers true, and its argument reads as before: Parse answers as the specification does, and its answer owns its memory, behind another call too. Condition: the library's table and its two errors lie as its text lays them.
-/
import Derived.Test.YtncoooimgeoihaaDoorLaid
import Derived.ProofKit
import Derived.OpenShut
import Derived.ShutString
import Derived.ChangeOld
import Derived.Below
namespace Go.Proofs.YtncoooimgeoihaaDoor.fnExactParse
open Go.ChangeShapes Go.WideShapes Go.ChangeAt Go.RowKit
open Go.ChangeMaps (open_string shut_string)
set_option linter.unusedVariables false

set_option maxRecDepth 100000 in
theorem walk (a0 : ByteArray) (w0 : a0.size ≤ maxLen) (w : World) (hL : laidMet Tryd.prog Rows.fnExactParseRow.laid w) :
    Calls Tryd.prog 4 #[.string a0] w fun e w' => e = .returned (.bool true) ∧ Below w.heap.size w w' := by
  by_cases hbig : (1048576 : Int) < a0.size
  · clear hL
    go_enter Tryd.func4, Tryd.ntmps4
    go_wp2
    go_ret
    exact ⟨rfl, Below.refl _ _⟩
  · have HV : Hid (Vars w) := vars_rd hL
    clear hL
    have hm : Hid (a0.size ≤ 1048576) := by show a0.size ≤ 1048576; omega
    clear w0
    go_enter Tryd.func4, Tryd.ntmps4
    go_wp2_with fail
    refine (spec_parse a0 hm.out w).mono ?_
    rintro e w1 ⟨⟨tt, tn, v1, hx, ho1, rfl⟩, b1⟩
    have HX : Hid (Lexes a0 tt tn) := hx
    have hlen0 := parse_len hx
    have s1 := b1.size
    have HV1 : Hid (Vars w1) := HV.out.kept b1
    have B1 : Hid (Below w.heap.size w w1) := b1
    have HONE : Hid (∀ ts' n', Lexes a0 ts' n' → parseR ts' n' a0.size = parseR tt tn a0.size) := fun ts' n' h => by obtain ⟨rfl, rfl⟩ := lexes_one hx h; rfl
    clear b1 hx
    obtain ⟨⟨ts, pc, pq⟩, hP⟩ : ∃ P, parseR tt tn a0.size = P := ⟨_, rfl⟩
    rw [hP] at ho1 HONE hlen0 ⊢
    clear hP
    have hlen : ts.length ≤ 150 := hlen0
    clear hlen0
    obtain ⟨a1, g1, c1, sp1, rfl, ha1, hT1, hB1, hl1, hr1⟩ := ownNod_form ho1
    have HT1 : Hid (NodAt w1 g1 ts) := hT1
    have HL1 : Hid (0 < ts.length → g1 < w1.heap.size) := hl1
    have HA1 : Hid (0 < ts.length → a1 = some ⟨g1, 0, none⟩) := ha1
    clear ho1 hT1 hl1 hr1 ha1 hB1
    go_wp2_with fail
    refine (impl_parse a0 hm.out w1 HV1.out).mono ?_
    rintro e w2 ⟨⟨tt2, tn2, v2, hx2, ho2, rfl⟩, b2⟩
    rw [HONE.out _ _ hx2] at ho2 ⊢
    have s2 := b2.size
    obtain ⟨a2, g2, c2, sp2, rfl, ha2, hT2, hB2, hl2, hr2⟩ := ownNod_form ho2
    have HT2 : Hid (NodAt w2 g2 ts) := hT2
    have HT12 : Hid (NodAt w2 g1 ts) := HT1.out.below b2 HL1.out
    have HA2 : Hid (0 < ts.length → a2 = some ⟨g2, 0, none⟩) := ha2
    have HR2 : Hid (0 < ts.length → w2.heap[g2]? = some (.cells (ts.flatMap nodCells ++ sp2).toArray 55 (0, 0))) := hr2
    have HL2 : Hid (0 < ts.length → g2 < w2.heap.size) := hl2
    have B2 : Hid (Below w.heap.size w w2) := B1.out.trans (b2.mono s1)
    clear hx2 ho2 hT2 hl2 hr2 ha2 b2 HT1
    go_wp2_with fail
    refine (nod_eq_row a2 a1 g2 g1 c2 c1 ts (by omega) HA2.out HA1.out w2 HT2.out HT12.out).mono ?_
    rintro e w3 ⟨rfl, b3⟩
    have s3 := b3.size
    have HR3 : Hid (0 < ts.length → w3.heap[g2]? = some (.cells (ts.flatMap nodCells ++ sp2).toArray 55 (0, 0))) := fun h => (b3.block g2 (HL2.out h)).trans (HR2.out h)
    have HT13 : Hid (NodAt w3 g1 ts) := HT12.out.below b3 (fun h => by have := HL1.out h; omega)
    have B3 : Hid (Below w.heap.size w w3) := B2.out.trans (b3.mono (by omega))
    clear b3 HT2 HT12 HR2
    go_wp2_with fail
    refine (nod_mark_row a2 g2 c2 w1.heap.size ts sp2 (by omega) HA2.out w3 HR3.out hB2 (by omega)).mono ?_
    rintro e w4 ⟨rfl, hr4, b4, _⟩
    have s4 := b4.size
    have ml : (nodMkd ts 1 ts.length).length = ts.length := nodMkd_length ts 1 ts.length
    have HT4 : Hid (NodAt w4 g2 (nodMkd ts 1 ts.length)) := fun i hi => nod_of_row (hr4 (by rw [ml] at hi; omega)) i hi
    have HL4 : Hid (0 < ts.length → g2 < w4.heap.size) := fun h => (Array.getElem?_eq_some_iff.1 (hr4 h)).1
    have HT14 : Hid (NodAt w4 g1 ts) := HT13.out.below b4 HL1.out
    have B4 : Hid (Below w.heap.size w w4) := B3.out.trans (b4.mono s1)
    have HM : Hid (∀ i, i < (nodMkd ts 1 ts.length).length → (nodMkd ts 1 ts.length).getD i noNod = nodMark (1 + 7 * i)) := fun i hi => nodMkd_at ts 1 ts.length i (by rw [ml] at hi; exact hi) (by rw [ml] at hi; exact hi)
    have ML : Hid ((nodMkd ts 1 ts.length).length = ts.length) := ml
    clear hr4 b4 HR3 HT13 ml
    go_wp2_with fail
    refine (nod_held_row a2 g2 c2 ts.length (nodMkd ts 1 ts.length) ML.out (by omega) HA2.out w4 HT4.out HM.out).mono ?_
    rintro e w5 ⟨rfl, b5⟩
    have s5 := b5.size
    have HT5 : Hid (NodAt w5 g2 (nodMkd ts 1 ts.length)) := HT4.out.below b5 (fun h => HL4.out (by rw [ML.out] at h; exact h))
    have HL5 : Hid (0 < ts.length → g2 < w5.heap.size) := fun h => by have := HL4.out h; omega
    have HT15 : Hid (NodAt w5 g1 ts) := HT14.out.below b5 (fun h => by have := HL1.out h; omega)
    have B5 : Hid (Below w.heap.size w w5) := B4.out.trans (b5.mono (by omega))
    have HV5 : Hid (Vars w5) := HV.out.kept B5.out
    have hpos : ¬ ((1 + 7 * ts.length : Nat) : Int) < 0 := by omega
    clear b5 HT4 HT14 HL4
    go_wp2_with fail
    refine (impl_parse a0 hm.out w5 HV5.out).mono ?_
    rintro e w6 ⟨⟨tt6, tn6, v6, hx6, ho6, rfl⟩, b6⟩
    rw [HONE.out _ _ hx6] at ho6 ⊢
    have s6 := b6.size
    obtain ⟨a6, g6, c6, sp6, rfl, ha6, hT6, hB6, hl6, hr6⟩ := ownNod_form ho6
    have HT6 : Hid (NodAt w6 g6 ts) := hT6
    have HA6 : Hid (0 < ts.length → a6 = some ⟨g6, 0, none⟩) := ha6
    have HT16 : Hid (NodAt w6 g1 ts) := HT15.out.below b6 (fun h => by have := HL1.out h; omega)
    have HTm : Hid (NodAt w6 g2 (nodMkd ts 1 ts.length)) := HT5.out.below b6 (fun h => HL5.out (by rw [ML.out] at h; exact h))
    have B6 : Hid (Below w.heap.size w w6) := B5.out.trans (b6.mono (by omega))
    clear hx6 ho6 hT6 hl6 hr6 ha6 b6 HT5 HT15
    go_wp2_with fail
    refine (nod_eq_row a6 a1 g6 g1 c6 c1 ts (by omega) HA6.out HA1.out w6 HT6.out HT16.out).mono ?_
    rintro e w7 ⟨rfl, b7⟩
    have s7 := b7.size
    have HT7 : Hid (NodAt w7 g2 (nodMkd ts 1 ts.length)) := HTm.out.below b7 (fun h => by have := HL5.out (by rw [ML.out] at h; exact h); omega)
    have B7 : Hid (Below w.heap.size w w7) := B6.out.trans (b7.mono (by omega))
    clear b7 HT6 HT16 HTm
    go_wp2_with fail
    refine (nod_held_row a2 g2 c2 ts.length (nodMkd ts 1 ts.length) ML.out (by omega) HA2.out w7 HT7.out HM.out).mono ?_
    rintro e w8 ⟨rfl, b8⟩
    go_wp2
    go_ret
    exact ⟨rfl, B7.out.trans (b8.mono (by omega))⟩

set_option maxRecDepth 100000 in
theorem contract (H : Type) (enc : TypeId × Value → H) (W : World) (base : Nat) (args : Array Value) (ds gs : List (DataW H)) (before : List MemPlace)
    (hval : ∀ (j : Nat) t v, Tryd.f4.params[j]? = some t → args[j]? = some v → Value.okWide Tryd.prog W .any base t v)
    (hW : DataW.Whole enc Tryd.prog Tryd.f4.params.toList Rows.fnExactParseSpec.vars false W args.toList ds gs before) (hL : laidMet Tryd.prog Rows.fnExactParseRow.laid W) :
    Calls Tryd.prog 4 args W fun e W' => ∃ v, e = .returned v ∧ Rows.fnExactParseSpec.post enc Tryd.prog Tryd.f4 false true false false W args v W' := by
  have hW' := hW
  obtain ⟨p, q, hA0, hV, rfl, hfz, hnd⟩ := hW
  have hA : DataW.TrodAll enc Tryd.prog W 0 (fun _ => true) true Tryd.f4.params.toList args.toList ds p := hA0
  rw [Tryd.params4] at hA hval
  obtain ⟨v0, vs0, d0, ds0, p0, q0, hargs, rfl, rfl, h0, r0⟩ := trodAll_cons hA
  obtain ⟨rfl, rfl, rfl⟩ := trodAll_nil r0
  obtain rfl : args = #[v0] := by cases args; simp_all
  obtain ⟨rfl, rfl⟩ := trodVars_none hV
  obtain ⟨a0, rfl, rfl, rfl, w0⟩ := open_string Tryd.underlying9 (hval 0 9 v0 rfl rfl) h0
  clear hA0
  refine (walk a0 w0 W hL).mono fun e W' ⟨he, bel⟩ => ?_
  subst he
  exact ⟨_, rfl, _, _, _, [], _, [], hW', trodAll_mk1 (shut_bool Tryd.underlying4 _), (trodAll_cons_mk (shut_string Tryd.underlying9 w0) trodAll_mk0), rfl, bel.frame _, fun h => by cases h⟩

theorem laid_met (os : Os) : laidMet Tryd.prog Rows.fnExactParseRow.laid ((laidOf2 Tryd.prog os).forCall (fun _ _ => 0) ⟨#[], #[.string ByteArray.empty], []⟩).memory :=
  laidMet_of_run' 8 (by kernel_rfl) (by kernel_rfl)
theorem reads (os : Os) {H : Type} (enc : TypeId × Value → H) : ∃ places, DataW.whole enc Tryd.prog ((laidOf2 Tryd.prog os).forCall (fun _ _ => 0) ⟨#[], #[.string ByteArray.empty], []⟩).memory Tryd.f4.params.toList Rows.fnExactParseSpec.vars false (#[.string ByteArray.empty] : Array Value).toList 8 = some ([.lit (.string [])], [], places) :=
  ⟨[], by kernel_rfl⟩

set_option maxRecDepth 100000 in
theorem lifted (os : Os) (started : os.Started) (H : Type) (enc : TypeId × Value → H) (F : Stop.Interp) :
    ReturnsInHanded {} Tryd.checked os 4 .any ((OpenSpec.ofChange Rows.fnExactParseSpec).preRow enc Tryd.prog Tryd.f4 Rows.fnExactParseRow.domain false Rows.fnExactParseRow.laid) (((OpenSpec.ofChange Rows.fnExactParseSpec).at F).post enc Tryd.prog Tryd.f4 false true false false) := by
  obtain ⟨places, hx⟩ := reads os enc
  refine returnsInHanded_of_row (C := Tryd.checked) (s := OpenSpec.ofChange Rows.fnExactParseSpec) own started (by kernel_rfl) Tryd.func4
    (witness_row_at (enc := enc) (C := Tryd.checked) false (laidOf2 Tryd.prog os) #[.string ByteArray.empty] rfl (by kernel_rfl) (by kernel_rfl) (by kernel_rfl)
      (OpenSpec.preRow_of_cond 8 hx (by kernel_rfl) (fun k hk => by cases hk) (by kernel_rfl) (laid_met os))) ?_
  intro W base args ds gs before hval hW _ _ _ hL _ _
  exact contract H enc W base args ds gs before hval hW hL

theorem said : Rows.FnExactParseSaid :=
  OpenClaim.holds_of_cond 4 Tryd.f4 rfl rfl rfl rfl rfl rfl rfl ⟨rfl, rfl, rfl, rfl, rfl⟩ rfl rfl rfl rfl rfl (by kernel_rfl) Tryd.func4 (by kernel_rfl)
    (of_decide_eq_true (by kernel_rfl)) (by unfold Func.isWrapper; first | (rw [if_pos (by decide +kernel)]; kernel_rfl) | (rw [if_neg (by decide +kernel)]; exact ⟨rfl, rfl⟩))
    (fun os started H enc _ F => by rw [OpenClaim.pre_eq_preRow]; exact lifted os started H enc F)

theorem plain (f : FuncId) (fn : Func) (hf : Tryd.pinned.checked.prog.funcNamed Rows.fnExactParseRow.func = some f) (hfn : Tryd.pinned.checked.prog.funcs[f]? = some fn) :
    true = Tryd.pinned.checked.prog.looks [] ∧ ∀ (j : Nat) t, fn.params[j]? = some t → Tryd.pinned.checked.prog.wantsStandIn t = false := by
  obtain rfl : f = 4 := Option.some.inj ((show Tryd.prog.funcNamed Rows.fnExactParseRow.func = some 4 by kernel_rfl).symm.trans hf) |>.symm
  obtain rfl : fn = Tryd.f4 := (Option.some.inj (Tryd.func4.symm.trans hfn)).symm
  refine ⟨by kernel_rfl, fun j t ht => ?_⟩
  rw [Tryd.params4] at ht
  have hm := Array.mem_of_getElem? ht
  simp only [List.mem_toArray, List.mem_cons, List.not_mem_nil, or_false] at hm
  rcases hm with rfl
  exact (show Tryd.prog.wantsStandIn 9 = false by kernel_rfl)

theorem proved : Rows.FnExactParseCardSaid :=
  Claim7.holds_tied_plain_at .later [] _ _ _ _ said (fun _ h => by cases h) (by kernel_rfl) (fun _ h => by cases h) fnExactParse_row_tie rfl ⟨rfl, rfl⟩ (by kernel_rfl) rfl plain (by kernel_rfl)
#print axioms proved
end Go.Proofs.YtncoooimgeoihaaDoor.fnExactParse

namespace Go.Proofs.YtncoooimgeoihaaDoor
theorem fnExactParse_holds : Rows.FnExactParseCardSaid := fnExactParse.proved
#print axioms fnExactParse_holds
end Go.Proofs.YtncoooimgeoihaaDoor
