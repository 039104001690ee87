/-
  For every code: FnUnified answers true, and its argument reads as before: to make two types one is the same from either side; a type with itself is itself; what comes of it has a text. Conditions: the library's tables and the error errApart lie as their texts lay them.
-/
import Derived.Test.YtjjanmccijghgaaDoorJn
import Derived.Test.YtjjanmccijghgaaDoorLaidU
import Derived.ProofKit
import Derived.OpenShut
import Derived.ShutString
import Derived.ChangeOld
import Derived.Below
namespace Go.Proofs.YtjjanmccijghgaaDoor.fnUnified
open Go.ChangeShapes Go.WideShapes Go.ChangeAt Go.RowKit
set_option linter.unusedVariables false

theorem pow_rd {W : World} (h : laidMet Tryd.prog Rows.fnUnifiedRow.laid W) : PowIs W :=
  Lib.tabIs_of_head gPow gPowType Tryd.underlying117 Tryd.underlying111 cellsU cellsP h.tail.tail

theorem err_rd {W : World} (h : laidMet Tryd.prog Rows.fnUnifiedRow.laid W) : ∃ eg, ErrAt W (errE eg) ∧ W.var? Tryd.prog "loop.example/g01292/impl.errApart" = some #[errE eg] := by
  obtain ⟨a, s, hv, _, _, _⟩ := laid_sentinel h.tail.tail.tail gAp gApType Tryd.underlying45 rowE Tryd.underlying124 Tryd.underlying146 rfl rfl Tryd.underlying9 cellsE cells9
  exact ⟨_, by have h0 := World.var?_cell gAp hv 0; unfold ErrAt; simpa using h0, hv⟩

theorem walk (a : Option Addr) (len cap : Nat) (zs : List Int) (w : World) (eg : Addr) (hrow : IsRow w a len cap zs) (hp : PowIs w) (he : ErrAt w (errE eg)) :
    Calls Tryd.prog 3 #[.slice a len cap] w fun e w' => e = .returned (.bool true) ∧ Below w.heap.size w w' := by
  have hgp := var_lt gPow hp
  by_cases hbig : (1048576 : Int) < len
  · clear hp hgp he
    go_enter Tryd.func3, Tryd.ntmps3
    go_wp2_with fail
    refine (tbig_yes a len cap hbig w).mono ?_
    rintro e w' ⟨rfl, rfl⟩
    go_wp2
    go_ret
    exact ⟨rfl, Below.refl _ _⟩
  · exact unified_walk a len cap zs w eg hrow hbig (fun w' h' => var?_below h' gPow hgp hp) he

set_option maxRecDepth 100000 in
theorem contract (H : Type) (enc : TypeId × Value → H) (W : World) (base : Nat) (args : Array Value) (ds gs : List (DataW H)) (before : List MemPlace)
    (hval : ∀ (j : Nat) t v, Tryd.f3.params[j]? = some t → args[j]? = some v → Value.okWide Tryd.prog W .any base t v)
    (hW : DataW.Whole enc Tryd.prog Tryd.f3.params.toList Rows.fnUnifiedSpec.vars false W args.toList ds gs before) (hL : laidMet Tryd.prog Rows.fnUnifiedRow.laid W) :
    Calls Tryd.prog 3 args W fun e W' => ∃ v, e = .returned v ∧ Rows.fnUnifiedSpec.post enc Tryd.prog Tryd.f3 false true false false W args v W' := by
  have hW' := hW
  obtain ⟨p, q, hA0, hV, rfl, hfz, hnd⟩ := hW
  have hA : DataW.TrodAll enc Tryd.prog W 0 (fun _ => true) true Tryd.f3.params.toList args.toList ds p := hA0
  rw [Tryd.params3] at hA hval
  obtain ⟨v0, vs0, d0, ds0, p0, q0, hargs, rfl, rfl, h0, r0⟩ := trodAll_cons hA
  obtain ⟨rfl, rfl, rfl⟩ := trodAll_nil r0
  obtain rfl : args = #[v0] := by cases args; simp_all
  obtain ⟨gv, tv, cv, fv, dv, pv, rfl, hgn, hgt, hvar, hd, rfl⟩ := trodVars_one hV
  obtain rfl : gv = 0 := Option.some.inj (hgn.symm.trans gAp)
  obtain rfl : tv = 45 := Option.some.inj (hgt.symm.trans gApType)
  obtain ⟨a0, len0, cap0, rfl⟩ := okWide_slice Tryd.underlying22 (hval 0 22 v0 rfl rfl)
  have k0 := h0
  have lt0 : ∀ x ∈ p0, x.block < W.heap.size := by obtain ⟨m, hm⟩ := k0; exact DataW.trod_lt m _ _ _ hm
  obtain ⟨z0, w0⟩ : ∃ zs, IsRow W a0 len0 cap0 zs := by
    obtain ⟨fuel, hf⟩ := h0
    rcases open_ints Tryd.underlying22 Tryd.underlying5 (by kernel_rfl) hf with ⟨hcs, _⟩ | ⟨x, l, c, zs, hcs, _, hl, hm, hz, _, hcell, hwz⟩
    · simp [Value.cells] at hcs
      obtain ⟨rfl, rfl, rfl⟩ := hcs
      exact ⟨[], .inl ⟨rfl, rfl, rfl, rfl⟩⟩
    · simp [Value.cells] at hcs
      obtain ⟨rfl, rfl, rfl⟩ := hcs
      exact ⟨zs, .inr ⟨_, rfl, hl, hm, by simpa using hz, hcell, hwz⟩⟩
  obtain ⟨eg, hee, hv2⟩ := err_rd hL
  obtain rfl : cv = #[errE eg] := Option.some.inj (hvar.symm.trans hv2)
  have k9 : DataW.Trod enc Tryd.prog W 0 (fun _ => true) true 45 (errE eg) dv pv := ⟨fv, by simpa [Value.cells] using hd⟩
  have lt9 : ∀ x ∈ pv, x.block < W.heap.size := by obtain ⟨m, hm⟩ := k9; exact DataW.trod_lt m _ _ _ hm
  have hgl : 0 < W.heap.size := typ_lt hee
  clear hA0
  simp only [List.append_nil] at hW'
  refine (walk a0 len0 cap0 z0 W eg w0 (pow_rd hL) hee).mono fun e W' ⟨he, bel⟩ => ?_
  subst he
  obtain ⟨f9, hd9⟩ := Below.trod laidOut (by kernel_rfl) (of_decide_eq_true (by kernel_rfl)) k9 bel lt9
  exact ⟨_, rfl, _, _, _, [], _, _, hW', trodAll_mk1 (shut_bool Tryd.underlying4 _), (trodAll_cons_mk (Below.trod laidOut (by kernel_rfl) (of_decide_eq_true (by kernel_rfl)) k0 bel lt0) trodAll_mk0), trodVars_mk1 hgn hgt (var?_below bel gAp hgl hvar) (by simpa [Value.cells] using hd9), bel.frame _, fun h => by cases h⟩

theorem laid_met (os : Os) : laidMet Tryd.prog Rows.fnUnifiedRow.laid ((laidOfE Tryd.prog os).forCall (fun _ _ => 0) ⟨#[], #[.slice none 0 0], []⟩).memory :=
  laidMet_of_run' 8 (by kernel_rfl) (by kernel_rfl)
theorem reads (os : Os) {H : Type} (enc : TypeId × Value → H) : ∃ places, DataW.whole enc Tryd.prog ((laidOfE Tryd.prog os).forCall (fun _ _ => 0) ⟨#[], #[.slice none 0 0], []⟩).memory Tryd.f3.params.toList Rows.fnUnifiedSpec.vars false (#[.slice none 0 0] : Array Value).toList 8 = some ([.nil], [.held (enc (124, .pointer (some ⟨lowOf Tryd.prog, 0, none⟩)))], places) :=
  ⟨[.cell 0 0], by kernel_rfl⟩

set_option maxRecDepth 100000 in
theorem lifted (os : Os) (started : os.Started) (H : Type) (enc : TypeId × Value → H) (F : Stop.Interp) :
    ReturnsInHanded {} Tryd.checked os 3 .any ((OpenSpec.ofChange Rows.fnUnifiedSpec).preRow enc Tryd.prog Tryd.f3 Rows.fnUnifiedRow.domain false Rows.fnUnifiedRow.laid) (((OpenSpec.ofChange Rows.fnUnifiedSpec).at F).post enc Tryd.prog Tryd.f3 false true false false) := by
  obtain ⟨places, hx⟩ := reads os enc
  refine returnsInHanded_of_row (C := Tryd.checked) (s := OpenSpec.ofChange Rows.fnUnifiedSpec) own started (by kernel_rfl) Tryd.func3
    (witness_row_at (enc := enc) (C := Tryd.checked) false (laidOfE Tryd.prog os) #[.slice none 0 0] rfl (by kernel_rfl) (by kernel_rfl) (by kernel_rfl)
      (OpenSpec.preRow_of_cond 8 hx (by kernel_rfl) (fun k hk => by cases hk) (by kernel_rfl) (laid_met os))) ?_
  intro W base args ds gs before hval hW _ _ _ hL _ _
  exact contract H enc W base args ds gs before hval hW hL

theorem said : Rows.FnUnifiedSaid :=
  OpenClaim.holds_of_cond 3 Tryd.f3 rfl rfl rfl rfl rfl rfl rfl ⟨rfl, rfl, rfl, rfl, rfl⟩ rfl rfl rfl rfl rfl (by kernel_rfl) Tryd.func3 (by kernel_rfl)
    (of_decide_eq_true (by kernel_rfl)) (by unfold Func.isWrapper; first | (rw [if_pos (by decide +kernel)]; kernel_rfl) | (rw [if_neg (by decide +kernel)]; exact ⟨rfl, rfl⟩))
    (fun os started H enc _ F => by rw [OpenClaim.pre_eq_preRow]; exact lifted os started H enc F)

theorem plain (f : FuncId) (fn : Func) (hf : Tryd.pinned.checked.prog.funcNamed Rows.fnUnifiedRow.func = some f) (hfn : Tryd.pinned.checked.prog.funcs[f]? = some fn) :
    true = Tryd.pinned.checked.prog.looks [] ∧ ∀ (j : Nat) t, fn.params[j]? = some t → Tryd.pinned.checked.prog.wantsStandIn t = false := by
  obtain rfl : f = 3 := Option.some.inj ((show Tryd.prog.funcNamed Rows.fnUnifiedRow.func = some 3 by kernel_rfl).symm.trans hf) |>.symm
  obtain rfl : fn = Tryd.f3 := (Option.some.inj (Tryd.func3.symm.trans hfn)).symm
  refine ⟨by kernel_rfl, fun j t ht => ?_⟩
  rw [Tryd.params3] at ht
  have hm := Array.mem_of_getElem? ht
  simp only [List.mem_toArray, List.mem_cons, List.not_mem_nil, or_false] at hm
  rcases hm with rfl
  exact (show Tryd.prog.wantsStandIn 22 = false by kernel_rfl)

theorem proved : Rows.FnUnifiedCardSaid :=
  Claim7.holds_tied_plain_at .later [] _ _ _ _ said (fun _ h => by cases h) (by kernel_rfl) (fun _ h => by cases h) fnUnified_row_tie rfl ⟨rfl, rfl⟩ (by kernel_rfl) rfl plain (by kernel_rfl)
#print axioms proved
end Go.Proofs.YtjjanmccijghgaaDoor.fnUnified

namespace Go.Proofs.YtjjanmccijghgaaDoor
theorem fnUnified_holds : Rows.FnUnifiedCardSaid := fnUnified.proved
#print axioms fnUnified_holds
end Go.Proofs.YtjjanmccijghgaaDoor
