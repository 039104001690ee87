/-
  For every two lists of nodes: FnExactAlphaSame answers true, and its arguments read as before: AlphaSame answers as the specification does and writes into no argument. No condition.
-/
import Derived.Test.YtjiggiglagmloaaGreatKc
import Derived.Test.YtjiggiglagmloaaGreatKd
import Derived.ChangeOld
namespace Go.Proofs.YtjiggiglagmloaaGreat.fnExactAlphaSame
open Go.ChangeShapes Go.WideShapes Go.ChangeAt Go.RowKit
set_option linter.unusedVariables false

theorem own : ownKnob Tryz.prog.godebug = none := by kernel_rfl
theorem laidOut : laidOutB Tryz.prog = true := by kernel_rfl

/-- What is asked of AlphaSame as it landed. -/
def Asked : Prop := ∀ (g h ca cb : Nat) (ts us : List Nod), ts.length ≤ 1048576 → us.length ≤ 1048576 → (∀ i, i < ts.length → (ts.getD i noNod).name.size ≤ maxLen ∧ (ts.getD i noNod).other.size ≤ maxLen) → (∀ i, i < us.length → (us.getD i noNod).name.size ≤ maxLen ∧ (us.getD i noNod).other.size ≤ maxLen) → ∀ (w : World), NodAt w g ts → NodAt w h us →
    Calls Tryz.prog 26 #[.slice (some ⟨g, 0, none⟩) ts.length ca, .slice (some ⟨h, 0, none⟩) us.length cb] w fun e w' => e = .returned (.bool (alphaB ts us)) ∧ Below w.heap.size w w'

set_option maxHeartbeats 2000000 in
set_option maxRecDepth 20000 in
theorem walk (impl_alpha0 : Asked) (a : Option Addr) (b o cap : Nat) (ts : List Nod) (hne : 0 < ts.length → a = some ⟨b, o, none⟩) (hm : ts.length ≤ maxLen)
    (hst : ∀ i, i < ts.length → (ts.getD i noNod).name.size ≤ maxLen ∧ (ts.getD i noNod).other.size ≤ maxLen)
    (a2 : Option Addr) (b2 o2 cap2 : Nat) (us : List Nod) (hne2 : 0 < us.length → a2 = some ⟨b2, o2, none⟩) (hm2 : us.length ≤ maxLen)
    (hst2 : ∀ i, i < us.length → (us.getD i noNod).name.size ≤ maxLen ∧ (us.getD i noNod).other.size ≤ maxLen) (w : World) (hA : ANods w b o ts) (hA2 : ANods w b2 o2 us) :
    Calls Tryz.prog 5 #[.slice a ts.length cap, .slice a2 us.length cap2] w fun e w' => e = .returned (.bool true) ∧ Below w.heap.size w w' := by
  have HA : Hid (ANods w b o ts) := hA
  have HA2 : Hid (ANods w b2 o2 us) := hA2
  have HT : Hid (∀ i, i < ts.length → (ts.getD i noNod).name.size ≤ maxLen ∧ (ts.getD i noNod).other.size ≤ maxLen) := hst
  have HT2 : Hid (∀ i, i < us.length → (us.getD i noNod).name.size ≤ maxLen ∧ (us.getD i noNod).other.size ≤ maxLen) := hst2
  have HI : Hid Asked := impl_alpha0
  clear hA hA2 hst hst2 impl_alpha0
  go_enter Tryz.func5, Tryz.ntmps5
  go_wp2_with fail
  refine (nod_sz_row a b o cap ts hne hm 1048576 (by omega) (by omega) HT.out w HA.out).mono ?_
  rintro e w1 ⟨⟨r, rfl, hr⟩, b1⟩
  have s1 := b1.size
  by_cases hneg : r < 0
  · clear hr
    go_wp2
    go_ret
    exact ⟨rfl, b1⟩
  · have hz := hr (by omega)
    have HZ : Hid (ts.length ≤ 1048576) := by show ts.length ≤ 1048576; omega
    have hr1 : r ≤ 1048576 := by omega
    clear hr hz hm
    have A1 : Hid (ANods w1 b2 o2 us) := HA2.out.below b1 (fun h => HA2.out.lt h)
    go_wp2_with fail
    refine (nod_sz_row a2 b2 o2 cap2 us hne2 hm2 r (by omega) hr1 HT2.out w1 A1.out).mono ?_
    rintro e w2 ⟨⟨r2, rfl, hr2⟩, bb2⟩
    have s2 := bb2.size
    have B2 : Hid (Below w.heap.size w w2) := b1.trans (bb2.mono s1)
    by_cases hneg2 : r2 < 0
    · clear hr2
      go_wp2
      go_ret
      exact ⟨rfl, B2.out⟩
    · have hz2 := hr2 (by omega)
      have HZ2 : Hid (us.length ≤ 1048576) := by show us.length ≤ 1048576; omega
      clear hr2 hz2 hm2 b1 bb2 A1
      have A2 : Hid (ANods w2 b o ts) := HA.out.below B2.out (fun h => HA.out.lt h)
      go_wp2_with fail
      refine (nod_to_row a b o cap ts hne HZ.out w2 A2.out).mono ?_
      rintro e w3 ⟨rfl, hg3, b3⟩
      have s3 := b3.size
      have G3 : Hid (NodAt w3 w2.heap.size ts) := nod_of_room hg3
      have L3 : w2.heap.size < w3.heap.size := (Array.getElem?_eq_some_iff.1 hg3).1
      have B3 : Hid (Below w.heap.size w w3) := B2.out.trans (b3.mono (by omega))
      have A3 : Hid (ANods w3 b2 o2 us) := HA2.out.below B3.out (fun h => HA2.out.lt h)
      clear hg3 b3 A2
      go_wp2_with fail
      refine (nod_to_row a2 b2 o2 cap2 us hne2 HZ2.out w3 A3.out).mono ?_
      rintro e w4 ⟨rfl, hg4, b4⟩
      have s4 := b4.size
      have G4 : Hid (NodAt w4 w3.heap.size us) := nod_of_room hg4
      have F4 : Hid (NodAt w4 w2.heap.size ts) := G3.out.below b4 (fun _ => by omega)
      have B4 : Hid (Below w.heap.size w w4) := B3.out.trans (b4.mono (by omega))
      clear hg4 b4 A3 G3
      go_wp2_with fail
      refine (spec_alpha w2.heap.size w3.heap.size _ _ ts us HZ.out HZ2.out HT.out HT2.out w4 F4.out G4.out).mono ?_
      rintro e w5 ⟨rfl, b5⟩
      have s5 := b5.size
      have B5 : Hid (Below w.heap.size w w5) := B4.out.trans (b5.mono (by omega))
      have A5 : Hid (ANods w5 b o ts) := HA.out.below B5.out (fun h => HA.out.lt h)
      clear b5 F4 G4
      go_wp2_with fail
      refine (nod_to_row a b o cap ts hne HZ.out w5 A5.out).mono ?_
      rintro e w6 ⟨rfl, hg6, b6⟩
      have s6 := b6.size
      have G6 : Hid (NodAt w6 w5.heap.size ts) := nod_of_room hg6
      have L6 : w5.heap.size < w6.heap.size := (Array.getElem?_eq_some_iff.1 hg6).1
      have B6 : Hid (Below w.heap.size w w6) := B5.out.trans (b6.mono (by omega))
      have A6 : Hid (ANods w6 b2 o2 us) := HA2.out.below B6.out (fun h => HA2.out.lt h)
      clear hg6 b6 A5
      go_wp2_with fail
      refine (nod_to_row a2 b2 o2 cap2 us hne2 HZ2.out w6 A6.out).mono ?_
      rintro e w7 ⟨rfl, hg7, b7⟩
      have s7 := b7.size
      have G7 : Hid (NodAt w7 w6.heap.size us) := nod_of_room hg7
      have L7 : w6.heap.size < w7.heap.size := (Array.getElem?_eq_some_iff.1 hg7).1
      have F7 : Hid (NodAt w7 w5.heap.size ts) := G6.out.below b7 (fun _ => by omega)
      have B7 : Hid (Below w.heap.size w w7) := B6.out.trans (b7.mono (by omega))
      clear hg7 b7 A6 G6
      go_wp2_with fail
      refine (HI.out w5.heap.size w6.heap.size _ _ ts us HZ.out HZ2.out HT.out HT2.out w7 F7.out G7.out).mono ?_
      rintro e w8 ⟨rfl, b8⟩
      have s8 := b8.size
      have G8 : Hid (NodAt w8 w6.heap.size us) := G7.out.below b8 (fun _ => by omega)
      have F8 : Hid (NodAt w8 w5.heap.size ts) := F7.out.below b8 (fun _ => by omega)
      have B8 : Hid (Below w.heap.size w w8) := B7.out.trans (b8.mono (by omega))
      have A8 : Hid (ANods w8 b o ts) := HA.out.below B8.out (fun h => HA.out.lt h)
      generalize alphaB ts us = ans
      clear b8 G7 F7
      go_wp2_with fail
      refine (nod_to_row a b o cap ts hne HZ.out w8 A8.out).mono ?_
      rintro e w9 ⟨rfl, hg9, b9⟩
      have s9 := b9.size
      have G9 : Hid (NodAt w9 w8.heap.size ts) := nod_of_room hg9
      have U9 : Hid (NodAt w9 w6.heap.size us) := G8.out.below b9 (fun _ => by omega)
      have F9 : Hid (NodAt w9 w5.heap.size ts) := F8.out.below b9 (fun _ => by omega)
      have B9 : Hid (Below w.heap.size w w9) := B8.out.trans (b9.mono (by omega))
      clear hg9 b9 A8 G8 F8
      go_wp2_with fail
      refine (nod_eq_row _ _ w5.heap.size w8.heap.size ts.length ts.length ts HZ.out (fun _ => rfl) (fun _ => rfl) w9 F9.out G9.out).mono ?_
      rintro e w10 ⟨rfl, b10⟩
      have s10 := b10.size
      have U10 : Hid (NodAt w10 w6.heap.size us) := U9.out.below b10 (fun _ => by omega)
      have B10 : Hid (Below w.heap.size w w10) := B9.out.trans (b10.mono (by omega))
      have A10 : Hid (ANods w10 b2 o2 us) := HA2.out.below B10.out (fun h => HA2.out.lt h)
      clear b10 F9 G9 U9
      go_wp2_with fail
      refine (nod_to_row a2 b2 o2 cap2 us hne2 HZ2.out w10 A10.out).mono ?_
      rintro e w11 ⟨rfl, hg11, b11⟩
      have s11 := b11.size
      have G11 : Hid (NodAt w11 w10.heap.size us) := nod_of_room hg11
      have U11 : Hid (NodAt w11 w6.heap.size us) := U10.out.below b11 (fun _ => by omega)
      have B11 : Hid (Below w.heap.size w w11) := B10.out.trans (b11.mono (by omega))
      clear hg11 b11 A10 U10
      go_wp2_with fail
      refine (nod_eq_row _ _ w6.heap.size w10.heap.size us.length us.length us HZ2.out (fun _ => rfl) (fun _ => rfl) w11 U11.out G11.out).mono ?_
      rintro e w12 ⟨rfl, b12⟩
      go_wp2
      go_ret
      exact ⟨rfl, B11.out.trans (b12.mono (by omega))⟩

set_option maxRecDepth 100000 in
theorem lifted (ask : Asked) (os : Os) (started : os.Started) (H : Type) (enc : TypeId × Value → H) :
    ReturnsInHanded {} Tryz.checked os 5 .any (Rows.fnExactAlphaSameSpec.pre6 enc Tryz.prog Tryz.f5 Rows.fnExactAlphaSameRow.domain false) (Rows.fnExactAlphaSameSpec.post enc Tryz.prog Tryz.f5 false true false false) := by
  refine returnsInHanded_of_change (C := Tryz.checked) own started (by kernel_rfl) Tryz.func5
    (ChangeSpec.witness6 (enc := enc) (C := Tryz.checked) false ⟨#[], #[.slice none 0 0, .slice none 0 0], []⟩ 8 (by kernel_rfl) (by kernel_rfl) (by kernel_rfl) (by kernel_rfl)) ?_
  intro W base args ds gs before hval0 hW hcnd _
  have hval : ∀ (j : Nat) t v, Tryz.f5.params[j]? = some t → args[j]? = some v → Value.okWide Tryz.prog W .any base t v := hval0
  have hW' := hW
  obtain ⟨p, q, hA0, hV, rfl, hfz, hnd⟩ := hW
  have hA : DataW.TrodAll enc Tryz.prog W 0 (fun _ => true) true Tryz.f5.params.toList args.toList ds p := hA0
  rw [Tryz.params5] at hA hval
  obtain ⟨v0, vs0, d0, ds0, p0, q0, hargs, rfl, rfl, h0, r0⟩ := trodAll_cons hA
  obtain ⟨v1, vs1, d1, ds1, p1, q1, rfl, rfl, rfl, h1, r1⟩ := trodAll_cons r0
  obtain ⟨rfl, rfl, rfl⟩ := trodAll_nil r1
  obtain rfl : args = #[v0, v1] := by cases args; simp_all
  obtain ⟨rfl, rfl⟩ := trodVars_none hV
  obtain ⟨a0, len0, cap0, rfl⟩ := okWide_slice Tryz.underlying43 (hval 0 43 v0 rfl rfl)
  have k0 := h0
  have lt0 : ∀ x ∈ p0, x.block < W.heap.size := by obtain ⟨m, hm⟩ := k0; exact DataW.trod_lt m _ _ _ hm
  obtain ⟨fuel0, hf0⟩ := h0
  obtain ⟨ts0, b0, o0, rfl, hne0, hm0, hst0, hrow0⟩ := open_nods (by simpa [Value.cells] using hf0)
  obtain ⟨a1, len1, cap1, rfl⟩ := okWide_slice Tryz.underlying43 (hval 1 43 v1 rfl rfl)
  have k1 := h1
  have lt1 : ∀ x ∈ p1, x.block < W.heap.size := by obtain ⟨m, hm⟩ := k1; exact DataW.trod_lt m _ _ _ hm
  obtain ⟨fuel1, hf1⟩ := h1
  obtain ⟨ts1, b1, o1, rfl, hne1, hm1, hst1, hrow1⟩ := open_nods (by simpa [Value.cells] using hf1)
  clear hA0 hval0
  refine (walk ask a0 b0 o0 cap0 ts0 hne0 hm0 hst0 a1 b1 o1 cap1 ts1 hne1 hm1 hst1 W hrow0 hrow1).mono fun e W' ⟨he, bel⟩ => ?_
  subst he
  exact ⟨_, rfl, _, _, _, [], _, [], hW', trodAll_mk1 (shut_bool Tryz.underlying4 _), (trodAll_cons_mk (Below.trod laidOut (by kernel_rfl) (of_decide_eq_true (by kernel_rfl)) k0 bel lt0) (trodAll_cons_mk (Below.trod laidOut (by kernel_rfl) (of_decide_eq_true (by kernel_rfl)) k1 bel lt1) trodAll_mk0)), rfl, bel.frame _, fun h => by cases h⟩

theorem over (ask : Asked) : Rows.fnExactAlphaSameRow.holds Tryz.pinned (OpenSpec.ofChange Rows.fnExactAlphaSameSpec) :=
  OpenClaim.holds_of_wide 5 Tryz.f5 rfl rfl rfl rfl rfl rfl rfl ⟨rfl, rfl, rfl, rfl, rfl⟩ rfl rfl rfl rfl rfl (by kernel_rfl) Tryz.func5 (by kernel_rfl)
    (of_decide_eq_true (by kernel_rfl)) (by unfold Func.isWrapper; first | (rw [if_pos (by decide +kernel)]; kernel_rfl) | (rw [if_neg (by decide +kernel)]; exact ⟨rfl, rfl⟩))
    (fun os started H enc _ => lifted ask os started H enc)
end Go.Proofs.YtjiggiglagmloaaGreat.fnExactAlphaSame

namespace Go.Proofs.YtjiggiglagmloaaGreat.fnExactAlphaSame
open Go.ChangeShapes Go.WideShapes Go.ChangeAt Go.RowKit
set_option linter.unusedVariables false

theorem asked : Asked := fun g h ca cb ts us h1 h2 h3 h4 w h5 h6 => impl_alpha g h ca cb ts us h1 h2 h3 h4 w h5 h6

theorem proved : Rows.FnExactAlphaSameSaid :=
  over asked
#print axioms proved
end Go.Proofs.YtjiggiglagmloaaGreat.fnExactAlphaSame

namespace Go.Proofs.YtjiggiglagmloaaGreat
theorem fnExactAlphaSame_holds : Rows.FnExactAlphaSameSaid := fnExactAlphaSame.proved
#print axioms fnExactAlphaSame_holds
end Go.Proofs.YtjiggiglagmloaaGreat
