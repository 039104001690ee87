/-
  Types as they landed: two shapes are made one, the whole. Conditions: written at each theorem.
-/
import Derived.Test.YtjjanmccijghgaaDoorJa
namespace Go.Proofs.YtjjanmccijghgaaDoor
open Go.ChangeShapes Go.WideShapes Go.ChangeAt Go.RowKit
set_option linter.unusedVariables false

set_option maxHeartbeats 2000000 in
set_option maxRecDepth 20000 in
theorem impl_make (bl : Nat → Nat) (tp : TypeId) (p : Value) (nn : Nat) (heg : ∀ i, i < nn → bl i ≠ 0) : ∀ (N K : Nat) (u : List Typ) (r : Nat → Nat) (ρ : Nat → Tr) (x y : Nat), Ok u r ρ → u.length = nn → x < u.length → y < u.length → nfT u < N → sizeT (ρ x) < K → ∀ w : World, Shp w bl u → ErrAt w (.iface tp p) →
    Calls Tryd.prog 19 #[shP bl x, shP bl y] w (MkEnd bl (.iface tp p) u ρ x y w) := by
  intro N
  induction N with
  | zero => intro K u r ρ x y _ _ _ _ h; omega
  | succ N ihN =>
  intro K
  induction K with
  | zero => intro u r ρ x y _ _ _ _ _ h; omega
  | succ K ihK =>
  intro u r ρ x y h hl hx hy hN hK w hS hE
  have HS : Hid (Shp w bl u) := hS
  have HE : Hid (ErrAt w (.iface tp p)) := hE
  have HH : Hid (Ok u r ρ) := h
  have HX : Hid (Calls _ _ _ _ _) := impl_follow h bl x hx w hS
  have HY : Hid (Calls _ _ _ _ _) := impl_follow h bl y hy w hS
  have HIH : Hid (MkIH bl (.iface tp p) u (sizeT (ρ x))) := fun v r' ρ' m n ho hvl hm hn hc W hW hEW => by
    rcases hc with hc | ⟨hc, hs⟩
    · exact ihN (sizeT (ρ' m) + 1) v r' ρ' m n ho (by omega) hm hn (by omega) (by omega) W hW hEW
    · exact ihK v r' ρ' m n ho (by omega) hm hn (by omega) (by omega) W hW hEW
  have HEG : Hid (∀ i, i < u.length → bl i ≠ 0) := fun i hi => heg i (by omega)
  clear hS hE h ihN ihK heg
  go_enter Tryd.func19, Tryd.ntmps19
  go_wp2_with fail
  refine HX.out.mono ?_
  rintro e w1 ⟨⟨i, rfl, hf⟩, rfl⟩
  have HF : Hid (Found u r ρ x i) := hf
  have hi := hf.lt
  clear hf
  go_wp2_with fail
  refine HY.out.mono ?_
  rintro e w2 ⟨⟨j, rfl, hf⟩, rfl⟩
  have HF2 : Hid (Found u r ρ y j) := hf
  have hj := hf.lt
  clear hf HX HY
  have HR : Hid (∀ v u', MkOk u ρ i j v u' → MkOk u ρ x y v u') := fun v u' hu => hu.roots HH.out hx hy hi hj HF.out.same HF2.out.same
  have heq := ptr_eq HS.out hi hj
  by_cases hij : i = j
  · subst hij
    rw [decide_eq_true rfl] at heq
    have HU : Hid (MkOk u ρ x y true u) := mk_eq HH.out hx hy (by rw [← HF.out.same, HF2.out.same])
    go_wp2
    go_ret
    exact ⟨u, Or.inl ⟨rfl, HU.out⟩, HS.out, Shm.of_below (Below.refl _ _)⟩
  rw [decide_eq_false hij] at heq
  have ci := (HS.out.cells hi).1
  have cj := (HS.out.cells hj).1
  have HIJ : Hid (i ≠ j) := hij
  obtain ⟨ki, hki⟩ : ∃ k, (u.getD i noTyp).kind = k := ⟨_, rfl⟩
  obtain ⟨kj, hkj⟩ : ∃ k, (u.getD j noTyp).kind = k := ⟨_, rfl⟩
  have HKI : Hid ((u.getD i noTyp).kind = ki) := hki
  have HKJ : Hid ((u.getD j noTyp).kind = kj) := hkj
  rw [hki] at ci
  rw [hkj] at cj
  clear hki hkj
  by_cases h0 : ki = 0
  · subst h0
    have HC : Hid (Calls _ _ _ _ _) := impl_stand HH.out bl tp p i j hi hj hij HKI.out (HF.out.up HKI.out) HF2.out.up w2 HS.out HE.out
    unfold MkEnd at HC
    clear hij
    go_wp2_with fail
    refine HC.out.mono ?_
    rintro e w3 ⟨u', hu', hS3, hm3⟩
    have HS3 : Hid (Shp w3 bl u') := hS3
    have HM3 : Hid (Shm bl u.length w2 w3) := hm3
    clear hS3 hm3 HC
    rcases hu' with ⟨rfl, hu⟩ | ⟨rfl, hu⟩
    · have HU : Hid (MkOk u ρ x y true u') := HR.out _ _ hu
      clear hu
      go_wp2
      go_ret
      exact ⟨u', Or.inl ⟨rfl, HU.out⟩, HS3.out, HM3.out⟩
    · have HU : Hid (MkOk u ρ x y false u') := HR.out _ _ hu
      clear hu
      go_wp2
      go_ret
      exact ⟨u', Or.inr ⟨rfl, HU.out⟩, HS3.out, HM3.out⟩
  by_cases h0' : kj = 0
  · subst h0'
    have HC : Hid (Calls _ _ _ _ _) := impl_stand HH.out bl tp p j i hj hi (fun e => hij e.symm) HKJ.out (HF2.out.up HKJ.out) HF.out.up w2 HS.out HE.out
    unfold MkEnd at HC
    clear hij
    go_wp2_with fail
    refine HC.out.mono ?_
    rintro e w3 ⟨u', hu', hS3, hm3⟩
    have HS3 : Hid (Shp w3 bl u') := hS3
    have HM3 : Hid (Shm bl u.length w2 w3) := hm3
    clear hS3 hm3 HC
    rcases hu' with ⟨rfl, hu⟩ | ⟨rfl, hu⟩
    · have HU : Hid (MkOk u ρ x y true u') := HR.out _ _ hu.turn
      clear hu
      go_wp2
      go_ret
      exact ⟨u', Or.inl ⟨rfl, HU.out⟩, HS3.out, HM3.out⟩
    · have HU : Hid (MkOk u ρ x y false u') := HR.out _ _ hu.turn
      clear hu
      go_wp2
      go_ret
      exact ⟨u', Or.inr ⟨rfl, HU.out⟩, HS3.out, HM3.out⟩
  by_cases hk : ki = kj
  · subst hk
    have HC : Hid (∀ W : World, Shp W bl u → ErrAt W (.iface tp p) → Calls Tryd.prog 33 #[shP bl i, shP bl j] W (MkEnd bl (.iface tp p) u ρ i j W)) := fun W hW hEW => impl_makeParts HH.out bl tp p HEG.out i j hi hj hij (by rw [HKI.out]; exact h0) (by rw [HKJ.out]; exact h0) (by rw [HKI.out, HKJ.out]) (by rw [HF.out.same]; exact HIH.out) W hW hEW
    unfold MkEnd at HC
    clear hij
    go_wp2
    go_quiet (fail)
    have HSn : Hid (Shp (w2.drewN nq) bl u) := ⟨HS.out.row, HS.out.inj⟩
    have HEn : Hid (ErrAt (w2.drewN nq) (.iface tp p)) := HE.out
    go_wp2_with fail
    refine (HC.out _ HSn.out HEn.out).mono ?_
    rintro e w3 ⟨u', hu', hS3, hm3⟩
    have HS3 : Hid (Shp w3 bl u') := hS3
    have HM3 : Hid (Shm bl u.length w2 w3) := ⟨hm3.os, hm3.tape, hm3.output, hm3.size, hm3.block⟩
    clear hS3 hm3 HC
    rcases hu' with ⟨rfl, hu⟩ | ⟨rfl, hu⟩
    · have HU : Hid (MkOk u ρ x y true u') := HR.out _ _ hu
      clear hu
      go_wp2
      go_ret
      exact ⟨u', Or.inl ⟨rfl, HU.out⟩, HS3.out, HM3.out⟩
    · have HU : Hid (MkOk u ρ x y false u') := HR.out _ _ hu
      clear hu
      go_wp2
      go_ret
      exact ⟨u', Or.inr ⟨rfl, HU.out⟩, HS3.out, HM3.out⟩
  · have HU : Hid (MkOk u ρ x y false u) := HR.out _ _ ⟨rfl, fun _ h => h, fun q => (by cases q), fun _ τ hs he => by
      have h1 := hs i hi
      have h2 := hs j hj
      unfold eqnT at h1 h2
      rw [HKI.out, if_neg h0] at h1
      rw [HKJ.out, if_neg h0'] at h2
      rw [h1, h2] at he
      have k1 := HH.out.ent i hi
      have k2 := HH.out.ent j hj
      exact (rhs_kinds (by rw [HKI.out, HKJ.out]; exact hk) (by rw [HKI.out]; exact h0) (by rw [HKJ.out]; exact h0') ⟨k1.k5, k1.k0⟩ ⟨k2.k5, k2.k0⟩ he).elim⟩
    clear hij
    go_wp2
    go_quiet (fail)
    have ce : (w2.drewN nq).cell? ⟨0, 0, none⟩ = some (.iface tp p) := HE.out
    go_wp2
    go_ret
    exact ⟨u, Or.inr ⟨rfl, HU.out⟩, ⟨HS.out.row, HS.out.inj⟩, ⟨rfl, rfl, rfl, Nat.le_refl _, fun _ _ _ => rfl⟩⟩
end Go.Proofs.YtjjanmccijghgaaDoor
