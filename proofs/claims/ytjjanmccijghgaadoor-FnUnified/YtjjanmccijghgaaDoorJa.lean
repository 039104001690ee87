/-
  Types as they landed: two shapes are made one, the walks. Conditions: written at each theorem.
-/
import Derived.Test.YtjjanmccijghgaaDoorIz
namespace Go.Proofs.YtjjanmccijghgaaDoor
open Go.ChangeShapes Go.WideShapes Go.ChangeAt Go.RowKit
set_option linter.unusedVariables false

theorem PtrAt.shm {w w' : World} {G : Nat} {bl : Nat → Nat} {ks : List Int} {u : List Typ} (h : PtrAt w G bl ks) (hS : Shp w bl u) (hm : Shm bl u.length w w') : PtrAt w' G bl ks := fun q hq => by
  have h0 := h 0 (by omega)
  have hne : ∀ i, i < u.length → bl i ≠ G := fun i hi e => by
    have := (hS.cells hi).1
    rw [e, h0] at this
    cases this
  exact (World.cell?_of_block (hm.block G (typ_lt h0) hne)).trans (h q hq)

/-- What is asked of makeOne for what is smaller. -/
def MkIH (bl : Nat → Nat) (E : Value) (u : List Typ) (S : Nat) : Prop :=
  ∀ (v : List Typ) (r' : Nat → Nat) (ρ' : Nat → Tr) (m n : Nat), Ok v r' ρ' → v.length = u.length → m < v.length → n < v.length → (nfT v < nfT u ∨ (nfT v ≤ nfT u ∧ sizeT (ρ' m) < S)) → ∀ W : World, Shp W bl v → ErrAt W E →
    Calls Tryd.prog 19 #[shP bl m, shP bl n] W (MkEnd bl E v ρ' m n W)

set_option maxHeartbeats 2000000 in
set_option maxRecDepth 20000 in
theorem impl_makeParts {u : List Typ} {r : Nat → Nat} {ρ : Nat → Tr} (h : Ok u r ρ) (bl : Nat → Nat) (tp : TypeId) (p : Value) (heg : ∀ i, i < u.length → bl i ≠ 0) (i j : Nat) (hi : i < u.length) (hj : j < u.length) (hij : i ≠ j) (ki : (u.getD i noTyp).kind ≠ 0) (kj : (u.getD j noTyp).kind ≠ 0) (hk : (u.getD i noTyp).kind = (u.getD j noTyp).kind)
    (hIH : MkIH bl (.iface tp p) u (sizeT (ρ i))) (w : World) (hS : Shp w bl u) (hE : ErrAt w (.iface tp p)) :
    Calls Tryd.prog 33 #[shP bl i, shP bl j] w (MkEnd bl (.iface tp p) u ρ i j w) := by
  have HS : Hid (Shp w bl u) := hS
  have HE : Hid (ErrAt w (.iface tp p)) := hE
  have HP1 : Hid (∀ W, Shp W bl u → Calls Tryd.prog 43 #[shP bl i] W (ParEnd W bl (kidZ (u.getD i noTyp)))) := fun W hW => impl_parts bl u i hi (fun q => absurd q ki) W hW
  have HP2 : Hid (∀ W, Shp W bl u → Calls Tryd.prog 43 #[shP bl j] W (ParEnd W bl (kidZ (u.getD j noTyp)))) := fun W hW => impl_parts bl u j hj (fun q => absurd q kj) W hW
  have hkq := fun τ => rhs_kids (t := u.getD i noTyp) (t' := u.getD j noTyp) hk ki τ
  have hlen := (hkq (fun _ => .nil)).1
  have hkl := kidZ_length (u.getD i noTyp)
  have HKS : Hid (∀ q, q < (kidZ (u.getD i noTyp)).length → ((kidZ (u.getD i noTyp)).getD q 0).toNat < u.length ∧ sizeT (ρ ((kidZ (u.getD i noTyp)).getD q 0).toNat) < sizeT (ρ i) ∧ ∀ τ, Sat u τ → sizeT (τ ((kidZ (u.getD i noTyp)).getD q 0).toNat) < sizeT (τ i)) := fun q hq => by
    have hmem := ks_mem _ q hq
    have h2 := (h.ent i hi).kids _ hmem
    refine ⟨by omega, ?_, fun τ hs => ?_⟩
    · rw [h.con hi ki]
      exact rhs_kid_size ki hmem
    · have h1 := hs i hi
      unfold eqnT at h1
      rw [if_neg ki] at h1
      rw [h1]
      exact rhs_kid_size ki hmem
  have HLS : Hid (∀ q, q < (kidZ (u.getD j noTyp)).length → ((kidZ (u.getD j noTyp)).getD q 0).toNat < u.length) := fun q hq => by
    have h2 := (h.ent j hj).kids _ (ks_mem _ q hq)
    omega
  have HALL : Hid (∀ τ, Sat u τ → (τ i = τ j ↔ ∀ q, q < (kidZ (u.getD i noTyp)).length → τ ((kidZ (u.getD i noTyp)).getD q 0).toNat = τ ((kidZ (u.getD j noTyp)).getD q 0).toNat)) := fun τ hs => by
    have h1 := hs i hi
    have h2 := hs j hj
    unfold eqnT at h1 h2
    rw [if_neg ki] at h1
    rw [if_neg kj] at h2
    rw [h1, h2]
    exact (hkq τ).2
  have HIH : Hid (MkIH bl (.iface tp p) u (sizeT (ρ i))) := hIH
  have HEG : Hid (∀ i, i < u.length → bl i ≠ 0) := heg
  have HKI : Hid ((u.getD i noTyp).kind ≠ 0) := ki
  have HKJ : Hid ((u.getD j noTyp).kind ≠ 0) := kj
  have HOK : Hid (Ok u r ρ) := h
  unfold ParEnd at HP1 HP2
  generalize kidZ (u.getD i noTyp) = ks at *
  generalize kidZ (u.getD j noTyp) = ls at *
  clear hS hE hkq hIH heg ki kj hk h
  go_enter Tryd.func33, Tryd.ntmps33
  go_wp2_with fail
  refine (HP2.out w HS.out).mono ?_
  rintro e w2 ⟨la, G2, lc, rfl, hla, hL, b2⟩
  have HS2 : Hid (Shp w2 bl u) := HS.out.below b2
  have HL2 : Hid (PtrAt w2 G2 bl ls) := hL
  have HM2 : Hid (Shm bl u.length w w2) := Shm.of_below b2
  clear hL b2
  go_wp2_with fail
  refine (HP1.out w2 HS2.out).mono ?_
  rintro e w3 ⟨ka, G1, kc, rfl, hka, hK, b3⟩
  have HS3 : Hid (Shp w3 bl u) := HS2.out.below b3
  have HL3 : Hid (PtrAt w3 G2 bl ls) := HL2.out.below b3 (fun h => HL2.out.lt h)
  have HK3 : Hid (PtrAt w3 G1 bl ks) := hK
  have HM3 : Hid (Shm bl u.length w w3) := HM2.out.trans (Shm.of_below b3)
  have HP0 : Hid (PartM u ρ i ks ls 0 u ρ) := ⟨rfl, ⟨r, HOK.out⟩, Or.inr fun _ _ => rfl, fun τ => ⟨fun h => ⟨h, fun p hp => absurd hp (by omega)⟩, fun h => h.1⟩, fun _ h => h, fun z _ h1 h2 => absurd h2 h1⟩
  clear hK b3 HL2 HS2 HM2 HP1 HP2 HS
  go_wp2
  go_loopw [14] (fun iv wr => ∃ (q : Nat) (v : List Typ) (ρv : Nat → Tr), iv = .int .i64 q ∧ q ≤ ks.length ∧ Hid (Shp wr bl v) ∧ Hid (Shm bl u.length w3 wr) ∧ Hid (PartM u ρ i ks ls q v ρv)) (fun iv _ => ks.length - (intOf iv).toNat)
  case atStart => exact ⟨0, u, ρ, rfl, by omega, HS3, Shm.of_below (Below.refl _ _), HP0⟩
  case round =>
    obtain ⟨q, v, ρv, rfl, hq, HSr, HMr, HPr⟩ := hrel
    clear HP0
    have hvl := HPr.out.len
    by_cases hin : q < ks.length
    · have hin' : (q : Int) < ks.length := by omega
      have hin2 : (q : Int) < ls.length := by omega
      obtain rfl := hka (by omega)
      obtain rfl := hla (by omega)
      have ck := (HK3.out.shm HS3.out HMr.out) q hin
      have cl := (HL3.out.shm HS3.out HMr.out) q (by omega)
      obtain ⟨hm, hms, hmt⟩ := HKS.out q hin
      have hn := HLS.out q (by omega)
      have HEr : Hid (ErrAt wr (.iface tp p)) := by
        have h1 : Shm bl u.length w wr := HM3.out.trans HMr.out
        exact HE.out.shm h1 HEG.out
      obtain ⟨rv, hov⟩ := HPr.out.ok
      have HC : Hid (Calls _ _ _ _ _) := HIH.out v rv ρv _ _ hov hvl (by rw [hvl]; exact hm) (by rw [hvl]; exact hn) (by
        rcases HPr.out.same with e | e
        · exact Or.inl e
        · exact Or.inr ⟨nf_le u v hvl HPr.out.free, by rw [e _ hm]; exact hms⟩) wr HSr.out HEr.out
      have HNX : Hid (∀ v', MkOk v ρv (ks.getD q 0).toNat (ls.getD q 0).toNat true v' → ∃ ρv', PartM u ρ i ks ls (q + 1) v' ρv') := fun v' hu => HPr.out.next hmt hu
      have HFL : Hid (∀ v', MkOk v ρv (ks.getD q 0).toNat (ls.getD q 0).toNat false v' → MkOk u ρ i j false v') := fun v' hu => HPr.out.fail hin hmt hu HALL.out
      unfold MkEnd at HC
      rw [hvl] at HC
      generalize (ks.getD q 0).toNat = m at *
      generalize (ls.getD q 0).toNat = n at *
      clear hov hvl hms hmt
      go_wp2_with fail
      refine HC.out.mono ?_
      rintro e w5 ⟨v', hv', hS5, hm5⟩
      have HS5 : Hid (Shp w5 bl v') := hS5
      have HM5 : Hid (Shm bl u.length w3 w5) := HMr.out.trans hm5
      clear hS5 hm5 HC ck cl
      rcases hv' with ⟨rfl, hu⟩ | ⟨rfl, hu⟩
      · obtain ⟨ρv', hp'⟩ := HNX.out v' hu
        have HP' : Hid (PartM u ρ i ks ls (q + 1) v' ρv') := hp'
        clear hu hp'
        go_wp2
        go_roundw
        case rel => exact ⟨q + 1, v', ρv', by go_num, by omega, HS5, HM5.out, HP'⟩
        case measure => simp [intOf]; omega
      · have HU : Hid (MkOk u ρ i j false v') := HFL.out v' hu
        clear hu
        go_wp2
        go_ret
        exact ⟨v', Or.inr ⟨rfl, HU.out⟩, HS5.out, HM3.out.trans HM5.out⟩
    · obtain rfl : q = ks.length := by omega
      have HU : Hid (MkOk u ρ i j true (v.set i (linkT j))) := HPr.out.done hi hj hij HKI.out HKJ.out HALL.out
      have HC : Hid (Calls _ _ _ _ _) := impl_pointTo bl v i j (by rw [hvl]; exact hi) wr HSr.out
      rw [hvl] at HC
      clear hvl
      go_wp2_with fail
      refine HC.out.mono ?_
      rintro e w5 ⟨rfl, hS5, hm5⟩
      have HS5 : Hid (Shp w5 bl (v.set i (linkT j))) := hS5
      have HM5 : Hid (Shm bl u.length w w5) := (HM3.out.trans HMr.out).trans hm5
      clear hS5 hm5
      go_wp2
      go_ret
      exact ⟨_, Or.inl ⟨rfl, HU.out⟩, HS5.out, HM5.out⟩
end Go.Proofs.YtjjanmccijghgaaDoor
