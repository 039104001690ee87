/-
  Types as they landed: does a variable stand in a type. Conditions: written at each theorem.
-/
import Derived.Test.YtjjanmccijghgaaDoorHs
import Derived.Test.YtjjanmccijghgaaDoorHu
namespace Go.Proofs.YtjjanmccijghgaaDoor
open Go.ChangeShapes Go.WideShapes Go.ChangeAt Go.RowKit
set_option linter.unusedVariables false

def anyQ (f : Nat → Bool) (n : Nat) : Nat → Bool
  | 0 => false
  | k + 1 => f (n - (k + 1)) || anyQ f n k

theorem anyQ_kids (v : Nat) (ρ : Nat → Tr) (ks : List Int) : ∀ k, k ≤ ks.length → anyQ (fun q => occT v (ρ (ks.getD q 0).toNat)) ks.length k = occK v ρ (ks.drop (ks.length - k))
  | 0, _ => by rw [anyQ, Nat.sub_zero, List.drop_eq_nil_of_le (Nat.le_refl _)]; rfl
  | k + 1, h => by
    rw [anyQ, anyQ_kids v ρ ks k (by omega), occK_drop v ρ ks (ks.length - (k + 1)) (by omega), show ks.length - (k + 1) + 1 = ks.length - k by omega]

set_option maxHeartbeats 1000000 in
set_option maxRecDepth 20000 in
theorem lib_indexFuncP (a : Option Addr) (G c : Nat) (bl : Nat → Nat) (ks : List Int) (ib : Nat) (f : Nat → Bool) (ha : 0 < ks.length → a = some ⟨G, 0, none⟩) (hl : ks.length ≤ 1000) (w : World) (hK : PtrAt w G bl ks)
    (hf : ∀ (q : Nat) (W : World), q < ks.length → Below w.heap.size w W → Calls Tryd.prog 53 #[shP bl (ks.getD q 0).toNat, .pointer (some ⟨ib, 0, none⟩)] W fun e w' => e = .returned (.bool (f q)) ∧ Below W.heap.size W w') :
    Calls Tryd.prog 60 #[.slice a ks.length c, .func (.func 53) #[] #[.pointer (some ⟨ib, 0, none⟩)]] w fun e w' => (∃ r : Int, e = .returned (.int .i64 r) ∧ (decide (r ≥ 0) = anyQ f ks.length ks.length)) ∧ Below w.heap.size w w' := by
  have HK : Hid (PtrAt w G bl ks) := hK
  have HF : Hid (∀ (q : Nat) (W : World), q < ks.length → Below w.heap.size w W → Calls Tryd.prog 53 #[shP bl (ks.getD q 0).toNat, .pointer (some ⟨ib, 0, none⟩)] W fun e w' => e = .returned (.bool (f q)) ∧ Below W.heap.size W w') := hf
  clear hK hf
  go_enter Tryd.func60, Tryd.ntmps60
  go_wp2
  go_loopw [8] (fun iv wr => ∃ q : Nat, iv = .int .i64 q ∧ q ≤ ks.length ∧ Hid (anyQ f ks.length ks.length = anyQ f ks.length (ks.length - q)) ∧ Below w.heap.size w wr) (fun iv _ => ks.length - (intOf iv).toNat)
  case atStart => exact ⟨0, rfl, by omega, rfl, Below.refl _ _⟩
  case round =>
    obtain ⟨q, rfl, hq, HA, hb⟩ := hrel
    have hbs := hb.size
    by_cases hin : q < ks.length
    · have e1 : (q : Int) < ks.length := by omega
      obtain rfl := ha (by omega)
      have ck := (HK.out.below hb (fun h => HK.out.lt h)) q hin
      have HC : Hid (Calls _ _ _ _ _) := HF.out q wr hin hb
      have HS : Hid (anyQ f ks.length (ks.length - q) = (f q || anyQ f ks.length (ks.length - (q + 1)))) := by
        show _ = _
        obtain ⟨d, hd⟩ : ∃ d, ks.length - q = d + 1 := ⟨ks.length - q - 1, by omega⟩
        rw [hd, anyQ, show ks.length - (d + 1) = q by omega, show ks.length - (q + 1) = d by omega]
      generalize f q = bq at HC HS
      generalize (ks.getD q 0).toNat = m at *
      cases bq
      · have HN : Hid (anyQ f ks.length ks.length = anyQ f ks.length (ks.length - (q + 1))) := by show _ = _; rw [HA.out, HS.out, Bool.false_or]
        clear HA HS
        go_wp2_with fail
        refine HC.out.mono ?_
        rintro e w3 ⟨rfl, b3⟩
        have hb3 : Below w.heap.size w w3 := hb.trans (b3.mono hbs)
        clear b3 hb ck
        go_wp2
        go_roundw
        case rel => exact ⟨q + 1, by go_num, by omega, HN, hb3⟩
        case measure => simp [intOf]; omega
      · have HV : Hid (anyQ f ks.length ks.length = true) := by show _ = _; rw [HA.out, HS.out, Bool.true_or]
        clear HA HS
        go_wp2_with fail
        refine HC.out.mono ?_
        rintro e w3 ⟨rfl, b3⟩
        have hb3 : Below w.heap.size w w3 := hb.trans (b3.mono hbs)
        clear b3 hb ck
        go_wp2
        go_ret
        exact ⟨⟨_, rfl, by rw [HV.out]; exact decide_eq_true (by omega)⟩, hb3⟩
    · have HV : Hid (anyQ f ks.length ks.length = false) := by
        show _ = _
        rw [HA.out, show ks.length - q = 0 by omega]
        rfl
      clear HA
      go_wp2
      go_ret
      exact ⟨⟨_, rfl, by rw [HV.out]; rfl⟩, hb⟩

theorem lib_anyP (a : Option Addr) (G c : Nat) (bl : Nat → Nat) (ks : List Int) (ib : Nat) (f : Nat → Bool) (ha : 0 < ks.length → a = some ⟨G, 0, none⟩) (hl : ks.length ≤ 1000) (w : World) (hK : PtrAt w G bl ks)
    (hf : ∀ (q : Nat) (W : World), q < ks.length → Below w.heap.size w W → Calls Tryd.prog 53 #[shP bl (ks.getD q 0).toNat, .pointer (some ⟨ib, 0, none⟩)] W fun e w' => e = .returned (.bool (f q)) ∧ Below W.heap.size W w') :
    Calls Tryd.prog 52 #[.slice a ks.length c, .func (.func 53) #[] #[.pointer (some ⟨ib, 0, none⟩)]] w fun e w' => e = .returned (.bool (anyQ f ks.length ks.length)) ∧ Below w.heap.size w w' := by
  have HC : Hid (Calls _ _ _ _ _) := lib_indexFuncP a G c bl ks ib f ha hl w hK hf
  clear hK hf
  go_enter Tryd.func52, Tryd.ntmps52
  go_wp2_with fail
  refine HC.out.mono ?_
  rintro e w2 ⟨⟨r, rfl, hr⟩, b2⟩
  have HR : Hid (decide (r ≥ 0) = anyQ f ks.length ks.length) := hr
  clear hr
  go_wp2
  go_ret
  exact ⟨by rw [← HR.out] <;> rfl, b2⟩

set_option maxHeartbeats 1000000 in
set_option maxRecDepth 20000 in
theorem impl_holds {ts : List Typ} {r : Nat → Nat} {ρ : Nat → Tr} (h : Ok ts r ρ) (bl : Nat → Nat) (v : Nat) (hv : v < ts.length) (hv0 : (ts.getD v noTyp).kind = 0) (hva : (ts.getD v noTyp).a < 0) : ∀ (K i : Nat), i < ts.length → r i < K → ∀ w : World, Shp w bl ts →
    Calls Tryd.prog 41 #[shP bl i, shP bl v] w fun e w' => e = .returned (.bool (occT v (ρ i))) ∧ Below w.heap.size w w' := by
  intro K
  induction K with
  | zero => intro i _ h; omega
  | succ K ih =>
    intro i hi hK w hS
    obtain ⟨wa, hwa⟩ : ∃ wa, w.alloc (.cells #[shP bl v] 47) = wa := ⟨_, rfl⟩
    have HWA : Hid (w.alloc (.cells #[shP bl v] 47) = wa) := hwa
    have hba : Below w.heap.size w wa := by rw [← hwa]; exact (Below.refl _ w).alloc (Nat.le_refl _) _
    have cv : wa.cell? ⟨w.heap.size, 0, none⟩ = some (shP bl v) := by rw [← hwa, World.cell?_alloc_at _ _ _ _ rfl]; rfl
    have HS : Hid (Shp wa bl ts) := hS.below hba
    have HB : Hid (Below w.heap.size w wa) := hba
    have HF0 : Hid (Calls _ _ _ _ _) := impl_follow h bl i hi wa HS.out
    have HH : Hid (Ok ts r ρ) := h
    have IH : Hid (_) := ih
    have HV0 : Hid ((ts.getD v noTyp).kind = 0) := hv0
    have hsa : wa.heap.size = w.heap.size + 1 := by rw [← hwa]; simp
    have HSA : Hid (wa.heap.size = w.heap.size + 1) := hsa
    clear hS h ih hv0 hba hwa hsa
    go_enter Tryd.func41, Tryd.ntmps41
    go_wp2_with fail
    rw [HWA.out]
    refine HF0.out.mono ?_
    rintro e w2 ⟨⟨j, rfl, hf⟩, rfl⟩
    have HF : Hid (Found ts r ρ i j) := hf
    have hj := hf.lt
    have heq := ptr_eq HS.out hj hv
    have HP : Hid (Calls _ _ _ _ _) := impl_parts bl ts j hj hf.up w2 HS.out
    clear hf
    by_cases hjv : j = v
    · subst hjv
      have HV : Hid (occT j (ρ i) = true) := by
        show _ = _
        rw [← HF.out.same, HH.out.free j hv HV0.out hva]
        simp [varT, occT]
      rw [decide_eq_true rfl] at heq
      go_wp2
      go_ret
      exact ⟨by rw [HV.out] <;> rfl, HB.out⟩
    · have hoc : occT v (ρ i) = occK v ρ (kidZ (ts.getD j noTyp)) := by
        by_cases h0 : (ts.getD j noTyp).kind = 0
        · have hup := HF.out.up h0
          rw [← HF.out.same, HH.out.free j hj h0 hup, show kidZ (ts.getD j noTyp) = [] by unfold kidZ; rw [if_pos h0, if_neg (by omega)]]
          simp [varT, occT, occK, hjv]
        · rw [← HF.out.same, HH.out.con hj h0]
          exact occ_rhs v _ ρ h0
      have hks : ∀ q, q < (kidZ (ts.getD j noTyp)).length → ((kidZ (ts.getD j noTyp)).getD q 0).toNat < ts.length ∧ r ((kidZ (ts.getD j noTyp)).getD q 0).toNat < K := fun q hq => by
        have hmem := ks_mem _ q hq
        have h1 := HH.out.rk j hj _ hmem
        have h2 := (HH.out.ent j hj).kids _ hmem
        have h3 := HF.out.rk
        exact ⟨by omega, by omega⟩
      have hkl := kidZ_length (ts.getD j noTyp)
      unfold ParEnd at HP
      generalize kidZ (ts.getD j noTyp) = ks at *
      have HKS : Hid (∀ q, q < ks.length → (ks.getD q 0).toNat < ts.length ∧ r (ks.getD q 0).toNat < K) := hks
      have HV : Hid (occT v (ρ i) = anyQ (fun q => occT v (ρ (ks.getD q 0).toNat)) ks.length ks.length) := by
        show _ = _
        rw [anyQ_kids v ρ ks ks.length (Nat.le_refl _), hoc, Nat.sub_self, List.drop_zero]
      clear hoc hks
      rw [decide_eq_false hjv] at heq
      go_wp2_with fail
      refine HP.out.mono ?_
      rintro e w3 ⟨ka, G, kc, rfl, hka, hkA, b3⟩
      have HB3 : Hid (Below w.heap.size w w3) := HB.out.trans (b3.mono HB.out.size)
      have HL : Hid (Calls _ _ _ _ _) := lib_anyP ka G kc bl ks w.heap.size (fun q => occT v (ρ (ks.getD q 0).toNat)) hka (by omega) w3 hkA (fun q W hq hW => by
        have cW : W.cell? ⟨w.heap.size, 0, none⟩ = some (shP bl v) := (World.cell?_of_block ((b3.trans (hW.mono b3.size)).block w.heap.size (by have := HSA.out; show w.heap.size < _; omega))).trans cv
        have HI : Hid (Calls _ _ _ _ _) := IH.out _ (HKS.out q hq).1 (HKS.out q hq).2 W ((HS.out.below b3).below (hW))
        generalize (ks.getD q 0).toNat = m at *
        generalize occT v (ρ m) = bo at *
        go_enter Tryd.func53, Tryd.ntmps53
        go_wp2_with fail
        refine HI.out.mono ?_
        rintro e w5 ⟨rfl, b5⟩
        go_wp2
        go_ret
        exact ⟨rfl, b5⟩)
      clear hkA b3 HP
      go_wp2_with fail
      refine HL.out.mono ?_
      rintro e w4 ⟨rfl, b4⟩
      have B4 : Below w.heap.size w w4 := HB3.out.trans (b4.mono HB3.out.size)
      go_wp2
      go_ret
      exact ⟨by rw [HV.out] <;> rfl, B4⟩
end Go.Proofs.YtjjanmccijghgaaDoor
