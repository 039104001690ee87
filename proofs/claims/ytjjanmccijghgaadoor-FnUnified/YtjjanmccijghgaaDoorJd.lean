/-
  Types as they landed: Unified. Conditions: written at each theorem.
-/
import Derived.Test.YtjjanmccijghgaaDoorJc
import Derived.Test.YtjjanmccijghgaaDoorIv
import Derived.Deep.RegionHeld3
namespace Go.Proofs.YtjjanmccijghgaaDoor
open Go.ChangeShapes Go.WideShapes Go.ChangeAt Go.RowKit
set_option linter.unusedVariables false

def errV (E : Value) : Bool → Value
  | true => .nilIface
  | false => E

abbrev errE (g : Addr) : Value := .iface 124 (.pointer (some g))

theorem lib_is (g : Addr) (bv : Bool) (w : World) : Calls Tryd.prog 18 #[errV (errE g) bv, errE g] w fun e w' => e = .returned (.bool (!bv)) ∧ w' = w := by
  cases bv
  · exact lib_is_same g w
  · exact lib_is_nil g w

theorem told_one (ts u : List Typ) (ρ : Nat → Tr) (m : Nat) (hm : m < u.length) : toldB u ρ m = decide (sizeT (ρ m) ≤ 60) := by
  unfold toldB
  apply decide_eq_decide.2
  rw [show ((m : Int)).toNat = m by omega]
  constructor
  · intro q; exact q.2.2
  · intro q; exact ⟨by omega, by omega, q⟩

set_option maxHeartbeats 2000000 in
set_option maxRecDepth 20000 in
theorem impl_unified (aa : Option Addr) (g cap : Nat) (ts : List Typ) (a b : Int) (eg : Addr) (hne : 0 < ts.length → aa = some ⟨g, 0, none⟩) (hl : ts.length ≤ 1048576) (w : World) (hp : ∀ w', Below w.heap.size w w' → PowIs w') (hE : ErrAt w (errE eg)) (hA : TypAt w g ts) :
    Calls Tryd.prog 7 #[.slice aa ts.length cap, .int .i64 a, .int .i64 b] w (UniRet ts a b w) := by
  have HC : Hid (Calls _ _ _ _ _) := impl_shapes aa g cap ts hne hl w hA
  have HP : Hid (∀ w', Below w.heap.size w w' → PowIs w') := hp
  have HE : Hid (ErrAt w (errE eg)) := hE
  have hgl : 0 < w.heap.size := typ_lt hE
  clear hA hp hE
  go_enter Tryd.func7, Tryd.ntmps7
  go_wp2_with fail
  refine HC.out.mono ?_
  rintro e w1 (⟨ht, rfl, b1⟩ | ⟨ht, bl, G, rfl, hS, hG, hg1, hg2, hgb, b1⟩)
  · have HV : Hid (UniE ts a b [] false) := by
      show UniE _ _ _ _ _
      unfold UniE
      rw [if_neg (fun q => by have := (siz_in q.1.1).1; rw [ht] at this; cases this)]
      exact ⟨rfl, rfl⟩
    have HT : Hid (Calls Tryd.prog 17 #[.slice none 0 0, .int .i64 a] w1 fun e w' => e = .returned (.bool false) ∧ Below w1.heap.size w1 w') := by
      show Calls _ _ _ _ _
      by_cases hi : 0 ≤ a
      · go_enter Tryd.func17, Tryd.ntmps17
        go_wp2
        go_ret
        exact ⟨rfl, Below.refl _ _⟩
      · go_enter Tryd.func17, Tryd.ntmps17
        go_wp2
        go_ret
        exact ⟨rfl, Below.refl _ _⟩
    clear ht
    go_wp2_with fail
    refine HT.out.mono ?_
    rintro e w2 ⟨rfl, b2⟩
    have B2 : Below w.heap.size w w2 := b1.trans (b2.mono b1.size)
    go_wp2
    go_ret2
    exact ⟨[], false, rfl, HV.out, B2⟩
  · obtain ⟨h40, r, hok⟩ := tab_ok ht
    have HOK : Hid (Ok ts r (solB ts)) := hok
    have HTT : Hid (tabB ts = true) := ht
    have HS : Hid (Shp w1 bl ts) := hS
    have HG : Hid (∀ i, i < ts.length → w1.cell? ⟨G, i, none⟩ = some (shP bl i)) := hG
    have HGB : Hid (∀ i, i < ts.length → G < bl i) := hgb
    have hs1 := b1.size
    have HB1 : Hid (Below w.heap.size w w1) := b1
    have HT1 : Hid (∀ (i : Int) (W : World), Below w1.heap.size w1 W → Calls Tryd.prog 17 #[.slice (some ⟨G, 0, none⟩) ts.length ts.length, .int .i64 i] W fun e w' => e = .returned (.bool (toldB ts (solB ts) i)) ∧ Below W.heap.size W w') := fun i W hW => impl_told HOK.out bl G i W (HS.out.below hW) (fun q hq => (World.cell?_of_block (hW.block G hg2)).trans (HG.out q hq)) (by omega)
    clear ht hok hS hG hgb b1 HC
    have HNA : Hid (toldB ts (solB ts) a = false → UniE ts a b [] false) := fun q => by
      have := told_no HTT.out q
      unfold UniE
      rw [if_neg (fun x => this x.1)]
      exact ⟨rfl, rfl⟩
    have HNB : Hid (toldB ts (solB ts) b = false → UniE ts a b [] false) := fun q => by
      have := told_no HTT.out q
      unfold UniE
      rw [if_neg (fun x => this x.2)]
      exact ⟨rfl, rfl⟩
    have HCA : Hid (Calls _ _ _ _ _) := HT1.out a w1 (Below.refl _ _)
    cases hta : toldB ts (solB ts) a
    · have HV : Hid (UniE ts a b [] false) := HNA.out hta
      rw [hta] at HCA
      clear hta HNA HNB
      go_wp2_with fail
      refine HCA.out.mono ?_
      rintro e w2 ⟨rfl, b2⟩
      have B2 : Below w.heap.size w w2 := HB1.out.trans (b2.mono hs1)
      go_wp2
      go_ret2
      exact ⟨[], false, rfl, HV.out, B2⟩
    rw [hta] at HCA
    obtain ⟨m, rfl, hm, hza, _, hsa⟩ := told_sho HTT.out hta
    clear hta HNA
    go_wp2_with fail
    refine HCA.out.mono ?_
    rintro e w2 ⟨rfl, b2⟩
    have HB2 : Hid (Below w1.heap.size w1 w2) := b2
    have hs2 := b2.size
    clear b2 HCA
    have HCB : Hid (Calls _ _ _ _ _) := HT1.out b w2 HB2.out
    cases htb : toldB ts (solB ts) b
    · have HV : Hid (UniE ts m b [] false) := HNB.out htb
      rw [htb] at HCB
      clear htb HNB
      go_wp2_with fail
      refine HCB.out.mono ?_
      rintro e w3 ⟨rfl, b3⟩
      have B3 : Below w.heap.size w w3 := HB1.out.trans ((HB2.out.trans (b3.mono hs2)).mono hs1)
      go_wp2
      go_ret2
      exact ⟨[], false, rfl, HV.out, B3⟩
    rw [htb] at HCB
    obtain ⟨n, rfl, hn, hzb, _, hsb⟩ := told_sho HTT.out htb
    clear htb HNB
    have HY : Hid (∀ s v, UniAns ts m n s v → UniE ts m n s v) := fun s v h => by
      unfold UniE
      rw [if_pos ⟨hsa, hsb⟩]
      simpa using h
    have hm' : (m : Int) < ts.length := by omega
    have hn' : (n : Int) < ts.length := by omega
    clear hsa hsb hza hzb
    go_wp2_with fail
    refine HCB.out.mono ?_
    rintro e w3 ⟨rfl, b3⟩
    have HB3 : Hid (Below w1.heap.size w1 w3) := HB2.out.trans (b3.mono hs2)
    have HBw3 : Hid (Below w.heap.size w w3) := HB1.out.trans (HB3.out.mono hs1)
    have hs3 := HB3.out.size
    have HS3 : Hid (Shp w3 bl ts) := HS.out.below HB3.out
    have HE3 : Hid (ErrAt w3 (errE eg)) := HE.out.below HBw3.out
    have cGm : w3.cell? ⟨G, m, none⟩ = some (shP bl m) := (World.cell?_of_block (HB3.out.block G hg2)).trans (HG.out m hm)
    have cGn : w3.cell? ⟨G, n, none⟩ = some (shP bl n) := (World.cell?_of_block (HB3.out.block G hg2)).trans (HG.out n hn)
    have cE : w3.cell? ⟨0, 0, none⟩ = some (errE eg) := HE3.out
    have HMK : Hid (∀ W : World, Shp W bl ts → ErrAt W (errE eg) → Calls Tryd.prog 19 #[shP bl m, shP bl n] W fun e w' => ∃ (bv : Bool) (u' : List Typ), e = .returned (errV (errE eg) bv) ∧ MkOk ts (solB ts) m n bv u' ∧ Shp w' bl u' ∧ Shm bl ts.length W w') := fun W hW hEW => by
      refine (impl_make bl _ _ ts.length (fun i hi => by have := HGB.out i hi; omega) (nfT ts + 1) (sizeT (solB ts m) + 1) ts r (solB ts) m n HOK.out rfl hm hn (by omega) (by omega) W hW hEW).mono ?_
      rintro e w' ⟨u', hu', h2, h3⟩
      rcases hu' with ⟨rfl, hu⟩ | ⟨rfl, hu⟩
      · exact ⟨true, u', rfl, hu, h2, h3⟩
      · exact ⟨false, u', rfl, hu, h2, h3⟩
    have HGE : Hid (∀ i, i < ts.length → bl i ≠ 0) := fun i hi => by have := HGB.out i hi; omega
    have HGG : Hid (∀ i, i < ts.length → bl i ≠ G) := fun i hi => by have := HGB.out i hi; omega
    have hG3 : G < w3.heap.size := by omega
    have hE3 : 0 < w3.heap.size := by omega
    clear b3 HCB HT1 HB2 hs2
    go_wp2
    go_region_held3 (fun w' => w'.cell? ⟨G, m, none⟩ = some (shP bl m) ∧ w'.cell? ⟨G, n, none⟩ = some (shP bl n) ∧ w'.cell? ⟨0, 0, none⟩ = some (errE eg)) (go_keep) (first
      | (go_at_call 19; have X := HMK.out w3.drew ⟨HS3.out.row, HS3.out.inj⟩ HE3.out; refine Calls.mono X ?_; clear X; rintro e w5 ⟨bv, u', rfl, hu5, hS5, hm5⟩; have HU5 : Hid (MkOk ts (solB ts) m n bv u') := hu5; have HS5 : Hid (Shp w5 bl u') := hS5; have HM5 : Hid (Shm bl ts.length w3 w5) := ⟨hm5.os, hm5.tape, hm5.output, hm5.size, hm5.block⟩; have d1 : w5.cell? ⟨G, m, none⟩ = some (shP bl m) := (World.cell?_of_block (HM5.out.block G hG3 HGG.out)).trans cGm; have d2 : w5.cell? ⟨G, n, none⟩ = some (shP bl n) := (World.cell?_of_block (HM5.out.block G hG3 HGG.out)).trans cGn; have d3 : w5.cell? ⟨0, 0, none⟩ = some (errE eg) := (World.cell?_of_block (HM5.out.block _ hE3 HGE.out)).trans cE; clear hu5 hS5 hm5)
      | (go_at_call 18; have X := lib_is eg bv w5; refine Calls.mono X ?_; clear X; rintro e w6 ⟨rfl, rfl⟩))
    all_goals
      have HB6 : Hid (Below w.heap.size w w6) := HBw3.out.trans (HM5.out.below (by have := HBw3.out.size; omega) (fun i hi => by have := HGB.out i hi; omega))
      cases bv
      · have HV : Hid (UniE ts m n [] false) := HY.out _ _ (Or.inr ⟨rfl, rfl, HU5.out.no rfl⟩)
        go_wp2
        go_ret2
        exact ⟨[], false, rfl, HV.out, HB6.out⟩
      · obtain ⟨⟨r', ρ', hok', _⟩, hiff, _⟩ := HU5.out.yes rfl
        have hul : u'.length = ts.length := HU5.out.len
        have HOK' : Hid (Ok u' r' ρ') := hok'
        have HIF : Hid (∀ τ, Sat u' τ ↔ Sat ts τ ∧ τ m = τ n) := hiff
        have HG6 : Hid (∀ i, i < u'.length → w6.cell? ⟨G, i, none⟩ = some (shP bl i)) := fun i hi => by
          have h1 := (World.cell?_of_block (HB3.out.block G hg2)).trans (HG.out i (by omega))
          exact (World.cell?_of_block (HM5.out.block G hG3 HGG.out)).trans h1
        have HT : Hid (Calls Tryd.prog 17 #[.slice (some ⟨G, 0, none⟩) ts.length ts.length, .int .i64 m] w6 fun e w' => e = .returned (.bool (decide (sizeT (ρ' m) ≤ 60))) ∧ Below w6.heap.size w6 w') := by
          show Calls _ _ _ _ _
          rw [← hul, ← told_one ts u' ρ' m (by omega)]
          have := impl_told hok' bl G m w6 HS5.out HG6.out (by omega)
          unfold toldB at this ⊢
          exact this
        have hs6 := HB6.out.size
        by_cases hz : sizeT (ρ' m) ≤ 60
        · have HV : Hid (UniE ts m n (shoT 0 (ρ' m) []).1 true) := HY.out _ _ (Or.inl ⟨rfl, u', r', ρ', hok', hul, hiff, hz, rfl⟩)
          rw [decide_eq_true hz] at HT
          have HX : Hid (∀ W : World, Below w6.heap.size w6 W → Calls Tryd.prog 20 #[shP bl m] W fun e w' => e = .returned (.string ⟨(shoT 0 (ρ' m) []).1.toArray⟩) ∧ Below W.heap.size W w') := fun W hW => impl_text HOK'.out bl m (by omega) hz W (HS5.out.below hW) (fun w' h => HP.out w' ((HB6.out.trans (hW.mono hs6)).trans (h.mono (by have := hW.size; omega))))
          clear hz hok' hiff
          go_wp2_with fail
          refine HT.out.mono ?_
          rintro e w7 ⟨rfl, b7⟩
          have HB7 : Hid (Below w.heap.size w w7) := HB6.out.trans (b7.mono hs6)
          have cm : w7.cell? ⟨G, m, none⟩ = some (shP bl m) := (World.cell?_of_block (b7.block G (typ_lt (HG6.out m (by omega))))).trans (HG6.out m (by omega))
          have HX7 : Hid (Calls _ _ _ _ _) := HX.out w7 b7
          clear b7 HX HT
          go_wp2_with fail
          refine HX7.out.mono ?_
          rintro e w8 ⟨rfl, b8⟩
          have HB8 : Hid (Below w.heap.size w w8) := HB7.out.trans (b8.mono HB7.out.size)
          clear b8 HX7
          go_wp2
          go_ret2
          exact ⟨_, true, rfl, HV.out, HB8.out⟩
        · have HV : Hid (UniE ts m n [] false) := HY.out _ _ (Or.inr ⟨rfl, rfl, fun τ hs he => by
            have h1 := (HIF.out τ).2 ⟨hs, he⟩
            have h2 := (HOK'.out.sat_iff τ).1 h1 m (by omega)
            have h3 := size_sub τ (ρ' m)
            rw [← h2] at h3
            omega⟩)
          rw [decide_eq_false hz] at HT
          clear hz hok' hiff
          go_wp2_with fail
          refine HT.out.mono ?_
          rintro e w7 ⟨rfl, b7⟩
          have HB7 : Hid (Below w.heap.size w w7) := HB6.out.trans (b7.mono hs6)
          go_wp2
          go_ret2
          exact ⟨[], false, rfl, HV.out, HB7.out⟩
end Go.Proofs.YtjjanmccijghgaaDoor
