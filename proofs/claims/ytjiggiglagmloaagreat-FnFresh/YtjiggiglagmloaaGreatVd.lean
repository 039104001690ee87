/-
  Several texts in one, in their order: each is told at its own place by its theorems. Conditions: written at each theorem.
-/
import Derived.Test.YtjiggiglagmloaaGreatVc
import Derived.Test.YtjiggiglagmloaaGreatCn
import Derived.Test.YtjiggiglagmloaaGreatAp
import Derived.Test.YtjiggiglagmloaaGreatDa
namespace Go.Proofs.YtjiggiglagmloaaGreat
set_option linter.unusedVariables false

section
open Go.ChangeShapes Go.WideShapes Go.ChangeAt Go.RowKit

theorem big_no (a : Option Addr) (len cap : Nat) (h : ¬ (1048576 : Int) < len) (w : World) : Calls Tryz.prog 7 #[.slice a len cap] w fun e w' => e = .returned (.bool false) ∧ w' = w := by
  go_enter Tryz.func7, Tryz.ntmps7
  go_wp2
  go_ret
  exact ⟨by simp, rfl⟩

theorem big_yes (a : Option Addr) (len cap : Nat) (h : (1048576 : Int) < len) (w : World) : Calls Tryz.prog 7 #[.slice a len cap] w fun e w' => e = .returned (.bool true) ∧ w' = w := by
  go_enter Tryz.func7, Tryz.ntmps7
  go_wp2
  go_ret
  exact ⟨by simp, rfl⟩

theorem at_some (a : Option Addr) (len cap : Nat) (zs : List Int) (w : World) (hrow : IsRow w a len cap zs) (hl : len ≤ 1048576) (i : Nat) (hi : i ≤ 1) :
    Calls Tryz.prog 17 #[.slice a len cap, .int .i64 i] w fun e w' => ∃ v : Int, e = .returned (.int .i64 v) ∧ 0 ≤ v ∧ v ≤ 255 ∧ w' = w := by
  by_cases hin : i < len
  · have hin' : (i : Int) < len := by omega
    obtain ⟨x, rfl⟩ : ∃ x, a = some x := by
      rcases hrow with ⟨_, h0, _⟩ | ⟨x, hx, _⟩
      · omega
      · exact ⟨x, hx⟩
    obtain ⟨hsp, hc, h0, h1, _⟩ := row_byte hrow i hin
    obtain ⟨xb, xo, xs⟩ := x
    simp only at hsp hc
    subst hsp
    generalize zs.getD i 0 = v at *
    go_enter Tryz.func17, Tryz.ntmps17
    go_wp2
    go_ret
    exact ⟨v, rfl, h0, h1, rfl⟩
  · have hin' : ¬ (i : Int) < len := by omega
    have hr : 0 ≤ ((i : Int) * 37 + (len : Int) * 11) % 256 ∧ ((i : Int) * 37 + (len : Int) * 11) % 256 ≤ 255 := by omega
    go_enter Tryz.func17, Tryz.ntmps17
    go_wp2
    go_ret
    exact ⟨_, rfl, hr.1, hr.2, rfl⟩

set_option maxRecDepth 20000 in
theorem law_hasT (a : Option Addr) (g cap : Nat) (l : List (List UInt8)) (s : List UInt8) (hl : l.length ≤ 1000) (ha : 0 < l.length → a = some ⟨g, 0, none⟩) (w : World) (hc : ∀ j, j < l.length → w.cell? ⟨g, j, none⟩ = some (.string ⟨(l.getD j []).toArray⟩)) :
    Calls Tryz.prog 15 #[.slice a l.length cap, .string ⟨s.toArray⟩] w fun e w' => e = .returned (.bool (decide (s ∈ l))) ∧ w' = w := by
  have HC : Hid (∀ j, j < l.length → w.cell? ⟨g, j, none⟩ = some (.string ⟨(l.getD j []).toArray⟩)) := hc
  clear hc
  obtain ⟨S, hS⟩ : ∃ S : ByteArray, ⟨s.toArray⟩ = S := ⟨_, rfl⟩
  have HS : Hid ((⟨s.toArray⟩ : ByteArray) = S) := hS
  have HS2 : Hid (S.data.toList = s) := by show S.data.toList = s; rw [← hS]
  rw [hS]
  clear hS
  go_enter Tryz.func15, Tryz.ntmps15
  go_wp2
  go_loop [5] (fun i => ∃ k : Nat, k ≤ l.length ∧ i = .int .i64 k ∧ Hid (∀ j, j < k → l.getD j [] ≠ s)) (fun i => l.length - (intOf i).toNat)
  case atStart => exact ⟨0, by omega, rfl, fun j hj => absurd hj (by omega)⟩
  case round =>
    obtain ⟨k, hk, rfl, HJ⟩ := hrel
    by_cases hin : k < l.length
    · have hin' : (k : Int) < l.length := by omega
      obtain rfl := ha (by omega)
      have ck := HC.out k hin
      obtain ⟨x, hx⟩ : ∃ x, l.getD k [] = x := ⟨_, rfl⟩
      have hm : x ∈ l := by rw [← hx]; simp [List.getD, hin]
      have HM : Hid (x ∈ l) := hm
      have HN : Hid (¬ x = s → ∀ j, j < k + 1 → l.getD j [] ≠ s) := fun h j hj => by
        by_cases e : j = k
        · subst e; rw [hx]; exact h
        · exact HJ.out j (by omega)
      rw [hx] at ck
      clear hx hm
      by_cases hxs : x = s
      · have HV : Hid (decide (s ∈ l) = true) := decide_eq_true (by rw [← hxs]; exact HM.out)
        have e : (⟨x.toArray⟩ : ByteArray) = S := by rw [hxs]; exact HS.out
        rw [e] at ck
        clear hxs HN HM
        go_wp2
        go_ret
        exact ⟨by rw [HV.out] <;> rfl, rfl⟩
      · have hne : ((⟨x.toArray⟩ : ByteArray).toList == S.toList) = false := tx_ne (by rw [HS2.out]; exact hxs)
        have HN2 : Hid (∀ j, j < k + 1 → l.getD j [] ≠ s) := HN.out hxs
        clear hxs HN HM
        generalize (⟨x.toArray⟩ : ByteArray) = X at *
        go_wp2
        go_round
        case rel => exact ⟨k + 1, by omega, by go_num, HN2⟩
        case measure => simp [intOf]; omega
    · obtain rfl : k = l.length := by omega
      have HV : Hid (decide (s ∈ l) = false) := decide_eq_false (fun hm => by
        obtain ⟨j, hj, e⟩ := List.getElem_of_mem hm
        exact HJ.out j hj (by simp [List.getD, hj, e]))
      go_wp2
      go_ret
      exact ⟨by rw [HV.out] <;> rfl, rfl⟩
end

section
open Go.ChangeShapes Go.WideShapes Go.ChangeAt Go.RowKit

/-- The five letters n, e, v, e, r. -/
def nevS : ByteArray := ⟨#[110, 101, 118, 101, 114]⟩

theorem nev_name : isNameB nevS = true := by decide +kernel

/-- What the draw must give. -/
def DrawsC (w : World) (e : Ending) (w' : World) : Prop := ∃ (al : Option Addr) (g c : Nat) (l : List Nod), e = .returned (.slice al l.length c) ∧ (0 < l.length → al = some ⟨g, 0, none⟩) ∧ NodAt w' g l ∧ l.length ≤ 1200 ∧
  (∀ i, i < l.length → (l.getD i noNod).name.size ≤ 9 ∧ (l.getD i noNod).other.size ≤ 9) ∧ (∀ i, i < l.length → (l.getD i noNod).name ≠ nevS ∧ (l.getD i noNod).other ≠ nevS) ∧ Below w.heap.size w w'

set_option maxHeartbeats 1000000 in
set_option maxRecDepth 20000 in
theorem fresh_walk (a : Option Addr) (len cap : Nat) (zs : List Int) (w : World) (hrow : IsRow w a len cap zs) (hl : ¬ (1048576 : Int) < len)
    (hD : Calls Tryz.prog 8 #[.slice a len cap] w (DrawsC w)) (hR : ∀ w', Below w.heap.size w w' → IsRow w' a len cap zs) :
    Calls Tryz.prog 3 #[.slice a len cap] w fun e w' => e = .returned (.bool true) ∧ Below w.heap.size w w' := by
  have HR : Hid (∀ w', Below w.heap.size w w' → IsRow w' a len cap zs) := hR
  have HD := hidI hD
  clear hrow hR hD
  go_enter Tryz.func3, Tryz.ntmps3
  go_wp2_with fail
  refine (big_no a len cap (by omega) w).mono ?_
  rintro e w ⟨rfl, rfl⟩
  go_wp2_with fail
  refine HD.out.mono ?_
  rintro e w1 ⟨al, g, c, l, rfl, hal, hA, hll, hst, hnv, b1⟩
  have B1 : Hid (Below w.heap.size w w1) := b1
  have HT : Hid (∀ i, i < l.length → (l.getD i noNod).name.size ≤ maxLen ∧ (l.getD i noNod).other.size ≤ maxLen) := fun i hi => by have := hst i hi; unfold maxLen; omega
  have HM : Hid (∀ i, i < l.length → (l.getD i noNod).name.size ≤ 281474976710656 ∧ (l.getD i noNod).other.size ≤ 281474976710656) := fun i hi => by have := hst i hi; omega
  have HV : Hid (∀ i, i < l.length → (l.getD i noNod).name ≠ nevS ∧ (l.getD i noNod).other ≠ nevS) := hnv
  have HA : Hid (∀ W, Below w1.heap.size w1 W → NodAt W g l) := fun W hW => hA.below hW (fun h => hA.lt h)
  have s1 := b1.size
  have CN := hidI <| spec_nodes al g c l hal (by omega) HT.out w1 hA
  clear hst hnv b1 HD
  go_wp2_with fail
  refine CN.out.mono ?_
  rintro e w2 ⟨rfl, b2⟩
  have B2 : Hid (Below w1.heap.size w1 w2) := b2
  have s2 := b2.size
  clear b2 CN hA
  cases hok : nodesB l
  · go_wp2
    go_ret
    exact ⟨rfl, B1.out.trans (B2.out.mono s1)⟩
  · have HOK : Hid (nodesB l = true) := hok
    obtain ⟨hl1, hl2, _⟩ := nodesB_starts hok
    obtain rfl := hal (by omega)
    have CS := hidI <| spec_sites (some ⟨g, 0, none⟩) g c l (fun _ => rfl) (by omega) HT.out w2 (HA.out w2 B2.out)
    have HSB : Hid (sitesB l = siteF l l.length) := by show sitesB l = _; rw [sitesB, if_pos hok]
    have hbl := sitesB_length l
    rw [HSB.out] at hbl
    clear hok hal
    go_wp2_with fail
    refine CS.out.mono ?_
    rintro e w3 ⟨v3, rfl, ho3, b3⟩
    rw [HSB.out] at ho3
    obtain ⟨a3, g3, c3, sp3, rfl, ha3, hb3, hge3, hlt3, _⟩ := ownBnd_form ho3
    have B3 : Hid (Below w1.heap.size w1 w3) := B2.out.trans (b3.mono s2)
    have HB : Hid (∀ W, Below w3.heap.size w3 W → BndAt W g3 (siteF l l.length)) := fun W hW j hj => by
      have h1 := hb3 j hj
      exact ⟨(hW.cell (p := ⟨g3, j * 2, none⟩) (hlt3 (by omega))).trans h1.c0, (hW.cell (p := ⟨g3, j * 2 + 1, none⟩) (hlt3 (by omega))).trans h1.c1⟩
    have HA3 : Hid (0 < (siteF l l.length).length → a3 = some ⟨g3, 0, none⟩) := ha3
    have HSI : Hid (∀ i, i < (siteF l l.length).length → ∃ p r : Nat, (siteF l l.length).getD i noBnd = ⟨p, r⟩ ∧ p < l.length ∧ r < rolK (l.getD p noNod).kind) := fun i h => site_at l i h
    have s3 := B3.out.size
    clear ho3 hb3 ha3 hlt3 hge3 b3 CS HSB
    obtain ⟨bl, ebl⟩ : ∃ bl, siteF l l.length = bl := ⟨_, rfl⟩
    have HBL : Hid (siteF l l.length = bl) := ebl
    rw [ebl] at HB HA3 HSI hbl
    rw [ebl]
    clear ebl
    go_wp2
    go_loopw [5] (fun i wr => ∃ k : Nat, k ≤ bl.length ∧ i = .int .i64 k ∧ Hid (Below w3.heap.size w3 wr)) (fun i _ => bl.length - (intOf i).toNat)
    case atStart => exact ⟨0, by omega, rfl, Below.refl _ _⟩
    case round =>
      obtain ⟨k, hk, rfl, HW⟩ := hrel
      by_cases hin : k < bl.length
      · have hin' : (k : Int) < bl.length := by omega
        obtain ⟨p, q, ek, hp, hq⟩ := HSI.out k hin
        obtain rfl := HA3.out (by omega)
        have t := HB.out wr HW.out k hin
        rw [ek] at t
        have t0 : wr.cell? ⟨g3, k * 2, none⟩ = some (.int .i64 p) := t.c0
        have t1 : wr.cell? ⟨g3, k * 2 + 1, none⟩ = some (.int .i64 q) := t.c1
        obtain ⟨x, hx, hal, hxl, hxs⟩ := renB_never HOK.out (i := k) (by rw [HBL.out]; exact hin) (p := p) (r := q) (by rw [HBL.out]; exact ek) hp hq nev_name HV.out
        have BW : Hid (Below w1.heap.size w1 wr) := B3.out.trans (HW.out.mono s3)
        have sw := HW.out.size
        have CR := hidI <| impl_rename g c l p q nevS (by omega) (by decide) HT.out HM.out wr (HA.out wr BW.out)
        rw [hx] at CR
        have HAL : Hid (alphaB x l = true) := hal
        have HXS : Hid (∀ i, i < x.length → (x.getD i noNod).name.size ≤ maxLen ∧ (x.getD i noNod).other.size ≤ maxLen) := fun i hi => by have := hxs i hi; unfold maxLen; omega
        have HXL : Hid (x.length = l.length) := hxl
        clear t hx hal hxs hxl ek
        go_wp2_with fail
        refine Calls.mono CR.out ?_
        rintro e w5 ⟨G, cx, rfl, hO5, b5⟩
        have B5 : Hid (Below wr.heap.size wr w5) := b5
        have CA := hidI <| spec_alpha G g cx c x l (by rw [HXL.out]; omega) (by omega) HXS.out HT.out w5 hO5.at (HA.out w5 (BW.out.trans (B5.out.mono BW.out.size)))
        rw [HXL.out, HAL.out] at CA
        have s5 := b5.size
        clear b5 hO5 CR t0 t1
        go_wp2_with fail
        refine CA.out.mono ?_
        rintro e w6 ⟨rfl, b6⟩
        have B6 : Hid (Below w3.heap.size w3 w6) := HW.out.trans ((B5.out.trans (b6.mono s5)).mono sw)
        clear b6 CA
        go_wp2
        go_roundw
        case rel => exact ⟨k + 1, by omega, by go_num, B6⟩
        case measure => simp [intOf]; omega
      · obtain rfl : k = bl.length := by omega
        have BW : Hid (Below w1.heap.size w1 wr) := B3.out.trans (HW.out.mono s3)
        have sw := HW.out.size
        have CC := hidI <| impl_canon g c l (by omega) HT.out wr (HA.out wr BW.out)
        have HB2 : Hid (∀ W, Below wr.heap.size wr W → BndAt W g3 bl) := fun W hW => HB.out W (HW.out.trans (hW.mono sw))
        clear HB
        go_wp2_with fail
        refine CC.out.mono ?_
        rintro e w5 ⟨v5, _, _, hce, _⟩
        obtain ⟨G, cc, rfl, hO5, b5⟩ := hce HOK.out
        have hcl : (canB l).length = l.length := by rw [canB_yes HOK.out, renL_length]
        have HFB : Hid (freeB (canB l) = freeB l) := canon_free HOK.out
        have hsm := name_small (canon_nodes HOK.out)
        have HRO : Hid (∀ k p q : Nat, k < bl.length → bl.getD k noBnd = ⟨p, q⟩ → p < l.length → q < rolK (l.getD p noNod).kind → roleS ((canB l).getD p noNod) q = ⟨((nwL (freeB l) bl.length).getD k []).toArray⟩) := fun k p q h1 h2 h3 h4 => by
          have := canon_role HOK.out (i := k) (p := p) (r := q) (by rw [HBL.out]; exact h1) (by rw [HBL.out]; exact h2) h3 h4
          rw [HBL.out] at this
          exact this
        have hss := site_small HOK.out
        rw [HBL.out] at hss
        have hnl := nw_length hss
        have HNW : Hid (∀ k, k < bl.length → (nwL (freeB l) bl.length).getD k [] ∉ freeB l ∧ ∃ j, j ≤ 9999 ∧ (nwL (freeB l) bl.length).getD k [] = frN j) := fun k hk => nw_name hss hk
        have HND : Hid ((nwL (freeB l) bl.length).Nodup) := nw_nodup hss
        have hfl := freeB_length l
        obtain ⟨nw, enw⟩ : ∃ nw, nwL (freeB l) bl.length = nw := ⟨_, rfl⟩
        rw [enw] at HRO hnl HNW HND
        obtain ⟨cb, ecb⟩ : ∃ cb, canB l = cb := ⟨_, rfl⟩
        rw [ecb] at hO5 hcl HFB hsm HRO
        rw [ecb]
        obtain ⟨fr, efr⟩ : ∃ fr, freeB l = fr := ⟨_, rfl⟩
        rw [efr] at HFB HNW hfl
        clear enw ecb efr hce hss
        have HC5 : Hid (∀ W, Below w5.heap.size w5 W → NodAt W G cb) := fun W hW => hO5.at.below hW (fun h => hO5.at.lt h)
        have HG5 : Hid (wr.heap.size ≤ G ∧ G < w5.heap.size) := hO5.ge
        have HCT : Hid (∀ i, i < cb.length → (cb.getD i noNod).name.size ≤ maxLen ∧ (cb.getD i noNod).other.size ≤ maxLen) := fun i hi => by have := hsm i hi; unfold maxLen; omega
        have B5 : Hid (Below w1.heap.size w1 w5) := BW.out.trans (b5.mono BW.out.size)
        have HB5 : Hid (∀ W, Below w5.heap.size w5 W → BndAt W g3 bl) := fun W hW => HB2.out W (b5.trans (hW.mono b5.size))
        have s5 := B5.out.size
        have hba : Below w5.heap.size w5 (w5.alloc (.cells #[] 9)) := (Below.refl _ w5).alloc (Nat.le_refl _) _
        have CF := hidI <| impl_free (some ⟨G, 0, none⟩) G cc cb (fun _ => rfl) (by omega) HCT.out (w5.alloc (.cells #[] 9)) (HC5.out _ hba)
        have OE : Hid (ownS (w5.alloc (.cells #[] 9)) w5.heap.size (.slice (some ⟨w5.heap.size, 0, none⟩) 0 0) []) := ownS_empty (Nat.le_refl _)
        have HBA : Hid (_) := hba
        rw [HFB.out] at CF
        rw [hcl] at CF
        clear hO5 hsm HFB CC b5 hba HB2
        rw [hcl]
        go_wp2_with fail
        refine CF.out.mono ?_
        rintro e w6 ⟨v6, rfl, ho6, b6⟩
        obtain ⟨a6, g6, c6, rfl, ha6, hc6⟩ := ownS_form ho6
        have OE6 : Hid (ownS w6 w5.heap.size (.slice (some ⟨w5.heap.size, 0, none⟩) 0 0) []) := ownS_kept OE.out b6 (Nat.le_refl _)
        have B6 : Hid (Below w5.heap.size w5 w6) := HBA.out.trans (b6.mono (by simp))
        have HA6 : Hid (0 < fr.length → a6 = some ⟨g6, 0, none⟩) := fun h => (ha6 h).1
        have HF6 : Hid (∀ W, w6.grownBy W (some w5.heap.size) → ∀ j, j < fr.length → W.cell? ⟨g6, j, none⟩ = some (.string ⟨(fr.getD j []).toArray⟩)) := fun W hW j hj => by
          have h2 := (ha6 (by omega)).2.1
          simp at h2
          exact hW.cell (hc6 j hj).1 (by simp; omega)
        have HC6 : Hid (∀ W, w6.grownBy W (some w5.heap.size) → NodAt W G cb) := fun W hW j hj => by
          have h1 := HC5.out w6 B6.out j hj
          have hne : some G ≠ some w5.heap.size := by have := HG5.out.2; simp; omega
          exact ⟨hW.cell h1.c0 hne, hW.cell h1.c1 hne, hW.cell h1.c2 hne, hW.cell h1.c3 hne, hW.cell h1.c4 hne, hW.cell h1.c5 hne, hW.cell h1.c6 hne⟩
        have HB6 : Hid (∀ W, w6.grownBy W (some w5.heap.size) → BndAt W g3 bl) := fun W hW j hj => by
          have h1 := HB5.out w6 B6.out j hj
          have h2 := HB5.out w5 (Below.refl _ _) j hj
          have h3 := bnd_lt h2.c0
          simp at h3
          exact ⟨hW.cell h1.c0 (by simp; omega), hW.cell h1.c1 (by simp; omega)⟩
        have HRK : Hid (∀ p q : Nat, q < rolK (l.getD p noNod).kind → q = 0 ∨ q = 1) := fun p q h => by have := rolK_le (l.getD p noNod).kind; omega
        have z6 := B6.out.size
        obtain ⟨i0, hi, hz0, hz1, hz2⟩ := info_parts info_str
        clear ho6 b6 ha6 hc6 OE HBA CF HC5 HB5 HG5
        go_wp2
        go_loopw [9, 11] (fun v i w7 => ∃ k : Nat, k ≤ bl.length ∧ i = .int .i64 k ∧ Hid (ownS w7 w5.heap.size v (nw.take k)) ∧ Hid (Grew w6 w7 (.slice (some ⟨w5.heap.size, 0, none⟩) 0 0) v)) (fun v i _ => bl.length - (intOf i).toNat)
        case atStart => exact ⟨0, by omega, rfl, OE6, Grew.of_below (Below.refl _ _)⟩
        case round =>
          obtain ⟨k, hk, rfl, HO, HG⟩ := hrel
          by_cases hin : k < bl.length
          · have hin' : (k : Int) < bl.length := by omega
            obtain ⟨p, q, ek, hp, hq⟩ := HSI.out k hin
            obtain rfl := HA3.out (by omega)
            have t := HB6.out _ HG.out.1 k hin
            rw [ek] at t
            have hro := HRO.out k p q hin ek hp hq
            obtain ⟨hnf, jn, hjn, ejn⟩ := HNW.out k hin
            have n := HC6.out _ HG.out.1 p (by omega)
            have t0 : wr.cell? ⟨g3, k * 2, none⟩ = some (.int .i64 p) := t.c0
            have t1 : wr.cell? ⟨g3, k * 2 + 1, none⟩ = some (.int .i64 q) := t.c1
            have n5 : wr.cell? ⟨G, p * 7 + 5, none⟩ = some (.string (cb.getD p noNod).name) := n.c5
            have n6 : wr.cell? ⟨G, p * 7 + 6, none⟩ = some (.string (cb.getD p noNod).other) := n.c6
            obtain ⟨S, hS⟩ : ∃ S : ByteArray, ⟨(nw.getD k []).toArray⟩ = S := ⟨_, rfl⟩
            obtain ⟨u7, h7, c7, rfl, hu7, hc7⟩ := ownS_form HO.out
            have hlt : (nw.take k).length ≤ 1000 := by rw [List.length_take]; omega
            have hni : decide (nw.getD k [] ∈ nw.take k) = false := decide_eq_false fun hm => by
              obtain ⟨j, hj, e⟩ := List.getElem_of_mem hm
              have hj2 : j < k := by rw [List.length_take] at hj; omega
              have a1 : j < nw.length := by omega
              have a2 : k < nw.length := by omega
              rw [List.getElem_take] at e
              have := List.pairwise_iff_getElem.1 HND.out j k a1 a2 hj2
              apply this
              rw [e]
              simp [List.getD, a2]
            have hnf2 : decide (nw.getD k [] ∈ fr) = false := decide_eq_false hnf
            have C1 := hidI <| law_hasT u7 h7 c7 (nw.take k) (nw.getD k []) hlt (fun h => (hu7 h).1) wr (fun j hj => (hc7 j hj).1)
            have C2 := hidI <| law_hasT a6 g6 c6 fr (nw.getD k []) (by omega) HA6.out wr (HF6.out _ HG.out.1)
            have hw : isWordB S = true := by rw [← hS, ejn]; exact frN_word hjn
            have hz : S.size ≤ maxLen := by rw [← hS, ejn]; have := frN_length jn; show (frN jn).toArray.size ≤ _; rw [List.size_toArray]; unfold maxLen; omega
            have C3 := hidI <| impl_word S hz wr
            rw [hw] at C3
            rw [hni, hS] at C1
            rw [hnf2, hS] at C2
            rw [hS] at hro
            have hlk : (nw.take k).length = k := by rw [List.length_take]; omega
            have HTK : Hid (nw.take (k + 1) = nw.take k ++ [nw.getD k []]) := by
              have a2 : k < nw.length := by omega
              show nw.take (k + 1) = _
              rw [List.take_succ_eq_append_getElem a2]
              simp [List.getD, a2]
            have HS : Hid ((⟨(nw.getD k []).toArray⟩ : ByteArray) = S) := hS
            have HLT : Hid ((nw.take k).length ≤ 1000) := hlt
            rw [hlk] at C1 HO HG
            rw [hlk]
            clear hlk
            obtain ⟨F, hF⟩ : ∃ F, nw.take k = F := ⟨_, rfl⟩
            rw [hF] at HO HTK HLT
            clear hF
            clear t n hni hnf2 hnf ejn hjn hw hz hS ek hu7 hc7 hlt
            rcases HRK.out p q hq with rfl | rfl
            · have hro2 : (cb.getD p noNod).name = S := hro
              rw [hro2] at n5
              clear hro hro2 n6
              go_wp2_with fail
              refine C1.out.mono ?_
              rintro e w8 ⟨rfl, rfl⟩
              go_wp2_with fail
              refine C2.out.mono ?_
              rintro e w8 ⟨rfl, rfl⟩
              go_wp2_with fail
              refine C3.out.mono ?_
              rintro e w8 ⟨rfl, rfl⟩
              go_wp2_with (at_builtin; refine wpList_append_at _ rfl _ _ 35 rfl w5.heap.size 9 i0 (.string ⟨#[]⟩) 1 16 Tryz.underlying35 hi hz0 hz1 hz2 rfl (by decide) _ _ _ rfl (HO.out.alloc _) ⟨w8.heap.size, 0, none⟩ 1 1 [.string S] rfl rfl ?a1 ?a2 (by omega) ?a3 ?a4 ?a5 ?_)
              case a1 => exact str_new
              case a2 => intro u hu; simp at hu; subst hu; rfl
              case a3 => have := HLT.out; unfold maxLen; omega
              case a4 => have := HLT.out; omega
              case a5 => have := HG.out.1.size; simp; omega
              intro v' W3 hown' hgrew
              have HM2 : Hid (ownS W3 w5.heap.size v' (nw.take (k + 1))) := by
                show ownS W3 w5.heap.size v' _
                rw [HTK.out]
                refine ownS_next (nw.getD k []) hown' rfl ?_
                show _ = _ ++ [Value.string ⟨(nw.getD k []).toArray⟩]
                rw [HS.out]
              have HG2 : Hid (Grew w6 W3 (.slice (some ⟨w5.heap.size, 0, none⟩) 0 0) v') := HG.out.trans ((Grew.of_below ((Below.refl _ w8).alloc (Nat.le_refl _) _)).trans hgrew)
              clear hown' hgrew HO HG
              go_wp2
              go_roundw
              case rel => exact ⟨k + 1, by omega, by go_num, HM2, HG2⟩
              case measure => simp [intOf]; omega
            · have hro2 : (cb.getD p noNod).other = S := hro
              rw [hro2] at n6
              clear hro hro2
              generalize (cb.getD p noNod).name = X at *
              go_wp2_with fail
              refine C1.out.mono ?_
              rintro e w8 ⟨rfl, rfl⟩
              go_wp2_with fail
              refine C2.out.mono ?_
              rintro e w8 ⟨rfl, rfl⟩
              go_wp2_with fail
              refine C3.out.mono ?_
              rintro e w8 ⟨rfl, rfl⟩
              go_wp2_with (at_builtin; refine wpList_append_at _ rfl _ _ 35 rfl w5.heap.size 9 i0 (.string ⟨#[]⟩) 1 16 Tryz.underlying35 hi hz0 hz1 hz2 rfl (by decide) _ _ _ rfl (HO.out.alloc _) ⟨w8.heap.size, 0, none⟩ 1 1 [.string S] rfl rfl ?a1 ?a2 (by omega) ?a3 ?a4 ?a5 ?_)
              case a1 => exact str_new
              case a2 => intro u hu; simp at hu; subst hu; rfl
              case a3 => have := HLT.out; unfold maxLen; omega
              case a4 => have := HLT.out; omega
              case a5 => have := HG.out.1.size; simp; omega
              intro v' W3 hown' hgrew
              have HM2 : Hid (ownS W3 w5.heap.size v' (nw.take (k + 1))) := by
                show ownS W3 w5.heap.size v' _
                rw [HTK.out]
                refine ownS_next (nw.getD k []) hown' rfl ?_
                show _ = _ ++ [Value.string ⟨(nw.getD k []).toArray⟩]
                rw [HS.out]
              have HG2 : Hid (Grew w6 W3 (.slice (some ⟨w5.heap.size, 0, none⟩) 0 0) v') := HG.out.trans ((Grew.of_below ((Below.refl _ w8).alloc (Nat.le_refl _) _)).trans hgrew)
              clear hown' hgrew HO HG
              go_wp2
              go_roundw
              case rel => exact ⟨k + 1, by omega, by go_num, HM2, HG2⟩
              case measure => simp [intOf]; omega
          · obtain rfl : k = bl.length := by omega
            have hgb : Below w5.heap.size w6 wr := HG.out.below z6 (fun k hk => by simp [Value.ownBlock] at hk; omega)
            have BZ : Hid (Below w.heap.size w wr) := B1.out.trans ((B5.out.trans ((B6.out.trans hgb).mono s5)).mono s1)
            have sz := BZ.out.size
            clear hgb HO HG hi hz0 hz1 hz2 OE6
            go_wp2_with fail
            refine (at_some a len cap zs wr (HR.out wr BZ.out) (by omega) 0 (by omega)).mono ?_
            rintro e w8 ⟨x0, rfl, hx0, hx1, rfl⟩
            have CA := hidI <| impl_fresh (x0 * 30) w8
            go_wp2_with fail
            refine CA.out.mono ?_
            rintro e w9 ⟨rfl, b9⟩
            have B9 : Hid (Below w.heap.size w w9) := BZ.out.trans (b9.mono sz)
            have F9 : Hid (frT (x0 * 30) = ⟨(frN (x0 * 30).toNat).toArray⟩) := by
              have h := frT_frN (x0 * 30).toNat
              rw [show (((x0 * 30).toNat : Nat) : Int) = x0 * 30 by omega] at h
              exact h
            have hm1 : (x0 * 30).toNat ≤ 7650 := by omega
            obtain ⟨X, hX⟩ : ∃ X, frT (x0 * 30) = X := ⟨_, rfl⟩
            rw [hX] at F9
            rw [hX]
            have s9 := B9.out.size
            clear CA b9
            go_wp2_with fail
            refine (at_some a len cap zs w9 (HR.out w9 B9.out) (by omega) 1 (by omega)).mono ?_
            rintro e w9 ⟨x1, rfl, hy0, hy1, rfl⟩
            have CB := hidI <| impl_fresh (x0 * 30 + 1 + x1) w9
            have HX : Hid (frT (x0 * 30) = X) := hX
            clear hX
            go_wp2_with fail
            refine CB.out.mono ?_
            rintro e w10 ⟨rfl, b10⟩
            have B10 : Hid (Below w.heap.size w w10) := B9.out.trans (b10.mono s9)
            have hne : ((X.toList == (frT (x0 * 30 + 1 + x1)).toList) = false) := by
              refine beq_eq_false_iff_ne.2 fun h => ?_
              have h2 := nod_bytes_ext h
              have h3 := frT_frN (x0 * 30 + 1 + x1).toNat
              rw [show (((x0 * 30 + 1 + x1).toNat : Nat) : Int) = x0 * 30 + 1 + x1 by omega] at h3
              rw [F9.out, h3] at h2
              have h4 : frN (x0 * 30).toNat = frN (x0 * 30 + 1 + x1).toNat := by
                have := congrArg (fun s => s.data.toList) h2
                simpa using this
              have := frN_inj (by omega) (by omega) h4
              omega
            have hw : isWordB X = true := by rw [F9.out]; exact frN_word (by omega)
            have hk : isKeyB X = false := by rw [F9.out]; exact frN_key (by omega)
            have hz : X.size ≤ maxLen := by rw [F9.out]; have := frN_length (x0 * 30).toNat; show (frN (x0 * 30).toNat).toArray.size ≤ _; rw [List.size_toArray]; unfold maxLen; omega
            have CW : Hid (∀ W, Calls Tryz.prog 16 #[.string X] W fun e w' => e = .returned (.bool true) ∧ w' = W) := fun W => by have := impl_word X hz W; rw [hw] at this; exact this
            have CK : Hid (∀ W, Calls Tryz.prog 19 #[.string X] W fun e w' => e = .returned (.bool false) ∧ w' = W) := fun W => by have := impl_key X W; rw [hk] at this; exact this
            have s10 := B10.out.size
            generalize frT (x0 * 30 + 1 + x1) = Y at *
            clear hw hk hz b10 CB
            have CF2 : Hid (∀ W, Calls Tryz.prog 18 #[.int .i64 (x0 * 30)] W fun e w' => e = .returned (.string X) ∧ Below W.heap.size W w') := fun W => by have := impl_fresh (x0 * 30) W; rw [HX.out] at this; exact this
            go_wp2_with fail
            refine (CF2.out w10).mono ?_
            rintro e w11 ⟨rfl, b11⟩
            have B11 : Hid (Below w.heap.size w w11) := B10.out.trans (b11.mono s10)
            have s11 := B11.out.size
            clear b11
            go_wp2_with fail
            refine (CW.out w11).mono ?_
            rintro e w12 ⟨rfl, rfl⟩
            go_wp2_with fail
            refine (CF2.out _).mono ?_
            rintro e w13 ⟨rfl, b13⟩
            have B13 : Hid (Below w.heap.size w w13) := B11.out.trans (b13.mono s11)
            clear b13
            go_wp2_with fail
            refine (CK.out w13).mono ?_
            rintro e w14 ⟨rfl, rfl⟩
            go_wp2
            go_ret
            exact ⟨rfl, B13.out⟩
end

section
open Go.ChangeShapes Go.WideShapes Go.ChangeAt Go.RowKit

theorem isRow_kept {w w' : World} {a : Option Addr} {len cap : Nat} {zs : List Int} (h : IsRow w a len cap zs) (hb : Below w.heap.size w w') : IsRow w' a len cap zs := by
  rcases h with h | ⟨x, rfl, h1, h2, h3, h4, h5⟩
  · exact Or.inl h
  · exact Or.inr ⟨x, rfl, h1, h2, h3, fun i hi => (hb.cell (World.block_lt_of_cell? _ _ (h4 i hi))).trans (h4 i hi), h5⟩

theorem draws_closed (a : Option Addr) (len cap : Nat) (zs : List Int) (w : World) (hrow : IsRow w a len cap zs) (hl : len ≤ 1048576) :
    Calls Tryz.prog 8 #[.slice a len cap] w (DrawsC w) := by
  refine (draw_closed a len cap zs w hrow hl).mono ?_
  rintro e w' ⟨⟨al, g, c, l, rfl, hal, hA, hll, hT⟩, hb⟩
  have hs : ∀ i, i < l.length → Fit9 (l.getD i noNod).name ∧ Fit9 (l.getD i noNod).other := fun i hi => trim_at hT hi
  refine ⟨al, g, c, l, rfl, hal, hA, hll, fun i hi => ⟨(hs i hi).1.1, (hs i hi).2.1⟩, fun i hi => ⟨fun e => (hs i hi).1.2 ?_, fun e => (hs i hi).2.2 ?_⟩, hb⟩
  · rw [e]; rfl
  · rw [e]; rfl

theorem fresh_law (a : Option Addr) (len cap : Nat) (zs : List Int) (w : World) (hrow : IsRow w a len cap zs) :
    Calls Tryz.prog 3 #[.slice a len cap] w fun e w' => e = .returned (.bool true) ∧ Below w.heap.size w w' := by
  by_cases hbig : (1048576 : Int) < len
  · go_enter Tryz.func3, Tryz.ntmps3
    go_wp2_with fail
    refine (big_yes a len cap hbig w).mono ?_
    rintro e w' ⟨rfl, rfl⟩
    go_wp2
    go_ret
    exact ⟨rfl, Below.refl _ _⟩
  · exact fresh_walk a len cap zs w hrow hbig (draws_closed a len cap zs w hrow (by omega)) (fun w' hb => isRow_kept hrow hb)
end
end Go.Proofs.YtjiggiglagmloaaGreat
