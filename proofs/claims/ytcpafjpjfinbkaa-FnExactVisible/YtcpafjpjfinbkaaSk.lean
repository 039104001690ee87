/-
  Scopes: the names that can be seen at a node: the walks of the specification's and of what landed. Conditions: written at each theorem.
-/
import Derived.Test.YtcpafjpjfinbkaaSq
import Derived.Lib.QuietBelow
namespace Go.Proofs.Ytcpafjpjfinbkaa
open Go.ChangeShapes Go.WideShapes Go.ChangeAt Go.RowKit Go.Sort
set_option linter.unusedVariables false

theorem visB_no {ts : List Nod} {i : Int} (h : nodesB ts = false ∨ i < 0 ∨ (ts.length : Int) ≤ i) : visB ts i = [] := by
  unfold visB
  refine if_neg ?_
  rintro ⟨h1, h2, h3⟩
  rcases h with h | h | h
  · rw [h1] at h; cases h
  · omega
  · omega

set_option maxHeartbeats 4000000 in
set_option maxRecDepth 20000 in
theorem spec_visible (a : Option Addr) (g cap : Nat) (ts : List Nod) (i : Int) (hne : 0 < ts.length → a = some ⟨g, 0, none⟩) (hl : ts.length ≤ 1048576)
    (hst : ∀ i, i < ts.length → (ts.getD i noNod).name.size ≤ maxLen ∧ (ts.getD i noNod).other.size ≤ maxLen) (w : World) (hA : NodAt w g ts) :
    Calls Try.prog 31 #[.slice a ts.length cap, .int .i64 i] w fun e w' => ∃ v, e = .returned v ∧ ownS w' w.heap.size v (visB ts i) ∧ Below w.heap.size w w' := by
  have HA : Hid (NodAt w g ts) := hA
  have HT : Hid (∀ i, i < ts.length → (ts.getD i noNod).name.size ≤ maxLen ∧ (ts.getD i noNod).other.size ≤ maxLen) := hst
  have BA : Hid (Below w.heap.size w (w.alloc (.cells #[] 9))) := (Below.refl _ w).alloc (Nat.le_refl _) _
  have OA : Hid (ownS (w.alloc (.cells #[] 9)) w.heap.size (.slice (some ⟨w.heap.size, 0, none⟩) 0 0) []) := ownS_empty (Nat.le_refl _)
  have SA : Hid ((w.alloc (.cells #[] 9)).heap.size = w.heap.size + 1) := by show _ = _; simp
  have AA : Hid (NodAt (w.alloc (.cells #[] 9)) g ts) := hA.below BA.out (fun h => hA.lt h)
  clear hA hst
  go_enter Try.func31, Try.ntmps31
  go_wp2_with fail
  refine (spec_nodes a g cap ts hne hl HT.out _ AA.out).mono ?_
  rintro e w1 ⟨rfl, b1⟩
  have B1 : Hid (Below w.heap.size w w1) := BA.out.trans (b1.mono (by have := SA.out; omega))
  have O1 : Hid (ownS w1 w.heap.size (.slice (some ⟨w.heap.size, 0, none⟩) 0 0) []) := ownS_kept OA.out b1 (Nat.le_refl _)
  have s1 : w.heap.size ≤ w1.heap.size := B1.out.size
  clear b1 BA OA SA AA
  cases hok : nodesB ts
  · have HV : Hid (visB ts i = []) := visB_no (Or.inl hok)
    clear hok
    go_wp2
    go_ret
    exact ⟨_, rfl, by rw [HV.out]; exact O1.out, B1.out⟩
  · have HO : Hid (nodesB ts = true) := hok
    obtain ⟨hl2, hl1, _, hpar, _⟩ := right_par hok
    have HPAR : Hid (∀ (m : Int), parP ts m = -1 ∨ ∃ p c : Nat, parP ts m = p ∧ p < ts.length ∧ m = c ∧ c < p ∧ hasI (kidL (ts.getD p noNod)) m = true) := hpar
    clear hok hpar
    obtain rfl := hne (by omega)
    go_wp2_with fail
    refine (word_in _ _ _ _).mono ?_
    rintro e w2 ⟨rfl, hw⟩
    rw [hw]
    clear hw w2
    by_cases hr : 0 ≤ i ∧ i ≤ (ts.length : Int) - 1
    · obtain ⟨hr1, hr2⟩ := hr
      have d1 : (decide ((0 : Int) ≤ i) && decide (i ≤ (ts.length : Int) - 1)) = true := by rw [decide_eq_true hr1, decide_eq_true hr2]; rfl
      rw [d1]
      clear d1
      obtain ⟨m, rfl⟩ := Int.eq_ofNat_of_zero_le hr1
      have hm : m < ts.length := by omega
      have HVB : Hid (visB ts m = insL [] (visF ts ts.length m)) := by
        show visB ts m = _
        rw [visB, if_pos ⟨HO.out, by omega, by omega⟩]
      have HVL : Hid ((visF ts ts.length m).length ≤ 300) := by show _ ≤ _; have := visF_length ts ts.length m; omega
      go_wp2_with fail
      refine (spec_parent _ g cap ts m (fun _ => rfl) hl HT.out w1 (HA.out.below B1.out (fun h => HA.out.lt h))).mono ?_
      rintro e w2 ⟨rfl, b2⟩
      have B2 : Below w.heap.size w w2 := B1.out.trans (b2.mono s1)
      have O2 : Hid (ownS w2 w.heap.size (.slice (some ⟨w.heap.size, 0, none⟩) 0 0) []) := ownS_kept O1.out b2 (Nat.le_refl _)
      rw [parB, if_pos HO.out]
      clear b2 O1
      go_wp2
      go_loopw [5, 6, 7] (fun out kv qv wr => ∃ (kid f : Nat) (pre : List (List UInt8)), kid < ts.length ∧ ts.length ≤ kid + f ∧ kv = .int .i64 kid ∧ qv = .int .i64 (parP ts kid) ∧ Hid (visF ts ts.length m = pre ++ visF ts f kid) ∧ Hid (ownS wr w.heap.size out (insL [] pre)) ∧ Below w.heap.size w wr) (fun _ kv _ _ => ts.length - (intOf kv).toNat)
      case atStart => exact ⟨m, ts.length, [], hm, by omega, rfl, rfl, rfl, O2, B2⟩
      case round =>
        obtain ⟨kid, f, pre, hkid, hf, rfl, rfl, HVF, HOW, hb⟩ := hrel
        clear O2 B2
        have hs := hb.size
        rcases f with _ | f
        · omega
        have hst2 := HVF.out
        rw [visF_step] at hst2
        clear HVF
        rcases HPAR.out kid with e0 | ⟨p, c, e0, hp1, hp2, hp3, _⟩
        · rw [e0, if_pos (by omega), List.append_nil] at hst2
          have HV : Hid (visB ts m = insL [] pre) := by show visB ts m = _; rw [HVB.out, hst2]
          rw [e0]
          clear hst2 e0
          go_wp2
          go_ret
          exact ⟨_, rfl, by rw [HV.out]; exact HOW.out, hb⟩
        · rw [e0, if_neg (by omega)] at hst2
          have ep : ((p : Nat) : Int).toNat = p := by omega
          rw [ep] at hst2
          rw [e0]
          have hp1' : (p : Int) < ts.length := by omega
          have hkp : kid < p := by omega
          have t := (HA.out.below hb (fun h => HA.out.lt h)) p hp1
          have HSTP : Hid (visF ts ts.length m = pre ++ ((bndL (ts.getD p noNod) kid).map (fun x => x.1.data.toList) ++ visF ts f p)) := hst2
          have HLEN := bndL_len (ts.getD p noNod) kid
          obtain ⟨⟨y0, y1, y2, y3, y4, y5, y6⟩, hy⟩ : ∃ y, ts.getD p noNod = y := ⟨_, rfl⟩
          rw [hy] at t HSTP HLEN
          have q0 : wr.cell? ⟨g, p * 7, none⟩ = some (.int .i64 y0) := t.c0
          have q1 : wr.cell? ⟨g, p * 7 + 1, none⟩ = some (.int .i64 y1) := t.c1
          have q2 : wr.cell? ⟨g, p * 7 + 2, none⟩ = some (.int .i64 y2) := t.c2
          have q3 : wr.cell? ⟨g, p * 7 + 3, none⟩ = some (.int .i64 y3) := t.c3
          have q4 : wr.cell? ⟨g, p * 7 + 4, none⟩ = some (.int .i64 y4) := t.c4
          have q5 : wr.cell? ⟨g, p * 7 + 5, none⟩ = some (.string y5) := t.c5
          have q6 : wr.cell? ⟨g, p * 7 + 6, none⟩ = some (.string y6) := t.c6
          have HSB : Hid (∀ w, Calls Try.prog 45 #[.agg #[.int .i64 y0, .int .i64 y1, .int .i64 y2, .int .i64 y3, .int .i64 y4, .string y5, .string y6], .int .i64 kid] w fun e w' => BdEnd (bndL ⟨y0, y1, y2, y3, y4, y5, y6⟩ kid) w.heap.size e w' ∧ Below w.heap.size w w') := fun w => spec_bound y0 y1 y2 y3 y4 y5 y6 kid w
          generalize bndL ⟨y0, y1, y2, y3, y4, y5, y6⟩ kid = L at *
          have HPL : Hid (pre.length + L.length ≤ 300) := by
            show _ ≤ _
            have h := HVL.out
            rw [HSTP.out] at h
            simp only [List.length_append, List.length_map] at h
            omega
          clear t hy hst2 e0 ep hp2
          go_wp2_with fail
          refine (HSB.out wr).mono ?_
          rintro e w2 ⟨⟨P, R, rfl, hP, hR, hPr, hRr⟩, b2⟩
          have HP : Hid (w2.heap[P]? = some (.cells (L.map (fun x => Value.string x.1)).toArray 9 (0, 0))) := hPr
          have B2 : Below w.heap.size w w2 := hb.trans (b2.mono hs)
          have s2 := b2.size
          have hPl : P < w2.heap.size := (Array.getElem?_eq_some_iff.1 hPr).1
          have O2 : Hid (ownS w2 w.heap.size u5 (insL [] (pre ++ (L.take 0).map (fun x => x.1.data.toList)))) := by
            show ownS w2 w.heap.size u5 _
            rw [List.take_zero, List.map_nil, List.append_nil]
            exact ownS_kept HOW.out b2 (Nat.le_refl _)
          clear q0 q1 q2 q3 q4 q5 q6 HSB hb b2 hPr hRr HOW
          go_wp2
          go_loopw [5, 10] (fun out kv wq => ∃ k : Nat, k ≤ L.length ∧ kv = .int .i64 k ∧ Hid (wq.heap[P]? = some (.cells (L.map (fun x => Value.string x.1)).toArray 9 (0, 0))) ∧ Hid (ownS wq w.heap.size out (insL [] (pre ++ (L.take k).map (fun x => x.1.data.toList)))) ∧ Below w.heap.size w wq) (fun _ kv _ => L.length - (intOf kv).toNat)
          case atStart => exact ⟨0, by omega, rfl, HP, O2, B2⟩
          case round =>
            obtain ⟨k, hk, rfl, HPk, HOk, hbq⟩ := hrel
            clear O2 B2
            have sq := hbq.size
            by_cases hin : k < L.length
            · have hin' : (k : Int) < L.length := by omega
              have n1 := names_at HPk.out k hin
              have HNX : Hid (insL [] (pre ++ (L.take (k + 1)).map (fun x => x.1.data.toList)) = insU (insL [] (pre ++ (L.take k).map (fun x => x.1.data.toList))) (L.getD k (⟨#[]⟩, 0)).1.data.toList) := by
                show _ = _
                rw [← ins_next]
                congr 1
                rw [List.take_succ_eq_append_getElem hin, List.map_append, ← List.append_assoc]
                simp [List.getD, hin]
              have HUP : Hid (Up (insL [] (pre ++ (L.take k).map (fun x => x.1.data.toList)))) := insL_up _ _ (by simp [Up])
              have HLL : Hid ((insL [] (pre ++ (L.take k).map (fun x => x.1.data.toList))).length ≤ 1000) := by
                show _ ≤ _
                have h1 := insL_length (pre ++ (L.take k).map (fun x => x.1.data.toList)) []
                have h2 := HPL.out
                simp only [List.length_append, List.length_map, List.length_take, List.length_nil] at h1
                omega
              generalize (L.getD k (⟨#[]⟩, 0)).1 = z at *
              have HO3 : Hid (ownS wr w.heap.size u5 (insL [] (pre ++ (L.take k).map (fun x => x.1.data.toList)))) := HOk
              generalize insL [] (pre ++ (L.take k).map (fun x => x.1.data.toList)) = F at *
              clear HOk
              go_wp2_with fail
              refine (spec_sort w.heap.size u5 F z HUP.out HLL.out wr sq HO3.out).mono ?_
              rintro e w3 ⟨v3, rfl, ho3, b3⟩
              have HO4 : Hid (ownS w3 w.heap.size v3 (insL [] (pre ++ (L.take (k + 1)).map (fun x => x.1.data.toList)))) := by show ownS w3 w.heap.size v3 _; rw [HNX.out]; exact ho3
              have HP3 : Hid (w3.heap[P]? = some (.cells (L.map (fun x => Value.string x.1)).toArray 9 (0, 0))) := (b3.block P (Array.getElem?_eq_some_iff.1 HPk.out).1).trans HPk.out
              have B3 : Hid (Below w.heap.size w w3) := hbq.trans (b3.mono sq)
              clear ho3 b3 HO3 n1 HPk hbq HNX
              go_wp2
              go_roundw
              case rel => exact ⟨k + 1, by omega, by go_num, HP3, HO4, B3.out⟩
              case measure => simp [intOf]; omega
            · have HO3 : Hid (ownS wr w.heap.size u5 (insL [] (pre ++ L.map (fun x => x.1.data.toList)))) := by
                have h := HOk.out
                rw [List.take_of_length_le (by omega)] at h
                exact h
              have HVN : Hid (visF ts ts.length m = (pre ++ L.map (fun x => x.1.data.toList)) ++ visF ts f p) := by
                show _ = _
                rw [HSTP.out, List.append_assoc]
              clear HOk HSTP
              go_wp2_with fail
              refine (spec_parent _ g cap ts p (fun _ => rfl) hl HT.out wr (HA.out.below hbq (fun h => HA.out.lt h))).mono ?_
              rintro e w3 ⟨rfl, b3⟩
              have B3 : Hid (Below w.heap.size w w3) := hbq.trans (b3.mono sq)
              have HO4 : Hid (ownS w3 w.heap.size u5 (insL [] (pre ++ L.map (fun x => x.1.data.toList)))) := ownS_kept HO3.out b3 (Nat.le_refl _)
              rw [parB, if_pos HO.out]
              clear b3 HO3 hbq
              go_wp2
              go_roundw
              case rel => exact ⟨p, f, _, hp1, by omega, rfl, rfl, HVN, HO4, B3.out⟩
              case measure => simp [intOf]; omega
    · have d1 : (decide ((0 : Int) ≤ i) && decide (i ≤ (ts.length : Int) - 1)) = false := by
        rw [← Bool.decide_and]
        exact decide_eq_false hr
      rw [d1]
      have HV : Hid (visB ts i = []) := visB_no (Or.inr (by omega))
      clear d1 hr
      go_wp2
      go_ret
      exact ⟨_, rfl, by rw [HV.out]; exact O1.out, B1.out⟩

theorem bl_at {ts : List Nod} (h : nodesB ts = true) (k : Nat) (hk : k < (siteF ts ts.length).length) : ∃ p r : Nat, (siteF ts ts.length).getD k noBnd = ⟨p, r⟩ ∧ p < ts.length := by
  have hm : (siteF ts ts.length).getD k noBnd ∈ siteF ts ts.length := by simp [List.getD, hk]
  obtain ⟨p, r, e, hp, _⟩ := siteF_from ts _ _ hm
  exact ⟨p, r, e, hp⟩

set_option maxHeartbeats 8000000 in
set_option maxRecDepth 100000 in
theorem impl_visible (a : Option Addr) (g cap : Nat) (ts : List Nod) (i : Int) (hne : 0 < ts.length → a = some ⟨g, 0, none⟩) (hl : ts.length ≤ 1048576)
    (hst : ∀ i, i < ts.length → (ts.getD i noNod).name.size ≤ maxLen ∧ (ts.getD i noNod).other.size ≤ maxLen) (w : World) (hA : NodAt w g ts) :
    Calls Try.prog 32 #[.slice a ts.length cap, .int .i64 i] w fun e w' => ∃ v, e = .returned v ∧ ownS w' w.heap.size v (visB ts i) ∧ Below w.heap.size w w' := by
  have HA : Hid (NodAt w g ts) := hA
  have HT : Hid (∀ i, i < ts.length → (ts.getD i noNod).name.size ≤ maxLen ∧ (ts.getD i noNod).other.size ≤ maxLen) := hst
  clear hA hst
  by_cases hok : nodesB ts = true
  · have HO : Hid (nodesB ts = true) := hok
    obtain ⟨hl1, hl2, _⟩ := nodesB_starts hok
    clear hok
    obtain rfl := hne (by omega)
    go_enter Try.func32, Try.ntmps32
    go_wp2_with fail
    refine (impl_scopes _ g cap ts (fun _ => rfl) hl HT.out w HA.out).mono ?_
    rintro e w1 ⟨hend, hb1⟩
    unfold ScEnd at hend
    rw [if_pos HO.out] at hend
    obtain ⟨G, vs, rfl, hG, hvl, hvr, hvs⟩ := hend
    have hGl : G < w1.heap.size := (Array.getElem?_eq_some_iff.1 hvr).1
    have HVR : Hid (w1.heap[G]? = some (.cells vs.toArray 70 (0, 0))) := hvr
    have HVS : Hid (ScG G w1 (fun _ => True) (fun m s => scB ts m s) vs) := hvs
    have HVL : Hid (vs.length = ts.length) := hvl
    have s1 := hb1.size
    clear hvr hvs hvl
    by_cases h0 : i < 0
    · have HV : Hid (visB ts i = []) := visB_no (Or.inr (Or.inl h0))
      go_wp2
      go_ret
      exact ⟨_, rfl, by rw [HV.out]; exact ownS_nil, hb1⟩
    · by_cases h1 : (ts.length : Int) ≤ i
      · have HV : Hid (visB ts i = []) := visB_no (Or.inr (Or.inr h1))
        go_wp2
        go_ret
        exact ⟨_, rfl, by rw [HV.out]; exact ownS_nil, hb1⟩
      · obtain ⟨m, rfl⟩ := Int.eq_ofNat_of_zero_le (show 0 ≤ i by omega)
        have hm : m < ts.length := by omega
        have hm' : (m : Int) < ts.length := by omega
        have HVB : Hid (visB ts m = risL (visX ts m (siteF ts ts.length) (siteF ts ts.length).length)) := by
          show visB ts m = _
          rw [visB, if_pos ⟨HO.out, by omega, hm'⟩, vis_same HO.out]
        have HSM : Hid (∀ x ∈ visX ts m (siteF ts ts.length) (siteF ts ts.length).length, x.length ≤ 1000000) := visX_small HO.out m
        have HBA : Hid (∀ k, k < (siteF ts ts.length).length → ∃ p r : Nat, (siteF ts ts.length).getD k noBnd = ⟨p, r⟩ ∧ p < ts.length) := fun k hk => bl_at HO.out k hk
        have HBL : Hid (sitesB ts = siteF ts ts.length) := by show sitesB ts = _; rw [sitesB, if_pos HO.out]
        have hbl : (siteF ts ts.length).length ≤ 300 := by have := siteF_length ts ts.length; omega
        obtain ⟨l, hsl, hll⟩ := HVS.out m (by have := HVL.out; omega) trivial
        obtain ⟨F, cf, hv, hcf, hcl⟩ := sc_call G w1 l _ hsl
        have gm := scRow_cell HVR.out m (by have := HVL.out; omega)
        rw [hv] at gm
        have HGM : Hid (w1.cell? ⟨G, m, none⟩ = some (.func (.func F) #[] cf)) := gm
        have HCL : Hid (∀ (s : ByteArray) (w' : World), Kept G w1 w' → Calls Try.prog F (#[.string s] ++ cf) w' fun e w'' => e = .returned (.agg #[.int .i64 (scB ts m s).1, .int .i64 (scB ts m s).2]) ∧ Below w'.heap.size w' w'') := fun s w' hk => by
          have := hcl s w' hk
          rw [hll s] at this
          exact this
        obtain ⟨i0, hi, hz0, hz1, hz2⟩ := info_parts info_str
        clear hsl hll hv hcl gm HVR HVS
        go_wp2_with fail
        refine (impl_sites _ g cap ts (fun _ => rfl) hl HT.out w1 (HA.out.below hb1 (fun h => HA.out.lt h))).mono ?_
        rintro e w2 ⟨v2, rfl, ho2, b2⟩
        rw [HBL.out] at ho2
        obtain ⟨a2, g2, c2, sp2, rfl, ha2, hT2, hB2, hg2, _⟩ := ownBnd_form ho2
        have HT2 : Hid (BndAt w2 g2 (siteF ts ts.length)) := hT2
        have HG2 : Hid (0 < (siteF ts ts.length).length → g2 < w2.heap.size) := hg2
        have s2 := b2.size
        have HB2 : Hid (Below w1.heap.size w1 w2) := b2
        generalize siteF ts ts.length = bl at *
        clear ho2 hT2 hg2 b2 hB2
        go_wp2
        go_loopw [6, 23] (fun out iv wr => ∃ k : Nat, k ≤ bl.length ∧ iv = .int .i64 k ∧ Hid (ownS wr w2.heap.size out (visX ts m bl k)) ∧ Below w2.heap.size w2 wr) (fun _ iv _ => bl.length - (intOf iv).toNat)
        case atStart => exact ⟨0, by omega, rfl, ownS_nil, Below.refl _ _⟩
        case round =>
          obtain ⟨k, hk, rfl, HOk, hb⟩ := hrel
          have hs := hb.size
          by_cases hin : k < bl.length
          · have hin' : (k : Int) < bl.length := by omega
            obtain rfl := ha2 (by omega)
            obtain ⟨p, r, hpr, hp⟩ := HBA.out k hin
            have hp' : (p : Int) < ts.length := by omega
            have t := (HT2.out.below hb (fun h => HG2.out h)) k hin
            rw [hpr] at t
            have c0 : wr.cell? ⟨g2, k * 2, none⟩ = some (.int .i64 (p : Int)) := t.c0
            have c1 : wr.cell? ⟨g2, k * 2 + 1, none⟩ = some (.int .i64 (r : Int)) := t.c1
            have HXN : Hid (visX ts m bl (k + 1) = visX ts m bl k ++ (if 0 ≤ (scB ts m (siteS ts (bl.getD k noBnd))).1 then [(siteS ts (bl.getD k noBnd)).data.toList] else [])) := rfl
            rw [hpr] at HXN
            have hxl := visX_length ts m bl k
            have ba : Below w2.heap.size w2 (wr.alloc (.cells #[.int .i64 (p : Int), .int .i64 (r : Int)] 30)) := hb.alloc hs _
            have ra : (wr.alloc (.cells #[.int .i64 (p : Int), .int .i64 (r : Int)] 30)).heap[wr.heap.size]? = some (.cells #[.int .i64 (p : Int), .int .i64 (r : Int)] 30 (0, 0)) := (MapKept.heap_alloc wr _).1
            obtain ⟨k0, k1, _⟩ := row2_cells ra
            have HOa : Hid (ownS (wr.alloc (.cells #[.int .i64 (p : Int), .int .i64 (r : Int)] 30)) w2.heap.size u6 (visX ts m bl k)) := HOk.out.alloc _
            have n := (HA.out.below (hb1.trans ((HB2.out.trans (ba.mono s2)).mono s1)) (fun h => HA.out.lt h)) p hp
            have HSS : Hid (siteS ts ⟨p, r⟩ = roleS (ts.getD p noNod) r) := by show siteS ts ⟨p, r⟩ = _; unfold siteS; simp only; rw [show ((p : Nat) : Int).toNat = p by omega]
            obtain ⟨⟨x0, x1, x2, x3, x4, x5, x6⟩, hx⟩ : ∃ y, ts.getD p noNod = y := ⟨_, rfl⟩
            rw [hx] at n HSS
            rw [HSS.out] at HXN
            have HNR : Hid (∀ w', Calls Try.prog 53 #[.agg #[.int .i64 x0, .int .i64 x1, .int .i64 x2, .int .i64 x3, .int .i64 x4, .string x5, .string x6], .int .i64 r] w' fun e w'' => e = .returned (.string (roleS ⟨x0, x1, x2, x3, x4, x5, x6⟩ r)) ∧ Below w'.heap.size w' w'') := fun w' => impl_nameOfRole x0 x1 x2 x3 x4 x5 x6 r w'
            generalize roleS ⟨x0, x1, x2, x3, x4, x5, x6⟩ r = nm at *
            have HWA : Hid (Below w2.heap.size w2 (wr.alloc (.cells #[.int .i64 (p : Int), .int .i64 (r : Int)] 30))) := ba
            have HZA : Hid ((wr.alloc (.cells #[.int .i64 (p : Int), .int .i64 (r : Int)] 30)).heap.size = wr.heap.size + 1) := by show _ = _; simp
            have e0 := cell_regrown k0
            have e1 := cell_regrown k1
            have d0 := cell_regrown n.c0
            have d1 := cell_regrown n.c1
            have d2 := cell_regrown n.c2
            have d3 := cell_regrown n.c3
            have d4 := cell_regrown n.c4
            have d5 := cell_regrown n.c5
            have d6 := cell_regrown n.c6
            have cD : ∀ d os, Calls Try.prog 53 #[.agg #[.int .i64 x0, .int .i64 x1, .int .i64 x2, .int .i64 x3, .int .i64 x4, .string x5, .string x6], .int .i64 r] (grow (redrawn (wr.alloc (.cells #[.int .i64 (p : Int), .int .i64 (r : Int)] 30)) d) os) fun e w'' => e = .returned (.string nm) ∧ ∃ q : Regrown, w'' = grow (redrawn (wr.alloc (.cells #[.int .i64 (p : Int), .int .i64 (r : Int)] 30)) q.d) q.os := fun d os => Calls.regrown_of (HNR.out _)
            clear t n hx hpr ra ba HOk HNR k0 k1
            go_wp2
            refine wp_region_quiet_below (by kernel_rfl) (by kernel_rfl) ?_
            repeat (go_big_quiet_step (exact cD _ _))
            refine wpQuiet_nil ?_
            intro _ hw'
            obtain ⟨⟨dq, osq⟩, hw''⟩ := hw'
            subst hw''
            have HB3 : Hid (Below w2.heap.size w2 (grow (redrawn (wr.alloc (.cells #[.int .i64 (p : Int), .int .i64 (r : Int)] 30)) dq) osq)) := HWA.out.trans ((below_regrown _ dq osq).mono (by have := HZA.out; omega))
            have HO3 : Hid (ownS (grow (redrawn (wr.alloc (.cells #[.int .i64 (p : Int), .int .i64 (r : Int)] 30)) dq) osq) w2.heap.size u6 (visX ts m bl k)) := ownS_kept HOa.out (below_regrown _ dq osq) (Nat.le_refl _)
            clear cD e0 e1 d0 d1 d2 d3 d4 d5 d6 HWA HZA HOa c0 c1
            generalize grow (redrawn (wr.alloc (.cells #[.int .i64 (p : Int), .int .i64 (r : Int)] 30)) dq) osq = w3 at *
            have HB4 : Hid (Below w1.heap.size w1 w3) := HB2.out.trans (HB3.out.mono s2)
            have gm := (World.cell?_of_block (HB4.out.block G hGl)).trans HGM.out
            have s3 := HB3.out.size
            go_wp2_with fail
            refine (HCL.out nm w3 (Kept.of_below HB4.out)).mono ?_
            rintro e w4 ⟨rfl, b4⟩
            have HB5 : Hid (Below w2.heap.size w2 w4) := HB3.out.trans (b4.mono s3)
            have HO5 : Hid (ownS w4 w2.heap.size u6 (visX ts m bl k)) := ownS_kept HO3.out b4 (Nat.le_refl _)
            have s4 := HB5.out.size
            have HNM : Hid (nm.data.toList.toArray = nm.data) := by show _ = _; simp
            clear b4 HB3 HO3 HB4 gm
            generalize scB ts m nm = sb at *
            obtain ⟨b0, b1⟩ := sb
            simp only at HXN ⊢
            have hfd := bnd_field b0 b1
            by_cases hb0 : 0 ≤ b0
            · have HNX : Hid (visX ts m bl (k + 1) = visX ts m bl k ++ [nm.data.toList]) := by show _ = _; rw [HXN.out, if_pos hb0]
              generalize visX ts m bl k = X at *
              clear HXN
              go_wp2_with (at_builtin; refine wpList_append_own _ rfl _ _ 33 rfl w2.heap.size 9 i0 (.string ⟨#[]⟩) 1 16 Try.underlying33 hi hz0 hz1 hz2 rfl (by decide) _ _ _ rfl (HO5.out.alloc _) ⟨w4.heap.size, 0, none⟩ 1 1 [.string nm] rfl rfl ?a1 ?a2 ?a3 ?a4 ?a5 ?_)
              try (case a1 => exact str_new)
              case a2 => first | rfl | (intro u hu; simp at hu; subst hu; rfl)
              case a3 => unfold maxLen; omega
              case a4 => omega
              case a5 => first | omega | (simp; omega)
              intro v' W5 hown' hgrow _
              have HM : Hid (ownS W5 w2.heap.size v' (visX ts m bl (k + 1))) := by
                show ownS W5 w2.heap.size v' _
                rw [HNX.out]
                refine ownS_next nm.data.toList hown' rfl ?_
                show _ = _ ++ [Value.string ⟨nm.data.toList.toArray⟩]
                rw [bytes_list]
              have HB6 : Hid (Below w2.heap.size w2 W5) := (HB5.out.alloc s4 _).grown hgrow (by simp; omega) (fun q hq => (HO5.out.lt q hq).1)
              clear hown' hgrow HO5 HB5
              go_wp2
              go_roundw
              case rel => exact ⟨k + 1, by omega, by go_num, HM, HB6.out⟩
              case measure => simp [intOf]; omega
            · have HM : Hid (ownS w4 w2.heap.size u6 (visX ts m bl (k + 1))) := by
                show ownS w4 w2.heap.size u6 _
                rw [HXN.out, if_neg hb0, List.append_nil]
                exact HO5.out
              clear HXN HO5
              go_wp2
              go_roundw
              case rel => exact ⟨k + 1, by omega, by go_num, HM, HB5.out⟩
              case measure => simp [intOf]; omega
          · obtain rfl : k = bl.length := by omega
            have hxl := visX_length ts m bl bl.length
            go_wp2_with fail
            refine (impl_rising w2.heap.size u6 (visX ts m bl bl.length) (by omega) HSM.out wr HOk.out).mono ?_
            rintro e w3 ⟨v3, rfl, ho3, b3⟩
            have HE : Hid (ownS w3 w.heap.size v3 (visB ts m)) := by
              show ownS w3 w.heap.size v3 _
              rw [HVB.out]
              exact ownS_base ho3 (by omega)
            have HB3 : Hid (Below w.heap.size w w3) := hb1.trans ((HB2.out.trans ((hb.trans (b3.mono hs)).mono s2)).mono s1)
            clear ho3 b3 HOk
            go_wp2
            go_ret
            exact ⟨_, rfl, HE.out, HB3.out⟩
  · have HO : Hid (nodesB ts = false) := by show nodesB ts = false; simpa using hok
    have HV : Hid (visB ts i = []) := visB_no (Or.inl HO.out)
    clear hok
    go_enter Try.func32, Try.ntmps32
    go_wp2_with fail
    refine (impl_scopes _ g cap ts hne hl HT.out w HA.out).mono ?_
    rintro e w1 ⟨hend, hb1⟩
    unfold ScEnd at hend
    rw [HO.out] at hend
    obtain rfl : e = .returned (.slice none 0 0) := hend
    by_cases h0 : i < 0
    · go_wp2
      go_ret
      exact ⟨_, rfl, by rw [HV.out]; exact ownS_nil, hb1⟩
    · have h1 : 0 ≤ i := by omega
      go_wp2
      go_ret
      exact ⟨_, rfl, by rw [HV.out]; exact ownS_nil, hb1⟩
end Go.Proofs.Ytcpafjpjfinbkaa
