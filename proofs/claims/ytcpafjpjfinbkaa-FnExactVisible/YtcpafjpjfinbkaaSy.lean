/-
  Scopes, the specification's: the binder of a node. Conditions: written at each theorem.
-/
import Derived.Test.YtcpafjpjfinbkaaSb
import Derived.Test.YtcpafjpjfinbkaaSp
import Derived.Test.YtcpafjpjfinbkaaSx
namespace Go.Proofs.Ytcpafjpjfinbkaa
open Go.ChangeShapes Go.WideShapes Go.ChangeAt Go.RowKit
set_option linter.unusedVariables false

theorem scB_step {ts : List Nod} (h : nodesB ts = true) (kid : Nat) (s : ByteArray) : scB ts kid s = if parP ts kid < 0 then (-1, -1) else match lookR s (bndL (ts.getD (parP ts kid).toNat noNod) kid) with
    | some r => (parP ts kid, r)
    | none => scB ts (parP ts kid) s := by
  obtain ⟨_, hl, _, hp, _⟩ := right_par h
  have h1 : scB ts kid s = scF ts s (ts.length - 1 + 1) kid := by rw [scB]; congr 1; omega
  rw [h1, scF_step]
  by_cases hn : parP ts kid < 0
  · rw [if_pos hn, if_pos hn]
  · rw [if_neg hn, if_neg hn]
    rcases hp kid with e0 | ⟨p, c, e0, g1, g2, g3, _⟩
    · omega
    · rw [e0, scB_at hp s p (ts.length - 1) (by omega)]
      rfl

theorem lookR_step (s : ByteArray) (L : List (ByteArray × Int)) (k : Nat) (hk : k < L.length) : lookR s (L.drop k) = if (L.getD k (⟨#[]⟩, 0)).1 = s then some (L.getD k (⟨#[]⟩, 0)).2 else lookR s (L.drop (k + 1)) := by
  rw [List.drop_eq_getElem_cons hk]
  simp [List.getD, hk, lookR]

theorem names_at {w : World} {P : Nat} {L : List (ByteArray × Int)} {t : TypeId} (h : w.heap[P]? = some (.cells (L.map (fun x => Value.string x.1)).toArray t (0, 0))) (k : Nat) (hk : k < L.length) : w.cell? ⟨P, k, none⟩ = some (.string (L.getD k (⟨#[]⟩, 0)).1) := by
  rw [cell_of_row _ _ _ _ _ _ h]
  simp [List.getD, hk]

theorem roles_at {w : World} {P : Nat} {L : List (ByteArray × Int)} {t : TypeId} (h : w.heap[P]? = some (.cells (L.map (fun x => Value.int .i64 x.2)).toArray t (0, 0))) (k : Nat) (hk : k < L.length) : w.cell? ⟨P, k, none⟩ = some (.int .i64 (L.getD k (⟨#[]⟩, 0)).2) := by
  rw [cell_of_row _ _ _ _ _ _ h]
  simp [List.getD, hk]

theorem bndL_len (t : Nod) (c : Int) : (bndL t c).length ≤ 2 := by
  unfold bndL
  repeat' split
  all_goals simp

theorem bindB_none {ts : List Nod} {i : Int} (h : nodesB ts = false ∨ i < 0 ∨ (ts.length : Int) ≤ i) : bindB ts i = ⟨-1, -1⟩ := by
  unfold bindB
  refine if_neg ?_
  rintro ⟨h1, h2, h3⟩
  rcases h with h | h | h
  · rw [h1] at h; cases h
  · omega
  · omega

set_option maxHeartbeats 4000000 in
set_option maxRecDepth 20000 in
theorem spec_binder (a : Option Addr) (g cap : Nat) (ts : List Nod) (i : Int) (hne : 0 < ts.length → a = some ⟨g, 0, none⟩) (hl : ts.length ≤ 1048576)
    (hst : ∀ i, i < ts.length → (ts.getD i noNod).name.size ≤ maxLen ∧ (ts.getD i noNod).other.size ≤ maxLen) (w : World) (hA : NodAt w g ts) :
    Calls Try.prog 14 #[.slice a ts.length cap, .int .i64 i] w fun e w' => e = .returned (.agg #[.int .i64 (bindB ts i).node, .int .i64 (bindB ts i).role]) ∧ Below w.heap.size w w' := by
  have HA : Hid (NodAt w g ts) := hA
  have HT : Hid (∀ i, i < ts.length → (ts.getD i noNod).name.size ≤ maxLen ∧ (ts.getD i noNod).other.size ≤ maxLen) := hst
  obtain ⟨wa, hwa⟩ : ∃ wa, (w.alloc (.cells #[.int .i64 0, .int .i64 0] 30)).alloc (.cells #[.int .i64 (-1), .int .i64 (-1)] 30) = wa := ⟨_, rfl⟩
  have HWA : Hid ((w.alloc (.cells #[.int .i64 0, .int .i64 0] 30)).alloc (.cells #[.int .i64 (-1), .int .i64 (-1)] 30) = wa) := hwa
  have RA : Hid (wa.heap[w.heap.size]? = some (.cells #[.int .i64 0, .int .i64 0] 30 (0, 0))) := by
    show wa.heap[w.heap.size]? = _
    rw [← hwa, Below.heap_alloc _ _ _ (by simp)]
    exact (MapKept.heap_alloc w _).1
  have NA : Hid (wa.heap[w.heap.size + 1]? = some (.cells #[.int .i64 (-1), .int .i64 (-1)] 30 (0, 0))) := by
    show wa.heap[w.heap.size + 1]? = _
    rw [← hwa]
    have := (MapKept.heap_alloc (w.alloc (.cells #[.int .i64 0, .int .i64 0] 30)) (.cells #[.int .i64 (-1), .int .i64 (-1)] 30)).1
    simpa using this
  have BA : Hid (Below w.heap.size w wa) := by show Below w.heap.size w wa; rw [← hwa]; exact ((Below.refl _ w).alloc (Nat.le_refl _) _).alloc (by simp) _
  have sa : wa.heap.size = w.heap.size + 2 := by rw [← hwa]; simp
  have AA : Hid (NodAt wa g ts) := hA.below BA.out (fun h => hA.lt h)
  clear hwa hA hst
  have HNO : Hid (∀ wr, Below wa.heap.size wa wr → wr.heap[w.heap.size]? = some (.cells #[.int .i64 0, .int .i64 0] 30 (0, 0)) ∧ wr.heap[w.heap.size + 1]? = some (.cells #[.int .i64 (-1), .int .i64 (-1)] 30 (0, 0)) ∧ Below w.heap.size w wr) := fun wr hb =>
    ⟨(hb.block _ (by omega)).trans RA.out, (hb.block _ (by omega)).trans NA.out, BA.out.trans (hb.mono (by omega))⟩
  clear RA NA
  go_enter Try.func14, Try.ntmps14
  go_wp2_with fail
  rw [HWA.out]
  refine (spec_nodes a g cap ts hne hl HT.out wa AA.out).mono ?_
  rintro e w1 ⟨rfl, b1⟩
  cases hok : nodesB ts
  · have HV : Hid (bindB ts i = ⟨-1, -1⟩) := bindB_none (Or.inl hok)
    obtain ⟨R1, N1, B1⟩ := HNO.out w1 b1
    obtain ⟨q0, q1, q2⟩ := row2_cells R1
    obtain ⟨p0, p1, p2⟩ := row2_cells N1
    have HR1 : Hid (_) := R1
    have HB1 : Hid (_) := B1
    clear hok R1 N1 B1
    go_wp2
    exact bodyPost_ret (results_cell_row rfl _ _ w.heap.size 30 _ (0, 0) _ rfl (row2_put _ _ HR1.out) Try.underlying30 rfl (by kernel_rfl)) rfl ⟨by rw [HV.out], row2_below HB1.out (Nat.le_refl _) _ _⟩
  · have HO : Hid (nodesB ts = true) := hok
    obtain ⟨hl2, hl1, _, hpar, _⟩ := right_par hok
    have HPAR : Hid (∀ (m : Int), parP ts m = -1 ∨ ∃ p c : Nat, parP ts m = p ∧ p < ts.length ∧ m = c ∧ c < p ∧ hasI (kidL (ts.getD p noNod)) m = true) := hpar
    clear hok hpar
    obtain rfl := hne (by omega)
    go_wp2_with fail
    refine (word_in _ _ _ _).mono ?_
    rintro e w2 ⟨rfl, hw⟩
    rw [hw]
    clear hw w2
    by_cases hr : 0 ≤ i ∧ i ≤ (ts.length : Int) - 1
    · obtain ⟨hr1, hr2⟩ := hr
      have d1 : (decide ((0 : Int) ≤ i) && decide (i ≤ (ts.length : Int) - 1)) = true := by rw [decide_eq_true hr1, decide_eq_true hr2]; rfl
      rw [d1]
      clear d1
      obtain ⟨m, rfl⟩ := Int.eq_ofNat_of_zero_le hr1
      have hm : m < ts.length := by omega
      have hm' : (m : Int) < ts.length := by omega
      have HBB : Hid (bindB ts m = binN ts m) := by
        show bindB ts m = _
        rw [bindB, if_pos ⟨HO.out, by omega, hm'⟩]
        rfl
      have HBN : Hid (binN ts m = if (ts.getD m noNod).kind = 1 then ⟨(scB ts m (ts.getD m noNod).name).1, (scB ts m (ts.getD m noNod).name).2⟩ else ⟨-1, -1⟩) := rfl
      obtain ⟨R1, N1, B1⟩ := HNO.out w1 b1
      have t := (HA.out.below B1 (fun h => HA.out.lt h)) m hm
      obtain ⟨⟨x0, x1, x2, x3, x4, x5, x6⟩, hx⟩ : ∃ y, ts.getD m noNod = y := ⟨_, rfl⟩
      have HX : Hid (ts.getD m noNod = ⟨x0, x1, x2, x3, x4, x5, x6⟩) := hx
      rw [hx] at t HBN
      have t0 : w1.cell? ⟨g, m * 7, none⟩ = some (.int .i64 x0) := t.c0
      clear t hx
      by_cases hk1 : x0 = 1
      · subst hk1
        have HV0 : Hid (bindB ts m = ⟨(scB ts m x5).1, (scB ts m x5).2⟩) := by show bindB ts m = _; rw [HBB.out, HBN.out]; rfl
        clear HBB HBN R1 N1 B1
        go_wp2_with fail
        refine (spec_parent _ g cap ts m (fun _ => rfl) hl HT.out w1 (HA.out.below (HNO.out w1 b1).2.2 (fun h => HA.out.lt h))).mono ?_
        rintro e w2 ⟨rfl, b2⟩
        have s1 := b1.size
        have B2 : Below wa.heap.size wa w2 := b1.trans (b2.mono (by omega))
        rw [parB, if_pos HO.out]
        clear b1 b2 t0
        go_wp2
        go_loopw [6, 7] (fun kv qv wr => ∃ kid : Nat, kid < ts.length ∧ kv = .int .i64 kid ∧ qv = .int .i64 (parP ts kid) ∧ Hid (scB ts m x5 = scB ts kid x5) ∧ Below wa.heap.size wa wr) (fun kv _ _ => ts.length - (intOf kv).toNat)
        case atStart => exact ⟨m, hm, rfl, rfl, rfl, B2⟩
        case round =>
          obtain ⟨kid, hkid, rfl, rfl, HSC, hb⟩ := hrel
          clear B2
          have hstep := scB_step HO.out kid x5
          rw [← HSC.out] at hstep
          clear HSC
          obtain ⟨R1, N1, B1⟩ := HNO.out wr hb
          rcases HPAR.out kid with e0 | ⟨p, c, e0, hp1, hp2, hp3, _⟩
          · rw [e0, if_pos (by omega)] at hstep
            have HV : Hid (bindB ts m = ⟨-1, -1⟩) := by show bindB ts m = _; rw [HV0.out, hstep]
            rw [e0]
            obtain ⟨q0, q1, q2⟩ := row2_cells R1
            obtain ⟨p0, p1, p2⟩ := row2_cells N1
            have HR1 : Hid (_) := R1
            have HB1 : Hid (_) := B1
            clear R1 N1 B1 hstep e0
            go_wp2
            exact bodyPost_ret (results_cell_row rfl _ _ w.heap.size 30 _ (0, 0) _ rfl (row2_put _ _ HR1.out) Try.underlying30 rfl (by kernel_rfl)) rfl ⟨by rw [HV.out], row2_below HB1.out (Nat.le_refl _) _ _⟩
          · rw [e0, if_neg (by omega)] at hstep
            have ep : ((p : Nat) : Int).toNat = p := by omega
            rw [ep] at hstep
            rw [e0]
            have hp1' : (p : Int) < ts.length := by omega
            have t := (HA.out.below B1 (fun h => HA.out.lt h)) p hp1
            have HSTP : Hid (scB ts m x5 = match lookR x5 (bndL (ts.getD p noNod) kid) with | some r => ((p : Int), r) | none => scB ts p x5) := hstep
            have HLEN := bndL_len (ts.getD p noNod) kid
            obtain ⟨⟨y0, y1, y2, y3, y4, y5, y6⟩, hy⟩ : ∃ y, ts.getD p noNod = y := ⟨_, rfl⟩
            rw [hy] at t HSTP HLEN
            have q0 : wr.cell? ⟨g, p * 7, none⟩ = some (.int .i64 y0) := t.c0
            have q1 : wr.cell? ⟨g, p * 7 + 1, none⟩ = some (.int .i64 y1) := t.c1
            have q2 : wr.cell? ⟨g, p * 7 + 2, none⟩ = some (.int .i64 y2) := t.c2
            have q3 : wr.cell? ⟨g, p * 7 + 3, none⟩ = some (.int .i64 y3) := t.c3
            have q4 : wr.cell? ⟨g, p * 7 + 4, none⟩ = some (.int .i64 y4) := t.c4
            have q5 : wr.cell? ⟨g, p * 7 + 5, none⟩ = some (.string y5) := t.c5
            have q6 : wr.cell? ⟨g, p * 7 + 6, none⟩ = some (.string y6) := t.c6
            have HSB : Hid (∀ w, Calls Try.prog 45 #[.agg #[.int .i64 y0, .int .i64 y1, .int .i64 y2, .int .i64 y3, .int .i64 y4, .string y5, .string y6], .int .i64 kid] w fun e w' => BdEnd (bndL ⟨y0, y1, y2, y3, y4, y5, y6⟩ kid) w.heap.size e w' ∧ Below w.heap.size w w') := fun w => spec_bound y0 y1 y2 y3 y4 y5 y6 kid w
            generalize bndL ⟨y0, y1, y2, y3, y4, y5, y6⟩ kid = L at *
            have hkp : kid < p := by omega
            clear t hy R1 N1 B1 hstep e0 ep hp2
            go_wp2_with fail
            refine (HSB.out wr).mono ?_
            rintro e w2 ⟨⟨P, R, rfl, hP, hR, hPr, hRr⟩, b2⟩
            have HP : Hid (w2.heap[P]? = some (.cells (L.map (fun x => Value.string x.1)).toArray 9 (0, 0))) := hPr
            have HRO : Hid (w2.heap[R]? = some (.cells (L.map (fun x => Value.int .i64 x.2)).toArray 3 (0, 0))) := hRr
            have sr := hb.size
            have B2 : Hid (Below wa.heap.size wa w2) := hb.trans (b2.mono sr)
            have s2 := b2.size
            have hPl : P < w2.heap.size := (Array.getElem?_eq_some_iff.1 hPr).1
            have hRl : R < w2.heap.size := (Array.getElem?_eq_some_iff.1 hRr).1
            clear q0 q1 q2 q3 q4 q5 q6 HSB hb b2 hPr hRr
            go_wp2
            go_loopw [10] (fun kv wq => ∃ k : Nat, k ≤ L.length ∧ kv = .int .i64 k ∧ Hid (lookR x5 L = lookR x5 (L.drop k)) ∧ Below w2.heap.size w2 wq) (fun kv _ => L.length - (intOf kv).toNat)
            case atStart => exact ⟨0, by omega, rfl, rfl, Below.refl _ _⟩
            case round =>
              obtain ⟨k, hk, rfl, HLK, hbq⟩ := hrel
              have sq := hbq.size
              have HBW : Hid (Below wa.heap.size wa wr) := B2.out.trans (hbq.mono (by omega))
              by_cases hin : k < L.length
              · have hin' : (k : Int) < L.length := by omega
                have hls := lookR_step x5 L k hin
                rw [← HLK.out] at hls
                have n1 := names_at ((hbq.block P hPl).trans HP.out) k hin
                have n2 := roles_at ((hbq.block R hRl).trans HRO.out) k hin
                obtain ⟨R1, N1, B1⟩ := HNO.out wr HBW.out
                have t := (HA.out.below B1 (fun h => HA.out.lt h)) m hm
                rw [HX.out] at t
                have t5 : wr.cell? ⟨g, m * 7 + 5, none⟩ = some (.string x5) := t.c5
                generalize L.getD k (⟨#[]⟩, 0) = z at n1 n2 hls
                obtain ⟨z1, z2⟩ := z
                simp only at n1 n2 hls
                by_cases hz : z1 = x5
                · rw [if_pos hz] at hls
                  have HV : Hid (bindB ts m = ⟨p, z2⟩) := by show bindB ts m = _; rw [HV0.out, HSTP.out, hls]
                  subst hz
                  obtain ⟨q0, q1, q2⟩ := row2_cells R1
                  have HR1 : Hid (_) := R1
                  have HB1 : Hid (_) := B1
                  clear R1 N1 B1 hls HLK t hbq HSTP
                  go_wp2
                  go_quiet (fail)
                  go_wp2
                  exact bodyPost_ret (results_cell_row rfl _ _ w.heap.size 30 _ (0, 0) _ rfl (row2_put (W := wr.drewN nq) _ _ HR1.out) Try.underlying30 rfl (by kernel_rfl)) rfl ⟨by rw [HV.out], row2_below (below_drew_n HB1.out _) (Nat.le_refl _) _ _⟩
                · rw [if_neg hz] at hls
                  have HLN : Hid (lookR x5 L = lookR x5 (L.drop (k + 1))) := hls
                  have hzn := text_ne hz
                  clear R1 N1 B1 hls HLK t hz
                  go_wp2
                  go_quiet (fail)
                  go_wp2
                  go_roundw
                  case rel => exact ⟨k + 1, by omega, by go_num, HLN, below_drew_n hbq _⟩
                  case measure => simp [intOf]; omega
              · have HNL : Hid (scB ts m x5 = scB ts p x5) := by
                  show scB ts m x5 = _
                  have h := HLK.out
                  rw [List.drop_eq_nil_of_le (by omega)] at h
                  rw [HSTP.out, h]
                  rfl
                clear HLK hbq HSTP
                go_wp2_with fail
                refine (spec_parent _ g cap ts p (fun _ => rfl) hl HT.out wr (HA.out.below (HNO.out wr HBW.out).2.2 (fun h => HA.out.lt h))).mono ?_
                rintro e w3 ⟨rfl, b3⟩
                have B3 : Hid (Below wa.heap.size wa w3) := HBW.out.trans (b3.mono (by omega))
                rw [parB, if_pos HO.out]
                clear b3
                go_wp2
                go_roundw
                case rel => exact ⟨p, hp1, rfl, rfl, HNL, B3.out⟩
                case measure => simp [intOf]; omega
      · have HV : Hid (bindB ts m = ⟨-1, -1⟩) := by show bindB ts m = _; rw [HBB.out, HBN.out]; exact if_neg hk1
        obtain ⟨q0, q1, q2⟩ := row2_cells R1
        obtain ⟨p0, p1, p2⟩ := row2_cells N1
        have HR1 : Hid (_) := R1
        have HB1 : Hid (_) := B1
        clear R1 N1 B1 HBB HBN
        go_wp2
        exact bodyPost_ret (results_cell_row rfl _ _ w.heap.size 30 _ (0, 0) _ rfl (row2_put _ _ HR1.out) Try.underlying30 rfl (by kernel_rfl)) rfl ⟨by rw [HV.out], row2_below HB1.out (Nat.le_refl _) _ _⟩
    · have d1 : (decide ((0 : Int) ≤ i) && decide (i ≤ (ts.length : Int) - 1)) = false := by
        rw [← Bool.decide_and]
        exact decide_eq_false hr
      rw [d1]
      have HV : Hid (bindB ts i = ⟨-1, -1⟩) := bindB_none (Or.inr (by omega))
      obtain ⟨R1, N1, B1⟩ := HNO.out w1 b1
      obtain ⟨q0, q1, q2⟩ := row2_cells R1
      obtain ⟨p0, p1, p2⟩ := row2_cells N1
      have HR1 : Hid (_) := R1
      have HB1 : Hid (_) := B1
      clear R1 N1 B1 d1 hr
      go_wp2
      exact bodyPost_ret (results_cell_row rfl _ _ w.heap.size 30 _ (0, 0) _ rfl (row2_put _ _ HR1.out) Try.underlying30 rfl (by kernel_rfl)) rfl ⟨by rw [HV.out], row2_below HB1.out (Nat.le_refl _) _ _⟩
end Go.Proofs.Ytcpafjpjfinbkaa
