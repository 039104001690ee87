/-
  Each part of a program is one, and each node but the last one has one parent: the law's walk. Conditions: written at each theorem.
-/
import Derived.Test.YtlooccddflpmnaaGreatDoorGl
import Derived.Test.YtlooccddflpmnaaGreatDoorJ2
namespace Go.Proofs.YtlooccddflpmnaaGreatDoor
open Go.ChangeShapes Go.WideShapes Go.ChangeAt Go.RowKit
set_option linter.unusedVariables false

theorem pow_nodes {W : World} (h : laidMet Tryz.prog Rows.fnNodesRow.laid W) : PowIs W :=
  Lib.tabIs_of_head gPow gPowType Tryz.underlying184 Tryz.underlying172 cellsU cellsP h.tail.tail

theorem nbig_no (a : Option Addr) (len cap : Nat) (h : ¬ (1048576 : Int) < len) (w : World) : Calls Tryz.prog 5 #[.slice a len cap] w fun e w' => e = .returned (.bool false) ∧ w' = w := by
  go_enter Tryz.func5, Tryz.ntmps5
  go_wp2
  go_ret
  exact ⟨by simp, rfl⟩

theorem nbig_yes (a : Option Addr) (len cap : Nat) (h : (1048576 : Int) < len) (w : World) : Calls Tryz.prog 5 #[.slice a len cap] w fun e w' => e = .returned (.bool true) ∧ w' = w := by
  go_enter Tryz.func5, Tryz.ntmps5
  go_wp2
  go_ret
  exact ⟨by simp, rfl⟩

theorem ndraw_small {l : List Nod} (h : Trim l) : ∀ i, i < l.length → (l.getD i noNod).name.size ≤ maxLen ∧ (l.getD i noNod).other.size ≤ maxLen := by
  intro i hi
  have := trim_at h hi
  unfold Trim1 at this
  unfold maxLen
  omega

/-- What DrawNodesOk gives: some nodes, bent or not. -/
theorem draw_nodes (a : Option Addr) (len cap : Nat) (zs : List Int) (w : World) (hrow : IsRow w a len cap zs) (hl : len ≤ 1048576) :
    Calls Tryz.prog 16 #[.slice a len cap] w fun e w' => BentEnd w e w' ∧ Below w.heap.size w w' := by
  have HN : Hid (Calls Tryz.prog 24 #[.slice a len cap] w fun e w' => e = .returned (.pointer (some ⟨w.heap.size, 0, none⟩)) ∧ CurAt a len cap zs w.heap.size w' (newS zs len) ∧ Below w.heap.size w w') := new_at a len cap zs w hrow hl
  clear hrow
  go_enter Tryz.func16, Tryz.ntmps16
  go_wp2_with fail
  refine Calls.mono HN.out ?_
  rintro e w1 ⟨rfl, c1, b1⟩
  have C1 : Hid (CurAt a len cap zs w.heap.size w1 (newS zs len)) := c1
  have B1 : Hid (Below w.heap.size w w1) := b1
  clear c1 b1 HN
  go_wp2_with fail
  refine (bent_at a len cap zs w.heap.size w1 _ C1.out).mono ?_
  rintro e w2 ⟨hb, hn⟩
  have BB : Hid (BentEnd w e w2 ∧ Below w.heap.size w w2) := by
    refine ⟨hb, ?_⟩
    have hs := B1.out.size
    exact ⟨hn.os.trans B1.out.os, hn.tape.trans B1.out.tape, hn.output.trans B1.out.output, Nat.le_trans hs hn.size, fun k hk => (hn.block k (by omega) (by omega)).trans (B1.out.block k hk)⟩
  obtain ⟨al, g, c, l, rfl, -⟩ := hb
  clear hn
  go_wp2
  go_ret
  exact BB.out

set_option maxRecDepth 20000 in
theorem law_has (a : Option Addr) (g cap : Nat) (st : List Int) (x : Int) (hl : st.length ≤ 1048576) (ha : 0 < st.length → a = some ⟨g, 0, none⟩) (w : World) (hA : IntAt w g st) :
    Calls Tryz.prog 22 #[.slice a st.length cap, .int .i64 x] w fun e w' => e = .returned (.bool (hasI st x)) ∧ Below w.heap.size w w' := by
  have HA : Hid (IntAt w g st) := hA
  clear hA
  go_enter Tryz.func22, Tryz.ntmps22
  go_wp2
  go_loopw [5] (fun i wr => ∃ k : Nat, k ≤ st.length ∧ i = .int .i64 k ∧ Hid (hasI st x = hasI (st.drop k) x) ∧ Below w.heap.size w wr) (fun i _ => st.length - (intOf i).toNat)
  case atStart => exact ⟨0, by omega, rfl, rfl, Below.refl _ _⟩
  case round =>
    obtain ⟨k, hk, rfl, HC, hbl⟩ := hrel
    by_cases hin : k < st.length
    · have e1 : (k : Int) < st.length := by omega
      obtain rfl := ha (by omega)
      have t := (HA.out.below hbl (fun h => HA.out.lt h)) k hin
      have hst := has_step st x k hin
      generalize st.getD k 0 = y at t hst
      by_cases hy : y = x
      · subst hy
        have HV : Hid (hasI st y = true) := by show hasI st y = true; rw [HC.out, hst]; simp
        clear hst HC
        go_wp2
        go_ret
        exact ⟨by rw [HV.out] <;> rfl, hbl⟩
      · have hy' : ¬ x = y := fun e => hy e.symm
        have HV : Hid (hasI st x = hasI (st.drop (k + 1)) x) := by
          show hasI st x = _
          rw [HC.out, hst, beq_eq_false_iff_ne.2 hy', Bool.false_or]
        clear hst HC
        go_wp2
        go_roundw
        case rel => exact ⟨k + 1, by omega, by go_num, HV.out, hbl⟩
        case measure => simp [intOf]; omega
    · have HV : Hid (hasI st x = false) := by
        show hasI st x = false
        rw [HC.out, List.drop_eq_nil_of_le (by omega)]; rfl
      clear HC
      go_wp2
      go_ret
      exact ⟨by rw [HV.out] <;> rfl, hbl⟩

/-- The part of the last node is all. -/
theorem part_last {ts : List Nod} (h : nodesB ts = true) : partB ts ((ts.length : Int) - 1) = ts := by
  obtain ⟨h1, h2, st, hS⟩ := nodesB_starts h
  obtain ⟨n, hn⟩ : ∃ n, ts.length = n + 1 := ⟨ts.length - 1, by omega⟩
  have h0 : st.getD (ts.length - 1) 0 = 0 := by
    have := (Bool.and_eq_true_iff.1 h).2
    rw [hS] at this
    simpa using this
  have hR := right_of (by omega) hS
  have e : (ts.length : Int) - 1 = (n : Nat) := by omega
  rw [e, partB_at h (by omega) hS]
  have e0 : st.getD n 0 = 0 := by rw [show n = ts.length - 1 by omega]; exact h0
  unfold partAt
  rw [e0]
  have e1 : (ts.take (n + 1)).drop (Int.toNat 0) = ts := by
    rw [← hn, List.take_length]
    rfl
  rw [e1]
  apply List.ext_getElem?
  intro j
  rw [List.getElem?_map]
  by_cases hj : j < ts.length
  · rw [List.getElem?_eq_getElem hj]
    show some _ = some _
    congr 1
    have hk := hR.2 j hj
    have et : ts.getD j noNod = ts[j] := by simp [List.getD, hj]
    rw [et] at hk
    generalize ts[j] = t at hk
    obtain ⟨x0, x1, x2, x3, x4, x5, x6⟩ := t
    obtain ⟨_, _, k0, k1, k2, k3⟩ := hk
    simp only at k0 k1 k2 k3
    have har := arN_le x0
    unfold shiftN
    simp only
    have w0 : ∀ q : Nat, q ≤ 1000 → wrap64 ((q : Int) + (((0 : Nat) : Int) - 0)) = q := fun q hq => by rw [wrap_small (by omega) (by omega)]; omega
    rcases (by omega : arN x0 = 0 ∨ arN x0 = 1 ∨ arN x0 = 2 ∨ arN x0 = 3) with e | e | e | e
    · rw [e]; rfl
    · obtain ⟨a, ha, g1, _⟩ := k1 e
      rw [e, ha]
      simp only [show (0 : Nat) < 1 by omega, show ¬ (1 : Nat) < 1 by omega, show ¬ (2 : Nat) < 1 by omega, if_true, if_false]
      rw [w0 a (by omega)]
    · obtain ⟨a, b, ha, hb, g1, g2, _⟩ := k2 e
      have hs := (hR.2 b (by omega)).2.1
      rw [e, ha, hb]
      simp only [show (0 : Nat) < 2 by omega, show (1 : Nat) < 2 by omega, show ¬ (2 : Nat) < 2 by omega, if_true, if_false]
      rw [w0 a (by omega), w0 b (by omega)]
    · obtain ⟨a, b, c, ha, hb, hc, g1, g2, g3, _⟩ := k3 e
      have hs := (hR.2 c (by omega)).2.1
      have hs2 := (hR.2 b (by omega)).2.1
      rw [e, ha, hb, hc]
      simp only [show (0 : Nat) < 3 by omega, show (1 : Nat) < 3 by omega, show (2 : Nat) < 3 by omega, if_true]
      rw [w0 a (by omega), w0 b (by omega), w0 c (by omega)]
  · rw [List.getElem?_eq_none (by omega)]
    rfl

theorem same_self (ts : List Nod) : sameNod ts ts = true := sameNod_yes rfl (fun j _ => (nodSame_iff _ _).2 rfl)

/-- What is known of a node of a program. -/
theorem node_facts {ts : List Nod} (h : nodesB ts = true) (m : Nat) (hm : m < ts.length) : nodesB (partB ts m) = true ∧ ((partB ts m).length : Int) = (m : Int) + 1 - startB ts m ∧ 0 ≤ startB ts m ∧ startB ts m ≤ m ∧
    ((m + 1 = ts.length ∧ parB ts m = -1) ∨ (m + 1 < ts.length ∧ ∃ p : Nat, parB ts m = p ∧ p < ts.length ∧ hasI (kidL (ts.getD p noNod)) m = true)) := by
  obtain ⟨h1, h2, st, hS⟩ := nodesB_starts h
  have hr := (startsF_range ts _ st hS).2 m hm
  have hpl := partAt_length ts st m 0 hm hr
  rw [startB_yes h hm hS, partB_at h hm hS]
  refine ⟨part_right h hS hm, by rw [hpl]; omega, hr.1, hr.2, ?_⟩
  obtain ⟨_, _, _, hp, hh⟩ := right_par h
  have eP : parB ts m = parP ts m := by rw [parB, if_pos h]
  rw [eP]
  by_cases hl : m + 1 = ts.length
  · refine Or.inl ⟨hl, ?_⟩
    rcases hp m with e | ⟨p, c, e, q1, q2, q3, _⟩
    · exact e
    · omega
  · refine Or.inr ⟨by omega, ?_⟩
    obtain ⟨p, p1, p2, p3⟩ := hh m (by omega)
    have h0 : 0 ≤ parP ts m := parU_some ts m p p2 p3 ts.length (Nat.le_refl _) (by omega)
    rcases hp m with e | ⟨q, c, e, q1, q2, q3, q4⟩
    · omega
    · exact ⟨q, e, q1, q4⟩

theorem pow_below {w w' : World} (h : PowIs w) (hb : Below w.heap.size w w') : PowIs w' := var?_below hb gPow (var_lt gPow h) h

set_option maxHeartbeats 8000000 in
set_option maxRecDepth 20000 in
theorem nodes_walk (a : Option Addr) (len cap : Nat) (zs : List Int) (w : World) (hrow : IsRow w a len cap zs) (hl : ¬ (1048576 : Int) < len) (hv : PowIs w) :
    Calls Tryz.prog 4 #[.slice a len cap] w fun e w' => e = .returned (.bool true) ∧ Below w.heap.size w w' := by
  have HR : Hid (IsRow w a len cap zs) := hrow
  have HV : Hid (PowIs w) := hv
  clear hrow hv
  go_enter Tryz.func4, Tryz.ntmps4
  go_wp2_with fail
  refine (nbig_no a len cap (by omega) w).mono ?_
  rintro e w0 ⟨rfl, hw0⟩
  rw [hw0]
  clear hw0 w0
  go_wp2_with fail
  refine (draw_nodes a len cap zs w HR.out (by omega)).mono ?_
  rintro e w1 ⟨⟨al, g, c, l, rfl, hal, hA, hll, ht⟩, b1⟩
  have B1 : Hid (Below w.heap.size w w1) := b1
  have s1 := b1.size
  have HA : Hid (NodAt w1 g l) := hA
  have HT : Hid (∀ i, i < l.length → (l.getD i noNod).name.size ≤ maxLen ∧ (l.getD i noNod).other.size ≤ maxLen) := ndraw_small ht
  have HP1 : Hid (PowIs w1) := pow_below HV.out b1
  clear hA ht b1
  go_wp2_with fail
  refine (impl_nodes al g c l hal (by omega) HT.out w1 HA.out).mono ?_
  rintro e w2 ⟨rfl, b2⟩
  have s2 := b2.size
  go_wp2_with fail
  refine (spec_nodes al g c l hal (by omega) HT.out w2 (HA.out.below b2 (fun h => HA.out.lt h))).mono ?_
  rintro e w3 ⟨rfl, b3⟩
  have B3 : Below w1.heap.size w1 w3 := b2.trans (b3.mono s2)
  clear b2 b3
  cases hok : nodesB l
  · have HNO : Hid (∀ i, startB l i = -1 ∧ partB l i = []) := fun i => by
      have h1 : startB l i = -1 := startB_no (Or.inl hok)
      exact ⟨h1, by unfold partB; rw [h1, if_pos (by omega)]⟩
    clear hok
    go_wp2
    go_loopw [5] (fun iv wr => ∃ k : Nat, k ≤ l.length ∧ iv = .int .i64 k ∧ Below w1.heap.size w1 wr) (fun iv _ => l.length - (intOf iv).toNat)
    case atStart => exact ⟨0, by omega, rfl, B3⟩
    case round =>
      obtain ⟨k, hk, rfl, hb⟩ := hrel
      have hs := hb.size
      by_cases hin : k < l.length
      · have hin' : (k : Int) < l.length := by omega
        go_wp2_with fail
        refine (impl_part al g c l k (by omega) (by omega) hal (by omega) HT.out wr (HA.out.below hb (fun h => HA.out.lt h))).mono ?_
        rintro e w4 ⟨v4, rfl, ho4, b4⟩
        obtain ⟨h1, h2⟩ := HNO.out k
        rw [h2] at ho4
        obtain ⟨a4, g4, c4, sp4, rfl, _⟩ := ownNod_form ho4
        have hb4 : Below w1.heap.size w1 w4 := hb.trans (b4.mono hs)
        have e4 : ([] : List Nod).length = 0 := rfl
        rw [e4]
        clear ho4 b4 h2 hb
        go_wp2_with fail
        refine (impl_start al g c l k (by omega) (by omega) hal (by omega) HT.out w4 (HA.out.below hb4 (fun h => HA.out.lt h))).mono ?_
        rintro e w5 ⟨rfl, b5⟩
        rw [h1]
        have hb5 : Below w1.heap.size w1 w5 := hb4.trans (b5.mono hb4.size)
        clear b5 h1
        go_wp2
        go_roundw
        case rel => exact ⟨k + 1, by omega, by go_num, hb5⟩
        case measure => simp [intOf]; omega
      · have HB : Hid (Below w.heap.size w wr) := B1.out.trans (hb.mono s1)
        go_wp2
        go_ret
        exact ⟨rfl, HB.out⟩
  · have HO : Hid (nodesB l = true) := hok
    have HNF : Hid (∀ m, m < l.length → nodesB (partB l m) = true ∧ ((partB l m).length : Int) = (m : Int) + 1 - startB l m ∧ 0 ≤ startB l m ∧ startB l m ≤ m ∧
      ((m + 1 = l.length ∧ parB l m = -1) ∨ (m + 1 < l.length ∧ ∃ p : Nat, parB l m = p ∧ p < l.length ∧ hasI (kidL (l.getD p noNod)) m = true))) := fun m hm => node_facts hok m hm
    have HPL : Hid (partB l ((l.length : Int) - 1) = l) := part_last hok
    obtain ⟨hl1, hl2, _⟩ := nodesB_starts hok
    clear hok
    obtain rfl := hal (by omega)
    go_wp2
    go_loopw [5] (fun iv wr => ∃ k : Nat, k ≤ l.length ∧ iv = .int .i64 k ∧ Below w1.heap.size w1 wr) (fun iv _ => l.length - (intOf iv).toNat)
    case atStart => exact ⟨0, by omega, rfl, B3⟩
    case round =>
      obtain ⟨k, hk, rfl, hb⟩ := hrel
      have hs := hb.size
      by_cases hin : k < l.length
      · have hin' : (k : Int) < l.length := by omega
        obtain ⟨f1, f2, f3, f4, f5⟩ := HNF.out k hin
        have HF1 : Hid (nodesB (partB l k) = true) := f1
        have HPP : Hid (printB (partB l k) = printPartB l k) := print_part l k
        obtain ⟨hpl, hps⟩ := partB_small l k
        have HPS : Hid (∀ j, j < (partB l k).length → ((partB l k).getD j noNod).name.size ≤ maxLen ∧ ((partB l k).getD j noNod).other.size ≤ maxLen) := hps
        have HCST : Hid (∀ W, Below w1.heap.size w1 W → Calls Tryz.prog 19 #[.slice (some ⟨g, 0, none⟩) l.length c, .int .i64 k] W fun e w' => e = .returned (.int .i64 (startB l k)) ∧ Below W.heap.size W w') := fun W hW => impl_start _ g c l k (by omega) (by omega) (fun _ => rfl) (by omega) HT.out W (HA.out.below hW (fun h => HA.out.lt h))
        have HCPP : Hid (∀ W, Below w1.heap.size w1 W → Calls Tryz.prog 20 #[.slice (some ⟨g, 0, none⟩) l.length c, .int .i64 k] W fun e w' => e = .returned (.string (printPartB l k)) ∧ Below W.heap.size W w') := fun W hW => impl_printPart _ g c l k (by omega) (by omega) (fun _ => rfl) (by omega) HT.out W (pow_below HP1.out hW) (HA.out.below hW (fun h => HA.out.lt h))
        have HCPA : Hid (∀ W, Below w1.heap.size w1 W → Calls Tryz.prog 21 #[.slice (some ⟨g, 0, none⟩) l.length c, .int .i64 k] W fun e w' => e = .returned (.int .i64 (parB l k)) ∧ Below W.heap.size W w') := fun W hW => impl_parent _ g c l k (fun _ => rfl) (by omega) HT.out W (HA.out.below hW (fun h => HA.out.lt h))
        clear f1 hps
        go_wp2_with fail
        refine (impl_part _ g c l k (by omega) (by omega) (fun _ => rfl) (by omega) HT.out wr (HA.out.below hb (fun h => HA.out.lt h))).mono ?_
        rintro e w4 ⟨v4, rfl, ho4, b4⟩
        obtain ⟨a4, g4, c4, sp4, rfl, ha4, hT4, hB4, hl4, _⟩ := ownNod_form ho4
        have hb4 : Below w1.heap.size w1 w4 := hb.trans (b4.mono hs)
        have s4 := hb4.size
        have HA4 : Hid (0 < (partB l k).length → a4 = some ⟨g4, 0, none⟩) := ha4
        have HT4 : Hid (NodAt w4 g4 (partB l k)) := hT4
        have HL4 : Hid (0 < (partB l k).length → g4 < w4.heap.size) := hl4
        have HCP : Hid (∀ W, Below w4.heap.size w4 W → PowIs W → Calls Tryz.prog 7 #[.slice a4 (partB l k).length c4] W fun e w' => e = .returned (.string (printPartB l k)) ∧ Below W.heap.size W w') := fun W hW hp => by
          have := impl_print a4 g4 c4 (partB l k) HA4.out hpl HPS.out W hp (HT4.out.below hW HL4.out)
          rw [HPP.out] at this
          exact this
        clear ho4 ha4 hT4 hl4 b4 hb HPP
        go_wp2_with fail
        refine (spec_nodes a4 g4 c4 (partB l k) HA4.out hpl HPS.out w4 HT4.out).mono ?_
        rintro e w5 ⟨rfl, b5⟩
        rw [HF1.out]
        have hb5 : Below w1.heap.size w1 w5 := hb4.trans (b5.mono s4)
        have X5 : Below w4.heap.size w4 w5 := b5
        have s5 := b5.size
        clear b5 HF1 HT4 HPS
        generalize partB l k = pt at *
        go_wp2_with fail
        refine (HCST.out w5 hb5).mono ?_
        rintro e w6 ⟨rfl, b6⟩
        have hb6 : Below w1.heap.size w1 w6 := hb5.trans (b6.mono hb5.size)
        have X6 : Below w4.heap.size w4 w6 := X5.trans (b6.mono s5)
        have e6 : (pt.length : Int) = (k : Int) + 1 - startB l k := f2
        generalize startB l k = S at *
        clear b6 X5 f2
        go_wp2_with fail
        refine (HCPP.out w6 hb6).mono ?_
        rintro e w7 ⟨rfl, b7⟩
        have hb7 : Below w1.heap.size w1 w7 := hb6.trans (b7.mono hb6.size)
        have X7 : Below w4.heap.size w4 w7 := X6.trans (b7.mono X6.size)
        clear b7 X6 hb6
        go_wp2_with fail
        refine (HCP.out w7 X7 (pow_below HP1.out hb7)).mono ?_
        rintro e w8 ⟨rfl, b8⟩
        have hb8 : Below w1.heap.size w1 w8 := hb7.trans (b8.mono hb7.size)
        generalize printPartB l k = S2 at *
        clear b8 X7 hb7 HCP
        go_wp2_with fail
        refine (HCPA.out w8 hb8).mono ?_
        rintro e w9 ⟨rfl, b9⟩
        have hb9 : Below w1.heap.size w1 w9 := hb8.trans (b9.mono hb8.size)
        clear b9 hb8 HCPA
        rcases f5 with ⟨q1, q2⟩ | ⟨q1, p, q2, q3, q4⟩
        · rw [q2]
          have e9 : ((k : Int) == (l.length : Int) - 1) = true := by rw [beq_iff_eq]; omega
          clear q2 HNF HPL
          go_wp2
          go_roundw
          case rel => exact ⟨k + 1, by omega, by go_num, hb9⟩
          case measure => simp [intOf]; omega
        · rw [q2]
          have e9 : ((k : Int) == (l.length : Int) - 1) = false := by rw [beq_eq_false_iff_ne]; omega
          have q3' : (p : Int) < l.length := by omega
          have t := (HA.out.below hb9 (fun h => HA.out.lt h)) p q3
          have HHS : Hid (hasI (kidL (l.getD p noNod)) k = true) := q4
          obtain ⟨⟨x0, x1, x2, x3, x4, x5, x6⟩, hx⟩ : ∃ y, l.getD p noNod = y := ⟨_, rfl⟩
          rw [hx] at t HHS
          have c0 : w9.cell? ⟨g, p * 7, none⟩ = some (.int .i64 x0) := t.c0
          have c1 : w9.cell? ⟨g, p * 7 + 1, none⟩ = some (.int .i64 x1) := t.c1
          have c2 : w9.cell? ⟨g, p * 7 + 2, none⟩ = some (.int .i64 x2) := t.c2
          have c3 : w9.cell? ⟨g, p * 7 + 3, none⟩ = some (.int .i64 x3) := t.c3
          have cc4 : w9.cell? ⟨g, p * 7 + 4, none⟩ = some (.int .i64 x4) := t.c4
          have c5 : w9.cell? ⟨g, p * 7 + 5, none⟩ = some (.string x5) := t.c5
          have c6 : w9.cell? ⟨g, p * 7 + 6, none⟩ = some (.string x6) := t.c6
          have har := arN_le x0
          have HIK : Hid (∀ (w : World), Calls Tryz.prog 23 #[.agg #[.int .i64 x0, .int .i64 x1, .int .i64 x2, .int .i64 x3, .int .i64 x4, .string x5, .string x6]] w fun e w' =>
              ∃ K, e = .returned (.slice (some ⟨K, 0, none⟩) (kidL ⟨x0, x1, x2, x3, x4, x5, x6⟩).length 3) ∧ IntAt w' K (kidL ⟨x0, x1, x2, x3, x4, x5, x6⟩) ∧ Below w.heap.size w w') := fun w => by
            refine (impl_kids x0 x1 x2 x3 x4 x5 x6 w).mono ?_
            rintro e w1 ⟨rfl, hg, hb⟩
            exact ⟨_, by rw [kidL_length], by rw [kidL_take]; exact kids_at hg, hb⟩
          have hkl3 : (kidL ⟨x0, x1, x2, x3, x4, x5, x6⟩).length ≤ 3 := by rw [kidL_length]; exact har
          generalize kidL ⟨x0, x1, x2, x3, x4, x5, x6⟩ = ks at *
          clear q2 q4 t hx har HNF HPL
          go_wp2_with fail
          refine (HIK.out w9).mono ?_
          rintro e w10 ⟨K, rfl, hI, b10⟩
          have HI10 : Hid (IntAt w10 K ks) := hI
          have hb10 : Below w1.heap.size w1 w10 := hb9.trans (b10.mono hb9.size)
          clear c0 c1 c2 c3 cc4 c5 c6 hI b10 HIK hb9
          go_wp2_with fail
          refine (law_has _ K 3 ks k (by omega) (fun _ => rfl) w10 HI10.out).mono ?_
          rintro e w11 ⟨rfl, b11⟩
          rw [HHS.out]
          have hb11 : Below w1.heap.size w1 w11 := hb10.trans (b11.mono hb10.size)
          clear b11 HI10 hb10 HHS
          go_wp2
          go_roundw
          case rel => exact ⟨k + 1, by omega, by go_num, hb11⟩
          case measure => simp [intOf]; omega
      · have e9 : (0 : Int) ≤ (l.length : Int) - 1 := by omega
        have HCP : Hid (Calls Tryz.prog 18 #[.slice (some ⟨g, 0, none⟩) l.length c, .int .i64 ((l.length : Int) - 1)] wr fun e w' => ∃ v, e = .returned v ∧ ownNod w' wr.heap.size v l ∧ Below wr.heap.size wr w') := by
          have h := impl_part (some ⟨g, 0, none⟩) g c l ((l.length : Int) - 1) (by omega) (by omega) (fun _ => rfl) (by omega) HT.out wr (HA.out.below hb (fun h => HA.out.lt h))
          rw [HPL.out] at h
          exact h
        clear HNF HPL
        go_wp2_with fail
        refine HCP.out.mono ?_
        rintro e w4 ⟨v4, rfl, ho4, b4⟩
        obtain ⟨a4, g4, c4, sp4, rfl, ha4, hT4, hB4, hl4, _⟩ := ownNod_form ho4
        have hb4 : Below w1.heap.size w1 w4 := hb.trans (b4.mono hs)
        have HA4 : Hid (0 < l.length → a4 = some ⟨g4, 0, none⟩) := ha4
        have HT4 : Hid (NodAt w4 g4 l) := hT4
        clear ho4 ha4 hT4 hl4 b4 hb HCP
        go_wp2_with fail
        refine (impl_same a4 _ g4 g c4 c l l (by omega) (by omega) HA4.out (fun _ => rfl) w4 HT4.out (HA.out.below hb4 (fun h => HA.out.lt h))).mono ?_
        rintro e w5 ⟨rfl, b5⟩
        rw [same_self]
        have HB : Hid (Below w.heap.size w w5) := B1.out.trans ((hb4.trans (b5.mono hb4.size)).mono s1)
        clear b5 hb4
        go_wp2
        go_ret
        exact ⟨rfl, HB.out⟩
end Go.Proofs.YtlooccddflpmnaaGreatDoor
