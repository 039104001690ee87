/-
  Nodes, the specification's: where the parts of nodes begin; is it a program? Conditions: written at each theorem.
-/
import Derived.Test.YtjjanmccijghgaaNi
import Derived.Deep.LoopGhost
namespace Go.Proofs.Ytjjanmccijghgaa
open Go.ChangeShapes Go.WideShapes Go.ChangeAt Go.RowKit
set_option linter.unusedVariables false

/-- What a call of l3Starts ends with. -/
def StEnd (ts : List Nod) (B : Nat) (e : Ending) (w : World) : Prop :=
  (∃ st v, startsF ts ts.length = some st ∧ ownI w B v st ∧ e = .returned (.tuple #[v, .bool true])) ∨
  (∃ v, startsF ts ts.length = none ∧ e = .returned (.tuple #[v, .bool false]))

/-- The state of the loop over the nodes. -/
def SAt (ts : List Nod) (w : World) (g : Nat) (out pl : Value) (wr : World) : Prop :=
  ∃ (i : Nat) (st : List Int), pl = .int .i64 i ∧ i + g = ts.length ∧ startsF ts i = some st ∧ ownI wr w.heap.size out st ∧ Below w.heap.size w wr

theorem take_last (t : Nod) (k : Nat) (h : k < (kidL t).length) : ((kidL t).take (k + 1)).reverse = (kidL t).getD k 0 :: ((kidL t).take k).reverse := by
  rw [List.take_succ_eq_append_getElem h, List.reverse_append]
  simp [List.getD, List.getElem?_eq_getElem h]

theorem kidL_length (t : Nod) : (kidL t).length = arN t.kind := by
  have := arN_le t.kind
  simp [kidL]
  omega

theorem kid_cell {w : World} {g : Nat} {t : Nod} {e : TypeId} (h : w.heap[g]? = some (.cells #[.int .i64 t.a, .int .i64 t.b, .int .i64 t.c] e (0, 0))) (k : Nat) (hk : k < (kidL t).length) : w.cell? ⟨g, k, none⟩ = some (.int .i64 ((kidL t).getD k 0)) := by
  have h3 := arN_le t.kind
  have hl := kidL_length t
  rw [cell_of_row w _ _ _ _ _ h]
  have e1 : (kidL t).getD k 0 = [t.a, t.b, t.c].getD k 0 := by
    simp only [kidL, List.getD]
    rw [List.getElem?_take_of_lt (by omega)]
  rw [e1]
  rcases (by omega : k = 0 ∨ k = 1 ∨ k = 2) with rfl | rfl | rfl <;> rfl

set_option maxHeartbeats 4000000 in
set_option maxRecDepth 20000 in
theorem spec_starts (a : Option Addr) (g cap : Nat) (ts : List Nod) (hne : 0 < ts.length → a = some ⟨g, 0, none⟩) (hl : ts.length ≤ 1000)
    (hst : ∀ i, i < ts.length → (ts.getD i noNod).name.size ≤ maxLen ∧ (ts.getD i noNod).other.size ≤ maxLen) (w : World) (hA : NodAt w g ts) :
    Calls Try.prog 17 #[.slice a ts.length cap] w fun e w' => StEnd ts w.heap.size e w' ∧ Below w.heap.size w w' := by
  have HA : Hid (NodAt w g ts) := hA
  have HT : Hid (∀ i, i < ts.length → (ts.getD i noNod).name.size ≤ maxLen ∧ (ts.getD i noNod).other.size ≤ maxLen) := hst
  clear hA hst
  go_enter Try.func17, Try.ntmps17
  go_wp2
  go_loopg [4, 5] ts.length (fun g out i wr => SAt ts w g out i wr)
  case atStart => exact ⟨0, [], rfl, by omega, rfl, ownI_empty (Nat.le_refl _), (Below.refl _ w).alloc (Nat.le_refl _) _⟩
  case round =>
    obtain ⟨i, st, rfl, hig, hS, hown, hbel⟩ := hrel
    have HS : Hid (startsF ts i = some st) := hS
    have HO : Hid (ownI wr w.heap.size u4 st) := hown
    obtain ⟨hsl, hsr⟩ := startsF_range ts i st hS
    have HSR : Hid (∀ j, j < i → 0 ≤ st.getD j 0 ∧ st.getD j 0 ≤ j) := hsr
    have hsz := hbel.size
    clear hS hown hsr
    by_cases hin : i < ts.length
    · have e1 : (i : Int) < ts.length := by omega
      obtain rfl := hne (by omega)
      have hlt : g < w.heap.size := HA.out.lt (by omega)
      have t := (HA.out.below hbel (fun _ => hlt)) i hin
      have hsm := HT.out i hin
      have HN : Hid (startsF ts (i + 1) = (startsF ts i).bind fun st => (stepS (ts.getD i noNod) i st).map fun a => st ++ [a]) := rfl
      obtain ⟨⟨x0, x1, x2, x3, x4, x5, x6⟩, hx⟩ : ∃ y, ts.getD i noNod = y := ⟨_, rfl⟩
      rw [hx] at t hsm HN
      simp only at hsm
      have HSM : Hid (x5.size ≤ maxLen ∧ x6.size ≤ maxLen) := hsm
      have q0 : wr.cell? ⟨g, i * 7, none⟩ = some (.int .i64 x0) := t.c0
      have q1 : wr.cell? ⟨g, i * 7 + 1, none⟩ = some (.int .i64 x1) := t.c1
      have q2 : wr.cell? ⟨g, i * 7 + 2, none⟩ = some (.int .i64 x2) := t.c2
      have q3 : wr.cell? ⟨g, i * 7 + 3, none⟩ = some (.int .i64 x3) := t.c3
      have q4 : wr.cell? ⟨g, i * 7 + 4, none⟩ = some (.int .i64 x4) := t.c4
      have q5 : wr.cell? ⟨g, i * 7 + 5, none⟩ = some (.string x5) := t.c5
      have q6 : wr.cell? ⟨g, i * 7 + 6, none⟩ = some (.string x6) := t.c6
      have HTI : Hid (NodIn wr g i ⟨x0, x1, x2, x3, x4, x5, x6⟩) := t
      clear t hx hsm
      go_wp2_with fail
      refine (spec_fields x0 x1 x2 x3 x4 x5 x6 HSM.out.1 HSM.out.2 wr).mono ?_
      rintro e w1 ⟨rfl, hb1⟩
      have t1 := HTI.out.below hb1 (by omega)
      have HO1 : Hid (ownI w1 w.heap.size u4 st) := ownI_kept HO.out hb1 (Nat.le_refl _)
      have hs1 := hb1.size
      have hbel1 : Below w.heap.size w w1 := hbel.trans (hb1.mono hsz)
      clear q0 q1 q2 q3 q4 q5 q6 HTI HO hbel hb1
      by_cases hf : fieldsB ⟨x0, x1, x2, x3, x4, x5, x6⟩ = true
      · have q0 : w1.cell? ⟨g, i * 7, none⟩ = some (.int .i64 x0) := t1.c0
        have q1 : w1.cell? ⟨g, i * 7 + 1, none⟩ = some (.int .i64 x1) := t1.c1
        have q2 : w1.cell? ⟨g, i * 7 + 2, none⟩ = some (.int .i64 x2) := t1.c2
        have q3 : w1.cell? ⟨g, i * 7 + 3, none⟩ = some (.int .i64 x3) := t1.c3
        have q4 : w1.cell? ⟨g, i * 7 + 4, none⟩ = some (.int .i64 x4) := t1.c4
        have q5 : w1.cell? ⟨g, i * 7 + 5, none⟩ = some (.string x5) := t1.c5
        have q6 : w1.cell? ⟨g, i * 7 + 6, none⟩ = some (.string x6) := t1.c6
        have HE : Hid (startsF ts (i + 1) = (down st (kidL ⟨x0, x1, x2, x3, x4, x5, x6⟩).reverse i).map fun a => st ++ [a]) := by
          show startsF ts (i + 1) = _
          rw [HN.out, HS.out]
          simp only [Option.bind_some, stepS, if_pos hf]
        rw [hf]
        clear t1 hf HN
        go_wp2_with fail
        refine (spec_kids x0 x1 x2 x3 x4 x5 x6 w1).mono ?_
        rintro e w2 ⟨rfl, hk2, hb2⟩
        have hs2 := hb2.size
        have HKC : Hid (∀ j, j < (kidL ⟨x0, x1, x2, x3, x4, x5, x6⟩).length → w2.cell? ⟨w1.heap.size + 1, j, none⟩ = some (.int .i64 ((kidL ⟨x0, x1, x2, x3, x4, x5, x6⟩).getD j 0))) := fun j hj => kid_cell hk2 j hj
        have HKL : Hid ((kidL ⟨x0, x1, x2, x3, x4, x5, x6⟩).length = arN x0) := kidL_length _
        have har := arN_le x0
        have HO2 : Hid (ownI w2 w.heap.size u4 st) := ownI_kept HO1.out hb2 (Nat.le_refl _)
        have hbel2 : Below w.heap.size w w2 := hbel1.trans (hb2.mono (by omega))
        clear q0 q1 q2 q3 q4 q5 q6 hk2 hb2 hbel1 HO1
        have HTK : Hid (∀ k, k < arN x0 → ((kidL ⟨x0, x1, x2, x3, x4, x5, x6⟩).take (k + 1)).reverse = (kidL ⟨x0, x1, x2, x3, x4, x5, x6⟩).getD k 0 :: ((kidL ⟨x0, x1, x2, x3, x4, x5, x6⟩).take k).reverse) := fun k hk => take_last _ k (by rw [HKL.out]; exact hk)
        have HTA : Hid ((kidL ⟨x0, x1, x2, x3, x4, x5, x6⟩).take (arN x0) = kidL ⟨x0, x1, x2, x3, x4, x5, x6⟩) := List.take_of_length_le (by rw [HKL.out]; exact Nat.le_refl _)
        generalize kidL ⟨x0, x1, x2, x3, x4, x5, x6⟩ = ks at *
        generalize arN x0 = ar at *
        go_wp2
        go_loopg [6, 8] (ar + 1) (fun gg p k wx => wx = w2 ∧ ∃ (m : Nat) (P : Int), m ≤ ar ∧ gg = m + 1 ∧ k = .int .i64 ((m : Int) - 1) ∧ p = .int .i64 P ∧ 0 ≤ P ∧ P ≤ i ∧ down st (ks.take m).reverse P = down st ks.reverse i)
        case atStart => exact ⟨rfl, ar, i, Nat.le_refl _, rfl, rfl, rfl, by omega, by omega, by rw [HTA.out]⟩
        case round =>
          obtain ⟨rfl, m, P, hm, rfl, rfl, rfl, hP0, hP1, hd⟩ := hrel
          have HD : Hid (down st (ks.take m).reverse P = down st ks.reverse i) := hd
          clear hd
          by_cases hm0 : m = 0
          · subst hm0
            have HQ : Hid (startsF ts (i + 1) = some (st ++ [P])) := by
              show startsF ts (i + 1) = _
              rw [HE.out, ← HD.out]
              rfl
            obtain ⟨i0, hi, hz0, hz1, hz2⟩ := info_parts info_int
            clear HE HD HTK HTA HKC HKL
            go_wp2_with (at_builtin; refine wpList_append_own _ rfl _ _ 37 rfl w.heap.size 3 i0 _ 1 8 Try.underlying37 hi hz0 hz1 hz2 rfl (by decide) _ _ _ rfl (HO2.out.alloc _) ⟨wr.heap.size, 0, none⟩ 1 1 [.int .i64 P] rfl rfl ?a1 ?a2 ?a3 ?a4 ?a5 ?_)
            case a1 =>
              intro j u hj
              match j, hj with
              | 0, hj => simp at hj; subst hj; simp [Addr.add]
            case a2 => intro u hu; simp at hu; subst hu; rfl
            case a3 => unfold maxLen; omega
            case a4 => omega
            case a5 => simp; omega
            intro v' W3 hown' hgrow _
            have HM : Hid (SAt ts w (ts.length - (i + 1)) v' (.int .i64 ((i + 1 : Nat) : Int)) W3) :=
              ⟨i + 1, st ++ [P], rfl, by omega, HQ.out, ownI_next P hown' (by omega) rfl, (hbel2.alloc (by omega) _).grown hgrow (by simp; omega) (fun q hq => (HO2.out.lt q hq).1)⟩
            clear hown' hgrow HQ HO2 hbel2 hi hz0 hz1 hz2
            go_wp2
            go_roundg (ts.length - (i + 1))
            case rel => exact HM.out
            case measure => omega
          · obtain ⟨q, rfl⟩ : ∃ q, m = q + 1 := ⟨m - 1, by omega⟩
            have hqa : (q : Int) < ar := by omega
            have hc := HKC.out q (by rw [HKL.out]; omega)
            have HDD : Hid (down st ((ks.take (q + 1)).reverse) P = if ks.getD q 0 = P - 1 ∧ 0 ≤ ks.getD q 0 then down st (ks.take q).reverse (st.getD (ks.getD q 0).toNat 0) else none) := by
              show down st ((ks.take (q + 1)).reverse) P = _
              rw [HTK.out q (by omega)]
              rfl
            have eq1 : ((q + 1 : Nat) : Int) - 1 = q := by omega
            rw [eq1]
            generalize ks.getD q 0 = c at *
            by_cases hcc : c = P - 1 ∧ 0 ≤ c
            · obtain ⟨hc1, hc0⟩ := hcc
              obtain ⟨cn, rfl⟩ := Int.eq_ofNat_of_zero_le hc0
              have hcn : cn < i := by omega
              obtain ⟨go, co, hu, hBg, hgl, hcells⟩ := ownI_form HO2.out (by omega)
              have hr := HSR.out cn hcn
              have hcell := hcells cn (by omega)
              have HDN : Hid (down st (ks.take q).reverse (st.getD cn 0) = down st ks.reverse i) := by
                show down st (ks.take q).reverse (st.getD cn 0) = _
                rw [← HD.out, HDD.out, if_pos ⟨hc1, hc0⟩]
                rfl
              have nq : ((cn : Int) != P - 1) = false := by simpa using hc1
              have nn : decide ((cn : Int) < 0) = false := decide_eq_false (by omega)
              have hcn' : (cn : Int) < st.length := by omega
              subst hu
              generalize st.getD cn 0 = P2 at *
              have HC1 : Hid ((cn : Int) = P - 1) := hc1
              clear hc1 hcells HDD HD HE
              go_wp2
              go_roundg (q + 1)
              case rel => exact ⟨rfl, q, P2, by omega, rfl, by go_num, rfl, hr.1, by omega, HDN.out⟩
              case measure => omega
            · have HZ : Hid (startsF ts ts.length = none) := by
                show startsF ts ts.length = none
                refine startsF_none ts (i + 1) ts.length (by omega) ?_
                rw [HE.out, ← HD.out, HDD.out, if_neg hcc]
                rfl
              clear HE HD HDD HTK HTA HKC HKL HO2
              by_cases hc1 : c = P - 1
              · have nq : (c != P - 1) = false := by simpa using hc1
                have hneg : c < 0 := by omega
                have HC1 : Hid (c = P - 1) := hc1
                clear hc1 hcc
                go_wp2
                go_ret2
                exact ⟨Or.inr ⟨_, HZ.out, rfl⟩, hbel2.alloc (by omega) _⟩
              · have nq : (c != P - 1) = true := by simpa using hc1
                clear hc1 hcc
                go_wp2
                go_ret2
                exact ⟨Or.inr ⟨_, HZ.out, rfl⟩, hbel2.alloc (by omega) _⟩
      · have hf' : fieldsB ⟨x0, x1, x2, x3, x4, x5, x6⟩ = false := by simpa using hf
        have HZ : Hid (startsF ts ts.length = none) := by
          show startsF ts ts.length = none
          refine startsF_none ts (i + 1) ts.length (by omega) ?_
          rw [HN.out, HS.out]
          simp only [Option.bind_some, stepS, if_neg hf]
          rfl
        rw [hf']
        clear hf hf' HN t1 HO1
        go_wp2
        go_ret2
        exact ⟨Or.inr ⟨_, HZ.out, rfl⟩, hbel1.alloc (by omega) _⟩
    · have e1 : (ts.length : Int) ≤ i := by omega
      obtain rfl : i = ts.length := by omega
      go_wp2
      go_ret2
      exact ⟨Or.inl ⟨st, _, HS.out, HO.out, rfl⟩, hbel⟩

/-- Is it a program? -/
def nodesB (ts : List Nod) : Bool := decide (1 ≤ ts.length ∧ ts.length ≤ 150) && (match startsF ts ts.length with | some st => st.getD (ts.length - 1) 0 == 0 | none => false)

theorem spec_nodes (a : Option Addr) (g cap : Nat) (ts : List Nod) (hne : 0 < ts.length → a = some ⟨g, 0, none⟩) (hl : ts.length ≤ 1048576)
    (hst : ∀ i, i < ts.length → (ts.getD i noNod).name.size ≤ maxLen ∧ (ts.getD i noNod).other.size ≤ maxLen) (w : World) (hA : NodAt w g ts) :
    Calls Try.prog 10 #[.slice a ts.length cap] w fun e w' => e = .returned (.bool (nodesB ts)) ∧ Below w.heap.size w w' := by
  have HA : Hid (NodAt w g ts) := hA
  have HT : Hid (∀ i, i < ts.length → (ts.getD i noNod).name.size ≤ maxLen ∧ (ts.getD i noNod).other.size ≤ maxLen) := hst
  have HN : Hid (nodesB ts = (decide (1 ≤ ts.length ∧ ts.length ≤ 150) && (match startsF ts ts.length with | some st => st.getD (ts.length - 1) 0 == 0 | none => false))) := rfl
  clear hA hst
  go_enter Try.func10, Try.ntmps10
  go_wp2_with fail
  refine (word_in _ _ _ _).mono ?_
  rintro e w1 ⟨rfl, rfl⟩
  by_cases hk : 1 ≤ ts.length ∧ ts.length ≤ 150
  · have d1 : (decide ((1 : Int) ≤ ts.length) && decide ((ts.length : Int) ≤ 150)) = true := by rw [decide_eq_true (by omega), decide_eq_true (by omega)]; rfl
    rw [d1]
    have HV : Hid (nodesB ts = (match startsF ts ts.length with | some st => st.getD (ts.length - 1) 0 == 0 | none => false)) := by
      show nodesB ts = _
      rw [HN.out, decide_eq_true hk, Bool.true_and]
    obtain ⟨hk1, hk2⟩ := hk
    clear d1 HN
    go_wp2_with fail
    refine (spec_starts a g cap ts hne (by omega) HT.out w1 HA.out).mono ?_
    rintro e w2 ⟨hend, hb2⟩
    rcases hend with ⟨st, v, hS, hown, rfl⟩ | ⟨v, hS, rfl⟩
    · obtain ⟨hsl, _⟩ := startsF_range ts _ st hS
      rw [hS] at HV
      simp only at HV
      obtain ⟨go, co, rfl, hBg, hgl, hcells⟩ := ownI_form hown (by omega)
      have hcell := hcells (ts.length - 1) (by omega)
      have e1 : (ts.length : Int) - 1 < st.length := by omega
      have e2 : (0 : Int) ≤ (ts.length : Int) - 1 := by omega
      generalize st.getD (ts.length - 1) 0 = P at *
      clear hS hown hcells
      go_wp2
      go_ret
      exact ⟨by rw [HV.out]; rfl, hb2⟩
    · rw [hS] at HV
      simp only at HV
      clear hS
      go_wp2
      go_ret
      exact ⟨by rw [HV.out]; rfl, hb2⟩
  · have d1 : (decide ((1 : Int) ≤ ts.length) && decide ((ts.length : Int) ≤ 150)) = false := by
      rw [← Bool.decide_and]
      exact decide_eq_false (by omega)
    rw [d1]
    have HV : Hid (nodesB ts = false) := by
      show nodesB ts = false
      rw [HN.out, decide_eq_false hk, Bool.false_and]
    clear HN d1 hk
    go_wp2
    go_ret
    exact ⟨by rw [HV.out]; rfl, Below.refl _ _⟩

/-- Where the part of node i begins; -1 where there is none. -/
def startB (ts : List Nod) (i : Int) : Int := if nodesB ts = true ∧ 0 ≤ i ∧ i ≤ (ts.length : Int) - 1 then (match startsF ts ts.length with | some st => st.getD i.toNat 0 | none => -1) else -1

theorem nodesB_starts {ts : List Nod} (h : nodesB ts = true) : 1 ≤ ts.length ∧ ts.length ≤ 150 ∧ ∃ st, startsF ts ts.length = some st := by
  unfold nodesB at h
  rw [Bool.and_eq_true, decide_eq_true_eq] at h
  obtain ⟨⟨h1, h2⟩, h3⟩ := h
  cases hs : startsF ts ts.length with
  | none => rw [hs] at h3; cases h3
  | some st => exact ⟨h1, h2, st, rfl⟩

end Go.Proofs.Ytjjanmccijghgaa
