/-
  Scopes, the specification's: whose kid a node is. Conditions: written at each theorem.
-/
import Derived.Test.YtcpafjpjfinbkaaSc
import Derived.Test.YtcpafjpjfinbkaaIn
namespace Go.Proofs.Ytcpafjpjfinbkaa
open Go.ChangeShapes Go.WideShapes Go.ChangeAt Go.RowKit
set_option linter.unusedVariables false

theorem has_step (st : List Int) (x : Int) (k : Nat) (hk : k < st.length) : hasI (st.drop k) x = (x == st.getD k 0 || hasI (st.drop (k + 1)) x) := by
  unfold hasI
  rw [List.drop_eq_getElem_cons hk, List.contains_cons]
  simp [List.getD, hk]

set_option maxRecDepth 20000 in
theorem spec_has (a : Option Addr) (g cap : Nat) (st : List Int) (x : Int) (hl : st.length ≤ 1048576) (ha : 0 < st.length → a = some ⟨g, 0, none⟩) (w : World) (hA : IntAt w g st) :
    Calls Try.prog 35 #[.slice a st.length cap, .int .i64 x] w fun e w' => e = .returned (.bool (hasI st x)) ∧ Below w.heap.size w w' := by
  have HA : Hid (IntAt w g st) := hA
  clear hA
  go_enter Try.func35, Try.ntmps35
  go_wp2
  go_loopw [5] (fun i wr => ∃ k : Nat, k ≤ st.length ∧ i = .int .i64 k ∧ Hid (hasI st x = hasI (st.drop k) x) ∧ Below w.heap.size w wr) (fun i _ => st.length - (intOf i).toNat)
  case atStart => exact ⟨0, by omega, rfl, rfl, Below.refl _ _⟩
  case round =>
    obtain ⟨k, hk, rfl, HC, hbl⟩ := hrel
    by_cases hin : k < st.length
    · have e1 : (k : Int) < st.length := by omega
      obtain rfl := ha (by omega)
      have t := (HA.out.below hbl (fun h => HA.out.lt h)) k hin
      have hst := has_step st x k hin
      generalize st.getD k 0 = y at t hst
      by_cases hy : y = x
      · subst hy
        have HV : Hid (hasI st y = true) := by show hasI st y = true; rw [HC.out, hst]; simp
        clear hst HC
        go_wp2
        go_ret
        exact ⟨by rw [HV.out] <;> rfl, hbl⟩
      · have hy' : ¬ x = y := fun e => hy e.symm
        have HV : Hid (hasI st x = hasI (st.drop (k + 1)) x) := by
          show hasI st x = _
          rw [HC.out, hst, beq_eq_false_iff_ne.2 hy', Bool.false_or]
        clear hst HC
        go_wp2
        go_roundw
        case rel => exact ⟨k + 1, by omega, by go_num, HV.out, hbl⟩
        case measure => simp [intOf]; omega
    · have HV : Hid (hasI st x = false) := by
        show hasI st x = false
        rw [HC.out, List.drop_eq_nil_of_le (by omega)]; rfl
      clear HC
      go_wp2
      go_ret
      exact ⟨by rw [HV.out] <;> rfl, hbl⟩

theorem kids_at {w : World} {g : Nat} {t : TypeId} {a b c k : Int} (h : w.heap[g]? = some (.cells #[.int .i64 a, .int .i64 b, .int .i64 c] t (0, 0))) : IntAt w g ([a, b, c].take (arN k)) := by
  intro i hi
  have har := arN_le k
  rw [cell_of_row _ _ _ _ _ _ h]
  have hi' : i < arN k := by simp at hi; omega
  rcases (by omega : i = 0 ∨ i = 1 ∨ i = 2) with rfl | rfl | rfl <;> simp [List.getD, hi']

theorem kidL_take (t : Nod) : kidL t = [t.a, t.b, t.c].take (arN t.kind) := by
  unfold kidL
  rfl

set_option maxHeartbeats 1000000 in
set_option maxRecDepth 20000 in
theorem spec_parent (a : Option Addr) (g cap : Nat) (ts : List Nod) (i : Int) (hne : 0 < ts.length → a = some ⟨g, 0, none⟩) (hl : ts.length ≤ 1048576)
    (hst : ∀ i, i < ts.length → (ts.getD i noNod).name.size ≤ maxLen ∧ (ts.getD i noNod).other.size ≤ maxLen) (w : World) (hA : NodAt w g ts) :
    Calls Try.prog 10 #[.slice a ts.length cap, .int .i64 i] w fun e w' => e = .returned (.int .i64 (parB ts i)) ∧ Below w.heap.size w w' := by
  have HA : Hid (NodAt w g ts) := hA
  have HT : Hid (∀ i, i < ts.length → (ts.getD i noNod).name.size ≤ maxLen ∧ (ts.getD i noNod).other.size ≤ maxLen) := hst
  clear hA hst
  by_cases hok : nodesB ts = true
  · have HB : Hid (parB ts i = parU ts i ts.length) := by show parB ts i = _; rw [parB, if_pos hok]; rfl
    have HO : Hid (nodesB ts = true) := hok
    clear hok
    go_enter Try.func10, Try.ntmps10
    go_wp2_with fail
    refine (spec_nodes a g cap ts hne hl HT.out w HA.out).mono ?_
    rintro e w1 ⟨rfl, hb1⟩
    rw [HO.out]
    go_wp2
    go_loopw [5] (fun i' wr => ∃ k : Nat, k ≤ ts.length ∧ i' = .int .i64 k ∧ Hid (parB ts i = parU ts i (ts.length - k)) ∧ Below w.heap.size w wr) (fun i' _ => ts.length - (intOf i').toNat)
    case atStart => exact ⟨0, by omega, rfl, HB.out, hb1⟩
    case round =>
      obtain ⟨k, hk, rfl, HC, hbl⟩ := hrel
      by_cases hin : k < ts.length
      · have e1 : (k : Int) < ts.length := by omega
        obtain rfl := hne (by omega)
        have t := (HA.out.below hbl (fun h => HA.out.lt h)) k hin
        have hp := @parU_at ts i k hin
        rw [← HC.out, kidL_take] at hp
        have HP : Hid (_) := hp
        clear hp HC
        generalize ts.getD k noNod = x at t HP
        obtain ⟨x0, x1, x2, x3, x4, x5, x6⟩ := x
        have q0 : wr.cell? ⟨g, k * 7, none⟩ = some (.int .i64 x0) := t.c0
        have q1 : wr.cell? ⟨g, k * 7 + 1, none⟩ = some (.int .i64 x1) := t.c1
        have q2 : wr.cell? ⟨g, k * 7 + 2, none⟩ = some (.int .i64 x2) := t.c2
        have q3 : wr.cell? ⟨g, k * 7 + 3, none⟩ = some (.int .i64 x3) := t.c3
        have q4 : wr.cell? ⟨g, k * 7 + 4, none⟩ = some (.int .i64 x4) := t.c4
        have q5 : wr.cell? ⟨g, k * 7 + 5, none⟩ = some (.string x5) := t.c5
        have q6 : wr.cell? ⟨g, k * 7 + 6, none⟩ = some (.string x6) := t.c6
        have hlen : ([x1, x2, x3].take (arN x0)).length = arN x0 := by have := arN_le x0; simp; omega
        clear t
        have HK : Hid (∀ (w : World) (g : Nat) (ty : TypeId), w.heap[g]? = some (.cells #[.int .i64 x1, .int .i64 x2, .int .i64 x3] ty (0, 0)) → IntAt w g ([x1, x2, x3].take (arN x0))) := fun w g ty h => kids_at h
        have har := arN_le x0
        obtain ⟨st, hst⟩ : ∃ st, [x1, x2, x3].take (arN x0) = st := ⟨_, rfl⟩
        change Hid (parB ts i = if hasI ([x1, x2, x3].take (arN x0)) i = true then (k : Int) else parU ts i (ts.length - (k + 1))) at HP
        rw [hst] at hlen HP HK
        clear hst
        go_wp2_with fail
        refine (spec_kids x0 x1 x2 x3 x4 x5 x6 wr).mono ?_
        rintro e w2 ⟨rfl, hr2, hb2⟩
        have s2 := hbl.size
        have K2 : Hid (IntAt w2 (wr.heap.size + 1) st) := HK.out _ _ _ hr2
        have hst3 : st.length ≤ 3 := by omega
        rw [← hlen]
        clear hlen HK har hr2
        go_wp2_with fail
        refine (spec_has _ (wr.heap.size + 1) 3 st i (by omega) (fun _ => rfl) w2 K2.out).mono ?_
        rintro e w3 ⟨rfl, hb3⟩
        have s3 := hb2.size
        have HB3 : Hid (Below w.heap.size w w3) := hbl.trans ((hb2.mono s2).trans (hb3.mono (by omega)))
        clear hb2 hb3 K2 q0 q1 q2 q3 q4 q5 q6
        cases hc : hasI st i
        · have HV : Hid (parB ts i = parU ts i (ts.length - (k + 1))) := by
            show parB ts i = _
            rw [HP.out]
            exact if_neg (by rw [hc]; exact Bool.false_ne_true)
          clear HP hc
          go_wp2
          go_roundw
          case rel => exact ⟨k + 1, by omega, by go_num, HV.out, HB3.out⟩
          case measure => simp [intOf]; omega
        · have HV : Hid (parB ts i = k) := by
            show parB ts i = _
            rw [HP.out]
            exact if_pos hc
          clear HP hc
          go_wp2
          go_ret
          exact ⟨by rw [HV.out] <;> rfl, HB3.out⟩
      · have HV : Hid (parB ts i = -1) := by
          show parB ts i = -1
          rw [HC.out, show ts.length - k = 0 by omega]; rfl
        clear HC
        go_wp2
        go_ret
        exact ⟨by rw [HV.out] <;> rfl, hbl⟩
  · have HV : Hid (parB ts i = -1) := by show parB ts i = -1; rw [parB, if_neg hok]
    have HO : Hid (nodesB ts = false) := by show nodesB ts = false; simpa using hok
    clear hok
    go_enter Try.func10, Try.ntmps10
    go_wp2_with fail
    refine (spec_nodes a g cap ts hne hl HT.out w HA.out).mono ?_
    rintro e w1 ⟨rfl, hb1⟩
    rw [HO.out]
    go_wp2
    go_ret
    exact ⟨by rw [HV.out] <;> rfl, hb1⟩
end Go.Proofs.Ytcpafjpjfinbkaa
