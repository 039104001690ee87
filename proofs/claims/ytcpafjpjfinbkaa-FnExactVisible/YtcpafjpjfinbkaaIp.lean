/-
  Scopes as they landed: whose kid a node is. Conditions: written at each theorem.
-/
import Derived.Test.YtcpafjpjfinbkaaSp
import Derived.Test.YtcpafjpjfinbkaaIb
import Derived.Test.YtcpafjpjfinbkaaTe
namespace Go.Proofs.Ytcpafjpjfinbkaa
open Go.ChangeShapes Go.WideShapes Go.ChangeAt Go.RowKit
set_option linter.unusedVariables false

set_option maxRecDepth 20000 in
theorem lib_index (a : Option Addr) (g cap : Nat) (st : List Int) (x : Int) (hl : st.length ≤ 1048576) (ha : 0 < st.length → a = some ⟨g, 0, none⟩) (w : World) (hA : IntAt w g st) :
    Calls Try.prog 57 #[.slice a st.length cap, .int .i64 x] w fun e w' => (∃ r : Int, e = .returned (.int .i64 r) ∧ (hasI st x = decide (r ≥ 0))) ∧ Below w.heap.size w w' := by
  have HA : Hid (IntAt w g st) := hA
  clear hA
  go_enter Try.func57, Try.ntmps57
  go_wp2
  go_loopw [8] (fun i wr => ∃ k : Nat, k ≤ st.length ∧ i = .int .i64 k ∧ Hid (hasI st x = hasI (st.drop k) x) ∧ Below w.heap.size w wr) (fun i _ => st.length - (intOf i).toNat)
  case atStart => exact ⟨0, by omega, rfl, rfl, Below.refl _ _⟩
  case round =>
    obtain ⟨k, hk, rfl, HC, hbl⟩ := hrel
    by_cases hin : k < st.length
    · have e1 : (k : Int) < st.length := by omega
      obtain rfl := ha (by omega)
      have t := (HA.out.below hbl (fun h => HA.out.lt h)) k hin
      have hst := has_step st x k hin
      generalize st.getD k 0 = y at t hst
      by_cases hy : y = x
      · subst hy
        have HV : Hid (hasI st y = true) := by show hasI st y = true; rw [HC.out, hst]; simp
        clear hst HC
        go_wp2
        go_ret
        exact ⟨⟨_, rfl, by rw [HV.out]; exact (decide_eq_true (by omega)).symm⟩, hbl⟩
      · have hy' : ¬ x = y := fun e => hy e.symm
        have HV : Hid (hasI st x = hasI (st.drop (k + 1)) x) := by
          show hasI st x = _
          rw [HC.out, hst, beq_eq_false_iff_ne.2 hy', Bool.false_or]
        clear hst HC
        go_wp2
        go_roundw
        case rel => exact ⟨k + 1, by omega, by go_num, HV.out, hbl⟩
        case measure => simp [intOf]; omega
    · have HV : Hid (hasI st x = false) := by
        show hasI st x = false
        rw [HC.out, List.drop_eq_nil_of_le (by omega)]; rfl
      clear HC
      go_wp2
      go_ret
      exact ⟨⟨_, rfl, by rw [HV.out]; rfl⟩, hbl⟩

theorem lib_contains (a : Option Addr) (g cap : Nat) (st : List Int) (x : Int) (hl : st.length ≤ 1048576) (ha : 0 < st.length → a = some ⟨g, 0, none⟩) (w : World) (hA : IntAt w g st) :
    Calls Try.prog 41 #[.slice a st.length cap, .int .i64 x] w fun e w' => e = .returned (.bool (hasI st x)) ∧ Below w.heap.size w w' := by
  have HA : Hid (IntAt w g st) := hA
  clear hA
  go_enter Try.func41, Try.ntmps41
  go_wp2_with fail
  refine (lib_index a g cap st x hl ha w HA.out).mono ?_
  rintro e w1 ⟨⟨r, rfl, hr⟩, b1⟩
  have HR : Hid (hasI st x = decide (r ≥ 0)) := hr
  clear hr
  go_wp2
  go_ret
  exact ⟨by rw [HR.out] <;> rfl, b1⟩

theorem kd_name : (Try.f42.name == "runtime.NumGoroutine") = false := by kernel_rfl
theorem kd_body : Try.f42.body.isNone = false := by kernel_rfl
theorem ct_name : (Try.f41.name == "runtime.NumGoroutine") = false := by kernel_rfl
theorem ct_body : Try.f41.body.isNone = false := by kernel_rfl

theorem cells7r {w : World} {g : Nat} {k a b c n : Int} {s o : ByteArray} {t : TypeId} {z : Nat × Nat} (h : w.heap[g]? = some (.cells #[.int .i64 k, .int .i64 a, .int .i64 b, .int .i64 c, .int .i64 n, .string s, .string o] t z)) :
    w.cell? ⟨g, 0, none⟩ = some (.int .i64 k) ∧ w.cell? ⟨g, 1, none⟩ = some (.int .i64 a) ∧ w.cell? ⟨g, 2, none⟩ = some (.int .i64 b) ∧ w.cell? ⟨g, 3, none⟩ = some (.int .i64 c) ∧ w.cell? ⟨g, 4, none⟩ = some (.int .i64 n) ∧ w.cell? ⟨g, 5, none⟩ = some (.string s) ∧ w.cell? ⟨g, 6, none⟩ = some (.string o) := by
  refine ⟨?_, ?_, ?_, ?_, ?_, ?_, ?_⟩ <;> (rw [cell_of_row _ _ _ _ _ _ h]; rfl)

set_option maxHeartbeats 1000000 in
set_option maxRecDepth 20000 in
theorem impl_isKid (k a b c n : Int) (s o : ByteArray) (i : Int) (ib : Nat) (w : World) (hc : w.cell? ⟨ib, 0, none⟩ = some (.int .i64 i)) :
    Calls Try.prog 40 #[.agg #[.int .i64 k, .int .i64 a, .int .i64 b, .int .i64 c, .int .i64 n, .string s, .string o], .pointer (some ⟨ib, 0, none⟩)] w fun e w' =>
      e = .returned (.bool (hasI ([a, b, c].take (arN k)) i)) ∧ Below w.heap.size w w' := by
  have hib : ib < w.heap.size := nod_lt hc
  obtain ⟨wa, hwa⟩ : ∃ wa, w.alloc (.cells #[.int .i64 k, .int .i64 a, .int .i64 b, .int .i64 c, .int .i64 n, .string s, .string o] 52) = wa := ⟨_, rfl⟩
  have HWA : Hid (w.alloc (.cells #[.int .i64 k, .int .i64 a, .int .i64 b, .int .i64 c, .int .i64 n, .string s, .string o] 52) = wa) := hwa
  have rf : wa.heap[w.heap.size]? = some (.cells #[.int .i64 k, .int .i64 a, .int .i64 b, .int .i64 c, .int .i64 n, .string s, .string o] 52 (0, 0)) := by rw [← hwa]; exact (MapKept.heap_alloc w _).1
  have BA : Hid (Below w.heap.size w wa) := by rw [← hwa]; exact (Below.refl _ w).alloc (Nat.le_refl _) _
  have ca : wa.cell? ⟨ib, 0, none⟩ = some (.int .i64 i) := (World.cell?_of_block (BA.out.block ib hib)).trans hc
  have sa : wa.heap.size = w.heap.size + 1 := by rw [← hwa]; simp
  have hlen : ([a, b, c].take (arN k)).length = arN k := by have := arN_le k; simp; omega
  have har := arN_le k
  have HI : Hid (∀ (w : World), Calls Try.prog 42 #[.agg #[.int .i64 k, .int .i64 a, .int .i64 b, .int .i64 c, .int .i64 n, .string s, .string o]] w fun e w' =>
      ∃ G, e = .returned (.slice (some ⟨G, 0, none⟩) ([a, b, c].take (arN k)).length 3) ∧ IntAt w' G ([a, b, c].take (arN k)) ∧ Below w.heap.size w w') := fun w => by
    refine (impl_kids k a b c n s o w).mono ?_
    rintro e w1 ⟨rfl, hg, hb⟩
    exact ⟨_, by rw [hlen], kids_at hg, hb⟩
  have hL : ([a, b, c].take (arN k)).length ≤ 3 := by omega
  generalize hst : [a, b, c].take (arN k) = st at *
  clear hst hlen har hwa
  obtain ⟨q0, q1, q2, q3, q4, q5, q6⟩ := cells7r rf
  clear rf hc
  go_enter Try.func40, Try.ntmps40
  go_wp2
  rw [HWA.out]
  go_region_law (first
    | (refine step_call rfl 42 #[.tmp 4] #[52] rfl #[.agg #[.int .i64 k, .int .i64 a, .int .i64 b, .int .i64 c, .int .i64 n, .string s, .string o]] (by simp [Act.eval]) Try.func42 kd_name kd_body _ (HI.out _) ?_; rintro e w3 ⟨G, rfl, k3, b3⟩; have b3' : Below wa.heap.size wa w3 := (Below.refl _ wa).drew.trans b3; have c3 : w3.cell? ⟨ib, 0, none⟩ = some (.int .i64 i) := (World.cell?_of_block (b3'.block ib (by omega))).trans ca; have K3 : Hid (IntAt w3 G st) := k3; have B3 : Hid (Below w.heap.size w w3) := BA.out.trans (b3'.mono (by omega)); have s3 := b3'.size; clear b3 b3' k3; refine ⟨_, rfl, ?_⟩)
    | (refine step_call rfl 41 #[.tmp 5, .tmp 6] #[40, 3] rfl #[.slice (some ⟨G, 0, none⟩) st.length 3, .int .i64 i] (by simp [Act.eval]) Try.func41 ct_name ct_body _ (lib_contains _ G 3 st i (by omega) (fun _ => rfl) w3 K3.out) ?_; rintro e w4 ⟨rfl, b4⟩; have B4 : Hid (Below w.heap.size w w4) := B3.out.trans (b4.mono (by omega)); clear b4; refine ⟨_, rfl, ?_⟩))
  all_goals
    go_wp2
    go_ret
    exact ⟨rfl, B4.out⟩

set_option maxHeartbeats 1000000 in
set_option maxRecDepth 20000 in
theorem lib_indexFunc (a : Option Addr) (g cap : Nat) (ts : List Nod) (i : Int) (ib : Nat) (hne : 0 < ts.length → a = some ⟨g, 0, none⟩) (hl : ts.length ≤ 1048576) (w : World) (hA : NodAt w g ts) (hc : w.cell? ⟨ib, 0, none⟩ = some (.int .i64 i)) :
    Calls Try.prog 39 #[.slice a ts.length cap, .func (.func 40) #[] #[.pointer (some ⟨ib, 0, none⟩)]] w fun e w' =>
      e = .returned (.int .i64 (parP ts i)) ∧ Below w.heap.size w w' := by
  have HA : Hid (NodAt w g ts) := hA
  have HC : Hid (w.cell? ⟨ib, 0, none⟩ = some (.int .i64 i)) := hc
  have hib : ib < w.heap.size := nod_lt hc
  clear hA hc
  go_enter Try.func39, Try.ntmps39
  go_wp2
  go_loopw [8] (fun i' wr => ∃ k : Nat, k ≤ ts.length ∧ i' = .int .i64 k ∧ Hid (parP ts i = parU ts i (ts.length - k)) ∧ Below w.heap.size w wr) (fun i' _ => ts.length - (intOf i').toNat)
  case atStart => exact ⟨0, by omega, rfl, rfl, Below.refl _ _⟩
  case round =>
    obtain ⟨k, hk, rfl, HP0, hbl⟩ := hrel
    by_cases hin : k < ts.length
    · have e1 : (k : Int) < ts.length := by omega
      obtain rfl := hne (by omega)
      have t := (HA.out.below hbl (fun h => HA.out.lt h)) k hin
      have hp := @parU_at ts i k hin
      rw [← HP0.out, kidL_take] at hp
      have HP : Hid (_) := hp
      clear hp HP0
      generalize ts.getD k noNod = x at t HP
      obtain ⟨x0, x1, x2, x3, x4, x5, x6⟩ := x
      have q0 : wr.cell? ⟨g, k * 7, none⟩ = some (.int .i64 x0) := t.c0
      have q1 : wr.cell? ⟨g, k * 7 + 1, none⟩ = some (.int .i64 x1) := t.c1
      have q2 : wr.cell? ⟨g, k * 7 + 2, none⟩ = some (.int .i64 x2) := t.c2
      have q3 : wr.cell? ⟨g, k * 7 + 3, none⟩ = some (.int .i64 x3) := t.c3
      have q4 : wr.cell? ⟨g, k * 7 + 4, none⟩ = some (.int .i64 x4) := t.c4
      have q5 : wr.cell? ⟨g, k * 7 + 5, none⟩ = some (.string x5) := t.c5
      have q6 : wr.cell? ⟨g, k * 7 + 6, none⟩ = some (.string x6) := t.c6
      clear t
      go_wp2_with fail
      refine (impl_isKid x0 x1 x2 x3 x4 x5 x6 i ib wr ((World.cell?_of_block (hbl.block ib hib)).trans HC.out)).mono ?_
      rintro e w3 ⟨rfl, hb3⟩
      have s3 := hbl.size
      have HB3 : Hid (Below w.heap.size w w3) := hbl.trans (hb3.mono (by omega))
      clear hb3 q0 q1 q2 q3 q4 q5 q6
      change Hid (parP ts i = if hasI ([x1, x2, x3].take (arN x0)) i = true then (k : Int) else parU ts i (ts.length - (k + 1))) at HP
      generalize hasI ([x1, x2, x3].take (arN x0)) i = hv at *
      cases hc : hv
      · have HV : Hid (parP ts i = parU ts i (ts.length - (k + 1))) := by
          show parP ts i = _
          rw [HP.out]
          exact if_neg (by rw [hc]; exact Bool.false_ne_true)
        clear HP hc
        go_wp2
        go_roundw
        case rel => exact ⟨k + 1, by omega, by go_num, HV.out, HB3.out⟩
        case measure => simp [intOf]; omega
      · have HV : Hid (parP ts i = k) := by
          show parP ts i = _
          rw [HP.out]
          exact if_pos hc
        clear HP hc
        go_wp2
        go_ret
        exact ⟨by rw [HV.out] <;> rfl, HB3.out⟩
    · have HV : Hid (parP ts i = -1) := by
        show parP ts i = -1
        rw [HP0.out, show ts.length - k = 0 by omega]; rfl
      clear HP0
      go_wp2
      go_ret
      exact ⟨by rw [HV.out] <;> rfl, hbl⟩

set_option maxRecDepth 20000 in
theorem impl_parent (a : Option Addr) (g cap : Nat) (ts : List Nod) (i : Int) (hne : 0 < ts.length → a = some ⟨g, 0, none⟩) (hl : ts.length ≤ 1048576)
    (hst : ∀ i, i < ts.length → (ts.getD i noNod).name.size ≤ maxLen ∧ (ts.getD i noNod).other.size ≤ maxLen) (w : World) (hA : NodAt w g ts) :
    Calls Try.prog 12 #[.slice a ts.length cap, .int .i64 i] w fun e w' => e = .returned (.int .i64 (parB ts i)) ∧ Below w.heap.size w w' := by
  have HA : Hid (NodAt w g ts) := hA
  have HT : Hid (∀ i, i < ts.length → (ts.getD i noNod).name.size ≤ maxLen ∧ (ts.getD i noNod).other.size ≤ maxLen) := hst
  obtain ⟨wa, hwa⟩ : ∃ wa, w.alloc (.cells #[.int .i64 i] 3) = wa := ⟨_, rfl⟩
  have HWA : Hid (w.alloc (.cells #[.int .i64 i] 3) = wa) := hwa
  have rf : wa.heap[w.heap.size]? = some (.cells #[.int .i64 i] 3 (0, 0)) := by rw [← hwa]; exact (MapKept.heap_alloc w _).1
  have BA : Hid (Below w.heap.size w wa) := by rw [← hwa]; exact (Below.refl _ w).alloc (Nat.le_refl _) _
  have CA : Hid (wa.cell? ⟨w.heap.size, 0, none⟩ = some (.int .i64 i)) := by show wa.cell? _ = _; rw [cell_of_row _ _ _ _ _ _ rf]; rfl
  have sa : wa.heap.size = w.heap.size + 1 := by rw [← hwa]; simp
  have AA : Hid (NodAt wa g ts) := hA.below BA.out (fun h => hA.lt h)
  clear hA hst hwa rf
  go_enter Try.func12, Try.ntmps12
  go_wp2_with fail
  rw [HWA.out]
  refine (impl_nodes a g cap ts hne hl HT.out wa AA.out).mono ?_
  rintro e w1 ⟨rfl, b1⟩
  have B1 : Hid (Below w.heap.size w w1) := BA.out.trans (b1.mono (by omega))
  have C1 : Hid (w1.cell? ⟨w.heap.size, 0, none⟩ = some (.int .i64 i)) := (World.cell?_of_block (b1.block w.heap.size (by omega))).trans CA.out
  have A1 : Hid (NodAt w1 g ts) := HA.out.below B1.out (fun h => HA.out.lt h)
  have s1 := b1.size
  clear b1
  cases hok : nodesB ts
  · have HV : Hid (parB ts i = -1) := by show parB ts i = -1; rw [parB, if_neg (by rw [hok]; exact Bool.false_ne_true)]
    clear hok
    go_wp2
    go_ret
    exact ⟨by rw [HV.out] <;> rfl, B1.out⟩
  · have HV : Hid (parB ts i = parP ts i) := by show parB ts i = _; rw [parB, if_pos hok]
    clear hok
    go_wp2_with fail
    refine (lib_indexFunc a g cap ts i w.heap.size hne hl w1 A1.out C1.out).mono ?_
    rintro e w2 ⟨rfl, b2⟩
    go_wp2
    go_ret
    exact ⟨by rw [HV.out] <;> rfl, B1.out.trans (b2.mono (by omega))⟩
end Go.Proofs.Ytcpafjpjfinbkaa
