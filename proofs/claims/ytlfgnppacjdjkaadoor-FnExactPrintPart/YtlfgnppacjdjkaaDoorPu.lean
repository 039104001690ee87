/-
  PrintPart, the specification's and as it landed. Conditions: written at each theorem.
-/
import Derived.Test.YtlfgnppacjdjkaaDoorXp
import Derived.Test.YtlfgnppacjdjkaaDoorLaidT
namespace Go.Proofs.YtlfgnppacjdjkaaDoor
open Go.ChangeShapes Go.WideShapes Go.ChangeAt Go.RowKit
set_option linter.unusedVariables false

set_option maxRecDepth 20000 in
theorem spec_printPart (a : Option Addr) (g cap : Nat) (ts : List Nod) (i : Int) (hi1 : -9223372036854775808 ≤ i) (hi2 : i ≤ 9223372036854775807) (hne : 0 < ts.length → a = some ⟨g, 0, none⟩) (hl : ts.length ≤ 1048576)
    (hst : ∀ i, i < ts.length → (ts.getD i noNod).name.size ≤ maxLen ∧ (ts.getD i noNod).other.size ≤ maxLen) (w : World) (hA : NodAt w g ts) :
    Calls Tryd.prog 16 #[.slice a ts.length cap, .int .i64 i] w fun e w' => e = .returned (.string (printPartB ts i)) ∧ Below w.heap.size w w' := by
  have HA : Hid (NodAt w g ts) := hA
  have HC : Hid (Calls Tryd.prog 20 #[.slice a ts.length cap] w fun e w' => e = .returned (.bool (nodesB ts)) ∧ Below w.heap.size w w') := spec_nodes a g cap ts hne hl hst w hA
  clear hA hst
  cases hn : nodesB ts
  · have HN : Hid (printPartB ts i = ⟨#[]⟩) := by
      show printPartB ts i = _
      unfold printPartB
      rw [if_neg (by rw [hn]; rintro ⟨h, _⟩; cases h)]
    rw [hn] at HC
    clear hn
    go_enter Tryd.func16, Tryd.ntmps16
    go_wp2_with fail
    refine Calls.mono HC.out ?_
    rintro e w1 ⟨rfl, b1⟩
    go_wp2
    go_ret
    exact ⟨by rw [HN.out]; rfl, b1⟩
  · by_cases hc : 0 ≤ i ∧ i ≤ (ts.length : Int) - 1
    · obtain ⟨l1, l2, st, hR⟩ := nodesB_right hn
      have HN : Hid (printPartB ts i = ⟨(textN ts ts.length i.toNat).toArray⟩) := by
        show printPartB ts i = _
        unfold printPartB
        rw [if_pos ⟨hn, hc⟩]
      obtain rfl := hne (by omega)
      obtain ⟨m, rfl⟩ : ∃ m : Nat, i = m := ⟨i.toNat, by omega⟩
      rw [Int.toNat_natCast] at HN
      have HS : Hid (ShowAt ts g cap ts.length m) := spec_show hR g cap ts.length m (by omega) (by omega)
      rw [hn] at HC
      have hgl := HA.out.lt (by omega)
      have hd : (decide ((0 : Int) ≤ (m : Int)) && decide ((m : Int) ≤ (ts.length : Int) - 1)) = true := by simp; omega
      clear hn hR hc hi1 hi2
      go_enter Tryd.func16, Tryd.ntmps16
      go_wp2_with fail
      refine Calls.mono HC.out ?_
      rintro e w1 ⟨rfl, b1⟩
      have HS2 : Hid (Calls Tryd.prog 21 #[.slice (some ⟨g, 0, none⟩) ts.length cap, .int .i64 (m : Int)] w1 _) := HS.out w1 (HA.out.below b1 (fun _ => hgl))
      have s1 := b1.size
      go_wp2_with fail
      refine (key_in _ _ _ _).mono ?_
      rintro e w1 ⟨rfl, rfl⟩
      rw [hd]
      clear hd
      go_wp2_with fail
      refine Calls.mono HS2.out ?_
      rintro e w2 ⟨rfl, b2⟩
      have B2 : Hid (Below w.heap.size w w2) := b1.trans (b2.mono (by omega))
      clear b1 b2
      go_wp2
      go_ret
      exact ⟨by rw [HN.out]; rfl, B2.out⟩
    · have HN : Hid (printPartB ts i = ⟨#[]⟩) := by
        show printPartB ts i = _
        unfold printPartB
        rw [if_neg (by rintro ⟨_, h⟩; exact hc h)]
      have hd : (decide ((0 : Int) ≤ i) && decide (i ≤ (ts.length : Int) - 1)) = false := by
        rw [Bool.eq_false_iff]
        intro h
        rw [Bool.and_eq_true, decide_eq_true_eq, decide_eq_true_eq] at h
        exact hc h
      rw [hn] at HC
      clear hn hc
      go_enter Tryd.func16, Tryd.ntmps16
      go_wp2_with fail
      refine Calls.mono HC.out ?_
      rintro e w1 ⟨rfl, b1⟩
      go_wp2_with fail
      refine (key_in _ _ _ _).mono ?_
      rintro e w1 ⟨rfl, rfl⟩
      rw [hd]
      clear hd
      go_wp2
      go_ret
      exact ⟨by rw [HN.out]; rfl, b1⟩

theorem part_small {ts : List Nod} (h : nodesB ts = true) : ∀ i, i < ts.length → (ts.getD i noNod).name.size ≤ maxLen ∧ (ts.getD i noNod).other.size ≤ maxLen := by
  intro i hi
  obtain ⟨_, _, st, hR⟩ := nodesB_right h
  have := fields_small (decide_eq_true (hR.2 i hi).1)
  unfold maxLen
  omega

theorem partB_small (ts : List Nod) (i : Int) : (partB ts i).length ≤ 1048576 ∧ ∀ j, j < (partB ts i).length → ((partB ts i).getD j noNod).name.size ≤ maxLen ∧ ((partB ts i).getD j noNod).other.size ≤ maxLen := by
  by_cases hc : nodesB ts = true ∧ 0 ≤ i ∧ i ≤ (ts.length : Int) - 1
  · obtain ⟨hn, h0, h1⟩ := hc
    obtain ⟨l1, l2, st, hs⟩ := nodesB_starts hn
    obtain ⟨m, rfl⟩ : ∃ m : Nat, i = m := ⟨i.toNat, by omega⟩
    have hm : m < ts.length := by omega
    have hr := (startsF_range ts _ st hs).2 m hm
    have hpl := partAt_length ts st m 0 hm hr
    rw [partB_at hn hm hs]
    exact ⟨by omega, part_small (part_right hn hs hm)⟩
  · have hb : startB ts i = -1 := by
      unfold startB
      rw [if_neg hc]
    have : partB ts i = [] := by
      unfold partB
      rw [hb, if_pos (by omega)]
    rw [this]
    exact ⟨by simp, fun j hj => by simp at hj⟩

set_option maxRecDepth 20000 in
theorem impl_printPart (a : Option Addr) (g cap : Nat) (ts : List Nod) (i : Int) (hi1 : -9223372036854775808 ≤ i) (hi2 : i ≤ 9223372036854775807) (hne : 0 < ts.length → a = some ⟨g, 0, none⟩) (hl : ts.length ≤ 1048576)
    (hst : ∀ i, i < ts.length → (ts.getD i noNod).name.size ≤ maxLen ∧ (ts.getD i noNod).other.size ≤ maxLen) (w : World) (hp : PowIs w) (hA : NodAt w g ts) :
    Calls Tryd.prog 17 #[.slice a ts.length cap, .int .i64 i] w fun e w' => e = .returned (.string (printPartB ts i)) ∧ Below w.heap.size w w' := by
  have HC : Hid (Calls Tryd.prog 30 #[.slice a ts.length cap, .int .i64 i] w fun e w' => ∃ v, e = .returned v ∧ ownNod w' w.heap.size v (partB ts i) ∧ Below w.heap.size w w') := impl_part a g cap ts i hi1 hi2 hne hl hst w hA
  have HW : Hid (PowIs w) := hp
  have hgp : 0 < w.heap.size := var_lt gPow hp
  have HP : Hid (printB (partB ts i) = printPartB ts i) := print_part ts i
  have HS : Hid ((partB ts i).length ≤ 1048576 ∧ ∀ j, j < (partB ts i).length → ((partB ts i).getD j noNod).name.size ≤ maxLen ∧ ((partB ts i).getD j noNod).other.size ≤ maxLen) := partB_small ts i
  clear hA hst hp hi1 hi2
  obtain ⟨ps, hps⟩ : ∃ ps, partB ts i = ps := ⟨_, rfl⟩
  rw [hps] at HC HP HS
  clear hps
  go_enter Tryd.func17, Tryd.ntmps17
  go_wp2_with fail
  refine Calls.mono HC.out ?_
  rintro e w1 ⟨v, rfl, ho, b1⟩
  obtain ⟨a1, g1, c1, sp1, rfl, ha1, hT1, hB1, hl1, hr1⟩ := ownNod_form ho
  have HT : Hid (Calls Tryd.prog 14 #[.slice a1 ps.length c1] w1 fun e w' => e = .returned (.string (printB ps)) ∧ Below w1.heap.size w1 w') := impl_print a1 g1 c1 ps ha1 HS.out.1 HS.out.2 w1 (var?_below b1 gPow hgp HW.out) hT1
  have s1 := b1.size
  have B1 : Hid (Below w.heap.size w w1) := b1
  clear ho ha1 hT1 hB1 hl1 hr1 b1
  go_wp2_with fail
  refine Calls.mono HT.out ?_
  rintro e w2 ⟨rfl, b2⟩
  have B2 : Hid (Below w.heap.size w w2) := B1.out.trans (b2.mono s1)
  clear b2 HT
  go_wp2
  go_ret
  exact ⟨by rw [← HP.out]; rfl, B2.out⟩
end Go.Proofs.YtlfgnppacjdjkaaDoor
