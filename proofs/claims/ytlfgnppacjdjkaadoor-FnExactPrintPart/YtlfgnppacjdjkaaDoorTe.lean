/-
  Nodes as they landed: is it a program; the tree of a node; where a part begins. Conditions: written at each theorem.
-/
import Derived.Test.YtlfgnppacjdjkaaDoorTd
namespace Go.Proofs.YtlfgnppacjdjkaaDoor
open Go.ChangeShapes Go.WideShapes Go.ChangeAt Go.RowKit
set_option linter.unusedVariables false

theorem impl_nodes (a : Option Addr) (g cap : Nat) (ts : List Nod) (hne : 0 < ts.length → a = some ⟨g, 0, none⟩) (hl : ts.length ≤ 1048576)
    (hst : ∀ i, i < ts.length → (ts.getD i noNod).name.size ≤ maxLen ∧ (ts.getD i noNod).other.size ≤ maxLen) (w : World) (hA : NodAt w g ts) :
    Calls Tryd.prog 25 #[.slice a ts.length cap] w fun e w' => e = .returned (.bool (nodesB ts)) ∧ Below w.heap.size w w' := by
  have HI : Hid (Calls Tryd.prog 44 #[.slice a ts.length cap] w fun e w' => TrEnd ts w.heap.size e w' ∧ Below w.heap.size w w') := impl_trees a g cap ts hne hl hst w hA
  clear hA hst
  go_enter Tryd.func25, Tryd.ntmps25
  go_wp2_with fail
  refine HI.out.mono ?_
  rintro e w1 ⟨hend, hb1⟩
  rcases hend with ⟨st, vs, v, h1, h2, hS, hG, hown, rfl⟩ | ⟨hno, rfl⟩
  · clear hS hG hown
    go_wp2
    go_ret
    exact ⟨rfl, hb1⟩
  · have HN : Hid (nodesB ts = false) := hno
    clear hno
    go_wp2
    go_ret
    exact ⟨by rw [HN.out]; rfl, hb1⟩

/-- What a call of treeAt ends with. -/
def TaEnd (ts : List Nod) (i : Int) (e : Ending) : Prop :=
  (∃ (st : List Int) (vs : List Value) (m : Nat), i = m ∧ m < ts.length ∧ ts.length ≤ 150 ∧ nodesB ts = true ∧ startsF ts ts.length = some st ∧ TreesG ts st vs ts.length ∧ e = .returned (.tuple #[vs.getD m .nilIface, .bool true])) ∨
  (startB ts i = -1 ∧ e = .returned (.tuple #[.nilIface, .bool false]))

theorem startB_no {ts : List Nod} {i : Int} (h : nodesB ts = false ∨ i < 0 ∨ (ts.length : Int) ≤ i) : startB ts i = -1 := by
  unfold startB
  rw [if_neg]
  rintro ⟨h1, h2, h3⟩
  rcases h with h | h | h
  · rw [h1] at h; cases h
  · omega
  · omega

theorem startB_yes {ts : List Nod} {m : Nat} {st : List Int} (hn : nodesB ts = true) (hm : m < ts.length) (hS : startsF ts ts.length = some st) : startB ts m = st.getD m 0 := by
  unfold startB
  rw [if_pos ⟨hn, by omega, by omega⟩, hS]
  rfl

set_option maxHeartbeats 1000000 in
theorem impl_treeAt (a : Option Addr) (g cap : Nat) (ts : List Nod) (i : Int) (hi1 : -9223372036854775808 ≤ i) (hi2 : i ≤ 9223372036854775807) (hne : 0 < ts.length → a = some ⟨g, 0, none⟩) (hl : ts.length ≤ 1048576)
    (hst : ∀ i, i < ts.length → (ts.getD i noNod).name.size ≤ maxLen ∧ (ts.getD i noNod).other.size ≤ maxLen) (w : World) (hA : NodAt w g ts) :
    Calls Tryd.prog 49 #[.slice a ts.length cap, .int .i64 i] w fun e w' => TaEnd ts i e ∧ Below w.heap.size w w' := by
  have HI : Hid (Calls Tryd.prog 44 #[.slice a ts.length cap] w fun e w' => TrEnd ts w.heap.size e w' ∧ Below w.heap.size w w') := impl_trees a g cap ts hne hl hst w hA
  clear hA hst
  go_enter Tryd.func49, Tryd.ntmps49
  go_wp2_with fail
  refine HI.out.mono ?_
  rintro e w1 ⟨hend, hb1⟩
  clear HI
  rcases hend with ⟨st, vs, v, h1, h2, hS, hG, hown, rfl⟩ | ⟨hno, rfl⟩
  · have HS : Hid (startsF ts ts.length = some st) := hS
    have HG : Hid (TreesG ts st vs ts.length) := hG
    obtain ⟨a4, g4, c4, rfl, ha4, hT4, hB4, hl4⟩ := ownT_form hown
    rw [hG.lv] at *
    obtain rfl := ha4 (by omega)
    have HT : Hid (TreeAt w1 g4 vs) := hT4
    have HLV : Hid (vs.length = ts.length) := hG.lv
    clear hS hG hown hT4 hl4 ha4
    cases hn : nodesB ts with
    | true =>
      have HN : Hid (nodesB ts = true) := hn
      clear hn
      by_cases hneg : i < 0
      · have HZ : Hid (TaEnd ts i (.returned (.tuple #[.nilIface, .bool false]))) := Or.inr ⟨startB_no (Or.inr (Or.inl hneg)), rfl⟩
        have d1 : decide (i < 0) = true := decide_eq_true hneg
        go_wp2
        go_ret2
        exact ⟨HZ.out, hb1⟩
      · by_cases hbig : (ts.length : Int) ≤ i
        · have HZ : Hid (TaEnd ts i (.returned (.tuple #[.nilIface, .bool false]))) := Or.inr ⟨startB_no (Or.inr (Or.inr hbig)), rfl⟩
          go_wp2
          go_ret2
          exact ⟨HZ.out, hb1⟩
        · obtain ⟨m, rfl⟩ := Int.eq_ofNat_of_zero_le (show 0 ≤ i by omega)
          have hm : m < ts.length := by omega
          have hm' : (m : Int) < ts.length := by omega
          have hc := HT.out m (by rw [HLV.out]; exact hm)
          have HZ : Hid (TaEnd ts m (.returned (.tuple #[vs.getD m .nilIface, .bool true]))) := Or.inl ⟨st, vs, m, rfl, hm, h2, HN.out, HS.out, HG.out, rfl⟩
          obtain ⟨T, u, _, hv, _⟩ := HG.out.b.b m hm
          rw [hv] at hc HZ
          clear hv HT HS HG
          go_wp2
          go_ret2
          exact ⟨HZ.out, hb1⟩
    | false =>
      have HZ : Hid (TaEnd ts i (.returned (.tuple #[.nilIface, .bool false]))) := Or.inr ⟨startB_no (Or.inl hn), rfl⟩
      clear hn HS HG HT
      go_wp2
      go_ret2
      exact ⟨HZ.out, hb1⟩
  · have HZ : Hid (TaEnd ts i (.returned (.tuple #[.nilIface, .bool false]))) := Or.inr ⟨startB_no (Or.inl hno), rfl⟩
    clear hno
    go_wp2
    go_ret2
    exact ⟨HZ.out, hb1⟩
end Go.Proofs.YtlfgnppacjdjkaaDoor
