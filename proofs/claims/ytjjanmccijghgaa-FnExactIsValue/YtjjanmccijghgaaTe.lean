/-
  Nodes as they landed: is it a program; the tree of a node; where a part begins. Conditions: written at each theorem.
-/
import Derived.Test.YtjjanmccijghgaaTd
namespace Go.Proofs.Ytjjanmccijghgaa
open Go.ChangeShapes Go.WideShapes Go.ChangeAt Go.RowKit
set_option linter.unusedVariables false

theorem impl_nodes (a : Option Addr) (g cap : Nat) (ts : List Nod) (hne : 0 < ts.length → a = some ⟨g, 0, none⟩) (hl : ts.length ≤ 1048576)
    (hst : ∀ i, i < ts.length → (ts.getD i noNod).name.size ≤ maxLen ∧ (ts.getD i noNod).other.size ≤ maxLen) (w : World) (hA : NodAt w g ts) :
    Calls Try.prog 14 #[.slice a ts.length cap] w fun e w' => e = .returned (.bool (nodesB ts)) ∧ Below w.heap.size w w' := by
  have HI : Hid (Calls Try.prog 18 #[.slice a ts.length cap] w fun e w' => TrEnd ts w.heap.size e w' ∧ Below w.heap.size w w') := impl_trees a g cap ts hne hl hst w hA
  clear hA hst
  go_enter Try.func14, Try.ntmps14
  go_wp2_with fail
  refine HI.out.mono ?_
  rintro e w1 ⟨hend, hb1⟩
  rcases hend with ⟨st, vs, v, h1, h2, hS, hG, hown, rfl⟩ | ⟨hno, rfl⟩
  · clear hS hG hown
    go_wp2
    go_ret
    exact ⟨rfl, hb1⟩
  · have HN : Hid (nodesB ts = false) := hno
    clear hno
    go_wp2
    go_ret
    exact ⟨by rw [HN.out]; rfl, hb1⟩

/-- What a call of treeAt ends with. -/
def TaEnd (ts : List Nod) (i : Int) (e : Ending) : Prop :=
  (∃ (st : List Int) (vs : List Value) (m : Nat), i = m ∧ m < ts.length ∧ ts.length ≤ 150 ∧ nodesB ts = true ∧ startsF ts ts.length = some st ∧ TreesG ts st vs ts.length ∧ e = .returned (.tuple #[vs.getD m .nilIface, .bool true])) ∨
  (startB ts i = -1 ∧ e = .returned (.tuple #[.nilIface, .bool false]))

theorem startB_no {ts : List Nod} {i : Int} (h : nodesB ts = false ∨ i < 0 ∨ (ts.length : Int) ≤ i) : startB ts i = -1 := by
  unfold startB
  rw [if_neg]
  rintro ⟨h1, h2, h3⟩
  rcases h with h | h | h
  · rw [h1] at h; cases h
  · omega
  · omega

theorem startB_yes {ts : List Nod} {m : Nat} {st : List Int} (hn : nodesB ts = true) (hm : m < ts.length) (hS : startsF ts ts.length = some st) : startB ts m = st.getD m 0 := by
  unfold startB
  rw [if_pos ⟨hn, by omega, by omega⟩, hS]
  rfl

end Go.Proofs.Ytjjanmccijghgaa
