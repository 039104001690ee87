/-
  Print, the specification's and as it landed: both give the text of right nodes, and nothing of others. Conditions: written at each theorem.
-/
import Derived.Test.YtlfgnppacjdjkaaDoorSh
import Derived.Test.YtlfgnppacjdjkaaDoorPw
import Derived.Test.YtlfgnppacjdjkaaDoorTe
namespace Go.Proofs.YtlfgnppacjdjkaaDoor
open Go.ChangeShapes Go.WideShapes Go.ChangeAt Go.RowKit
set_option linter.unusedVariables false

/-- The text of nodes: that of the last one, where they are right. -/
def printB (ts : List Nod) : ByteArray := if nodesB ts = true then ⟨(textN ts ts.length (ts.length - 1)).toArray⟩ else ⟨#[]⟩

theorem nodesB_right {ts : List Nod} (h : nodesB ts = true) : 1 ≤ ts.length ∧ ts.length ≤ 150 ∧ ∃ st, Right ts st := by
  obtain ⟨h1, h2, st, hs⟩ := nodesB_starts h
  exact ⟨h1, h2, _, right_of (by omega) hs⟩

theorem textN_pos {ts : List Nod} {st : List Nat} (hR : Right ts st) : ∀ (f i : Nat), i < f → i < ts.length → textN ts f i ≠ []
  | 0, i, h, _ => absurd h (by omega)
  | f + 1, i, h, hi => by
    obtain ⟨hF, _⟩ := hR.2 i hi
    show nodeT (textN ts f) (ts.getD i noNod) ≠ []
    unfold nodeT
    by_cases h1 : (ts.getD i noNod).kind = 1
    · rw [if_pos h1]
      have hn := hF.2.2.1.2.1 (by rw [h1]; decide)
      have hw := of_decide_eq_true (Bool.and_eq_true_iff.1 hn).1
      intro e
      have : (ts.getD i noNod).name.data.toList.length = (ts.getD i noNod).name.size := by rw [Array.length_toList]; rfl
      rw [e, List.length_nil] at this
      omega
    by_cases h2 : (ts.getD i noNod).kind = 2
    · rw [if_neg h1, if_pos h2]
      have hn := hF.2.2.2.1 h2
      obtain ⟨u, hu⟩ : ∃ u : Nat, (ts.getD i noNod).n = u := ⟨(ts.getD i noNod).n.toNat, by omega⟩
      rw [hu, itoa_pos]
      intro e
      have := dd_pos u
      rw [e] at this
      simp at this
    by_cases h12 : (ts.getD i noNod).kind = 12
    · rw [if_neg h1, if_neg h2, if_pos h12]
      simp
    rw [if_neg h1, if_neg h2, if_neg h12]
    simp [formT]

set_option maxRecDepth 20000 in
theorem spec_print (a : Option Addr) (g cap : Nat) (ts : List Nod) (hne : 0 < ts.length → a = some ⟨g, 0, none⟩) (hl : ts.length ≤ 1048576)
    (hst : ∀ i, i < ts.length → (ts.getD i noNod).name.size ≤ maxLen ∧ (ts.getD i noNod).other.size ≤ maxLen) (w : World) (hA : NodAt w g ts) :
    Calls Tryd.prog 8 #[.slice a ts.length cap] w fun e w' => e = .returned (.string (printB ts)) ∧ Below w.heap.size w w' := by
  have HA : Hid (NodAt w g ts) := hA
  have HC : Hid (Calls Tryd.prog 20 #[.slice a ts.length cap] w fun e w' => e = .returned (.bool (nodesB ts)) ∧ Below w.heap.size w w') := spec_nodes a g cap ts hne hl hst w hA
  clear hA hst
  cases hn : nodesB ts
  · have HN : Hid (printB ts = ⟨#[]⟩) := by
      show printB ts = _
      unfold printB
      rw [hn]
      rfl
    rw [hn] at HC
    clear hn
    go_enter Tryd.func8, Tryd.ntmps8
    go_wp2_with fail
    refine Calls.mono HC.out ?_
    rintro e w1 ⟨rfl, b1⟩
    go_wp2
    go_ret
    exact ⟨by rw [HN.out]; rfl, b1⟩
  · obtain ⟨l1, l2, st, hR⟩ := nodesB_right hn
    have HN : Hid (printB ts = ⟨(textN ts ts.length (ts.length - 1)).toArray⟩) := by
      show printB ts = _
      unfold printB
      rw [hn]
      rfl
    obtain rfl := hne (by omega)
    have HS : Hid (ShowAt ts g cap ts.length (ts.length - 1)) := spec_show hR g cap ts.length (ts.length - 1) (by omega) (by omega)
    rw [hn] at HC
    have hcast : ((ts.length - 1 : Nat) : Int) = (ts.length : Int) - 1 := by omega
    have hgl := HA.out.lt (by omega)
    clear hn hR
    go_enter Tryd.func8, Tryd.ntmps8
    go_wp2_with fail
    refine Calls.mono HC.out ?_
    rintro e w1 ⟨rfl, b1⟩
    have hS := HS.out w1 (HA.out.below b1 (fun _ => hgl))
    rw [hcast] at hS
    have HS2 : Hid (Calls Tryd.prog 21 #[.slice (some ⟨g, 0, none⟩) ts.length cap, .int .i64 ((ts.length : Int) - 1)] w1 _) := hS
    have s1 := b1.size
    clear hS hcast
    go_wp2_with fail
    refine Calls.mono HS2.out ?_
    rintro e w2 ⟨rfl, b2⟩
    have B2 : Hid (Below w.heap.size w w2) := b1.trans (b2.mono (by omega))
    clear b1 b2
    go_wp2
    go_ret
    exact ⟨by rw [HN.out]; rfl, B2.out⟩

theorem pr_start (w : World) (nv : Value) : PrS w.heap.size w.heap.size [] false nv (w.alloc (.cells #[.pointer none, .slice none 0 0, .bool false, nv] 57)) :=
  Or.inl ⟨Nat.le_refl _, _, (MapKept.heap_alloc w _).1, World.ownsRowF_nil _ _ _ _⟩

set_option maxRecDepth 20000 in
theorem impl_print (a : Option Addr) (g cap : Nat) (ts : List Nod) (hne : 0 < ts.length → a = some ⟨g, 0, none⟩) (hl : ts.length ≤ 1048576)
    (hst : ∀ i, i < ts.length → (ts.getD i noNod).name.size ≤ maxLen ∧ (ts.getD i noNod).other.size ≤ maxLen) (w : World) (hp : PowIs w) (hA : NodAt w g ts) :
    Calls Tryd.prog 14 #[.slice a ts.length cap] w fun e w' => e = .returned (.string (printB ts)) ∧ Below w.heap.size w w' := by
  have HA : Hid (NodAt w g ts) := hA
  have HW : Hid (PowIs w) := hp
  have HC : Hid (Calls Tryd.prog 25 #[.slice a ts.length cap] w fun e w' => e = .returned (.bool (nodesB ts)) ∧ Below w.heap.size w w') := impl_nodes a g cap ts hne hl hst w hA
  have hgp : 0 < w.heap.size := var_lt gPow hp
  clear hA hst hp
  cases hn : nodesB ts
  · have HN : Hid (printB ts = ⟨#[]⟩) := by
      show printB ts = _
      unfold printB
      rw [hn]
      rfl
    rw [hn] at HC
    clear hn
    go_enter Tryd.func14, Tryd.ntmps14
    go_wp2_with fail
    refine Calls.mono HC.out ?_
    rintro e w1 ⟨rfl, b1⟩
    go_wp2
    go_ret
    exact ⟨by rw [HN.out]; rfl, b1⟩
  · obtain ⟨l1, l2, st, hR⟩ := nodesB_right hn
    have HN : Hid (printB ts = ⟨(textN ts ts.length (ts.length - 1)).toArray⟩) := by
      show printB ts = _
      unfold printB
      rw [hn]
      rfl
    obtain rfl := hne (by omega)
    have HS : Hid (NodeAt ts g cap ts.length (ts.length - 1)) := pr_node hR g cap ts.length (ts.length - 1) (by omega) (by omega)
    have hlen := textN_len hR ts.length (ts.length - 1) (by omega) (by omega)
    have HP0 : Hid (textN ts ts.length (ts.length - 1) ≠ []) := textN_pos hR ts.length (ts.length - 1) (by omega) (by omega)
    rw [hn] at HC
    have hcast : ((ts.length - 1 : Nat) : Int) = (ts.length : Int) - 1 := by omega
    have hgl := HA.out.lt (by omega)
    clear hn hR
    go_enter Tryd.func14, Tryd.ntmps14
    go_wp2_with fail
    refine Calls.mono HC.out ?_
    rintro e w1 ⟨rfl, b1⟩
    have s1 := b1.size
    obtain ⟨wa, hwa⟩ : ∃ wa, w1.alloc (.cells #[.pointer none, .slice none 0 0, .bool false, .slice (some ⟨g, 0, none⟩) ts.length cap] 57) = wa := ⟨_, rfl⟩
    have HWA : Hid (w1.alloc (.cells #[.pointer none, .slice none 0 0, .bool false, .slice (some ⟨g, 0, none⟩) ts.length cap] 57) = wa) := hwa
    have hPS : PrS w1.heap.size w1.heap.size [] false (.slice (some ⟨g, 0, none⟩) ts.length cap) wa := by rw [← hwa]; exact pr_start w1 _
    have hBA : Below w1.heap.size w1 wa := by rw [← hwa]; exact (Below.refl _ w1).alloc (Nat.le_refl _) _
    have sa : wa.heap.size = w1.heap.size + 1 := by rw [← hwa]; simp
    have BA : Hid (Below w1.heap.size w1 wa) := hBA
    have bA : Below w.heap.size w wa := b1.trans (hBA.mono s1)
    have hS := HS.out w1.heap.size w1.heap.size [] false wa (var?_below bA gPow hgp HW.out) (HA.out.below bA (fun _ => hgl)) (by omega) (by omega) (by omega) hPS (by show 0 + 0 + _ + 100 ≤ _; omega)
    rw [hcast] at hS
    have HS2 : Hid (Calls Tryd.prog 26 #[.pointer (some ⟨w1.heap.size, 0, none⟩), .int .i64 ((ts.length : Int) - 1)] wa _) := hS
    have B1 : Hid (Below w.heap.size w w1) := b1
    clear hS hcast hPS hwa b1 hBA bA HC
    go_wp2_with fail
    rw [HWA.out]
    refine Calls.mono HS2.out ?_
    rintro e w2 ⟨rfl, h2, f2⟩
    have h3 : PrS w1.heap.size w1.heap.size (textN ts ts.length (ts.length - 1)) true (.slice (some ⟨g, 0, none⟩) ts.length cap) w2 := h2
    have HT : Hid (Calls Tryd.prog 27 #[.pointer (some ⟨w1.heap.size, 0, none⟩)] w2 _) := wr_string w1.heap.size w1.heap.size _ true _ w2 h3 HP0.out
    have F2 : Hid (Below w1.heap.size w1 w2) := BA.out.trans f2.bel
    clear h2 f2 h3 HS2
    go_wp2_with fail
    refine Calls.mono HT.out ?_
    rintro e w3 ⟨rfl, b3⟩
    have B3 : Hid (Below w.heap.size w w3) := B1.out.trans ((F2.out.trans b3).mono s1)
    clear b3 HT
    go_wp2
    go_ret
    exact ⟨by rw [HN.out]; rfl, B3.out⟩
end Go.Proofs.YtlfgnppacjdjkaaDoor
