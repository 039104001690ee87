/-
  Print, the specification's: the text of right nodes, and nothing of others. Conditions: written at each theorem.
-/
import Derived.Test.YtlooccddflpmnaaDoorSh
import Derived.Test.YtlooccddflpmnaaDoorNt
namespace Go.Proofs.YtlooccddflpmnaaDoor
open Go.ChangeShapes Go.WideShapes Go.ChangeAt Go.RowKit
set_option linter.unusedVariables false

/-- The text of nodes: that of the last one, where they are right. -/
def printB (ts : List Nod) : ByteArray := if nodesB ts = true then ⟨(textN ts ts.length (ts.length - 1)).toArray⟩ else ⟨#[]⟩

theorem nodesB_right {ts : List Nod} (h : nodesB ts = true) : 1 ≤ ts.length ∧ ts.length ≤ 150 ∧ ∃ st, Right ts st := by
  obtain ⟨h1, h2, st, hs⟩ := nodesB_starts h
  exact ⟨h1, h2, _, right_of (by omega) hs⟩

set_option maxRecDepth 20000 in
theorem spec_print (a : Option Addr) (g cap : Nat) (ts : List Nod) (hne : 0 < ts.length → a = some ⟨g, 0, none⟩) (hl : ts.length ≤ 1048576)
    (hst : ∀ i, i < ts.length → (ts.getD i noNod).name.size ≤ maxLen ∧ (ts.getD i noNod).other.size ≤ maxLen) (w : World) (hA : NodAt w g ts) :
    Calls Tryd.prog 6 #[.slice a ts.length cap] w fun e w' => e = .returned (.string (printB ts)) ∧ Below w.heap.size w w' := by
  have HA : Hid (NodAt w g ts) := hA
  have HC : Hid (Calls Tryd.prog 12 #[.slice a ts.length cap] w fun e w' => e = .returned (.bool (nodesB ts)) ∧ Below w.heap.size w w') := spec_nodes a g cap ts hne hl hst w hA
  clear hA hst
  cases hn : nodesB ts
  · have HN : Hid (printB ts = ⟨#[]⟩) := by
      show printB ts = _
      unfold printB
      rw [hn]
      rfl
    rw [hn] at HC
    clear hn
    go_enter Tryd.func6, Tryd.ntmps6
    go_wp2_with fail
    refine Calls.mono HC.out ?_
    rintro e w1 ⟨rfl, b1⟩
    go_wp2
    go_ret
    exact ⟨by rw [HN.out]; rfl, b1⟩
  · obtain ⟨l1, l2, st, hR⟩ := nodesB_right hn
    have HN : Hid (printB ts = ⟨(textN ts ts.length (ts.length - 1)).toArray⟩) := by
      show printB ts = _
      unfold printB
      rw [hn]
      rfl
    obtain rfl := hne (by omega)
    have HS : Hid (ShowAt ts g cap ts.length (ts.length - 1)) := spec_show hR g cap ts.length (ts.length - 1) (by omega) (by omega)
    rw [hn] at HC
    have hcast : ((ts.length - 1 : Nat) : Int) = (ts.length : Int) - 1 := by omega
    have hgl := HA.out.lt (by omega)
    clear hn hR
    go_enter Tryd.func6, Tryd.ntmps6
    go_wp2_with fail
    refine Calls.mono HC.out ?_
    rintro e w1 ⟨rfl, b1⟩
    have hS := HS.out w1 (HA.out.below b1 (fun _ => hgl))
    rw [hcast] at hS
    have HS2 : Hid (Calls Tryd.prog 13 #[.slice (some ⟨g, 0, none⟩) ts.length cap, .int .i64 ((ts.length : Int) - 1)] w1 _) := hS
    have s1 := b1.size
    clear hS hcast
    go_wp2_with fail
    refine Calls.mono HS2.out ?_
    rintro e w2 ⟨rfl, b2⟩
    have B2 : Hid (Below w.heap.size w w2) := b1.trans (b2.mono (by omega))
    clear b1 b2
    go_wp2
    go_ret
    exact ⟨by rw [HN.out]; rfl, B2.out⟩

theorem nodesB_zero {ts : List Nod} (h : nodesB ts = true) : 1 ≤ ts.length ∧ ts.length ≤ 150 ∧ ∃ st, Right ts st ∧ st.getD (ts.length - 1) 0 = 0 := by
  obtain ⟨h1, h2, st, hs⟩ := nodesB_starts h
  refine ⟨h1, h2, _, right_of (by omega) hs, ?_⟩
  unfold nodesB at h
  rw [hs, Bool.and_eq_true] at h
  have h3 : (st.getD (ts.length - 1) 0 == 0) = true := h.2
  rw [beq_iff_eq] at h3
  rw [getD_nat, h3]
  rfl
end Go.Proofs.YtlooccddflpmnaaDoor
