/-
  Nodes as they landed: the part of a node. Conditions: written at each theorem.
-/
import Derived.Test.YtlfgnppacjdjkaaDoorTo
namespace Go.Proofs.YtlfgnppacjdjkaaDoor
open Go.ChangeShapes Go.WideShapes Go.ChangeAt Go.RowKit
set_option linter.unusedVariables false

theorem partB_at {ts : List Nod} {m : Nat} {st : List Int} (hn : nodesB ts = true) (hm : m < ts.length) (hS : startsF ts ts.length = some st) : partB ts m = partAt ts st m 0 := by
  have hr := (startsF_range ts _ st hS).2 m hm
  unfold partB partAt
  rw [startB_yes hn hm hS, if_neg (by omega)]
  rw [show ((m : Int)).toNat = m by omega, show ((0 : Nat) : Int) - st.getD m 0 = -st.getD m 0 by omega]

set_option maxHeartbeats 1000000 in
theorem impl_part (a : Option Addr) (g cap : Nat) (ts : List Nod) (i : Int) (hi1 : -9223372036854775808 ≤ i) (hi2 : i ≤ 9223372036854775807) (hne : 0 < ts.length → a = some ⟨g, 0, none⟩) (hl : ts.length ≤ 1048576)
    (hst : ∀ i, i < ts.length → (ts.getD i noNod).name.size ≤ maxLen ∧ (ts.getD i noNod).other.size ≤ maxLen) (w : World) (hA : NodAt w g ts) :
    Calls Tryd.prog 30 #[.slice a ts.length cap, .int .i64 i] w fun e w' => ∃ v, e = .returned v ∧ ownNod w' w.heap.size v (partB ts i) ∧ Below w.heap.size w w' := by
  have HI : Hid (Calls Tryd.prog 49 #[.slice a ts.length cap, .int .i64 i] w fun e w' => TaEnd ts i e ∧ Below w.heap.size w w') := impl_treeAt a g cap ts i hi1 hi2 hne hl hst w hA
  clear hA hst
  obtain ⟨G, hG⟩ : ∃ G, partB ts i = G := ⟨_, rfl⟩
  have HG : Hid (partB ts i = G) := hG
  rw [hG]
  clear hG
  go_enter Tryd.func30, Tryd.ntmps30
  go_wp2_with fail
  refine HI.out.mono ?_
  rintro e w1 ⟨hend, hb1⟩
  clear HI
  have hs1 := hb1.size
  rcases hend with ⟨st, vs, m, rfl, hm, hl2, hn, hS, hT, rfl⟩ | ⟨hno, rfl⟩
  · have HE : Hid (G = partAt ts st m 0) := by
      show G = _
      rw [← HG.out]
      exact partB_at hn hm hS
    have hr := hT.r m hm
    have hlp := partAt_length ts st m 0 hm hr
    obtain ⟨T, u, f, y, hv, hna, hmt, hf, hc⟩ := layV_all hl2 hS hT (m + 1) m (by omega) hm
    have HC : Hid (Calls Tryd.prog f #[y, .slice none 0 0] w1 fun e w' => LayEnd w.heap.size w1 (.slice none 0 0) G e w') := by
      have h := hc [] (.slice none 0 0) w.heap.size w1 (World.ownsRow_nil w1 w.heap.size _ _) hs1 (by rw [List.length_nil, hlp]; omega)
      rw [List.nil_append, List.length_nil, ← HE.out] at h
      exact h
    rw [hv]
    clear hc hv hn hS hT hr hlp
    rcases hf with rfl | rfl | rfl | rfl
    all_goals
      go_wp2_with fail
      refine HC.out.mono ?_
      rintro e w2 ⟨v', rfl, hown, hgr⟩
      have HO : Hid (ownNod w2 w.heap.size v' G) := hown
      have HB : Hid (Below w.heap.size w w2) := hb1.trans (hgr.below hs1 (fun k hk => by simp [Value.ownBlock] at hk))
      clear hown hgr
      go_wp2
      go_ret
      exact ⟨_, rfl, HO.out, HB.out⟩
  · have HE : Hid (G = []) := by
      show G = []
      rw [← HG.out]
      unfold partB
      rw [hno, if_pos (by omega)]
    clear hno
    go_wp2
    go_ret
    exact ⟨_, rfl, by rw [HE.out]; exact World.ownsRow_nil w1 w.heap.size _ _, hb1⟩
end Go.Proofs.YtlfgnppacjdjkaaDoor
