/-
  What put does: it lays the bytes that it is handed into the room, from a place on, and tells the place behind them. Condition: there is room, and at least one byte.
-/
import Derived.Test.YtpjaiehkhbkgiaiRf
import Derived.Laws.CopyOwn
namespace Go.Proofs.Ytpjaiehkhbkgiai
open Go.ChangeShapes Go.WideShapes Go.ChangeAt Go.RowKit
set_option linter.unusedVariables false

theorem info5 : (Try.prog.info? 5).map (·.size) = some 1 := by kernel_rfl

theorem put_any (g n c k m b B : Nat) (cur cs : List Value) (w w0 : World) (hg : w.heap[g]? = some (.cells cur.toArray 5 (0, 0))) (hm : cs.length = m)
    (hsrc : ∀ j v, cs[j]? = some v → w.cell? ⟨b, j, none⟩ = some v) (hpos : 0 < m) (hfit : k + m ≤ n) (hn : n ≤ cur.length) (hc : n ≤ c) (hmax : n ≤ maxLen)
    (h1 : ∀ v ∈ cs, v.oneCell' = true) (hb : Below B w0 w) (hBg : B ≤ g) :
    Calls Try.prog 13 #[.slice (some ⟨g, 0, none⟩) n c, .int .i64 (k : Nat), .slice (some ⟨b, 0, none⟩) m m] w fun e w' =>
      e = .returned (.int .i64 (k + m : Nat)) ∧ w'.heap[g]? = some (.cells (splice cur k cs).toArray 5 (0, 0)) ∧ Below B w0 w' := by
  unfold maxLen at hmax
  have hg' : Hid (w.heap[g]? = some (.cells cur.toArray 5 (0, 0))) := hg
  have hsrc' : Hid (∀ j v, cs[j]? = some v → w.cell? ⟨b, j, none⟩ = some v) := hsrc
  have hm' : Hid (cs.length = m) := hm
  have h1' : Hid (∀ v ∈ cs, v.oneCell' = true) := h1
  have hb' : Hid (Below B w0 w) := hb
  clear hg hsrc hm h1 hb
  go_enter Try.func13, Try.ntmps13
  go_wp2_with (refine wpList_copy_splice rfl (.tmp 10) (.tmp 11) 30 30 rfl 5 Try.underlying30 info5 _ _ _ _ _ _ rfl rfl g k cur 5 hg'.out cs ?c1 ?c2 ?c3 h1'.out B w0 hb'.out hBg ?_)
  case c1 => rw [hm'.out]; exact (Nat.min_eq_left (by omega)).symm
  case c2 => intro _ j v hj; exact hsrc'.out j v hj
  case c3 => rw [hm'.out]; omega
  intro w' hg2 hb2
  rw [hm'.out]
  go_wp2
  go_ret
  exact ⟨by simp, hg2.out, hb2⟩
end Go.Proofs.Ytpjaiehkhbkgiai
