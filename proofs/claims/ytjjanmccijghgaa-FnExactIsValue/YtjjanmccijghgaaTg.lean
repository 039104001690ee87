/-
  Nodes as they landed: a tree is grown over its kids. Conditions: written at each theorem.
-/
import Derived.Test.YtjjanmccijghgaaTa
namespace Go.Proofs.Ytjjanmccijghgaa
open Go.ChangeShapes Go.WideShapes Go.ChangeAt Go.RowKit
set_option linter.unusedVariables false

theorem len_two {α : Type} {l : List α} (h : l.length = 2) : ∃ a b, l = [a, b] := by
  rcases l with _ | ⟨a, _ | ⟨b, _ | ⟨c, r⟩⟩⟩
  · simp at h
  · simp at h
  · exact ⟨a, b, rfl⟩
  · simp at h

theorem len_three {α : Type} {l : List α} (h : l.length = 3) : ∃ a b c, l = [a, b, c] := by
  rcases l with _ | ⟨a, _ | ⟨b, _ | ⟨c, _ | ⟨d, r⟩⟩⟩⟩
  · simp at h
  · simp at h
  · simp at h
  · exact ⟨a, b, c, rfl⟩
  · simp at h

theorem grow_leaf (t : Nod) (at0 : Int) (a : Option Addr) (cap : Nat) (w : World) :
    Calls Try.prog 23 #[.agg (nodCells t).toArray, .int .i64 at0, .slice a 0 cap] w fun e w' => e = .returned (treeV t at0 []) ∧ Below w.heap.size w w' := by
  obtain ⟨k, x1, b, c, n, x, o⟩ := t
  show Calls Try.prog 23 #[.agg #[.int .i64 k, .int .i64 x1, .int .i64 b, .int .i64 c, .int .i64 n, .string x, .string o], .int .i64 at0, .slice a 0 cap] w fun e w' => e = .returned (.iface 58 (.agg #[.int .i64 k, .int .i64 x1, .int .i64 b, .int .i64 c, .int .i64 n, .string x, .string o, .int .i64 at0])) ∧ Below w.heap.size w w'
  go_enter Try.func23, Try.ntmps23
  go_wp2
  go_ret
  exact ⟨rfl, (Below.refl _ w).alloc (Nat.le_refl _) _⟩

theorem spot_cells {w : World} {p : Nat} {k a b c n s : Int} {x o : ByteArray} {t : TypeId} {z : Nat × Nat} (h : w.heap[p]? = some (.cells #[.int .i64 k, .int .i64 a, .int .i64 b, .int .i64 c, .int .i64 n, .string x, .string o, .int .i64 s] t z)) :
    w.cell? ⟨p, 0, none⟩ = some (.int .i64 k) ∧ w.cell? ⟨p, 1, none⟩ = some (.int .i64 a) ∧ w.cell? ⟨p, 2, none⟩ = some (.int .i64 b) ∧ w.cell? ⟨p, 3, none⟩ = some (.int .i64 c) ∧ w.cell? ⟨p, 4, none⟩ = some (.int .i64 n) ∧ w.cell? ⟨p, 5, none⟩ = some (.string x) ∧ w.cell? ⟨p, 6, none⟩ = some (.string o) ∧ w.cell? ⟨p, 7, none⟩ = some (.int .i64 s) := by
  refine ⟨?_, ?_, ?_, ?_, ?_, ?_, ?_, ?_⟩ <;> (rw [cell_of_row _ _ _ _ _ _ h]; rfl)

/-- What lies there behind the statement that reads where the first kid begins. -/
def SpotIn (w wx : World) (p : Value) (k a b c n s : Int) (x o : ByteArray) : Prop :=
  ∃ q : Nat, p = .pointer (some ⟨q, 0, none⟩) ∧ wx.heap[q]? = some (.cells #[.int .i64 k, .int .i64 a, .int .i64 b, .int .i64 c, .int .i64 n, .string x, .string o, .int .i64 s] 56 (0, 0)) ∧ Below w.heap.size w wx

theorem spot_a (w : World) (A : Obj) (R : Array Value) (k a b c n s : Int) (x o : ByteArray) :
    SpotIn w (((w.alloc A).alloc (.cells R 56)).alloc (.cells #[.int .i64 k, .int .i64 a, .int .i64 b, .int .i64 c, .int .i64 n, .string x, .string o, .int .i64 s] 56)).drew
      (.pointer (some ⟨w.heap.size + 1 + 1, 0, none⟩)) k a b c n s x o := by
  refine ⟨w.heap.size + 1 + 1, rfl, ?_, ((((Below.refl _ w).alloc (Nat.le_refl _) _).alloc (by simp) _).alloc (by simp; omega) _).drew⟩
  have h := (MapKept.heap_alloc ((w.alloc A).alloc (.cells R 56)) (.cells #[.int .i64 k, .int .i64 a, .int .i64 b, .int .i64 c, .int .i64 n, .string x, .string o, .int .i64 s] 56)).1
  have e : ((w.alloc A).alloc (.cells R 56)).heap.size = w.heap.size + 1 + 1 := by simp
  rw [e] at h
  exact h

theorem spot_b (w : World) (A : Obj) (R : Array Value) (k a b c n s : Int) (x o : ByteArray) :
    SpotIn w (((w.alloc A).alloc (.cells #[.int .i64 k, .int .i64 a, .int .i64 b, .int .i64 c, .int .i64 n, .string x, .string o, .int .i64 s] 56)).alloc (.cells R 56)).drew
      (.pointer (some ⟨w.heap.size + 1, 0, none⟩)) k a b c n s x o := by
  refine ⟨w.heap.size + 1, rfl, ?_, ((((Below.refl _ w).alloc (Nat.le_refl _) _).alloc (by simp) _).alloc (by simp; omega) _).drew⟩
  have h := (MapKept.heap_alloc (w.alloc A) (.cells #[.int .i64 k, .int .i64 a, .int .i64 b, .int .i64 c, .int .i64 n, .string x, .string o, .int .i64 s] 56)).1
  have h2 := ((Below.refl _ ((w.alloc A).alloc (.cells #[.int .i64 k, .int .i64 a, .int .i64 b, .int .i64 c, .int .i64 n, .string x, .string o, .int .i64 s] 56))).alloc (Nat.le_refl _) (.cells R 56)).drew.block (w.heap.size + 1) (by simp)
  rw [h2]
  simpa using h

set_option maxHeartbeats 4000000 in
set_option maxRecDepth 20000 in
theorem grow_kids (t : Nod) (at0 s : Int) (g cap : Nat) (ks : List Value) (h1 : 1 ≤ ks.length) (h3 : ks.length ≤ 3) (hv : Begins (ks.getD 0 .nilIface) s) (hif : ∀ v ∈ ks, ∃ T u, v = .iface T u) (w : World) (hk : TreeAt w g ks) :
    Calls Try.prog 23 #[.agg (nodCells t).toArray, .int .i64 at0, .slice (some ⟨g, 0, none⟩) ks.length cap] w fun e w' => e = .returned (treeV t s ks) ∧ Below w.heap.size w w' := by
  have hg := hk.lt (by omega)
  have h0 := hk 0 (by omega)
  have HF : Hid (∀ v ∈ ks, ∃ T u, v = .iface T u) := hif
  have HV : Hid (treeV t s ks = .iface (treeT ks.length) (.agg (spotL t s ++ ks).toArray)) := rfl
  have HK : Hid (TreeAt w g ks) := hk
  obtain ⟨T, u, t0, he, hn, hm⟩ := hv
  rw [he] at h0
  obtain ⟨k, x1, b, c, n, x, o⟩ := t
  show Calls Try.prog 23 #[.agg #[.int .i64 k, .int .i64 x1, .int .i64 b, .int .i64 c, .int .i64 n, .string x, .string o], .int .i64 at0, .slice (some ⟨g, 0, none⟩) ks.length cap] w fun e w' => e = .returned (treeV ⟨k, x1, b, c, n, x, o⟩ s ks) ∧ Below w.heap.size w w'
  obtain ⟨R, hR⟩ : ∃ R, (spotL t0 s).toArray = R := ⟨_, rfl⟩
  have hI := impl_begin t0 s
  rw [hR] at hm hI
  have HI : Hid (∀ w : World, Calls Try.prog 57 #[.agg R] w fun e w' => e = .returned (.int .i64 s) ∧ w' = w.alloc (.cells R 56)) := hI
  clear hR hI he hk hif
  obtain ⟨m, hmm⟩ : ∃ m, ks.length = m := ⟨_, rfl⟩
  have HM : Hid (ks.length = m) := hmm
  rw [hmm] at h1 h3 ⊢
  clear hmm
  have e1 : (1 : Int) ≤ m := by omega
  have e3 : (m : Int) ≤ 3 := by omega
  go_enter Try.func23, Try.ntmps23
  go_upto_region 3 with fail
  go_cut [7] from 10 (fun p wx => SpotIn w wx p k x1 b c n s x o)
  case first =>
    go_region_with (go_at_call 57; refine (HI.out _).mono ?_; rintro e w1 ⟨rfl, rfl⟩)
    all_goals
      go_wp2_with fail
      go_meet
    all_goals first | exact spot_a _ _ _ _ _ _ _ _ _ _ _ | exact spot_b _ _ _ _ _ _ _ _ _ _ _
  case rest =>
    obtain ⟨q, rfl, hq, hb⟩ := hcut
    obtain ⟨q0, q1, q2, q3, q4, q5, q6, q7⟩ := spot_cells hq
    have HT : Hid (TreeAt wc g ks) := HK.out.below hb (fun _ => hg)
    clear HK h0 hn hm HI hq
    rcases (by omega : m = 1 ∨ m = 2 ∨ m = 3) with rfl | rfl | rfl
    · obtain ⟨v0, rfl⟩ := List.length_eq_one_iff.1 HM.out
      obtain ⟨T0, u0, rfl⟩ := HF.out v0 (by simp)
      have c0 : wc.cell? ⟨g, 0, none⟩ = some (.iface T0 u0) := HT.out 0 (by simp)
      clear HT HF
      go_wp2
      go_quiet (fail)
      go_wp2
      go_ret
      exact ⟨by rw [HV.out]; rfl, below_drew_n hb _⟩
    · obtain ⟨v0, v1, rfl⟩ := len_two HM.out
      obtain ⟨T0, u0, rfl⟩ := HF.out v0 (by simp)
      obtain ⟨T1, u1, rfl⟩ := HF.out v1 (by simp)
      have c0 : wc.cell? ⟨g, 0, none⟩ = some (.iface T0 u0) := HT.out 0 (by simp)
      have c1 : wc.cell? ⟨g, 1, none⟩ = some (.iface T1 u1) := HT.out 1 (by simp)
      clear HT HF
      go_wp2
      go_quiet (fail)
      go_wp2
      go_ret
      exact ⟨by rw [HV.out]; rfl, below_drew_n hb _⟩
    · obtain ⟨v0, v1, v2, rfl⟩ := len_three HM.out
      obtain ⟨T0, u0, rfl⟩ := HF.out v0 (by simp)
      obtain ⟨T1, u1, rfl⟩ := HF.out v1 (by simp)
      obtain ⟨T2, u2, rfl⟩ := HF.out v2 (by simp)
      have c0 : wc.cell? ⟨g, 0, none⟩ = some (.iface T0 u0) := HT.out 0 (by simp)
      have c1 : wc.cell? ⟨g, 1, none⟩ = some (.iface T1 u1) := HT.out 1 (by simp)
      have c2 : wc.cell? ⟨g, 2, none⟩ = some (.iface T2 u2) := HT.out 2 (by simp)
      clear HT HF
      go_wp2
      go_quiet (fail)
      go_wp2
      go_ret
      exact ⟨by rw [HV.out]; rfl, below_drew_n hb _⟩
end Go.Proofs.Ytjjanmccijghgaa
