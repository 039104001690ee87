/-
  Node: one that is handed in, opened; its size; its copy. Conditions: written at each theorem.
-/
import Derived.Test.YtlfgnppacjdjkaaNk
import Derived.Deep.Slices
namespace Go.Proofs.Ytlfgnppacjdjkaa
open Go.ChangeShapes Go.WideShapes Go.ChangeAt Go.RowKit
set_option linter.unusedVariables false

theorem nod_sz_no (x0 : Int) (x1 : Int) (x2 : Int) (x3 : Int) (x4 : Int) (x5 : ByteArray) (x6 : ByteArray) (l : Int) (h0 : 0 ≤ l) (hl : l ≤ 1048576) (hs5 : x5.size ≤ maxLen) (hs6 : x6.size ≤ maxLen) (w : World) (h : l < (x5.size : Int) + (x6.size : Int)) :
    Calls Try.prog 4 #[.agg #[.int .i64 x0, .int .i64 x1, .int .i64 x2, .int .i64 x3, .int .i64 x4, .string x5, .string x6], .int .i64 l] w fun e w' => e = .returned (.int .i64 (-1)) ∧ Below w.heap.size w w' := by
  unfold maxLen at hs5 hs6
  by_cases q5 : l < x5.size
  · go_enter Try.func4, Try.ntmps4
    go_wp2
    go_ret
    exact ⟨rfl, (Below.refl _ w).alloc (Nat.le_refl _) _⟩
  · have r5 : (x5.size : Int) ≤ l := by omega
    have q6 : l - (x5.size : Int) < x6.size := by omega
    go_enter Try.func4, Try.ntmps4
    go_wp2
    go_ret
    exact ⟨rfl, (Below.refl _ w).alloc (Nat.le_refl _) _⟩

theorem nod_sz_yes (x0 : Int) (x1 : Int) (x2 : Int) (x3 : Int) (x4 : Int) (x5 : ByteArray) (x6 : ByteArray) (l : Int) (h0 : 0 ≤ l) (hl : l ≤ 1048576) (w : World) (h : (x5.size : Int) + (x6.size : Int) ≤ l) :
    Calls Try.prog 4 #[.agg #[.int .i64 x0, .int .i64 x1, .int .i64 x2, .int .i64 x3, .int .i64 x4, .string x5, .string x6], .int .i64 l] w fun e w' => e = .returned (.int .i64 (l - (x5.size : Int) - (x6.size : Int))) ∧ Below w.heap.size w w' := by
  have r5 : (x5.size : Int) ≤ l := by omega
  have r6 : (x6.size : Int) ≤ l - (x5.size : Int) := by omega
  go_enter Try.func4, Try.ntmps4
  go_wp2
  go_ret
  exact ⟨rfl, (Below.refl _ w).alloc (Nat.le_refl _) _⟩

theorem nod_to (x0 : Int) (x1 : Int) (x2 : Int) (x3 : Int) (x4 : Int) (x5 : ByteArray) (x6 : ByteArray) (w : World) :
    Calls Try.prog 6 #[.agg #[.int .i64 x0, .int .i64 x1, .int .i64 x2, .int .i64 x3, .int .i64 x4, .string x5, .string x6]] w fun e w' => e = .returned (.agg #[.int .i64 x0, .int .i64 x1, .int .i64 x2, .int .i64 x3, .int .i64 x4, .string x5, .string x6]) ∧ Below w.heap.size w w' := by
  go_enter Try.func6, Try.ntmps6
  go_wp2
  (try simp only [Exit.inBlock, Exit.then])
  refine bodyPost_ret (results_cell_row rfl _ _ (w.heap.size + 1) 26 #[.int .i64 x0, .int .i64 x1, .int .i64 x2, .int .i64 x3, .int .i64 x4, .string x5, .string x6] (0, 0) _ rfl ?_ Try.underlying26 rfl (by kernel_rfl)) rfl ?_
  · rw [Below.heap_alloc _ _ _ (by simp), heap_alloc2_new]
  · exact ⟨rfl, (((Below.refl _ w).alloc (Nat.le_refl _) _).alloc (by simp) _).alloc (by simp; omega) _⟩

theorem nod_cells : Try.prog.cellsOf 23 = 7 := by kernel_rfl
theorem nod_cells3 : Try.prog.cellsOf 3 = 1 := by kernel_rfl
theorem nod_cells9 : Try.prog.cellsOf 9 = 1 := by kernel_rfl

theorem nod_plain {w : World} {a : Addr} {v : Value} (h : w.cell? a = some v) : a = ⟨a.block, a.off, none⟩ := by
  obtain ⟨b, o, s⟩ := a
  cases s with
  | none => rfl
  | some s =>
    simp only [World.cell?] at h
    split at h <;> simp at h

/-- One that is read out of its cells. -/
theorem nod_of_cells {H : Type} {enc : TypeId × Value → H} {w : World} {base : Nat} {spare : Nat → Bool} {held : Bool} {fuel : Nat} {cs : List Value} {y : DataW H × List MemPlace} (hl : cs.length = 7)
    (h : DataW.trod enc Try.prog w base spare held fuel 23 cs = some y) : ∃ t : Nod, t.name.size ≤ maxLen ∧ t.other.size ≤ maxLen ∧ cs = nodCells t := by
  obtain ⟨ys, k, _, _, _, hyl, hf⟩ := DataW.trod_struct Try.underlying23 h
  match ys, hyl, cs, hl with
  | [u0, u1, u2, u3, u4, u5, u6], _, [v0, v1, v2, v3, v4, v5, v6], _ =>
    have g0 := hf 0 _ rfl
    have g1 := hf 1 _ rfl
    have g2 := hf 2 _ rfl
    have g3 := hf 3 _ rfl
    have g4 := hf 4 _ rfl
    have g5 := hf 5 _ rfl
    have g6 := hf 6 _ rfl
    simp [nod_cells3, nod_cells9] at g0 g1 g2 g3 g4 g5 g6
    obtain ⟨n0, e0, _, _⟩ := DataW.trod_int Try.underlying3 g0
    obtain ⟨n1, e1, _, _⟩ := DataW.trod_int Try.underlying3 g1
    obtain ⟨n2, e2, _, _⟩ := DataW.trod_int Try.underlying3 g2
    obtain ⟨n3, e3, _, _⟩ := DataW.trod_int Try.underlying3 g3
    obtain ⟨n4, e4, _, _⟩ := DataW.trod_int Try.underlying3 g4
    obtain ⟨n5, e5, _, hs5⟩ := DataW.trod_string Try.underlying9 g5
    obtain ⟨n6, e6, _, hs6⟩ := DataW.trod_string Try.underlying9 g6
    simp at e0 e1 e2 e3 e4 e5 e6
    subst e0 e1 e2 e3 e4 e5 e6
    exact ⟨⟨n0, n1, n2, n3, n4, n5, n6⟩, hs5, hs6, rfl⟩

end Go.Proofs.Ytlfgnppacjdjkaa
