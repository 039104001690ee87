/-
  Reading as it landed: a fault is caught. Conditions: written at each theorem.
-/
import Derived.Test.YtncoooimgeoihaaDoorRl
import Derived.Defers
import Derived.Recover
namespace Go.Proofs.YtncoooimgeoihaaDoor
open Go.ChangeShapes Go.WideShapes Go.ChangeAt Go.RowKit
set_option linter.unusedVariables false

theorem ta_yes (x : Value) (w : World) : (Instr.typeAssert (.iface 40 x) 20 40 true).run Tryd.prog w = .ok (.tuple #[x, .bool true]) w := by
  simp [Instr.typeAssert, run_underlying Tryd.underlying40, Result.andThen]

theorem ta_no (w : World) : (Instr.typeAssert .nilIface 20 40 true).run Tryd.prog w = .ok (.tuple #[.agg #[.int .i64 0, .int .i64 0], .bool false]) w := by
  simp [Instr.typeAssert, run_underlying Tryd.underlying40, Result.andThen]

theorem catch_world {A : Nat} {nv : Value} {c0 q0 c q : Int} {w : World} {t1 t2 : TypeId} (hn : w.heap[A]? = some (.cells #[nv] t1 (0, 0))) (hw : w.heap[A + 1]? = some (.cells #[.int .i64 c0, .int .i64 q0] t2 (0, 0))) (o : Obj) :
    ((((w.setCell ⟨A, 0, none⟩ (.slice none 0 0)).setCell ⟨A + 1, 0, none⟩ (.int .i64 c)).setCell ⟨A + 1, 1, none⟩ (.int .i64 q)).alloc o).drew.heap[A]? = some (.cells #[.slice none 0 0] t1 (0, 0)) ∧
    ((((w.setCell ⟨A, 0, none⟩ (.slice none 0 0)).setCell ⟨A + 1, 0, none⟩ (.int .i64 c)).setCell ⟨A + 1, 1, none⟩ (.int .i64 q)).alloc o).drew.heap[A + 1]? = some (.cells #[.int .i64 c, .int .i64 q] t2 (0, 0)) ∧
    Below A w ((((w.setCell ⟨A, 0, none⟩ (.slice none 0 0)).setCell ⟨A + 1, 0, none⟩ (.int .i64 c)).setCell ⟨A + 1, 1, none⟩ (.int .i64 q)).alloc o).drew := by
  have z1 : A + 1 < w.heap.size := (Array.getElem?_eq_some_iff.1 hw).1
  have k1 : (w.setCell ⟨A, 0, none⟩ (.slice none 0 0)).heap[A]? = some (.cells #[.slice none 0 0] t1 (0, 0)) := heap_setCell_same w A 0 _ _ _ hn
  have k2 : (w.setCell ⟨A, 0, none⟩ (.slice none 0 0)).heap[A + 1]? = some (.cells #[.int .i64 c0, .int .i64 q0] t2 (0, 0)) := (heap_setCell_other w ⟨A, 0, none⟩ (A + 1) _ (by show A + 1 ≠ A; omega)).trans hw
  have k3 := heap_setCell_same _ (A + 1) 0 _ _ (.int .i64 c) k2
  have k4 := heap_setCell_same _ (A + 1) 1 _ _ (.int .i64 q) k3
  have ne : A ≠ A + 1 := by omega
  refine ⟨?_, ?_, ?_⟩
  · show ((((w.setCell ⟨A, 0, none⟩ (.slice none 0 0)).setCell ⟨A + 1, 0, none⟩ (.int .i64 c)).setCell ⟨A + 1, 1, none⟩ (.int .i64 q)).alloc o).heap[A]? = _
    rw [Below.heap_alloc _ _ _ (by simp [World.setCell]; omega), heap_setCell_other _ ⟨A + 1, 1, none⟩ A _ ne, heap_setCell_other _ ⟨A + 1, 0, none⟩ A _ ne]
    exact k1
  · show ((((w.setCell ⟨A, 0, none⟩ (.slice none 0 0)).setCell ⟨A + 1, 0, none⟩ (.int .i64 c)).setCell ⟨A + 1, 1, none⟩ (.int .i64 q)).alloc o).heap[A + 1]? = _
    rw [Below.heap_alloc _ _ _ (by simp [World.setCell]; omega)]
    exact k4
  · exact (((((Below.refl A w).setCell (p := ⟨A, 0, none⟩) (Nat.le_refl _) _).setCell (p := ⟨A + 1, 0, none⟩) (by show A ≤ A + 1; omega) _).setCell (p := ⟨A + 1, 1, none⟩) (by show A ≤ A + 1; omega) _).alloc (by simp [World.setCell]; omega) _).drew

set_option maxHeartbeats 1000000 in
set_option maxRecDepth 20000 in
theorem rd_catch (A : Nat) (nv : Value) (c0 q0 c q : Int) (w : World) (hn : w.heap[A]? = some (.cells #[nv] 24 (0, 0))) (hw : w.heap[A + 1]? = some (.cells #[.int .i64 c0, .int .i64 q0] 40 (0, 0))) :
    CallsD Tryd.prog 38 #[.pointer (some ⟨A, 0, none⟩), .pointer (some ⟨A + 1, 0, none⟩)] (.panicking [fltV c q]) w fun e u' w' =>
      e = .returned (.tuple #[]) ∧ u' = .panicking [{ v := .iface 40 (.agg #[.int .i64 c, .int .i64 q]), recovered := true }] ∧ (w'.heap[A]? = some (.cells #[.slice none 0 0] 24 (0, 0)) ∧ w'.heap[A + 1]? = some (.cells #[.int .i64 c, .int .i64 q] 40 (0, 0)) ∧ Below A w w') := by
  refine callsD_of_wpS Tryd.func38 rfl fun c₀ cs hu => ?_
  apply wpS_seq
  apply wpS_region
  have htm : #[Value.pointer (some ⟨A, 0, none⟩), .pointer (some ⟨A + 1, 0, none⟩)] ++ Array.replicate (Tryd.f38.ntmps - #[Value.pointer (some ⟨A, 0, none⟩), .pointer (some ⟨A + 1, 0, none⟩)].size) undef = #[.pointer (some ⟨A, 0, none⟩), .pointer (some ⟨A + 1, 0, none⟩), undef, undef, undef, undef, undef, undef, undef, undef, undef] := by
    rw [Tryd.ntmps38]
    rfl
  rw [htm]
  clear htm
  have a0 : w.cell? ⟨A, 0, none⟩ = some nv := by rw [cell_of_row _ _ _ _ _ _ hn]; rfl
  have a1 : w.frozen? ⟨A, 0, none⟩ = false := frozen_of_row w A 0 _ _ hn
  have b0 : w.cell? ⟨A + 1, 0, none⟩ = some (.int .i64 c0) := by rw [cell_of_row _ _ _ _ _ _ hw]; rfl
  have b1 : w.cell? ⟨A + 1, 1, none⟩ = some (.int .i64 q0) := by rw [cell_of_row _ _ _ _ _ _ hw]; rfl
  have b2 : ∀ j, w.frozen? ⟨A + 1, j, none⟩ = false := fun j => frozen_of_row w (A + 1) j _ _ hw
  have z1 : A + 1 < w.heap.size := (Array.getElem?_eq_some_iff.1 hw).1
  have z0 : A < w.heap.size := by omega
  have HN : Hid (w.heap[A]? = some (.cells #[nv] 24 (0, 0))) := hn
  have HW : Hid (w.heap[A + 1]? = some (.cells #[.int .i64 c0, .int .i64 q0] 40 (0, 0))) := hw
  clear hn hw
  simp [wpOpsS, go_sem, recoverD, hu, Exit.thenS, ta_yes]
  refine wpS_of_wp ?_
  clear hu
  go_wp2
  go_region
  all_goals
    go_wp2
    obtain ⟨f1, f2, f3⟩ := catch_world (c := c) (q := q) HN.out HW.out (.cells #[.int .i64 c, .int .i64 q] 40)
    exact ⟨rfl, _, rfl, _, results_none rfl _ _ _, rfl, rfl, f1, f2, f3⟩

set_option maxHeartbeats 1000000 in
set_option maxRecDepth 20000 in
theorem rd_idle (A : Nat) (w : World) :
    CallsD Tryd.prog 38 #[.pointer (some ⟨A, 0, none⟩), .pointer (some ⟨A + 1, 0, none⟩)] .returning w fun e u' w' => e = .returned (.tuple #[]) ∧ u' = .returning ∧ w' = w.alloc (.cells #[.int .i64 0, .int .i64 0] 40) := by
  refine callsD_of_wpS Tryd.func38 rfl fun c₀ cs hu => ?_
  apply wpS_seq
  apply wpS_region
  have htm : #[Value.pointer (some ⟨A, 0, none⟩), .pointer (some ⟨A + 1, 0, none⟩)] ++ Array.replicate (Tryd.f38.ntmps - #[Value.pointer (some ⟨A, 0, none⟩), .pointer (some ⟨A + 1, 0, none⟩)].size) undef = #[.pointer (some ⟨A, 0, none⟩), .pointer (some ⟨A + 1, 0, none⟩), undef, undef, undef, undef, undef, undef, undef, undef, undef] := by
    rw [Tryd.ntmps38]
    rfl
  rw [htm]
  clear htm
  simp [wpOpsS, go_sem, recoverD, hu, Exit.thenS, ta_no]
  refine wpS_of_wp ?_
  go_wp2
  refine ⟨rfl, .returning, ?_, _, results_none rfl _ _ _, rfl, rfl, rfl⟩
  rw [← hu]
end Go.Proofs.YtncoooimgeoihaaDoor
