/-
  EnvCell: two rows of them are held against each other: where they hold the same, that is what is answered. Conditions: written at each theorem.
-/
import Derived.Test.YthmfkbnfdheopaaE1k
import Derived.Test.YthmfkbnfdheopaaR1e
namespace Go.Proofs.Ythmfkbnfdheopaa
open Go.ChangeShapes Go.WideShapes Go.ChangeAt Go.RowKit
set_option linter.unusedVariables false

theorem cel_eq (x0 : Int) (x1 : Int) (x2 : Int) (x3 : Int) (x4 : Int) (w : World) :
    Calls Try.prog 39 #[.agg #[.int .i64 x0, .int .i64 x1, .int .i64 x2, .int .i64 x3, .int .i64 x4], .agg #[.int .i64 x0, .int .i64 x1, .int .i64 x2, .int .i64 x3, .int .i64 x4]] w fun e w' => e = .returned (.bool true) ∧ Below w.heap.size w w' := by
  go_enter Try.func39, Try.ntmps39
  go_wp2_with fail
  refine (vl_eq _ _ _).mono ?_
  rintro e w3 ⟨rfl, b3⟩
  have B3 : Hid (Below w.heap.size w w3) := (((Below.refl _ w).alloc (Nat.le_refl _) _).alloc (by simp) _).trans (b3.mono (by simp; omega))
  have hp3 : w3.heap[w.heap.size]? = some (.cells #[.int .i64 x0, .int .i64 x1, .int .i64 x2, .int .i64 x3, .int .i64 x4] 59 (0, 0)) := by
    rw [b3.block _ (by simp; omega), Below.heap_alloc _ _ _ (by simp)]
    exact (MapKept.heap_alloc w _).1
  have hu3 : w3.heap[w.heap.size + 1]? = some (.cells #[.int .i64 x0, .int .i64 x1, .int .i64 x2, .int .i64 x3, .int .i64 x4] 59 (0, 0)) := by
    rw [b3.block _ (by simp)]
    have := (MapKept.heap_alloc (w.alloc (.cells #[.int .i64 x0, .int .i64 x1, .int .i64 x2, .int .i64 x3, .int .i64 x4] 59)) (.cells #[.int .i64 x0, .int .i64 x1, .int .i64 x2, .int .i64 x3, .int .i64 x4] 59)).1
    simpa using this
  have sz3 : w.heap.size + 2 ≤ w3.heap.size := by have := b3.size; (try simp at this); omega
  clear b3
  have p0_3 : w3.cell? ⟨w.heap.size, 0, none⟩ = some (.int .i64 x0) := (cell_of_row _ _ _ _ _ _ hp3).trans rfl
  have u0_3 : w3.cell? ⟨w.heap.size + 1, 0, none⟩ = some (.int .i64 x0) := (cell_of_row _ _ _ _ _ _ hu3).trans rfl
  have p1_3 : w3.cell? ⟨w.heap.size, 1, none⟩ = some (.int .i64 x1) := (cell_of_row _ _ _ _ _ _ hp3).trans rfl
  have u1_3 : w3.cell? ⟨w.heap.size + 1, 1, none⟩ = some (.int .i64 x1) := (cell_of_row _ _ _ _ _ _ hu3).trans rfl
  have p2_3 : w3.cell? ⟨w.heap.size, 2, none⟩ = some (.int .i64 x2) := (cell_of_row _ _ _ _ _ _ hp3).trans rfl
  have u2_3 : w3.cell? ⟨w.heap.size + 1, 2, none⟩ = some (.int .i64 x2) := (cell_of_row _ _ _ _ _ _ hu3).trans rfl
  have p3_3 : w3.cell? ⟨w.heap.size, 3, none⟩ = some (.int .i64 x3) := (cell_of_row _ _ _ _ _ _ hp3).trans rfl
  have u3_3 : w3.cell? ⟨w.heap.size + 1, 3, none⟩ = some (.int .i64 x3) := (cell_of_row _ _ _ _ _ _ hu3).trans rfl
  have p4_3 : w3.cell? ⟨w.heap.size, 4, none⟩ = some (.int .i64 x4) := (cell_of_row _ _ _ _ _ _ hp3).trans rfl
  have u4_3 : w3.cell? ⟨w.heap.size + 1, 4, none⟩ = some (.int .i64 x4) := (cell_of_row _ _ _ _ _ _ hu3).trans rfl
  have HP3 : Hid (w3.heap[w.heap.size]? = some (.cells #[.int .i64 x0, .int .i64 x1, .int .i64 x2, .int .i64 x3, .int .i64 x4] 59 (0, 0))) := hp3
  have HU3 : Hid (w3.heap[w.heap.size + 1]? = some (.cells #[.int .i64 x0, .int .i64 x1, .int .i64 x2, .int .i64 x3, .int .i64 x4] 59 (0, 0))) := hu3
  clear hp3 hu3
  go_wp2
  go_ret
  exact ⟨rfl, B3.out⟩

theorem cel_eq_name : (Try.f39.name == "runtime.NumGoroutine") = false := by kernel_rfl
theorem cel_eq_body : Try.f39.body.isNone = false := by kernel_rfl

set_option maxHeartbeats 2000000 in
set_option maxRecDepth 20000 in
theorem cel_eq_row (a b : Option Addr) (g h ca cb : Nat) (ts : List Cel) (hl : ts.length ≤ 1048576) (ha : 0 < ts.length → a = some ⟨g, 0, none⟩) (hb : 0 < ts.length → b = some ⟨h, 0, none⟩) (w : World) (hA : CelAt w g ts) (hB : CelAt w h ts) :
    Calls Try.prog 29 #[.slice a ts.length ca, .slice b ts.length cb] w fun e w' => e = .returned (.bool true) ∧ Below w.heap.size w w' := by
  have HA : Hid (CelAt w g ts) := hA
  have HB : Hid (CelAt w h ts) := hB
  clear hA hB
  go_enter Try.func29, Try.ntmps29
  go_wp2
  go_loopw [5] (fun i wr => ∃ k : Nat, k ≤ ts.length ∧ i = .int .i64 k ∧ Below w.heap.size w wr) (fun i _ => ts.length - (intOf i).toNat)
  case atStart => exact ⟨0, by omega, rfl, Below.refl _ _⟩
  case round =>
    obtain ⟨k, hk, rfl, hbl⟩ := hrel
    by_cases hin : k < ts.length
    · have e1 : (k : Int) < ts.length := by omega
      obtain rfl := ha (by omega)
      obtain rfl := hb (by omega)
      have t := (HA.out.below hbl (fun h => HA.out.lt h)) k hin
      have u := (HB.out.below hbl (fun h => HB.out.lt h)) k hin
      obtain ⟨⟨x0, x1, x2, x3, x4⟩, hx⟩ : ∃ y, ts.getD k noCel = y := ⟨_, rfl⟩
      rw [hx] at t u
      have q0 : wr.cell? ⟨g, k * 5, none⟩ = some (.int .i64 x0) := t.c0
      have r0 : wr.cell? ⟨h, k * 5, none⟩ = some (.int .i64 x0) := u.c0
      have q1 : wr.cell? ⟨g, k * 5 + 1, none⟩ = some (.int .i64 x1) := t.c1
      have r1 : wr.cell? ⟨h, k * 5 + 1, none⟩ = some (.int .i64 x1) := u.c1
      have q2 : wr.cell? ⟨g, k * 5 + 2, none⟩ = some (.int .i64 x2) := t.c2
      have r2 : wr.cell? ⟨h, k * 5 + 2, none⟩ = some (.int .i64 x2) := u.c2
      have q3 : wr.cell? ⟨g, k * 5 + 3, none⟩ = some (.int .i64 x3) := t.c3
      have r3 : wr.cell? ⟨h, k * 5 + 3, none⟩ = some (.int .i64 x3) := u.c3
      have q4 : wr.cell? ⟨g, k * 5 + 4, none⟩ = some (.int .i64 x4) := t.c4
      have r4 : wr.cell? ⟨h, k * 5 + 4, none⟩ = some (.int .i64 x4) := u.c4
      clear t u hx
      have hsize := hbl.size
      go_wp2
      go_region_law (refine step_call rfl 39 #[.tmp 20, .tmp 24] #[59, 59] rfl #[.agg #[.int .i64 x0, .int .i64 x1, .int .i64 x2, .int .i64 x3, .int .i64 x4], .agg #[.int .i64 x0, .int .i64 x1, .int .i64 x2, .int .i64 x3, .int .i64 x4]] (by simp [Act.eval]) Try.func39 cel_eq_name cel_eq_body _ (cel_eq _ _ _ _ _ _) ?_; rintro e w3 ⟨rfl, b3⟩; refine ⟨_, rfl, ?_⟩)
      all_goals
        have b4 : Below w.heap.size w w3 := hbl.trans ((Below.refl _ wr).drew.trans (b3.mono hsize))
        go_wp2
        go_roundw
        case rel => exact ⟨k + 1, by omega, by go_num, b4⟩
        case measure => simp [intOf]; omega
    · go_wp2
      go_ret
      exact ⟨rfl, hbl⟩
end Go.Proofs.Ythmfkbnfdheopaa
