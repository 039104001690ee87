/-
  Two: two rows of them are held against each other: where they hold the same, that is what is answered. Conditions: written at each theorem.
-/
import Derived.Test.YthmfkbnfdheopaaT1k
import Derived.Test.YthmfkbnfdheopaaR1e
namespace Go.Proofs.Ythmfkbnfdheopaa
open Go.ChangeShapes Go.WideShapes Go.ChangeAt Go.RowKit
set_option linter.unusedVariables false

theorem tw_eq (x0 : Int) (x1 : Int) (x2 : Int) (x3 : Int) (w : World) :
    Calls Try.prog 41 #[.agg #[.int .i64 x0, .int .i64 x1, .int .i64 x2, .int .i64 x3], .agg #[.int .i64 x0, .int .i64 x1, .int .i64 x2, .int .i64 x3]] w fun e w' => e = .returned (.bool true) ∧ Below w.heap.size w w' := by
  go_enter Try.func41, Try.ntmps41
  go_wp2_with fail
  refine (vl_eq _ _ _).mono ?_
  rintro e w3 ⟨rfl, b3⟩
  have B3 : Hid (Below w.heap.size w w3) := (((Below.refl _ w).alloc (Nat.le_refl _) _).alloc (by simp) _).trans (b3.mono (by simp; omega))
  have hp3 : w3.heap[w.heap.size]? = some (.cells #[.int .i64 x0, .int .i64 x1, .int .i64 x2, .int .i64 x3] 63 (0, 0)) := by
    rw [b3.block _ (by simp; omega), Below.heap_alloc _ _ _ (by simp)]
    exact (MapKept.heap_alloc w _).1
  have hu3 : w3.heap[w.heap.size + 1]? = some (.cells #[.int .i64 x0, .int .i64 x1, .int .i64 x2, .int .i64 x3] 63 (0, 0)) := by
    rw [b3.block _ (by simp)]
    have := (MapKept.heap_alloc (w.alloc (.cells #[.int .i64 x0, .int .i64 x1, .int .i64 x2, .int .i64 x3] 63)) (.cells #[.int .i64 x0, .int .i64 x1, .int .i64 x2, .int .i64 x3] 63)).1
    simpa using this
  have sz3 : w.heap.size + 2 ≤ w3.heap.size := by have := b3.size; (try simp at this); omega
  clear b3
  have p0_3 : w3.cell? ⟨w.heap.size, 0, none⟩ = some (.int .i64 x0) := (cell_of_row _ _ _ _ _ _ hp3).trans rfl
  have u0_3 : w3.cell? ⟨w.heap.size + 1, 0, none⟩ = some (.int .i64 x0) := (cell_of_row _ _ _ _ _ _ hu3).trans rfl
  have p1_3 : w3.cell? ⟨w.heap.size, 1, none⟩ = some (.int .i64 x1) := (cell_of_row _ _ _ _ _ _ hp3).trans rfl
  have u1_3 : w3.cell? ⟨w.heap.size + 1, 1, none⟩ = some (.int .i64 x1) := (cell_of_row _ _ _ _ _ _ hu3).trans rfl
  have p2_3 : w3.cell? ⟨w.heap.size, 2, none⟩ = some (.int .i64 x2) := (cell_of_row _ _ _ _ _ _ hp3).trans rfl
  have u2_3 : w3.cell? ⟨w.heap.size + 1, 2, none⟩ = some (.int .i64 x2) := (cell_of_row _ _ _ _ _ _ hu3).trans rfl
  have p3_3 : w3.cell? ⟨w.heap.size, 3, none⟩ = some (.int .i64 x3) := (cell_of_row _ _ _ _ _ _ hp3).trans rfl
  have u3_3 : w3.cell? ⟨w.heap.size + 1, 3, none⟩ = some (.int .i64 x3) := (cell_of_row _ _ _ _ _ _ hu3).trans rfl
  have HP3 : Hid (w3.heap[w.heap.size]? = some (.cells #[.int .i64 x0, .int .i64 x1, .int .i64 x2, .int .i64 x3] 63 (0, 0))) := hp3
  have HU3 : Hid (w3.heap[w.heap.size + 1]? = some (.cells #[.int .i64 x0, .int .i64 x1, .int .i64 x2, .int .i64 x3] 63 (0, 0))) := hu3
  clear hp3 hu3
  go_wp2_with fail
  refine (vl_eq _ _ _).mono ?_
  rintro e w4 ⟨rfl, b4⟩
  have B4 : Hid (Below w.heap.size w w4) := B3.out.trans (b4.mono (by omega))
  have hp4 : w4.heap[w.heap.size]? = some (.cells #[.int .i64 x0, .int .i64 x1, .int .i64 x2, .int .i64 x3] 63 (0, 0)) := (b4.block _ (by omega)).trans HP3.out
  have hu4 : w4.heap[w.heap.size + 1]? = some (.cells #[.int .i64 x0, .int .i64 x1, .int .i64 x2, .int .i64 x3] 63 (0, 0)) := (b4.block _ (by omega)).trans HU3.out
  have sz4 : w.heap.size + 2 ≤ w4.heap.size := by have := b4.size; (try simp at this); omega
  clear b4
  have p0_4 : w4.cell? ⟨w.heap.size, 0, none⟩ = some (.int .i64 x0) := (cell_of_row _ _ _ _ _ _ hp4).trans rfl
  have u0_4 : w4.cell? ⟨w.heap.size + 1, 0, none⟩ = some (.int .i64 x0) := (cell_of_row _ _ _ _ _ _ hu4).trans rfl
  have p1_4 : w4.cell? ⟨w.heap.size, 1, none⟩ = some (.int .i64 x1) := (cell_of_row _ _ _ _ _ _ hp4).trans rfl
  have u1_4 : w4.cell? ⟨w.heap.size + 1, 1, none⟩ = some (.int .i64 x1) := (cell_of_row _ _ _ _ _ _ hu4).trans rfl
  have p2_4 : w4.cell? ⟨w.heap.size, 2, none⟩ = some (.int .i64 x2) := (cell_of_row _ _ _ _ _ _ hp4).trans rfl
  have u2_4 : w4.cell? ⟨w.heap.size + 1, 2, none⟩ = some (.int .i64 x2) := (cell_of_row _ _ _ _ _ _ hu4).trans rfl
  have p3_4 : w4.cell? ⟨w.heap.size, 3, none⟩ = some (.int .i64 x3) := (cell_of_row _ _ _ _ _ _ hp4).trans rfl
  have u3_4 : w4.cell? ⟨w.heap.size + 1, 3, none⟩ = some (.int .i64 x3) := (cell_of_row _ _ _ _ _ _ hu4).trans rfl
  have HP4 : Hid (w4.heap[w.heap.size]? = some (.cells #[.int .i64 x0, .int .i64 x1, .int .i64 x2, .int .i64 x3] 63 (0, 0))) := hp4
  have HU4 : Hid (w4.heap[w.heap.size + 1]? = some (.cells #[.int .i64 x0, .int .i64 x1, .int .i64 x2, .int .i64 x3] 63 (0, 0))) := hu4
  clear hp4 hu4
  go_wp2
  go_ret
  exact ⟨rfl, B4.out⟩

theorem tw_eq_name : (Try.f41.name == "runtime.NumGoroutine") = false := by kernel_rfl
theorem tw_eq_body : Try.f41.body.isNone = false := by kernel_rfl

set_option maxHeartbeats 2000000 in
set_option maxRecDepth 20000 in
theorem tw_eq_row (a b : Option Addr) (g h ca cb : Nat) (ts : List Tw) (hl : ts.length ≤ 1048576) (ha : 0 < ts.length → a = some ⟨g, 0, none⟩) (hb : 0 < ts.length → b = some ⟨h, 0, none⟩) (w : World) (hA : TwAt w g ts) (hB : TwAt w h ts) :
    Calls Try.prog 31 #[.slice a ts.length ca, .slice b ts.length cb] w fun e w' => e = .returned (.bool true) ∧ Below w.heap.size w w' := by
  have HA : Hid (TwAt w g ts) := hA
  have HB : Hid (TwAt w h ts) := hB
  clear hA hB
  go_enter Try.func31, Try.ntmps31
  go_wp2
  go_loopw [5] (fun i wr => ∃ k : Nat, k ≤ ts.length ∧ i = .int .i64 k ∧ Below w.heap.size w wr) (fun i _ => ts.length - (intOf i).toNat)
  case atStart => exact ⟨0, by omega, rfl, Below.refl _ _⟩
  case round =>
    obtain ⟨k, hk, rfl, hbl⟩ := hrel
    by_cases hin : k < ts.length
    · have e1 : (k : Int) < ts.length := by omega
      obtain rfl := ha (by omega)
      obtain rfl := hb (by omega)
      have t := (HA.out.below hbl (fun h => HA.out.lt h)) k hin
      have u := (HB.out.below hbl (fun h => HB.out.lt h)) k hin
      obtain ⟨⟨x0, x1, x2, x3⟩, hx⟩ : ∃ y, ts.getD k noTw = y := ⟨_, rfl⟩
      rw [hx] at t u
      have q0 : wr.cell? ⟨g, k * 4, none⟩ = some (.int .i64 x0) := t.c0
      have r0 : wr.cell? ⟨h, k * 4, none⟩ = some (.int .i64 x0) := u.c0
      have q1 : wr.cell? ⟨g, k * 4 + 1, none⟩ = some (.int .i64 x1) := t.c1
      have r1 : wr.cell? ⟨h, k * 4 + 1, none⟩ = some (.int .i64 x1) := u.c1
      have q2 : wr.cell? ⟨g, k * 4 + 2, none⟩ = some (.int .i64 x2) := t.c2
      have r2 : wr.cell? ⟨h, k * 4 + 2, none⟩ = some (.int .i64 x2) := u.c2
      have q3 : wr.cell? ⟨g, k * 4 + 3, none⟩ = some (.int .i64 x3) := t.c3
      have r3 : wr.cell? ⟨h, k * 4 + 3, none⟩ = some (.int .i64 x3) := u.c3
      clear t u hx
      have hsize := hbl.size
      go_wp2
      go_region_law (refine step_call rfl 41 #[.tmp 20, .tmp 24] #[63, 63] rfl #[.agg #[.int .i64 x0, .int .i64 x1, .int .i64 x2, .int .i64 x3], .agg #[.int .i64 x0, .int .i64 x1, .int .i64 x2, .int .i64 x3]] (by simp [Act.eval]) Try.func41 tw_eq_name tw_eq_body _ (tw_eq _ _ _ _ _) ?_; rintro e w3 ⟨rfl, b3⟩; refine ⟨_, rfl, ?_⟩)
      all_goals
        have b4 : Below w.heap.size w w3 := hbl.trans ((Below.refl _ wr).drew.trans (b3.mono hsize))
        go_wp2
        go_roundw
        case rel => exact ⟨k + 1, by omega, by go_num, b4⟩
        case measure => simp [intOf]; omega
    · go_wp2
      go_ret
      exact ⟨rfl, hbl⟩
end Go.Proofs.Ythmfkbnfdheopaa
