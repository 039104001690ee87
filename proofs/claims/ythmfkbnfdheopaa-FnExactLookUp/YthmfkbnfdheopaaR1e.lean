/-
  Val: two rows of them are held against each other: where they hold the same, that is what is answered. Conditions: written at each theorem.
-/
import Derived.Test.YthmfkbnfdheopaaR1k
import Derived.Test.YthmfkbnfdheopaaSt
namespace Go.Proofs.Ythmfkbnfdheopaa
open Go.ChangeShapes Go.WideShapes Go.ChangeAt Go.RowKit
set_option linter.unusedVariables false

theorem vl_eq (x0 : Int) (x1 : Int) (w : World) :
    Calls Try.prog 17 #[.agg #[.int .i64 x0, .int .i64 x1], .agg #[.int .i64 x0, .int .i64 x1]] w fun e w' => e = .returned (.bool true) ∧ Below w.heap.size w w' := by
  go_enter Try.func17, Try.ntmps17
  go_wp2
  go_ret
  exact ⟨rfl, ((Below.refl _ w).alloc (Nat.le_refl _) _).alloc (by simp) _⟩

theorem vl_eq_name : (Try.f17.name == "runtime.NumGoroutine") = false := by kernel_rfl
theorem vl_eq_body : Try.f17.body.isNone = false := by kernel_rfl

set_option maxHeartbeats 2000000 in
set_option maxRecDepth 20000 in
theorem vl_eq_row (a b : Option Addr) (g h ca cb : Nat) (ts : List Vl) (hl : ts.length ≤ 1048576) (ha : 0 < ts.length → a = some ⟨g, 0, none⟩) (hb : 0 < ts.length → b = some ⟨h, 0, none⟩) (w : World) (hA : VlAt w g ts) (hB : VlAt w h ts) :
    Calls Try.prog 32 #[.slice a ts.length ca, .slice b ts.length cb] w fun e w' => e = .returned (.bool true) ∧ Below w.heap.size w w' := by
  have HA : Hid (VlAt w g ts) := hA
  have HB : Hid (VlAt w h ts) := hB
  clear hA hB
  go_enter Try.func32, Try.ntmps32
  go_wp2
  go_loopw [5] (fun i wr => ∃ k : Nat, k ≤ ts.length ∧ i = .int .i64 k ∧ Below w.heap.size w wr) (fun i _ => ts.length - (intOf i).toNat)
  case atStart => exact ⟨0, by omega, rfl, Below.refl _ _⟩
  case round =>
    obtain ⟨k, hk, rfl, hbl⟩ := hrel
    by_cases hin : k < ts.length
    · have e1 : (k : Int) < ts.length := by omega
      obtain rfl := ha (by omega)
      obtain rfl := hb (by omega)
      have t := (HA.out.below hbl (fun h => HA.out.lt h)) k hin
      have u := (HB.out.below hbl (fun h => HB.out.lt h)) k hin
      obtain ⟨⟨x0, x1⟩, hx⟩ : ∃ y, ts.getD k noVl = y := ⟨_, rfl⟩
      rw [hx] at t u
      have q0 : wr.cell? ⟨g, k * 2, none⟩ = some (.int .i64 x0) := t.c0
      have r0 : wr.cell? ⟨h, k * 2, none⟩ = some (.int .i64 x0) := u.c0
      have q1 : wr.cell? ⟨g, k * 2 + 1, none⟩ = some (.int .i64 x1) := t.c1
      have r1 : wr.cell? ⟨h, k * 2 + 1, none⟩ = some (.int .i64 x1) := u.c1
      clear t u hx
      have hsize := hbl.size
      go_wp2
      go_region_law (refine step_call rfl 17 #[.tmp 20, .tmp 24] #[42, 42] rfl #[.agg #[.int .i64 x0, .int .i64 x1], .agg #[.int .i64 x0, .int .i64 x1]] (by simp [Act.eval]) Try.func17 vl_eq_name vl_eq_body _ (vl_eq _ _ _) ?_; rintro e w3 ⟨rfl, b3⟩; refine ⟨_, rfl, ?_⟩)
      all_goals
        have b4 : Below w.heap.size w w3 := hbl.trans ((Below.refl _ wr).drew.trans (b3.mono hsize))
        go_wp2
        go_roundw
        case rel => exact ⟨k + 1, by omega, by go_num, b4⟩
        case measure => simp [intOf]; omega
    · go_wp2
      go_ret
      exact ⟨rfl, hbl⟩
end Go.Proofs.Ythmfkbnfdheopaa
