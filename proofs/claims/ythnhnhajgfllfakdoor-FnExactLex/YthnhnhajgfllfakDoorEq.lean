/-
  Two rows of tokens are held against each other: where they hold the same, that is what is answered. Conditions: written at each theorem.
-/
import Derived.Test.YthnhnhajgfllfakDoorTk
import Derived.Test.YthnhnhajgfllfakDoorSt
import Derived.ProofKit
import Derived.ShutString
import Derived.WalkSpells
namespace Go.Proofs.YthnhnhajgfllfakDoor
open Go.ChangeShapes Go.WideShapes Go.ChangeAt Go.RowKit
set_option linter.unusedVariables false

theorem eq_one (k x y : Int) (s : ByteArray) (w : World) :
    Calls Tryd.prog 15 #[.agg #[.int .i64 k, .string s, .int .i64 x, .int .i64 y], .agg #[.int .i64 k, .string s, .int .i64 x, .int .i64 y]] w fun e w' =>
      e = .returned (.bool true) ∧ Below w.heap.size w w' := by
  go_enter Tryd.func15, Tryd.ntmps15
  go_wp2
  go_ret
  exact ⟨rfl, ((Below.refl _ w).alloc (Nat.le_refl _) _).alloc (by simp) _⟩

theorem eq_name : (Tryd.f15.name == "runtime.NumGoroutine") = false := by kernel_rfl
theorem eq_body : Tryd.f15.body.isNone = false := by kernel_rfl

set_option maxHeartbeats 1000000 in
set_option maxRecDepth 20000 in
theorem eq_row (a b : Option Addr) (g h ca cb : Nat) (ts : List Tok) (hl : ts.length ≤ 1048576) (ha : 0 < ts.length → a = some ⟨g, 0, none⟩) (hb : 0 < ts.length → b = some ⟨h, 0, none⟩) (w : World) (hA : TokAt w g ts) (hB : TokAt w h ts) :
    Calls Tryd.prog 6 #[.slice a ts.length ca, .slice b ts.length cb] w fun e w' => e = .returned (.bool true) ∧ Below w.heap.size w w' := by
  go_enter Tryd.func6, Tryd.ntmps6
  go_wp2
  go_loopw [5] (fun i wr => ∃ k : Nat, k ≤ ts.length ∧ i = .int .i64 k ∧ Below w.heap.size w wr) (fun i _ => ts.length - (intOf i).toNat)
  case atStart => exact ⟨0, by omega, rfl, Below.refl _ _⟩
  case round =>
    obtain ⟨k, hk, rfl, hbl⟩ := hrel
    by_cases hin : k < ts.length
    · have e1 : (k : Int) < ts.length := by omega
      obtain rfl := ha (by omega)
      obtain rfl := hb (by omega)
      have t := (hA.below hbl (cell_lt' (hA k hin).c0)) k hin
      have u := (hB.below hbl (cell_lt' (hB k hin).c0)) k hin
      have q0 := t.c0
      have q1 := t.c1
      have q2 := t.c2
      have q3 := t.c3
      have r0 := u.c0
      have r1 := u.c1
      have r2 := u.c2
      have r3 := u.c3
      obtain ⟨⟨x0, x1, x2, x3⟩, hx⟩ : ∃ x, ts.getD k noTok = x := ⟨_, rfl⟩
      rw [hx] at q0 q1 q2 q3 r0 r1 r2 r3
      clear t u hx
      have hsize := hbl.size
      go_wp2
      go_region_law (refine step_call rfl 15 #[.tmp 20, .tmp 24] #[29, 29] rfl #[.agg #[.int .i64 x0, .string x1, .int .i64 x2, .int .i64 x3], .agg #[.int .i64 x0, .string x1, .int .i64 x2, .int .i64 x3]] (by simp [Act.eval]) Tryd.func15 eq_name eq_body _ (eq_one _ _ _ _ _) ?_; rintro e w3 ⟨rfl, b3⟩; refine ⟨_, rfl, ?_⟩)
      all_goals
        have b4 : Below w.heap.size w w3 := hbl.trans ((Below.refl _ wr).drew.trans (b3.mono hsize))
        go_wp2
        go_roundw
        case rel => exact ⟨k + 1, by omega, by go_num, b4⟩
        case measure => simp [intOf]; omega
    · go_wp2
      go_ret
      exact ⟨rfl, hbl⟩
end Go.Proofs.YthnhnhajgfllfakDoor
