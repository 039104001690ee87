/-
  Type: two rows of them are held against each other: where they hold the same, that is what is answered. Conditions: written at each theorem.
-/
import Derived.Test.YtbhfpfoekalphaaDoorYk
import Derived.Test.YtbhfpfoekalphaaDoorSt
namespace Go.Proofs.YtbhfpfoekalphaaDoor
open Go.ChangeShapes Go.WideShapes Go.ChangeAt Go.RowKit
set_option linter.unusedVariables false

theorem typ_eq (x0 : Int) (x1 : Int) (x2 : Int) (w : World) :
    Calls Tryd.prog 34 #[.agg #[.int .i64 x0, .int .i64 x1, .int .i64 x2], .agg #[.int .i64 x0, .int .i64 x1, .int .i64 x2]] w fun e w' => e = .returned (.bool true) ∧ Below w.heap.size w w' := by
  go_enter Tryd.func34, Tryd.ntmps34
  go_wp2
  go_ret
  exact ⟨rfl, ((Below.refl _ w).alloc (Nat.le_refl _) _).alloc (by simp) _⟩

theorem typ_eq_name : (Tryd.f34.name == "runtime.NumGoroutine") = false := by kernel_rfl
theorem typ_eq_body : Tryd.f34.body.isNone = false := by kernel_rfl

set_option maxHeartbeats 2000000 in
set_option maxRecDepth 20000 in
theorem typ_eq_row (a b : Option Addr) (g h ca cb : Nat) (ts : List Typ) (hl : ts.length ≤ 1048576) (ha : 0 < ts.length → a = some ⟨g, 0, none⟩) (hb : 0 < ts.length → b = some ⟨h, 0, none⟩) (w : World) (hA : TypAt w g ts) (hB : TypAt w h ts) :
    Calls Tryd.prog 18 #[.slice a ts.length ca, .slice b ts.length cb] w fun e w' => e = .returned (.bool true) ∧ Below w.heap.size w w' := by
  have HA : Hid (TypAt w g ts) := hA
  have HB : Hid (TypAt w h ts) := hB
  clear hA hB
  go_enter Tryd.func18, Tryd.ntmps18
  go_wp2
  go_loopw [5] (fun i wr => ∃ k : Nat, k ≤ ts.length ∧ i = .int .i64 k ∧ Below w.heap.size w wr) (fun i _ => ts.length - (intOf i).toNat)
  case atStart => exact ⟨0, by omega, rfl, Below.refl _ _⟩
  case round =>
    obtain ⟨k, hk, rfl, hbl⟩ := hrel
    by_cases hin : k < ts.length
    · have e1 : (k : Int) < ts.length := by omega
      obtain rfl := ha (by omega)
      obtain rfl := hb (by omega)
      have t := (HA.out.below hbl (fun h => HA.out.lt h)) k hin
      have u := (HB.out.below hbl (fun h => HB.out.lt h)) k hin
      obtain ⟨⟨x0, x1, x2⟩, hx⟩ : ∃ y, ts.getD k noTyp = y := ⟨_, rfl⟩
      rw [hx] at t u
      have q0 : wr.cell? ⟨g, k * 3, none⟩ = some (.int .i64 x0) := t.c0
      have r0 : wr.cell? ⟨h, k * 3, none⟩ = some (.int .i64 x0) := u.c0
      have q1 : wr.cell? ⟨g, k * 3 + 1, none⟩ = some (.int .i64 x1) := t.c1
      have r1 : wr.cell? ⟨h, k * 3 + 1, none⟩ = some (.int .i64 x1) := u.c1
      have q2 : wr.cell? ⟨g, k * 3 + 2, none⟩ = some (.int .i64 x2) := t.c2
      have r2 : wr.cell? ⟨h, k * 3 + 2, none⟩ = some (.int .i64 x2) := u.c2
      clear t u hx
      have hsize := hbl.size
      go_wp2
      go_region_law (refine step_call rfl 34 #[.tmp 20, .tmp 24] #[35, 35] rfl #[.agg #[.int .i64 x0, .int .i64 x1, .int .i64 x2], .agg #[.int .i64 x0, .int .i64 x1, .int .i64 x2]] (by simp [Act.eval]) Tryd.func34 typ_eq_name typ_eq_body _ (typ_eq _ _ _ _) ?_; rintro e w3 ⟨rfl, b3⟩; refine ⟨_, rfl, ?_⟩)
      all_goals
        have b4 : Below w.heap.size w w3 := hbl.trans ((Below.refl _ wr).drew.trans (b3.mono hsize))
        go_wp2
        go_roundw
        case rel => exact ⟨k + 1, by omega, by go_num, b4⟩
        case measure => simp [intOf]; omega
    · go_wp2
      go_ret
      exact ⟨rfl, hbl⟩
end Go.Proofs.YtbhfpfoekalphaaDoor
