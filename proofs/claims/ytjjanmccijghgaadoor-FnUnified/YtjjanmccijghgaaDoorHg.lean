/-
  Types as they landed: which tables are right, the whole. Conditions: written at each theorem.
-/
import Derived.Test.YtjjanmccijghgaaDoorHf
import Derived.Test.YtjjanmccijghgaaDoorHd
namespace Go.Proofs.YtjjanmccijghgaaDoor
open Go.ChangeShapes Go.WideShapes Go.ChangeAt Go.RowKit
set_option linter.unusedVariables false

theorem nx_name : (Tryd.f28.name == "runtime.NumGoroutine") = false := by kernel_rfl
theorem nx_body : Tryd.f28.body.isNone = false := by kernel_rfl
theorem an_name : (Tryd.f49.name == "runtime.NumGoroutine") = false := by kernel_rfl
theorem an_body : Tryd.f49.body.isNone = false := by kernel_rfl

theorem EndsAt.set {w : World} {E G n : Nat} {l : List Bool} (h : EndsAt w E G n l) (hne : E ≠ G) (i : Nat) (b : Bool) : EndsAt (w.setCell ⟨G, i, none⟩ (.bool b)) E G n (l.set i b) := by
  refine ⟨?_, h.2.1.set i b, by simp [h.2.2]⟩
  exact (World.cell?_of_block (heap_setCell_other w ⟨G, i, none⟩ E _ hne)).trans h.1

set_option maxHeartbeats 4000000 in
set_option maxRecDepth 20000 in
theorem impl_allEnd (a : Option Addr) (g cap : Nat) (ts : List Typ) (hne : 0 < ts.length → a = some ⟨g, 0, none⟩) (hl : ts.length ≤ 40) (he : ∀ i, i < ts.length → EntOk ts.length (ts.getD i noTyp)) (w : World) (hA : TypAt w g ts) :
    Calls Tryd.prog 40 #[.slice a ts.length cap] w fun e w' => e = .returned (.bool ((roundsG ts ts.length).all id)) ∧ Below w.heap.size w w' := by
  have HA : Hid (TypAt w g ts) := hA
  have HE : Hid (∀ i, i < ts.length → EntOk ts.length (ts.getD i noTyp)) := he
  obtain ⟨i0, hi, hz0, hz1, hz2⟩ := info_parts info_bool
  have hmk := run_make (P := Tryd.prog) w 54 4 i0 _ Tryd.underlying54 hi hz0 .i64 .i64 (ts.length : Int) (ts.length : Int) (by omega) (by omega) (by rw [hz2]; omega) (by omega)
  rw [hz1] at hmk
  have ez : ((ts.length : Nat) : Int).toNat = ts.length := by omega
  rw [ez, made_bools] at hmk
  obtain ⟨wm, hwm⟩ : ∃ wm, w.alloc (.cells ((List.replicate ts.length false).map Value.bool).toArray 4) = wm := ⟨_, rfl⟩
  rw [hwm] at hmk
  have hB0 : BoolAt wm w.heap.size (roundsG ts 0) := by rw [← hwm]; exact (MapKept.heap_alloc w _).1
  have hbm : Below w.heap.size w wm := by rw [← hwm]; exact (Below.refl _ w).alloc (Nat.le_refl _) _
  have hsm : wm.heap.size = w.heap.size + 1 := by rw [← hwm]; simp
  obtain ⟨we, hwe⟩ : ∃ we, wm.alloc (.cells #[.slice (some ⟨w.heap.size, 0, none⟩) ts.length ts.length] 54) = we := ⟨_, rfl⟩
  have HWE : Hid (wm.alloc (.cells #[.slice (some ⟨w.heap.size, 0, none⟩) ts.length ts.length] 54) = we) := hwe
  have HB : Hid (EndsAt we wm.heap.size w.heap.size ts.length (roundsG ts 0)) := by
    refine ⟨?_, ?_, roundsG_length ts 0⟩
    · rw [← hwe, World.cell?_alloc_at _ _ _ _ (by simp)]; rfl
    · rw [← hwe]; exact hB0.below ((Below.refl _ wm).alloc (Nat.le_refl _) _) (by omega)
  have hbe : Below w.heap.size w we := by rw [← hwe]; exact hbm.alloc (by omega) _
  have HNE : Hid (wm.heap.size ≠ w.heap.size) := fun e => by omega
  clear hi hz0 hz1 hz2 ez hwm hB0 hA he hwe hsm
  go_enter Tryd.func40, Tryd.ntmps40
  go_wp2
  rw [HWE.out]
  clear HWE hmk hbm
  generalize wm.heap.size = E at *
  go_loopw [11] (fun rv wr => ∃ n : Nat, rv = .int .i64 n ∧ n ≤ ts.length ∧ Hid (EndsAt wr E w.heap.size ts.length (roundsG ts n)) ∧ Below w.heap.size w wr) (fun rv _ => ts.length - (intOf rv).toNat)
  case atStart => exact ⟨0, rfl, by omega, HB, hbe⟩
  case round =>
    obtain ⟨n, rfl, hn, HB, hb⟩ := hrel
    clear hbe
    by_cases hnn : n < ts.length
    · have hnn' : (n : Int) < ts.length := by omega
      go_wp2
      go_loopw [15] (fun iv wr => ∃ i : Nat, iv = .int .i64 i ∧ i ≤ ts.length ∧ Hid (EndsAt wr E w.heap.size ts.length (sweepG ts (roundsG ts n) i)) ∧ Below w.heap.size w wr) (fun iv _ => ts.length - (intOf iv).toNat)
      case atStart => exact ⟨0, rfl, by omega, HB, hb⟩
      case round =>
        obtain ⟨i, rfl, hi, HBi, hb⟩ := hrel
        have hbs := hb.size
        clear HB
        by_cases hin : i < ts.length
        · have hin' : (i : Int) < ts.length := by omega
          obtain rfl := hne (by omega)
          have t := (HA.out.below hb (fun h => HA.out.lt h)) i hin
          have HST : Hid (sweepG ts (roundsG ts n) (i + 1) = (sweepG ts (roundsG ts n) i).set i (allG (sweepG ts (roundsG ts n) i) (kidZ (ts.getD i noTyp)))) := rfl
          have hei := HE.out i hin
          have HKI : Hid (∀ q, q < (kidZ (ts.getD i noTyp)).length → 0 ≤ (kidZ (ts.getD i noTyp)).getD q 0 ∧ (kidZ (ts.getD i noTyp)).getD q 0 < ts.length) := fun q hq => hei.kids _ (kid_mem _ q hq)
          have hav := hei.av
          generalize sweepG ts (roundsG ts n) i = gs at *
          generalize ts.getD i noTyp = x at *
          obtain ⟨x0, x1, x2⟩ := x
          have HNX : Hid (∀ w : World, Calls Tryd.prog 28 #[.agg #[.int .i64 x0, .int .i64 x1, .int .i64 x2]] w (KidEnd w ⟨x0, x1, x2⟩)) := impl_next x0 x1 x2 hav
          have hkl := kidZ_length ⟨x0, x1, x2⟩
          have q0 : wr.cell? ⟨g, i * 3, none⟩ = some (.int .i64 x0) := t.c0
          have q1 : wr.cell? ⟨g, i * 3 + 1, none⟩ = some (.int .i64 x1) := t.c1
          have q2 : wr.cell? ⟨g, i * 3 + 2, none⟩ = some (.int .i64 x2) := t.c2
          clear t hei hav
          unfold KidEnd at HNX
          generalize kidZ ⟨x0, x1, x2⟩ = ks at *
          obtain ⟨wa, hwa⟩ : ∃ wa, wr.alloc (.cells #[.int .i64 x0, .int .i64 x1, .int .i64 x2] 35) = wa := ⟨_, rfl⟩
          have HWA : Hid (wr.alloc (.cells #[.int .i64 x0, .int .i64 x1, .int .i64 x2] 35) = wa) := hwa
          have HBa : Hid (EndsAt wa E w.heap.size ts.length gs) := by rw [← hwa]; exact HBi.out.below ((Below.refl _ wr).alloc (Nat.le_refl _) _)
          have hba : Below w.heap.size w wa := by rw [← hwa]; exact hb.alloc hbs _
          have hr : wa.heap[wr.heap.size]? = some (.cells #[.int .i64 x0, .int .i64 x1, .int .i64 x2] 35 (0, 0)) := by rw [← hwa]; exact (MapKept.heap_alloc wr _).1
          have p0 : wa.cell? ⟨wr.heap.size, 0, none⟩ = some (.int .i64 x0) := by rw [cell_of_row _ _ _ _ _ _ hr]; rfl
          have p1 : wa.cell? ⟨wr.heap.size, 1, none⟩ = some (.int .i64 x1) := by rw [cell_of_row _ _ _ _ _ _ hr]; rfl
          have p2 : wa.cell? ⟨wr.heap.size, 2, none⟩ = some (.int .i64 x2) := by rw [cell_of_row _ _ _ _ _ _ hr]; rfl
          have pe : wa.cell? ⟨E, 0, none⟩ = some (.slice (some ⟨w.heap.size, 0, none⟩) ts.length ts.length) := HBa.out.1
          have has := hba.size
          clear hr hwa HBi
          obtain ⟨bv, hbv⟩ : ∃ bv, (!allG gs ks) = bv := ⟨_, rfl⟩
          have HBV : Hid ((!allG gs ks) = bv) := hbv
          clear hbv
          go_wp2_with fail
          rw [HWA.out]
          clear q0 q1 q2 HWA hb
          go_region_law (first
            | (refine step_call rfl 28 #[.tmp 22] #[35] rfl #[.agg #[.int .i64 x0, .int .i64 x1, .int .i64 x2]] (by simp [Act.eval]) Tryd.func28 nx_name nx_body _ (HNX.out _) ?_; rintro e w3 ⟨ka, K, kc, rfl, hka, k3, b3, hkG⟩; have b3' : Below wa.heap.size wa w3 := (Below.refl _ wa).drew.trans b3; have HB3 : Hid (EndsAt w3 E w.heap.size ts.length gs) := HBa.out.below b3'; have K3 : Hid (IntAt w3 K ks) := k3; have B3 : Hid (Below w.heap.size w w3) := hba.trans (b3'.mono has); have p3 := HB3.out.1; clear b3 b3' k3 hkG; refine ⟨_, rfl, ?_⟩)
            | (refine step_call rfl 49 #[.tmp 23, .tmp 24] #[52, 97] rfl #[.slice ka ks.length kc, .func (.func 50) #[] #[.pointer (some ⟨E, 0, none⟩)]] (by simp [Act.eval]) Tryd.func49 an_name an_body _ (by have hq := lib_anyNot ka K kc ks E w.heap.size ts.length gs (by omega) hka HKI.out w3 K3.out HB3.out; rw [HBV.out] at hq; exact hq) ?_; rintro e w4 ⟨rfl, rfl⟩; have c4 := HB3.out.2.1.cell i (by rw [HB3.out.2.2]; exact hin); have f4 := HB3.out.2.1.frozen i; refine ⟨_, rfl, ?_⟩))
          all_goals
            have HS : Hid (EndsAt (w4.setCell ⟨w.heap.size, i, none⟩ (.bool (!bv))) E w.heap.size ts.length (sweepG ts (roundsG ts n) (i + 1))) := by
              show EndsAt _ _ _ _ _
              have e5 : allG gs ks = !bv := by rw [← HBV.out, Bool.not_not]
              rw [HST.out, e5]
              exact HB3.out.set HNE.out i _
            have B4 : Hid (Below w.heap.size w (w4.setCell ⟨w.heap.size, i, none⟩ (.bool (!bv)))) := B3.out.setCell (p := ⟨w.heap.size, i, none⟩) (Nat.le_refl _) _
            go_wp2
            go_roundw
            case rel => exact ⟨i + 1, by go_num, by omega, HS, B4.out⟩
            case measure => simp [intOf]; omega
        · obtain rfl : i = ts.length := by omega
          go_wp2
          go_roundw
          case rel => exact ⟨n + 1, by go_num, by omega, HBi, hb⟩
          case measure => simp [intOf]; omega
    · obtain rfl : n = ts.length := by omega
      have HC : Hid (Calls _ _ _ _ _) := lib_hasFalse w.heap.size ts.length _ HB.out.2.2 (by omega) wr HB.out.2.1
      have pe : wr.cell? ⟨E, 0, none⟩ = some (.slice (some ⟨w.heap.size, 0, none⟩) ts.length ts.length) := HB.out.1
      generalize hv : (roundsG ts ts.length).all id = v at HC
      have HV : Hid ((roundsG ts ts.length).all id = v) := hv
      clear hv
      go_wp2_with fail
      refine HC.out.mono ?_
      rintro e w4 ⟨rfl, rfl⟩
      go_wp2
      go_ret
      exact ⟨by simpa using HV.out.symm, hb⟩

set_option maxHeartbeats 2000000 in
set_option maxRecDepth 20000 in
theorem impl_table (a : Option Addr) (g cap : Nat) (ts : List Typ) (hne : 0 < ts.length → a = some ⟨g, 0, none⟩) (hl : ts.length ≤ 1048576) (w : World) (hA : TypAt w g ts) :
    Calls Tryd.prog 27 #[.slice a ts.length cap] w fun e w' => e = .returned (.bool (tabB ts)) ∧ Below w.heap.size w w' := by
  have HA : Hid (TypAt w g ts) := hA
  clear hA
  by_cases h40 : ts.length ≤ 40
  · have h40' : (ts.length : Int) ≤ 40 := by omega
    go_enter Tryd.func27, Tryd.ntmps27
    go_wp2
    go_loopw [10] (fun iv wr => ∃ i : Nat, iv = .int .i64 i ∧ i ≤ ts.length ∧ Hid (∀ j, j < i → EntOk ts.length (ts.getD j noTyp)) ∧ Below w.heap.size w wr) (fun iv _ => ts.length - (intOf iv).toNat)
    case atStart => exact ⟨0, rfl, by omega, fun j hj => absurd hj (by omega), Below.refl _ _⟩
    case round =>
      obtain ⟨i, rfl, hi, HE, hb⟩ := hrel
      have hbs := hb.size
      by_cases hin : i < ts.length
      · have hin' : (i : Int) < ts.length := by omega
        obtain rfl := hne (by omega)
        have t := (HA.out.below hb (fun h => HA.out.lt h)) i hin
        have HN : Hid (¬ EntOk ts.length (ts.getD i noTyp) → tabB ts = false) := tab_no_ent hin
        have HX : Hid (entB ts.length (ts.getD i noTyp) = true ↔ EntOk ts.length (ts.getD i noTyp)) := entB_iff _ _
        have HE2 : Hid (EntOk ts.length (ts.getD i noTyp) → ∀ j, j < i + 1 → EntOk ts.length (ts.getD j noTyp)) := fun h j hj => by
          by_cases e : j = i
          · subst e; exact h
          · exact HE.out j (by omega)
        generalize ts.getD i noTyp = x at t HN HX HE2
        obtain ⟨x0, x1, x2⟩ := x
        have q0 : wr.cell? ⟨g, i * 3, none⟩ = some (.int .i64 x0) := t.c0
        have q1 : wr.cell? ⟨g, i * 3 + 1, none⟩ = some (.int .i64 x1) := t.c1
        have q2 : wr.cell? ⟨g, i * 3 + 2, none⟩ = some (.int .i64 x2) := t.c2
        clear t
        obtain ⟨bv, hbv⟩ : ∃ bv, entB ts.length ⟨x0, x1, x2⟩ = bv := ⟨_, rfl⟩
        have HC : Hid (∀ w : World, Calls Tryd.prog 39 #[.agg #[.int .i64 x0, .int .i64 x1, .int .i64 x2], .int .i64 ts.length] w fun e w' => e = .returned (.bool bv) ∧ Below w.heap.size w w') := fun w => by rw [← hbv]; exact impl_entry x0 x1 x2 ts.length w
        have HBV : Hid (bv = true ↔ EntOk ts.length ⟨x0, x1, x2⟩) := by show _ ↔ _; rw [← hbv]; exact HX.out
        clear hbv HX
        go_wp2_with fail
        refine (HC.out _).mono ?_
        rintro e w3 ⟨rfl, b3⟩
        have B3 : Below w.heap.size w w3 := (hb.alloc hbs _).trans (b3.mono (by simp; omega))
        clear b3 q0 q1 q2 hb
        cases bv
        · have HV : Hid (tabB ts = false) := HN.out (fun h => by have := HBV.out.2 h; simp at this)
          go_wp2
          go_ret
          exact ⟨by rw [HV.out] <;> rfl, B3⟩
        · have HE3 : Hid (_) := HE2.out (HBV.out.1 rfl)
          go_wp2
          go_roundw
          case rel => exact ⟨i + 1, by go_num, by omega, HE3, B3⟩
          case measure => simp [intOf]; omega
      · obtain rfl : i = ts.length := by omega
        have HT : Hid (tabB ts = (roundsG ts ts.length).all id) := tab_of_rounds h40 HE.out
        go_wp2_with fail
        refine (impl_allEnd a g cap ts hne h40 HE.out wr (HA.out.below hb (fun h => HA.out.lt h))).mono ?_
        rintro e w3 ⟨rfl, b3⟩
        have B3 : Below w.heap.size w w3 := hb.trans (b3.mono hbs)
        go_wp2
        go_ret
        exact ⟨by rw [HT.out] <;> rfl, B3⟩
  · have HV : Hid (tabB ts = false) := tab_no_len h40
    have h40' : (40 : Int) < ts.length := by omega
    go_enter Tryd.func27, Tryd.ntmps27
    go_wp2
    go_ret
    exact ⟨by rw [HV.out] <;> rfl, Below.refl _ _⟩
end Go.Proofs.YtjjanmccijghgaaDoor
