/-
  Types as they landed: which tables are right. Conditions: written at each theorem.
-/
import Derived.Test.YtjjanmccijghgaaDoorHc
namespace Go.Proofs.YtjjanmccijghgaaDoor
open Go.ChangeShapes Go.WideShapes Go.ChangeAt Go.RowKit
set_option linter.unusedVariables false

theorem impl_isEntry (x n : Int) (ib : Nat) (w : World) (hc : w.cell? ⟨ib, 0, none⟩ = some (.int .i64 n)) :
    Calls Tryd.prog 48 #[.int .i64 x, .pointer (some ⟨ib, 0, none⟩)] w fun e w' => e = .returned (.bool (decide (0 ≤ x) && decide (x < n))) ∧ w' = w := by
  have hib : ib < w.heap.size := typ_lt hc
  by_cases h : 0 ≤ x
  · go_enter Tryd.func48, Tryd.ntmps48
    go_wp2
    go_ret
    exact ⟨by rw [decide_eq_true h] <;> rfl, rfl⟩
  · go_enter Tryd.func48, Tryd.ntmps48
    go_wp2
    go_ret
    exact ⟨by rw [decide_eq_false (show ¬ 0 ≤ x by omega)] <;> rfl, rfl⟩

theorem ent0a (n : Nat) (x2 : Int) : entB n ⟨0, -1, x2⟩ = decide (x2 = 0) := by
  rw [Bool.eq_iff_iff]
  simp [entB, ownB, kidZ]

theorem ent0 (n : Nat) (x1 x2 : Int) (h : x1 ≠ -1) : entB n ⟨0, x1, x2⟩ = ((decide (0 ≤ x1) && decide (x1 < n)) && decide (x2 = 0)) := by
  rw [Bool.eq_iff_iff]
  by_cases h0 : 0 ≤ x1
  · simp [entB, ownB, kidZ, h0]
    omega
  · simp [entB, ownB, kidZ, h0]
    omega

theorem ent1 (n : Nat) (x1 x2 : Int) : entB n ⟨1, x1, x2⟩ = (decide (x1 = 0) && decide (x2 = 0)) := by
  rw [Bool.eq_iff_iff]
  simp [entB, ownB, kidZ]

theorem ent23 (n : Nat) (k x1 x2 : Int) (h : k = 2 ∨ k = 3) : entB n ⟨k, x1, x2⟩ = ((decide (0 ≤ x1) && decide (x1 < n)) && (decide (0 ≤ x2) && decide (x2 < n))) := by
  rw [Bool.eq_iff_iff]
  rcases h with rfl | rfl <;> simp [entB, ownB, kidZ]

theorem ent45 (n : Nat) (k x1 x2 : Int) (h : k = 4 ∨ k = 5) : entB n ⟨k, x1, x2⟩ = ((decide (0 ≤ x1) && decide (x1 < n)) && decide (x2 = 0)) := by
  rw [Bool.eq_iff_iff]
  rcases h with rfl | rfl
  · simp [entB, ownB, kidZ]
    omega
  · simp [entB, ownB, kidZ]
    omega

theorem ent_no (n : Nat) (k x1 x2 : Int) (h : ¬ (0 ≤ k ∧ k ≤ 5)) : entB n ⟨k, x1, x2⟩ = false := by
  apply Bool.eq_false_iff.2
  intro q
  have := (entB_iff _ _).1 q
  exact h ⟨this.k0, this.k5⟩

set_option maxHeartbeats 2000000 in
set_option maxRecDepth 20000 in
theorem impl_entry (k x y : Int) (n : Nat) (w : World) : Calls Tryd.prog 39 #[.agg #[.int .i64 k, .int .i64 x, .int .i64 y], .int .i64 n] w fun e w' => e = .returned (.bool (entB n ⟨k, x, y⟩)) ∧ Below w.heap.size w w' := by
  have HI : Hid (∀ (x n : Int) (ib : Nat) (w : World) (hc : w.cell? ⟨ib, 0, none⟩ = some (.int .i64 n)), Calls Tryd.prog 48 #[.int .i64 x, .pointer (some ⟨ib, 0, none⟩)] w fun e w' => e = .returned (.bool (decide (0 ≤ x) && decide (x < n))) ∧ w' = w) := impl_isEntry
  by_cases hk : 0 ≤ k ∧ k ≤ 5
  · rcases (by omega : k = 0 ∨ k = 1 ∨ k = 2 ∨ k = 3 ∨ k = 4 ∨ k = 5) with rfl | rfl | rfl | rfl | rfl | rfl
    · by_cases h : x = -1
      · subst h
        go_enter Tryd.func39, Tryd.ntmps39
        go_wp2
        go_ret
        exact ⟨by rw [ent0a] <;> rfl, ((Below.refl _ w).alloc (Nat.le_refl _) _).alloc (by simp) _⟩
      · have HE : Hid (entB n ⟨0, x, y⟩ = _) := ent0 n x y h
        cases hbx : (decide (0 ≤ x) && decide (x < (n : Int)))
        · have HV : Hid (entB n ⟨0, x, y⟩ = false) := by show _ = _; rw [HE.out, hbx]; rfl
          have HB : Hid ((decide (0 ≤ x) && decide (x < (n : Int))) = false) := hbx
          clear hbx HE
          go_enter Tryd.func39, Tryd.ntmps39
          go_wp2_with fail
          refine (HI.out x n (w.heap.size + 1) _ (by rw [World.cell?_alloc_at _ _ _ _ (by simp)]; rfl)).mono ?_
          rintro e w2 ⟨rfl, rfl⟩
          rw [HB.out]
          go_wp2
          go_ret
          exact ⟨by rw [HV.out] <;> rfl, ((Below.refl _ w).alloc (Nat.le_refl _) _).alloc (by simp) _⟩
        · have HV : Hid (entB n ⟨0, x, y⟩ = decide (y = 0)) := by show _ = _; rw [HE.out, hbx]; rfl
          have HB : Hid ((decide (0 ≤ x) && decide (x < (n : Int))) = true) := hbx
          clear hbx HE
          go_enter Tryd.func39, Tryd.ntmps39
          go_wp2_with fail
          refine (HI.out x n (w.heap.size + 1) _ (by rw [World.cell?_alloc_at _ _ _ _ (by simp)]; rfl)).mono ?_
          rintro e w2 ⟨rfl, rfl⟩
          rw [HB.out]
          go_wp2
          go_ret
          exact ⟨by rw [HV.out] <;> rfl, ((Below.refl _ w).alloc (Nat.le_refl _) _).alloc (by simp) _⟩
    · by_cases h : x = 0
      · subst h
        have HV : Hid (entB n ⟨1, 0, y⟩ = decide (y = 0)) := by show _ = _; rw [ent1]; rfl
        go_enter Tryd.func39, Tryd.ntmps39
        go_wp2
        go_ret
        exact ⟨by rw [HV.out] <;> rfl, ((Below.refl _ w).alloc (Nat.le_refl _) _).alloc (by simp) _⟩
      · have HV : Hid (entB n ⟨1, x, y⟩ = false) := by show _ = _; rw [ent1, decide_eq_false h]; rfl
        go_enter Tryd.func39, Tryd.ntmps39
        go_wp2
        go_ret
        exact ⟨by rw [HV.out] <;> rfl, ((Below.refl _ w).alloc (Nat.le_refl _) _).alloc (by simp) _⟩
    · have HE : Hid (entB n ⟨2, x, y⟩ = _) := ent23 n 2 x y (by simp)
      cases hbx : (decide (0 ≤ x) && decide (x < (n : Int)))
      · have HV : Hid (entB n ⟨2, x, y⟩ = false) := by show _ = _; rw [HE.out, hbx]; rfl
        have HB : Hid ((decide (0 ≤ x) && decide (x < (n : Int))) = false) := hbx
        clear hbx HE
        go_enter Tryd.func39, Tryd.ntmps39
        go_wp2_with fail
        refine (HI.out x n (w.heap.size + 1) _ (by rw [World.cell?_alloc_at _ _ _ _ (by simp)]; rfl)).mono ?_
        rintro e w2 ⟨rfl, rfl⟩
        rw [HB.out]
        go_wp2
        go_ret
        exact ⟨by rw [HV.out] <;> rfl, ((Below.refl _ w).alloc (Nat.le_refl _) _).alloc (by simp) _⟩
      · have HV : Hid (entB n ⟨2, x, y⟩ = (decide (0 ≤ y) && decide (y < (n : Int)))) := by show _ = _; rw [HE.out, hbx]; rfl
        have HB : Hid ((decide (0 ≤ x) && decide (x < (n : Int))) = true) := hbx
        clear hbx HE
        go_enter Tryd.func39, Tryd.ntmps39
        go_wp2_with fail
        refine (HI.out x n (w.heap.size + 1) _ (by rw [World.cell?_alloc_at _ _ _ _ (by simp)]; rfl)).mono ?_
        rintro e w2 ⟨rfl, rfl⟩
        rw [HB.out]
        go_wp2_with fail
        refine (HI.out y n (w.heap.size + 1) _ (by rw [World.cell?_alloc_at _ _ _ _ (by simp)]; rfl)).mono ?_
        rintro e w2 ⟨rfl, rfl⟩
        rw [← HV.out]
        go_wp2
        go_ret
        exact ⟨rfl, ((Below.refl _ w).alloc (Nat.le_refl _) _).alloc (by simp) _⟩
    · have HE : Hid (entB n ⟨3, x, y⟩ = _) := ent23 n 3 x y (by simp)
      cases hbx : (decide (0 ≤ x) && decide (x < (n : Int)))
      · have HV : Hid (entB n ⟨3, x, y⟩ = false) := by show _ = _; rw [HE.out, hbx]; rfl
        have HB : Hid ((decide (0 ≤ x) && decide (x < (n : Int))) = false) := hbx
        clear hbx HE
        go_enter Tryd.func39, Tryd.ntmps39
        go_wp2_with fail
        refine (HI.out x n (w.heap.size + 1) _ (by rw [World.cell?_alloc_at _ _ _ _ (by simp)]; rfl)).mono ?_
        rintro e w2 ⟨rfl, rfl⟩
        rw [HB.out]
        go_wp2
        go_ret
        exact ⟨by rw [HV.out] <;> rfl, ((Below.refl _ w).alloc (Nat.le_refl _) _).alloc (by simp) _⟩
      · have HV : Hid (entB n ⟨3, x, y⟩ = (decide (0 ≤ y) && decide (y < (n : Int)))) := by show _ = _; rw [HE.out, hbx]; rfl
        have HB : Hid ((decide (0 ≤ x) && decide (x < (n : Int))) = true) := hbx
        clear hbx HE
        go_enter Tryd.func39, Tryd.ntmps39
        go_wp2_with fail
        refine (HI.out x n (w.heap.size + 1) _ (by rw [World.cell?_alloc_at _ _ _ _ (by simp)]; rfl)).mono ?_
        rintro e w2 ⟨rfl, rfl⟩
        rw [HB.out]
        go_wp2_with fail
        refine (HI.out y n (w.heap.size + 1) _ (by rw [World.cell?_alloc_at _ _ _ _ (by simp)]; rfl)).mono ?_
        rintro e w2 ⟨rfl, rfl⟩
        rw [← HV.out]
        go_wp2
        go_ret
        exact ⟨rfl, ((Below.refl _ w).alloc (Nat.le_refl _) _).alloc (by simp) _⟩
    · have HE : Hid (entB n ⟨4, x, y⟩ = _) := ent45 n 4 x y (by simp)
      cases hbx : (decide (0 ≤ x) && decide (x < (n : Int)))
      · have HV : Hid (entB n ⟨4, x, y⟩ = false) := by show _ = _; rw [HE.out, hbx]; rfl
        have HB : Hid ((decide (0 ≤ x) && decide (x < (n : Int))) = false) := hbx
        clear hbx HE
        go_enter Tryd.func39, Tryd.ntmps39
        go_wp2_with fail
        refine (HI.out x n (w.heap.size + 1) _ (by rw [World.cell?_alloc_at _ _ _ _ (by simp)]; rfl)).mono ?_
        rintro e w2 ⟨rfl, rfl⟩
        rw [HB.out]
        go_wp2
        go_ret
        exact ⟨by rw [HV.out] <;> rfl, ((Below.refl _ w).alloc (Nat.le_refl _) _).alloc (by simp) _⟩
      · have HV : Hid (entB n ⟨4, x, y⟩ = decide (y = 0)) := by show _ = _; rw [HE.out, hbx]; rfl
        have HB : Hid ((decide (0 ≤ x) && decide (x < (n : Int))) = true) := hbx
        clear hbx HE
        go_enter Tryd.func39, Tryd.ntmps39
        go_wp2_with fail
        refine (HI.out x n (w.heap.size + 1) _ (by rw [World.cell?_alloc_at _ _ _ _ (by simp)]; rfl)).mono ?_
        rintro e w2 ⟨rfl, rfl⟩
        rw [HB.out]
        go_wp2
        go_ret
        exact ⟨by rw [HV.out] <;> rfl, ((Below.refl _ w).alloc (Nat.le_refl _) _).alloc (by simp) _⟩
    · have HE : Hid (entB n ⟨5, x, y⟩ = _) := ent45 n 5 x y (by simp)
      cases hbx : (decide (0 ≤ x) && decide (x < (n : Int)))
      · have HV : Hid (entB n ⟨5, x, y⟩ = false) := by show _ = _; rw [HE.out, hbx]; rfl
        have HB : Hid ((decide (0 ≤ x) && decide (x < (n : Int))) = false) := hbx
        clear hbx HE
        go_enter Tryd.func39, Tryd.ntmps39
        go_wp2_with fail
        refine (HI.out x n (w.heap.size + 1) _ (by rw [World.cell?_alloc_at _ _ _ _ (by simp)]; rfl)).mono ?_
        rintro e w2 ⟨rfl, rfl⟩
        rw [HB.out]
        go_wp2
        go_ret
        exact ⟨by rw [HV.out] <;> rfl, ((Below.refl _ w).alloc (Nat.le_refl _) _).alloc (by simp) _⟩
      · have HV : Hid (entB n ⟨5, x, y⟩ = decide (y = 0)) := by show _ = _; rw [HE.out, hbx]; rfl
        have HB : Hid ((decide (0 ≤ x) && decide (x < (n : Int))) = true) := hbx
        clear hbx HE
        go_enter Tryd.func39, Tryd.ntmps39
        go_wp2_with fail
        refine (HI.out x n (w.heap.size + 1) _ (by rw [World.cell?_alloc_at _ _ _ _ (by simp)]; rfl)).mono ?_
        rintro e w2 ⟨rfl, rfl⟩
        rw [HB.out]
        go_wp2
        go_ret
        exact ⟨by rw [HV.out] <;> rfl, ((Below.refl _ w).alloc (Nat.le_refl _) _).alloc (by simp) _⟩
  · have HV : Hid (entB n ⟨k, x, y⟩ = false) := ent_no n k x y hk
    have h0 : k ≠ 0 := by omega
    have h1 : k ≠ 1 := by omega
    have h2 : k ≠ 2 := by omega
    have h3 : k ≠ 3 := by omega
    have h4 : k ≠ 4 := by omega
    have h5 : k ≠ 5 := by omega
    go_enter Tryd.func39, Tryd.ntmps39
    go_wp2
    go_ret
    exact ⟨by rw [HV.out] <;> rfl, ((Below.refl _ w).alloc (Nat.le_refl _) _).alloc (by simp) _⟩

set_option maxHeartbeats 1000000 in
set_option maxRecDepth 20000 in
theorem impl_next (k x y : Int) (hk : k = 0 → -1 ≤ x) (w : World) : Calls Tryd.prog 28 #[.agg #[.int .i64 k, .int .i64 x, .int .i64 y]] w (KidEnd w ⟨k, x, y⟩) := by
  rcases (by omega : (k = 0 ∧ 0 ≤ x) ∨ (k = 0 ∧ x = -1) ∨ k = 2 ∨ k = 3 ∨ k = 4 ∨ k = 5 ∨ (k ≠ 0 ∧ k ≠ 2 ∧ k ≠ 3 ∧ k ≠ 4 ∧ k ≠ 5)) with ⟨rfl, h⟩ | ⟨rfl, h⟩ | rfl | rfl | rfl | rfl | ⟨h0, h2, h3, h4, h5⟩
  · have hx : x ≠ -1 := by omega
    go_enter Tryd.func28, Tryd.ntmps28
    go_wp2
    go_ret
    rw [KidEnd, show kidZ ⟨0, x, y⟩ = [x] by simp [kidZ, h]]
    exact ⟨_, _, _, rfl, fun _ => rfl, int_new1 (by simp) x _, ((Below.refl _ w).alloc (Nat.le_refl _) _).alloc (by simp) _, fun _ => by omega⟩
  · subst h
    go_enter Tryd.func28, Tryd.ntmps28
    go_wp2
    go_ret
    rw [KidEnd, show kidZ ⟨0, -1, y⟩ = [] by simp [kidZ]]
    exact ⟨_, w.heap.size + 1, _, rfl, fun h => absurd h (by simp), int_nil _ _, (Below.refl _ w).alloc (Nat.le_refl _) _, fun h => absurd h (by simp)⟩
  · go_enter Tryd.func28, Tryd.ntmps28
    go_wp2
    go_ret
    rw [KidEnd, show kidZ ⟨2, x, y⟩ = [x, y] by simp [kidZ]]
    exact ⟨_, _, _, rfl, fun _ => rfl, int_new2 (by simp) x y _, ((Below.refl _ w).alloc (Nat.le_refl _) _).alloc (by simp) _, fun _ => by omega⟩
  · go_enter Tryd.func28, Tryd.ntmps28
    go_wp2
    go_ret
    rw [KidEnd, show kidZ ⟨3, x, y⟩ = [x, y] by simp [kidZ]]
    exact ⟨_, _, _, rfl, fun _ => rfl, int_new2 (by simp) x y _, ((Below.refl _ w).alloc (Nat.le_refl _) _).alloc (by simp) _, fun _ => by omega⟩
  · go_enter Tryd.func28, Tryd.ntmps28
    go_wp2
    go_ret
    rw [KidEnd, show kidZ ⟨4, x, y⟩ = [x] by simp [kidZ]]
    exact ⟨_, _, _, rfl, fun _ => rfl, int_new1 (by simp) x _, ((Below.refl _ w).alloc (Nat.le_refl _) _).alloc (by simp) _, fun _ => by omega⟩
  · go_enter Tryd.func28, Tryd.ntmps28
    go_wp2
    go_ret
    rw [KidEnd, show kidZ ⟨5, x, y⟩ = [x] by simp [kidZ]]
    exact ⟨_, _, _, rfl, fun _ => rfl, int_new1 (by simp) x _, ((Below.refl _ w).alloc (Nat.le_refl _) _).alloc (by simp) _, fun _ => by omega⟩
  · go_enter Tryd.func28, Tryd.ntmps28
    go_wp2
    go_ret
    rw [KidEnd, show kidZ ⟨k, x, y⟩ = [] by simp [kidZ, h0, h2, h3, h4, h5]]
    exact ⟨_, w.heap.size + 1, _, rfl, fun h => absurd h (by simp), int_nil _ _, (Below.refl _ w).alloc (Nat.le_refl _) _, fun h => absurd h (by simp)⟩

end Go.Proofs.YtjjanmccijghgaaDoor
