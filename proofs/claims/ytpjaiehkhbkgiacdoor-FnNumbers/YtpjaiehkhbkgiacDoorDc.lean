/-
  The draws: a number out of a list, any number, a text. Conditions: written at each theorem.
-/
import Derived.Test.YtpjaiehkhbkgiacDoorDb
namespace Go.Proofs.YtpjaiehkhbkgiacDoor
open Go.ChangeShapes Go.WideShapes Go.ChangeAt Go.RowKit
set_option linter.unusedVariables false

section
variable {a : Option Addr} {len cap : Nat} {zs : List Int} {B : Nat}

theorem pick_at {w : World} {s : Nat × Int} (h : CurAt a len cap zs B w s) (ls : List Int) (Lb : Nat) (hn : 0 < ls.length) (hn2 : ls.length ≤ 100) (hL : Lb < w.heap.size) (hLB : Lb ≠ B)
    (hcell : ∀ j, j < ls.length → w.cell? ⟨Lb, j, none⟩ = some (.int .i64 (ls.getD j 0))) :
    Calls Tryd.prog 27 #[.pointer (some ⟨B, 0, none⟩), .slice (some ⟨Lb, 0, none⟩) ls.length ls.length] w fun e w' =>
      e = .returned (.int .i64 (ls.getD (belowV zs len ls.length s).1.toNat 0)) ∧ CurAt a len cap zs B w' (belowV zs len ls.length s).2 ∧ Only B w w' := by
  have H : Hid (CurAt a len cap zs B w s) := h
  have HL : Hid (∀ j, j < ls.length → w.cell? ⟨Lb, j, none⟩ = some (.int .i64 (ls.getD j 0))) := hcell
  have hr := belowV_range (zs := zs) (len := len) (ls.length : Int) s (by omega)
  clear h hcell
  go_enter Tryd.func27, Tryd.ntmps27
  go_wp2_with fail
  refine (below_at H.out (ls.length : Int) (by omega)).mono ?_
  rintro e w1 ⟨rfl, c1, b1⟩
  obtain ⟨k, hk⟩ := Int.eq_ofNat_of_zero_le hr.1
  have hkl : k < ls.length := by omega
  have C1 : Hid (CurAt a len cap zs B w1 (belowV zs len ls.length s).2) := c1
  have hc : w1.cell? ⟨Lb, k, none⟩ = some (.int .i64 (ls.getD k 0)) := (b1.cell (p := ⟨Lb, k, none⟩) hL hLB).trans (HL.out k hkl)
  clear c1 H HL hr
  rw [hk]
  have HK : Hid ((belowV zs len ls.length s).1 = (k : Int)) := hk
  clear hk
  go_wp2
  rw [HK.out]
  go_ret
  exact ⟨by simp [List.getElem?_eq_getElem hkl], C1.out, b1⟩

def picks : List Int := [-1, 0, 127, 128, 255, 256, 16383, 16384, 65535, 65536, 562949953421311, 562949953421312, 999999999, 1000000000, -999999999, 9223372036854775807, -9223372036854775808]

/-- Any number. -/
def numV (zs : List Int) (len : Nat) (s : Nat × Int) : Int × (Nat × Int) :=
  if (belowV zs len 8 s).1 = 0 then (picks.getD (belowV zs len 17 (belowV zs len 8 s).2).1.toNat 0, (belowV zs len 17 (belowV zs len 8 s).2).2)
  else if (belowV zs len 8 s).1 = 1 then (wrap64 ((belowV zs len 1000000000 (belowV zs len 8 s).2).1 * (belowV zs len 1000000000 (belowV zs len 1000000000 (belowV zs len 8 s).2).2).1), (belowV zs len 1000000000 (belowV zs len 1000000000 (belowV zs len 8 s).2).2).2)
  else if (belowV zs len 8 s).1 = 2 then (-(belowV zs len 100000 (belowV zs len 8 s).2).1, (belowV zs len 100000 (belowV zs len 8 s).2).2)
  else belowV zs len 70000 (belowV zs len 8 s).2

theorem curAt_alloc {w : World} {s : Nat × Int} (h : CurAt a len cap zs B w s) (o : Obj) : CurAt a len cap zs B (w.alloc o) s :=
  curAt_below h ((Below.refl _ _).alloc (Nat.le_refl _) o) h.size

theorem only_alloc {B : Nat} (w : World) (o : Obj) : Only B w (w.alloc o) := Only.of_below ((Below.refl _ _).alloc (Nat.le_refl _) o)

theorem num0_at {w : World} {s : Nat × Int} (h : CurAt a len cap zs B w s) (h0 : (belowV zs len 8 s).1 = 0) :
    Calls Tryd.prog 17 #[.pointer (some ⟨B, 0, none⟩)] w fun e w' => e = .returned (.int .i64 (picks.getD (belowV zs len 17 (belowV zs len 8 s).2).1.toNat 0)) ∧ CurAt a len cap zs B w' (belowV zs len 17 (belowV zs len 8 s).2).2 ∧ Only B w w' := by
  have H : Hid (CurAt a len cap zs B w s) := h
  clear h
  go_enter Tryd.func17, Tryd.ntmps17
  go_wp2_with fail
  refine (below_at H.out 8 (by omega)).mono ?_
  rintro e w1 ⟨rfl, c1, b1⟩
  have C1 : Hid (CurAt a len cap zs B w1 (belowV zs len 8 s).2) := c1
  clear c1 H
  go_wp2_with fail
  refine (pick_at (curAt_alloc C1.out _) picks w1.heap.size (by decide) (by decide) (by simp) (Nat.ne_of_gt C1.out.size) ?_).mono ?_
  · intro j hj
    rw [World.cell?_alloc_at _ _ _ _ rfl]
    have hj17 : j < 17 := hj
    match j, hj17 with
    | 0, _ => rfl
    | 1, _ => rfl
    | 2, _ => rfl
    | 3, _ => rfl
    | 4, _ => rfl
    | 5, _ => rfl
    | 6, _ => rfl
    | 7, _ => rfl
    | 8, _ => rfl
    | 9, _ => rfl
    | 10, _ => rfl
    | 11, _ => rfl
    | 12, _ => rfl
    | 13, _ => rfl
    | 14, _ => rfl
    | 15, _ => rfl
    | 16, _ => rfl
    | n + 17, h => exact absurd h (by omega)
  rintro e w2 ⟨rfl, c2, b2⟩
  have C2 : Hid (CurAt a len cap zs B w2 (belowV zs len 17 (belowV zs len 8 s).2).2) := c2
  have B2 : Hid (Only B w w2) := b1.trans ((only_alloc _ _).trans b2)
  clear c2 b1 b2 C1
  go_wp2
  go_ret
  exact ⟨rfl, C2.out, B2.out⟩

theorem num1_at {w : World} {s : Nat × Int} (h : CurAt a len cap zs B w s) (h0 : (belowV zs len 8 s).1 = 1) :
    Calls Tryd.prog 17 #[.pointer (some ⟨B, 0, none⟩)] w fun e w' => e = .returned (.int .i64 (wrap64 ((belowV zs len 1000000000 (belowV zs len 8 s).2).1 * (belowV zs len 1000000000 (belowV zs len 1000000000 (belowV zs len 8 s).2).2).1))) ∧
      CurAt a len cap zs B w' (belowV zs len 1000000000 (belowV zs len 1000000000 (belowV zs len 8 s).2).2).2 ∧ Only B w w' := by
  have H : Hid (CurAt a len cap zs B w s) := h
  clear h
  go_enter Tryd.func17, Tryd.ntmps17
  go_wp2_with fail
  refine (below_at H.out 8 (by omega)).mono ?_
  rintro e w1 ⟨rfl, c1, b1⟩
  have C1 : Hid (CurAt a len cap zs B w1 (belowV zs len 8 s).2) := c1
  clear c1 H
  go_wp2_with fail
  refine (below_at C1.out 1000000000 (by omega)).mono ?_
  rintro e w2 ⟨rfl, c2, b2⟩
  have C2 : Hid (CurAt a len cap zs B w2 (belowV zs len 1000000000 (belowV zs len 8 s).2).2) := c2
  clear c2 C1
  go_wp2_with fail
  refine (below_at C2.out 1000000000 (by omega)).mono ?_
  rintro e w3 ⟨rfl, c3, b3⟩
  have C3 : Hid (CurAt a len cap zs B w3 (belowV zs len 1000000000 (belowV zs len 1000000000 (belowV zs len 8 s).2).2).2) := c3
  have B3 : Hid (Only B w w3) := (b1.trans b2).trans b3
  clear c3 C2 b1 b2 b3
  go_wp2
  go_ret
  exact ⟨rfl, C3.out, B3.out⟩

theorem num2_at {w : World} {s : Nat × Int} (h : CurAt a len cap zs B w s) (h0 : (belowV zs len 8 s).1 = 2) :
    Calls Tryd.prog 17 #[.pointer (some ⟨B, 0, none⟩)] w fun e w' => e = .returned (.int .i64 (-(belowV zs len 100000 (belowV zs len 8 s).2).1)) ∧
      CurAt a len cap zs B w' (belowV zs len 100000 (belowV zs len 8 s).2).2 ∧ Only B w w' := by
  have H : Hid (CurAt a len cap zs B w s) := h
  clear h
  have hr := belowV_range (zs := zs) (len := len) 100000 (belowV zs len 8 s).2 (by omega)
  go_enter Tryd.func17, Tryd.ntmps17
  go_wp2_with fail
  refine (below_at H.out 8 (by omega)).mono ?_
  rintro e w1 ⟨rfl, c1, b1⟩
  have C1 : Hid (CurAt a len cap zs B w1 (belowV zs len 8 s).2) := c1
  clear c1 H
  go_wp2_with fail
  refine (below_at C1.out 100000 (by omega)).mono ?_
  rintro e w2 ⟨rfl, c2, b2⟩
  have C2 : Hid (CurAt a len cap zs B w2 (belowV zs len 100000 (belowV zs len 8 s).2).2) := c2
  have B2 : Hid (Only B w w2) := b1.trans b2
  clear c2 C1 b1 b2
  go_wp2
  go_ret
  exact ⟨rfl, C2.out, B2.out⟩

theorem num3_at {w : World} {s : Nat × Int} (h : CurAt a len cap zs B w s) (h0 : ¬ (belowV zs len 8 s).1 = 0) (h1 : ¬ (belowV zs len 8 s).1 = 1) (h2 : ¬ (belowV zs len 8 s).1 = 2) :
    Calls Tryd.prog 17 #[.pointer (some ⟨B, 0, none⟩)] w fun e w' => e = .returned (.int .i64 (belowV zs len 70000 (belowV zs len 8 s).2).1) ∧
      CurAt a len cap zs B w' (belowV zs len 70000 (belowV zs len 8 s).2).2 ∧ Only B w w' := by
  have H : Hid (CurAt a len cap zs B w s) := h
  clear h
  go_enter Tryd.func17, Tryd.ntmps17
  go_wp2_with fail
  refine (below_at H.out 8 (by omega)).mono ?_
  rintro e w1 ⟨rfl, c1, b1⟩
  have C1 : Hid (CurAt a len cap zs B w1 (belowV zs len 8 s).2) := c1
  clear c1 H
  go_wp2_with fail
  refine (below_at C1.out 70000 (by omega)).mono ?_
  rintro e w2 ⟨rfl, c2, b2⟩
  have C2 : Hid (CurAt a len cap zs B w2 (belowV zs len 70000 (belowV zs len 8 s).2).2) := c2
  have B2 : Hid (Only B w w2) := b1.trans b2
  clear c2 C1 b1 b2
  go_wp2
  go_ret
  exact ⟨rfl, C2.out, B2.out⟩

theorem num_at {w : World} {s : Nat × Int} (h : CurAt a len cap zs B w s) :
    Calls Tryd.prog 17 #[.pointer (some ⟨B, 0, none⟩)] w fun e w' => e = .returned (.int .i64 (numV zs len s).1) ∧ CurAt a len cap zs B w' (numV zs len s).2 ∧ Only B w w' := by
  unfold numV
  by_cases h0 : (belowV zs len 8 s).1 = 0
  · rw [if_pos h0]; exact num0_at h h0
  · rw [if_neg h0]
    by_cases h1 : (belowV zs len 8 s).1 = 1
    · rw [if_pos h1]; exact num1_at h h1
    · rw [if_neg h1]
      by_cases h2 : (belowV zs len 8 s).1 = 2
      · rw [if_pos h2]; exact num2_at h h2
      · rw [if_neg h2]; exact num3_at h h0 h1 h2

theorem numV_range (zs : List Int) (len : Nat) (s : Nat × Int) : -9223372036854775808 ≤ (numV zs len s).1 ∧ (numV zs len s).1 ≤ 9223372036854775807 := by
  unfold numV
  split
  · have hr := belowV_range (zs := zs) (len := len) 17 (belowV zs len 8 s).2 (by omega)
    obtain ⟨k, hk⟩ := Int.eq_ofNat_of_zero_le hr.1
    simp only [hk]
    have hk17 : k < 17 := by omega
    have key : ∀ k, k < 17 → -9223372036854775808 ≤ picks.getD k 0 ∧ picks.getD k 0 ≤ 9223372036854775807 := by decide
    exact key k hk17
  · split
    · simp only [wrap64]; omega
    · split
      · have hr := belowV_range (zs := zs) (len := len) 100000 (belowV zs len 8 s).2 (by omega)
        simp only
        omega
      · have hr := belowV_range (zs := zs) (len := len) 70000 (belowV zs len 8 s).2 (by omega)
        omega
end
end Go.Proofs.YtpjaiehkhbkgiacDoor
