/-
  The draws of programs: a program that is right, closed and typed. Conditions: written at each theorem.
-/
import Derived.Test.YtobijbhgpgnfkaaGreatDoorGh
namespace Go.Proofs.YtobijbhgpgnfkaaGreatDoor
open Go.ChangeShapes Go.WideShapes Go.ChangeAt Go.RowKit
set_option linter.unusedVariables false

theorem mu_top (ty : Int) {deep : Int} (h1 : 1 ≤ deep) (h2 : deep ≤ 4) : mu ty deep ≤ 5 := by
  unfold mu
  rw [if_neg (by omega)]
  omega

set_option maxHeartbeats 4000000 in
set_option maxRecDepth 20000 in
theorem prog_at (a : Option Addr) (len cap : Nat) (zs : List Int) (B : Nat) (w0 : World) (s : Nat × Int) (h : CurAt a len cap zs B w0 s) :
    Calls Tryz.prog 65 #[.pointer (some ⟨B, 0, none⟩)] w0 (DrawEnd a len cap zs B w0 1024) := by
  have C0 : Hid (CurAt a len cap zs B w0 s) := h
  clear h
  go_enter Tryz.func65, Tryz.ntmps65
  go_wp2
  go_loopw [3] (fun i wr => ∃ (q : Nat) (s' : Nat × Int), q ≤ 4 ∧ i = .int .i64 q ∧ Hid (CurAt a len cap zs B wr s') ∧ Hid (Only B w0 wr)) (fun i _ => 4 - (intOf i).toNat)
  case atStart => exact ⟨0, s, by omega, rfl, C0, Only.refl B w0⟩
  case round =>
    obtain ⟨q, sq, hq, rfl, HC, HN⟩ := hrel
    by_cases hin : q < 4
    · have hin' : (q : Int) < 4 := by omega
      go_wp2_with fail
      refine (below_some HC.out 5 (by omega) (by omega)).mono ?_
      rintro e w1 ⟨T, s1, rfl, hT0, hT1, c1, n1⟩
      have C1 : Hid (CurAt a len cap zs B w1 s1) := c1
      have N1 : Hid (Only B w0 w1) := HN.out.trans n1
      clear c1 n1
      go_wp2_with fail
      refine (below_some C1.out 3 (by omega) (by omega)).mono ?_
      rintro e w2 ⟨D, s2, rfl, hD0, hD1, c2, n2⟩
      have C2 : Hid (CurAt a len cap zs B ((w2.alloc (.cells #[] 9)).alloc (.cells #[] 3)) s2) := curAt_alloc (curAt_alloc c2 _) _
      have N2 : Hid (Only B w0 ((w2.alloc (.cells #[] 9)).alloc (.cells #[] 3))) := (N1.out.trans n2).trans ((only_alloc w2 _).trans (only_alloc _ _))
      have hBw := c2.size
      have S2 : Hid (Strs B ((w2.alloc (.cells #[] 9)).alloc (.cells #[] 3)) (.slice (some ⟨w2.heap.size, 0, none⟩) 0 0) 0) := Strs.only (ownS.strs str_empty rfl hBw (by intro t ht; simp at ht)) (only_alloc _ _)
      have I2 : Hid (Ints B ((w2.alloc (.cells #[] 9)).alloc (.cells #[] 3)) (.slice (some ⟨w2.heap.size + 1, 0, none⟩) 0 0) 0) := by
        have := ownN.ints (B := B) (num_empty (w := w2.alloc (.cells #[] 9))) rfl (by simp; omega)
        show Ints B _ _ 0
        simpa using this
      clear c2 n2
      go_wp2_with fail
      refine (gen_ok 5 a len cap zs B _ _ T (2 + D) _ _ 0 C2.out (mu_top T (by omega) (by omega)) (by omega) (by omega) (by omega) (by omega) S2.out I2.out).mono ?_
      intro e w3 hde
      have DE : Hid (DrawEnd a len cap zs B w0 1024 e w3) := hde.more N2.out (by decide)
      obtain ⟨v3, l3, s3, rfl, o3, p3, m3, t3, c3, n3⟩ := hde
      obtain ⟨b3, g3, k3, sp3, rfl, -⟩ := ownNod_form o3
      have C3 : Hid (CurAt a len cap zs B w3 s3) := c3
      have N3 : Hid (Only B w0 w3) := N2.out.trans n3
      clear o3 t3 c3 n3 C2 S2 I2
      by_cases hl : l3.length ≤ 60
      · have hl' : (l3.length : Int) ≤ 60 := by omega
        go_wp2
        go_ret
        exact DE.out
      · have hl' : ¬ (l3.length : Int) ≤ 60 := by omega
        clear DE
        go_wp2
        go_roundw
        case rel => exact ⟨q + 1, s3, by omega, by go_num, C3, N3⟩
        case measure => simp [intOf]; omega
    · obtain rfl : q = 4 := by omega
      have D : Hid (DrawEnd a len cap zs B w0 1024 (.returned (.slice (some ⟨wr.heap.size, 0, none⟩) 1 1)) (wr.alloc (.cells #[.int .i64 2, .int .i64 0, .int .i64 0, .int .i64 0, .int .i64 4, .string ⟨#[]⟩, .string ⟨#[]⟩] 58))) := one_end ⟨2, 0, 0, 0, 4, ⟨#[]⟩, ⟨#[]⟩⟩ HN.out HC.out (by decide) (trim_node (by decide) (by decide))
      go_wp2_with fail
      refine (int_at 4 wr).mono ?_
      rintro e we ⟨rfl, rfl⟩
      go_wp2
      go_ret
      exact D.out
end Go.Proofs.YtobijbhgpgnfkaaGreatDoor
