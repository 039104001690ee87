/-
  The draws of programs: what makes a number. Conditions: written at each theorem.
-/
import Derived.Test.YtobijbhgpgnfkaaGreatDoorGe
namespace Go.Proofs.YtobijbhgpgnfkaaGreatDoor
open Go.ChangeShapes Go.WideShapes Go.ChangeAt Go.RowKit
set_option linter.unusedVariables false

theorem mu_less1 {f : Nat} {deep : Int} (ty : Int) (hd1 : 1 ≤ deep) (hdf : deep ≤ f) : mu ty (deep - 1) ≤ f := by
  unfold mu
  split
  · split <;> omega
  · omega

theorem mu_less2 {f : Nat} {deep : Int} (ty : Int) (hd1 : 1 ≤ deep) (hdf : deep ≤ f) : mu ty (deep - 2) ≤ f := by
  unfold mu
  split
  · split <;> omega
  · omega

theorem pow_facts {f : Nat} (hf : f ≤ 6) : 4 * 4 ^ f = 4 ^ (f + 1) ∧ 1 ≤ 4 ^ f ∧ 4 ^ f ≤ 4096 := by
  have : f = 0 ∨ f = 1 ∨ f = 2 ∨ f = 3 ∨ f = 4 ∨ f = 5 ∨ f = 6 := by omega
  rcases this with rfl | rfl | rfl | rfl | rfl | rfl | rfl <;> decide

set_option maxHeartbeats 8000000 in
set_option maxRecDepth 20000 in
theorem num_at (f : Nat) (hG : GenC f) (a : Option Addr) (len cap : Nat) (zs : List Int) (B : Nat) (w0 : World) (s : Nat × Int) (deep : Int) (nv tv : Value) (n : Nat) (h : CurAt a len cap zs B w0 s) (hd1 : 1 ≤ deep) (hdf : deep ≤ f) (hlo : 2 * (f : Int) + 2 ≤ deep + 1000) (hhi : deep ≤ 100) (hnf : n + 2 * f + 2 ≤ 60) (hf : f ≤ 6) (hs : Strs B w0 nv n) (hi : Ints B w0 tv n) :
    Calls Tryz.prog 115 #[.pointer (some ⟨B, 0, none⟩), .int .i64 deep, nv, tv] w0 (DrawEnd a len cap zs B w0 (4 ^ (f + 1))) := by
  have HG : Hid (GenC f) := hG
  have C0 : Hid (CurAt a len cap zs B w0 s) := h
  have S0 : Hid (Strs B w0 nv n) := hs
  have I0 : Hid (Ints B w0 tv n) := hi
  have N0 : Hid (Only B w0 w0) := Only.refl B w0
  have hBw : B < w0.heap.size := h.size
  have HP : Hid (4 * 4 ^ f = 4 ^ (f + 1) ∧ 1 ≤ 4 ^ f ∧ 4 ^ f ≤ 4096) := pow_facts hf
  clear hG h hs hi
  go_enter Tryz.func115, Tryz.ntmps115
  go_wp2_with fail
  refine (below_some C0.out 8 (by omega) (by omega)).mono ?_
  rintro e w1 ⟨K, s1, rfl, hr1, hq1, c1, n1⟩
  have C1 : Hid (CurAt a len cap zs B w1 s1) := c1
  have N1 : Hid (Only B w0 w1) := N0.out.trans n1
  have S1 : Hid (Strs B w1 nv n) := S0.out.only n1
  have I1 : Hid (Ints B w1 tv n) := I0.out.only n1
  clear c1 n1
  rcases (by omega : K = 0 ∨ K = 1 ∨ K = 2 ∨ K = 3 ∨ K = 4 ∨ K = 5 ∨ K = 6 ∨ K = 7) with rfl | rfl | rfl | rfl | rfl | rfl | rfl | rfl
  · go_wp2_with fail
    refine (below_some C1.out 4 (by omega) (by omega)).mono ?_
    rintro e w2 ⟨X, s2, rfl, hr2, hq2, c2, n2⟩
    have C2 : Hid (CurAt a len cap zs B w2 s2) := c2
    have N2 : Hid (Only B w0 w2) := N1.out.trans n2
    have S2 : Hid (Strs B w2 nv n) := S1.out.only n2
    have I2 : Hid (Ints B w2 tv n) := I1.out.only n2
    clear c2 n2
    go_wp2_with fail
    refine (HG.out a len cap zs B w2 _ 0 (deep - 1) nv tv (n) C2.out (mu_less1 0 hd1 hdf) (by omega) (by omega) (by omega) (by omega) S2.out I2.out).mono ?_
    rintro e w3 ⟨v3, l3, s3, rfl, o3, p3, m3, t3, c3, n3⟩
    obtain ⟨b3, g3, k3, sp3, rfl, -⟩ := ownNod_form o3
    have O3x3 : Hid (ownNod w3 w0.heap.size (.slice b3 l3.length k3) l3) := ownNod_base o3 N2.out.grow
    have T3 : Hid (Trim l3) := t3
    have C3 : Hid (CurAt a len cap zs B w3 s3) := c3
    have N3 : Hid (Only B w0 w3) := N2.out.trans n3
    have S3 : Hid (Strs B w3 nv n) := S2.out.only n3
    have I3 : Hid (Ints B w3 tv n) := I2.out.only n3
    clear c3 n3 o3 t3
    go_wp2_with fail
    refine (HG.out a len cap zs B w3 _ 0 (deep - 1) nv tv (n) C3.out (mu_less1 0 hd1 hdf) (by omega) (by omega) (by omega) (by omega) S3.out I3.out).mono ?_
    rintro e w4 ⟨v4, l4, s4, rfl, o4, p4, m4, t4, c4, n4⟩
    obtain ⟨b4, g4, k4, sp4, rfl, -⟩ := ownNod_form o4
    have O4x4 : Hid (ownNod w4 w0.heap.size (.slice b4 l4.length k4) l4) := ownNod_base o4 N3.out.grow
    have T4 : Hid (Trim l4) := t4
    have C4 : Hid (CurAt a len cap zs B w4 s4) := c4
    have N4 : Hid (Only B w0 w4) := N3.out.trans n4
    have S4 : Hid (Strs B w4 nv n) := S3.out.only n4
    have I4 : Hid (Ints B w4 tv n) := I3.out.only n4
    have O4x3 : Hid (ownNod w4 w0.heap.size (.slice b3 l3.length k3) l3) := ownNod_only O3x3.out n4 hBw
    clear c4 n4 o4 t4
    have hP := HP.out
    go_wp2_with fail
    refine (make2 ⟨8, 0, 0, 0, X, ⟨#[]⟩, ⟨#[]⟩⟩ (trim_node (by decide) (by decide)) w4 w0.heap.size (.slice b3 l3.length k3) (.slice b4 l4.length k4) l3 l4 O4x3.out O4x4.out p3 p4 T3.out T4.out (by omega)).mono ?_
    rintro e we ⟨ve, le, rfl, oe, qe, te, be⟩
    have D : Hid (DrawEnd a len cap zs B w0 (4 ^ (f + 1)) (.returned ve) we) := draw_end N4.out C4.out be oe (by omega) (by omega) te
    clear be oe te
    go_wp2
    go_ret
    exact D.out
  · go_wp2_with fail
    refine (below_some C1.out 4 (by omega) (by omega)).mono ?_
    rintro e w2 ⟨X, s2, rfl, hr2, hq2, c2, n2⟩
    have C2 : Hid (CurAt a len cap zs B w2 s2) := c2
    have N2 : Hid (Only B w0 w2) := N1.out.trans n2
    have S2 : Hid (Strs B w2 nv n) := S1.out.only n2
    have I2 : Hid (Ints B w2 tv n) := I1.out.only n2
    clear c2 n2
    go_wp2_with fail
    refine (HG.out a len cap zs B w2 _ 0 (deep - 1) nv tv (n) C2.out (mu_less1 0 hd1 hdf) (by omega) (by omega) (by omega) (by omega) S2.out I2.out).mono ?_
    rintro e w3 ⟨v3, l3, s3, rfl, o3, p3, m3, t3, c3, n3⟩
    obtain ⟨b3, g3, k3, sp3, rfl, -⟩ := ownNod_form o3
    have O3x3 : Hid (ownNod w3 w0.heap.size (.slice b3 l3.length k3) l3) := ownNod_base o3 N2.out.grow
    have T3 : Hid (Trim l3) := t3
    have C3 : Hid (CurAt a len cap zs B w3 s3) := c3
    have N3 : Hid (Only B w0 w3) := N2.out.trans n3
    have S3 : Hid (Strs B w3 nv n) := S2.out.only n3
    have I3 : Hid (Ints B w3 tv n) := I2.out.only n3
    clear c3 n3 o3 t3
    go_wp2_with fail
    refine (HG.out a len cap zs B w3 _ 0 (deep - 1) nv tv (n) C3.out (mu_less1 0 hd1 hdf) (by omega) (by omega) (by omega) (by omega) S3.out I3.out).mono ?_
    rintro e w4 ⟨v4, l4, s4, rfl, o4, p4, m4, t4, c4, n4⟩
    obtain ⟨b4, g4, k4, sp4, rfl, -⟩ := ownNod_form o4
    have O4x4 : Hid (ownNod w4 w0.heap.size (.slice b4 l4.length k4) l4) := ownNod_base o4 N3.out.grow
    have T4 : Hid (Trim l4) := t4
    have C4 : Hid (CurAt a len cap zs B w4 s4) := c4
    have N4 : Hid (Only B w0 w4) := N3.out.trans n4
    have S4 : Hid (Strs B w4 nv n) := S3.out.only n4
    have I4 : Hid (Ints B w4 tv n) := I3.out.only n4
    have O4x3 : Hid (ownNod w4 w0.heap.size (.slice b3 l3.length k3) l3) := ownNod_only O3x3.out n4 hBw
    clear c4 n4 o4 t4
    have hP := HP.out
    go_wp2_with fail
    refine (make2 ⟨8, 0, 0, 0, X, ⟨#[]⟩, ⟨#[]⟩⟩ (trim_node (by decide) (by decide)) w4 w0.heap.size (.slice b3 l3.length k3) (.slice b4 l4.length k4) l3 l4 O4x3.out O4x4.out p3 p4 T3.out T4.out (by omega)).mono ?_
    rintro e we ⟨ve, le, rfl, oe, qe, te, be⟩
    have D : Hid (DrawEnd a len cap zs B w0 (4 ^ (f + 1)) (.returned ve) we) := draw_end N4.out C4.out be oe (by omega) (by omega) te
    clear be oe te
    go_wp2
    go_ret
    exact D.out
  · go_wp2_with fail
    refine (HG.out a len cap zs B w1 _ 1 (deep - 1) nv tv (n) C1.out (mu_less1 1 hd1 hdf) (by omega) (by omega) (by omega) (by omega) S1.out I1.out).mono ?_
    rintro e w2 ⟨v2, l2, s2, rfl, o2, p2, m2, t2, c2, n2⟩
    obtain ⟨b2, g2, k2, sp2, rfl, -⟩ := ownNod_form o2
    have O2x2 : Hid (ownNod w2 w0.heap.size (.slice b2 l2.length k2) l2) := ownNod_base o2 N1.out.grow
    have T2 : Hid (Trim l2) := t2
    have C2 : Hid (CurAt a len cap zs B w2 s2) := c2
    have N2 : Hid (Only B w0 w2) := N1.out.trans n2
    have S2 : Hid (Strs B w2 nv n) := S1.out.only n2
    have I2 : Hid (Ints B w2 tv n) := I1.out.only n2
    clear c2 n2 o2 t2
    go_wp2_with fail
    refine (HG.out a len cap zs B w2 _ 0 (deep - 1) nv tv (n) C2.out (mu_less1 0 hd1 hdf) (by omega) (by omega) (by omega) (by omega) S2.out I2.out).mono ?_
    rintro e w3 ⟨v3, l3, s3, rfl, o3, p3, m3, t3, c3, n3⟩
    obtain ⟨b3, g3, k3, sp3, rfl, -⟩ := ownNod_form o3
    have O3x3 : Hid (ownNod w3 w0.heap.size (.slice b3 l3.length k3) l3) := ownNod_base o3 N2.out.grow
    have T3 : Hid (Trim l3) := t3
    have C3 : Hid (CurAt a len cap zs B w3 s3) := c3
    have N3 : Hid (Only B w0 w3) := N2.out.trans n3
    have S3 : Hid (Strs B w3 nv n) := S2.out.only n3
    have I3 : Hid (Ints B w3 tv n) := I2.out.only n3
    have O3x2 : Hid (ownNod w3 w0.heap.size (.slice b2 l2.length k2) l2) := ownNod_only O2x2.out n3 hBw
    clear c3 n3 o3 t3
    have hP := HP.out
    go_wp2_with fail
    refine (make2 ⟨4, 0, 0, 0, 0, ⟨#[]⟩, ⟨#[]⟩⟩ (trim_node (by decide) (by decide)) w3 w0.heap.size (.slice b2 l2.length k2) (.slice b3 l3.length k3) l2 l3 O3x2.out O3x3.out p2 p3 T2.out T3.out (by omega)).mono ?_
    rintro e we ⟨ve, le, rfl, oe, qe, te, be⟩
    have D : Hid (DrawEnd a len cap zs B w0 (4 ^ (f + 1)) (.returned ve) we) := draw_end N3.out C3.out be oe (by omega) (by omega) te
    clear be oe te
    go_wp2
    go_ret
    exact D.out
  · go_wp2_with fail
    refine (below_some C1.out 2 (by omega) (by omega)).mono ?_
    rintro e w2 ⟨X, s2, rfl, hr2, hq2, c2, n2⟩
    have C2 : Hid (CurAt a len cap zs B w2 s2) := c2
    have N2 : Hid (Only B w0 w2) := N1.out.trans n2
    have S2 : Hid (Strs B w2 nv n) := S1.out.only n2
    have I2 : Hid (Ints B w2 tv n) := I1.out.only n2
    clear c2 n2
    go_wp2_with fail
    refine (HG.out a len cap zs B w2 _ 2 (deep - 1) nv tv (n) C2.out (mu_less1 2 hd1 hdf) (by omega) (by omega) (by omega) (by omega) S2.out I2.out).mono ?_
    rintro e w3 ⟨v3, l3, s3, rfl, o3, p3, m3, t3, c3, n3⟩
    obtain ⟨b3, g3, k3, sp3, rfl, -⟩ := ownNod_form o3
    have O3x3 : Hid (ownNod w3 w0.heap.size (.slice b3 l3.length k3) l3) := ownNod_base o3 N2.out.grow
    have T3 : Hid (Trim l3) := t3
    have C3 : Hid (CurAt a len cap zs B w3 s3) := c3
    have N3 : Hid (Only B w0 w3) := N2.out.trans n3
    have S3 : Hid (Strs B w3 nv n) := S2.out.only n3
    have I3 : Hid (Ints B w3 tv n) := I2.out.only n3
    clear c3 n3 o3 t3
    have hP := HP.out
    go_wp2_with fail
    refine (make1 ⟨10 + X, 0, 0, 0, 0, ⟨#[]⟩, ⟨#[]⟩⟩ (trim_node (by decide) (by decide)) w3 w0.heap.size (.slice b3 l3.length k3) l3 O3x3.out p3 T3.out (by omega)).mono ?_
    rintro e we ⟨ve, le, rfl, oe, qe, te, be⟩
    have D : Hid (DrawEnd a len cap zs B w0 (4 ^ (f + 1)) (.returned ve) we) := draw_end N3.out C3.out be oe (by omega) (by omega) te
    clear be oe te
    go_wp2
    go_ret
    exact D.out
  · go_wp2_with fail
    refine (HG.out a len cap zs B w1 _ 4 (deep - 1) nv tv (n) C1.out (mu_less1 4 hd1 hdf) (by omega) (by omega) (by omega) (by omega) S1.out I1.out).mono ?_
    rintro e w2 ⟨v2, l2, s2, rfl, o2, p2, m2, t2, c2, n2⟩
    obtain ⟨b2, g2, k2, sp2, rfl, -⟩ := ownNod_form o2
    have O2x2 : Hid (ownNod w2 w0.heap.size (.slice b2 l2.length k2) l2) := ownNod_base o2 N1.out.grow
    have T2 : Hid (Trim l2) := t2
    have C2 : Hid (CurAt a len cap zs B w2 s2) := c2
    have N2 : Hid (Only B w0 w2) := N1.out.trans n2
    have S2 : Hid (Strs B w2 nv n) := S1.out.only n2
    have I2 : Hid (Ints B w2 tv n) := I1.out.only n2
    clear c2 n2 o2 t2
    have hP := HP.out
    go_wp2_with fail
    refine (make1 ⟨16, 0, 0, 0, 0, ⟨#[]⟩, ⟨#[]⟩⟩ (trim_node (by decide) (by decide)) w2 w0.heap.size (.slice b2 l2.length k2) l2 O2x2.out p2 T2.out (by omega)).mono ?_
    rintro e we ⟨ve, le, rfl, oe, qe, te, be⟩
    have D : Hid (DrawEnd a len cap zs B w0 (4 ^ (f + 1)) (.returned ve) we) := draw_end N2.out C2.out be oe (by omega) (by omega) te
    clear be oe te
    go_wp2
    go_ret
    exact D.out
  · go_wp2_with fail
    refine (HG.out a len cap zs B w1 _ 4 (deep - 1) nv tv (n) C1.out (mu_less1 4 hd1 hdf) (by omega) (by omega) (by omega) (by omega) S1.out I1.out).mono ?_
    rintro e w2 ⟨v2, l2, s2, rfl, o2, p2, m2, t2, c2, n2⟩
    obtain ⟨b2, g2, k2, sp2, rfl, -⟩ := ownNod_form o2
    have O2x2 : Hid (ownNod w2 w0.heap.size (.slice b2 l2.length k2) l2) := ownNod_base o2 N1.out.grow
    have T2 : Hid (Trim l2) := t2
    have C2 : Hid (CurAt a len cap zs B w2 s2) := c2
    have N2 : Hid (Only B w0 w2) := N1.out.trans n2
    have S2 : Hid (Strs B w2 nv n) := S1.out.only n2
    have I2 : Hid (Ints B w2 tv n) := I1.out.only n2
    clear c2 n2 o2 t2
    go_wp2_with fail
    refine (HG.out a len cap zs B w2 _ 0 (deep - 1) nv tv (n) C2.out (mu_less1 0 hd1 hdf) (by omega) (by omega) (by omega) (by omega) S2.out I2.out).mono ?_
    rintro e w3 ⟨v3, l3, s3, rfl, o3, p3, m3, t3, c3, n3⟩
    obtain ⟨b3, g3, k3, sp3, rfl, -⟩ := ownNod_form o3
    have O3x3 : Hid (ownNod w3 w0.heap.size (.slice b3 l3.length k3) l3) := ownNod_base o3 N2.out.grow
    have T3 : Hid (Trim l3) := t3
    have C3 : Hid (CurAt a len cap zs B w3 s3) := c3
    have N3 : Hid (Only B w0 w3) := N2.out.trans n3
    have S3 : Hid (Strs B w3 nv n) := S2.out.only n3
    have I3 : Hid (Ints B w3 tv n) := I2.out.only n3
    have O3x2 : Hid (ownNod w3 w0.heap.size (.slice b2 l2.length k2) l2) := ownNod_only O2x2.out n3 hBw
    clear c3 n3 o3 t3
    have hP := HP.out
    go_wp2_with fail
    refine (make2 ⟨17, 0, 0, 0, 0, ⟨#[]⟩, ⟨#[]⟩⟩ (trim_node (by decide) (by decide)) w3 w0.heap.size (.slice b2 l2.length k2) (.slice b3 l3.length k3) l2 l3 O3x2.out O3x3.out p2 p3 T2.out T3.out (by omega)).mono ?_
    rintro e we ⟨ve, le, rfl, oe, qe, te, be⟩
    have D : Hid (DrawEnd a len cap zs B w0 (4 ^ (f + 1)) (.returned ve) we) := draw_end N3.out C3.out be oe (by omega) (by omega) te
    clear be oe te
    go_wp2
    go_ret
    exact D.out
  · go_wp2_with fail
    refine (once_some C1.out 2 (by omega)).mono ?_
    rintro e w2 ⟨bb, s2, rfl, c2, n2⟩
    have C2 : Hid (CurAt a len cap zs B w2 s2) := c2
    have N2 : Hid (Only B w0 w2) := N1.out.trans n2
    have S2 : Hid (Strs B w2 nv n) := S1.out.only n2
    have I2 : Hid (Ints B w2 tv n) := I1.out.only n2
    clear c2 n2
    cases bb
    · go_wp2_with fail
      refine (below_some C2.out 9 (by omega) (by omega)).mono ?_
      rintro e w3 ⟨X, s3, rfl, hr3, hq3, c3, n3⟩
      have C3 : Hid (CurAt a len cap zs B w3 s3) := c3
      have N3 : Hid (Only B w0 w3) := N2.out.trans n3
      have S3 : Hid (Strs B w3 nv n) := S2.out.only n3
      have I3 : Hid (Ints B w3 tv n) := I2.out.only n3
      clear c3 n3
      have hP := HP.out
      have D : Hid (DrawEnd a len cap zs B w0 (4 ^ (f + 1)) (.returned (.slice (some ⟨w3.heap.size, 0, none⟩) 1 1)) (w3.alloc (.cells #[.int .i64 2, .int .i64 0, .int .i64 0, .int .i64 0, .int .i64 X, .string ⟨#[]⟩, .string ⟨#[]⟩] 58))) := one_end ⟨2, 0, 0, 0, X, ⟨#[]⟩, ⟨#[]⟩⟩ N3.out C3.out (by omega) (trim_node (by decide) (by decide))
      go_wp2_with fail
      refine (int_at X w3).mono ?_
      rintro e we ⟨rfl, rfl⟩
      go_wp2
      go_ret
      exact D.out
    · go_wp2_with fail
      refine (HG.out a len cap zs B w2 _ 0 (deep - 2) nv tv (n) C2.out (mu_less2 0 hd1 hdf) (by omega) (by omega) (by omega) (by omega) S2.out I2.out).mono ?_
      rintro e w3 ⟨v3, l3, s3, rfl, o3, p3, m3, t3, c3, n3⟩
      obtain ⟨b3, g3, k3, sp3, rfl, -⟩ := ownNod_form o3
      have O3x3 : Hid (ownNod w3 w0.heap.size (.slice b3 l3.length k3) l3) := ownNod_base o3 N2.out.grow
      have T3 : Hid (Trim l3) := t3
      have C3 : Hid (CurAt a len cap zs B w3 s3) := c3
      have N3 : Hid (Only B w0 w3) := N2.out.trans n3
      have S3 : Hid (Strs B w3 nv n) := S2.out.only n3
      have I3 : Hid (Ints B w3 tv n) := I2.out.only n3
      clear c3 n3 o3 t3
      have hP := HP.out
      go_wp2_with fail
      refine (make1 ⟨18, 0, 0, 0, 0, ⟨#[]⟩, ⟨#[]⟩⟩ (trim_node (by decide) (by decide)) w3 w0.heap.size (.slice b3 l3.length k3) l3 O3x3.out p3 T3.out (by omega)).mono ?_
      rintro e we ⟨ve, le, rfl, oe, qe, te, be⟩
      have D : Hid (DrawEnd a len cap zs B w0 (4 ^ (f + 1)) (.returned ve) we) := draw_end N3.out C3.out be oe (by omega) (by omega) te
      clear be oe te
      go_wp2
      go_ret
      exact D.out
  · go_wp2_with fail
    refine (below_some C1.out 9 (by omega) (by omega)).mono ?_
    rintro e w2 ⟨X, s2, rfl, hr2, hq2, c2, n2⟩
    have C2 : Hid (CurAt a len cap zs B w2 s2) := c2
    have N2 : Hid (Only B w0 w2) := N1.out.trans n2
    have S2 : Hid (Strs B w2 nv n) := S1.out.only n2
    have I2 : Hid (Ints B w2 tv n) := I1.out.only n2
    clear c2 n2
    have hP := HP.out
    have D : Hid (DrawEnd a len cap zs B w0 (4 ^ (f + 1)) (.returned (.slice (some ⟨w2.heap.size, 0, none⟩) 1 1)) (w2.alloc (.cells #[.int .i64 2, .int .i64 0, .int .i64 0, .int .i64 0, .int .i64 X, .string ⟨#[]⟩, .string ⟨#[]⟩] 58))) := one_end ⟨2, 0, 0, 0, X, ⟨#[]⟩, ⟨#[]⟩⟩ N2.out C2.out (by omega) (trim_node (by decide) (by decide))
    go_wp2_with fail
    refine (int_at X w2).mono ?_
    rintro e we ⟨rfl, rfl⟩
    go_wp2
    go_ret
    exact D.out
end Go.Proofs.YtobijbhgpgnfkaaGreatDoor
