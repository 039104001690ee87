/-
  The draws of programs: what may stand for any type. Conditions: written at each theorem.
-/
import Derived.Test.YtobijbhgpgnfkaaGreatDoorGa
namespace Go.Proofs.YtobijbhgpgnfkaaGreatDoor
open Go.ChangeShapes Go.WideShapes Go.ChangeAt Go.RowKit
set_option linter.unusedVariables false

set_option maxHeartbeats 16000000 in
set_option maxRecDepth 20000 in
theorem any_at (f : Nat) (hG : GenC f) (a : Option Addr) (len cap : Nat) (zs : List Int) (B : Nat) (w0 : World) (s : Nat × Int) (ty : Int) (deep : Int) (nv tv : Value) (n : Nat) (h : CurAt a len cap zs B w0 s) (hd1 : 1 ≤ deep) (hdf : deep ≤ f) (hlo : 2 * (f : Int) + 2 ≤ deep + 1000) (hhi : deep ≤ 100) (hnf : n + 2 * f + 2 ≤ 60) (hf : f ≤ 6) (hs : Strs B w0 nv n) (hi : Ints B w0 tv n) :
    Calls Tryz.prog 114 #[.pointer (some ⟨B, 0, none⟩), .int .i64 ty, .int .i64 deep, nv, tv] w0 (DrawEnd a len cap zs B w0 (4 ^ (f + 1))) := by
  obtain ⟨gn, cn, rfl⟩ := (show ∃ g c, nv = .slice (some ⟨g, 0, none⟩) n c by obtain ⟨g, c, k, h1, _⟩ := hs; exact ⟨g, c, h1⟩)
  obtain ⟨gt, ct, rfl⟩ := (show ∃ g c, tv = .slice (some ⟨g, 0, none⟩) n c by obtain ⟨g, c, k, h1, _⟩ := hi; exact ⟨g, c, h1⟩)
  have HG : Hid (GenC f) := hG
  have C0 : Hid (CurAt a len cap zs B w0 s) := h
  have S0 : Hid (Strs B w0 (.slice (some ⟨gn, 0, none⟩) n cn) n) := hs
  have I0 : Hid (Ints B w0 (.slice (some ⟨gt, 0, none⟩) n ct) n) := hi
  have N0 : Hid (Only B w0 w0) := Only.refl B w0
  have hBw : B < w0.heap.size := h.size
  have HP : Hid (4 * 4 ^ f = 4 ^ (f + 1) ∧ 1 ≤ 4 ^ f ∧ 4 ^ f ≤ 4096) := pow_facts hf
  clear hG h hs hi
  go_enter Tryz.func114, Tryz.ntmps114
  go_wp2_with fail
  refine (pick_text (curAt_alloc C0.out _) [⟨#[120]⟩, ⟨#[121]⟩, ⟨#[122]⟩, ⟨#[102]⟩, ⟨#[103]⟩] w0.heap.size 5 rfl (by omega) (by omega) (by simp) (by have := C0.out.size; omega) (row_new w0 [⟨#[120]⟩, ⟨#[121]⟩, ⟨#[122]⟩, ⟨#[102]⟩, ⟨#[103]⟩] 9 _ rfl)).mono ?_
  rintro e w1 ⟨X, s1, hm1, rfl, c1, no1⟩
  have n1 : Only B w0 w1 := (only_alloc w0 _).trans no1
  have hzX : Fit9 X := (by decide : ∀ t ∈ ([⟨#[120]⟩, ⟨#[121]⟩, ⟨#[122]⟩, ⟨#[102]⟩, ⟨#[103]⟩] : List ByteArray), Fit9 t) X hm1
  have C1 : Hid (CurAt a len cap zs B w1 s1) := c1
  have N1 : Hid (Only B w0 w1) := N0.out.trans n1
  have S1 : Hid (Strs B w1 (.slice (some ⟨gn, 0, none⟩) n cn) n) := S0.out.only n1
  have I1 : Hid (Ints B w1 (.slice (some ⟨gt, 0, none⟩) n ct) n) := I0.out.only n1
  clear c1 n1 no1 hm1
  go_wp2_with fail
  refine (pick_text (curAt_alloc C1.out _) [⟨#[117]⟩, ⟨#[118]⟩, ⟨#[120]⟩] w1.heap.size 3 rfl (by omega) (by omega) (by simp) (by have := C1.out.size; omega) (row_new w1 [⟨#[117]⟩, ⟨#[118]⟩, ⟨#[120]⟩] 9 _ rfl)).mono ?_
  rintro e w2 ⟨Y, s2, hm2, rfl, c2, no2⟩
  have n2 : Only B w1 w2 := (only_alloc w1 _).trans no2
  have hzY : Fit9 Y := (by decide : ∀ t ∈ ([⟨#[117]⟩, ⟨#[118]⟩, ⟨#[120]⟩] : List ByteArray), Fit9 t) Y hm2
  have C2 : Hid (CurAt a len cap zs B w2 s2) := c2
  have N2 : Hid (Only B w0 w2) := N1.out.trans n2
  have S2 : Hid (Strs B w2 (.slice (some ⟨gn, 0, none⟩) n cn) n) := S1.out.only n2
  have I2 : Hid (Ints B w2 (.slice (some ⟨gt, 0, none⟩) n ct) n) := I1.out.only n2
  clear c2 n2 no2 hm2
  obtain ⟨ns3, hl3, hgB3, hgw3, hz3, hcc3⟩ := S2.out.cells
  have HZ3 : Hid (∀ t ∈ ns3, Fit9 t) := sizes_mem hl3 hz3
  have HCC3 : Hid (_) := hcc3
  have hBw3 := C2.out.size
  clear hcc3 hz3
  go_wp2_with (at_builtin; refine grow_str _ rfl _ _ rfl w2.heap.size _ [] rfl str_empty (by intro e; cases e) gn (n) cn ns3 rfl hl3 (fun q hq => old_cell hgw3 (HCC3.out q hq) _) (n) (by simp) (by omega) (by simp) ?_)
  intro gg3 cc3 u3 oo3 bb3
  have zz3 := bb3.size
  have OO3 : Hid (ownS u3 w2.heap.size (.slice (some ⟨gg3, 0, none⟩) (n) cc3) ns3) := oo3
  have BB3 : Hid (Below w2.heap.size w2 u3) := ((Below.refl _ w2).alloc (Nat.le_refl _) _).trans bb3
  have hu3 : w2.heap.size < u3.heap.size := by simp at zz3; omega
  clear oo3 bb3 zz3
  go_wp2_with (at_builtin; refine grow_str _ rfl _ _ rfl w2.heap.size _ ns3 rfl (World.ownsRow.alloc OO3.out _) (by intro e; cases e) u3.heap.size 1 1 [X] rfl rfl (row_new u3 [X] 9 _ rfl) (n + 1) (by rw [hl3]) (by omega) (by simp; omega) ?_)
  intro hh3 kk3 w3 pp3 dd3
  have eb3 : Below w2.heap.size w2 w3 := (BB3.out.alloc (by omega) _).trans dd3
  have n3 : Only B w2 w3 := Only.of_below eb3
  have C3 : Hid (CurAt a len cap zs B w3 _) := curAt_below C2.out eb3 hBw3
  have N3 : Hid (Only B w0 w3) := N2.out.trans n3
  have S3 : Hid (Strs B w3 (.slice (some ⟨gn, 0, none⟩) n cn) n) := S2.out.only n3
  have I3 : Hid (Ints B w3 (.slice (some ⟨gt, 0, none⟩) n ct) n) := I2.out.only n3
  have E3xa : Hid (Strs B w3 (.slice (some ⟨hh3, 0, none⟩) (n + 1) kk3) (n + 1)) := ownS.strs pp3 (by simp [hl3]) hBw3 (by intro t ht; rcases List.mem_append.1 ht with ht | ht; exact HZ3.out t ht; simp at ht; subst ht; exact hzX)
  clear n3 eb3 pp3 dd3 OO3 BB3 HCC3 HZ3
  go_wp2_with fail
  refine (below_some C3.out 6 (by omega) (by omega)).mono ?_
  rintro e w4 ⟨K, s4, rfl, hr4, hq4, c4, n4⟩
  have C4 : Hid (CurAt a len cap zs B w4 s4) := c4
  have N4 : Hid (Only B w0 w4) := N3.out.trans n4
  have S4 : Hid (Strs B w4 (.slice (some ⟨gn, 0, none⟩) n cn) n) := S3.out.only n4
  have I4 : Hid (Ints B w4 (.slice (some ⟨gt, 0, none⟩) n ct) n) := I3.out.only n4
  have E4xa : Hid (Strs B w4 (.slice (some ⟨hh3, 0, none⟩) (n + 1) kk3) (n + 1)) := E3xa.out.only n4
  clear c4 n4
  rcases (by omega : K = 0 ∨ K = 1 ∨ K = 2 ∨ K = 3 ∨ K = 4 ∨ K = 5) with rfl | rfl | rfl | rfl | rfl | rfl
  · go_wp2_with fail
    refine (below_some C4.out 5 (by omega) (by omega)).mono ?_
    rintro e w5 ⟨T, s5, rfl, hr5, hq5, c5, n5⟩
    have C5 : Hid (CurAt a len cap zs B w5 s5) := c5
    have N5 : Hid (Only B w0 w5) := N4.out.trans n5
    have S5 : Hid (Strs B w5 (.slice (some ⟨gn, 0, none⟩) n cn) n) := S4.out.only n5
    have I5 : Hid (Ints B w5 (.slice (some ⟨gt, 0, none⟩) n ct) n) := I4.out.only n5
    have E5xa : Hid (Strs B w5 (.slice (some ⟨hh3, 0, none⟩) (n + 1) kk3) (n + 1)) := E4xa.out.only n5
    clear c5 n5
    go_wp2_with fail
    refine (HG.out a len cap zs B w5 _ T (deep - 1) (.slice (some ⟨gn, 0, none⟩) n cn) (.slice (some ⟨gt, 0, none⟩) n ct) (n) C5.out (mu_less1 T hd1 hdf) (by omega) (by omega) (by omega) (by omega) S5.out I5.out).mono ?_
    rintro e w6 ⟨v6, l6, s6, rfl, o6, p6, m6, t6, c6, n6⟩
    obtain ⟨b6, g6, k6, sp6, rfl, -⟩ := ownNod_form o6
    have O6x6 : Hid (ownNod w6 w0.heap.size (.slice b6 l6.length k6) l6) := ownNod_base o6 N5.out.grow
    have T6 : Hid (Trim l6) := t6
    have C6 : Hid (CurAt a len cap zs B w6 s6) := c6
    have N6 : Hid (Only B w0 w6) := N5.out.trans n6
    have S6 : Hid (Strs B w6 (.slice (some ⟨gn, 0, none⟩) n cn) n) := S5.out.only n6
    have I6 : Hid (Ints B w6 (.slice (some ⟨gt, 0, none⟩) n ct) n) := I5.out.only n6
    have E6xa : Hid (Strs B w6 (.slice (some ⟨hh3, 0, none⟩) (n + 1) kk3) (n + 1)) := E5xa.out.only n6
    clear c6 n6 o6 t6
    obtain ⟨ns7, hl7, hgB7, hgw7, hcc7⟩ := I6.out.cells
    have HCC7 : Hid (_) := hcc7
    have hBw7 := C6.out.size
    clear hcc7
    go_wp2_with (at_builtin; refine grow_num _ rfl _ _ rfl w6.heap.size _ [] rfl num_empty (by intro e; cases e) gt (n) ct ns7 rfl hl7 (fun q hq => old_cell hgw7 (HCC7.out q hq) _) (n) (by simp) (by omega) (by simp) ?_)
    intro gg7 cc7 u7 oo7 bb7
    have zz7 := bb7.size
    have OO7 : Hid (ownN u7 w6.heap.size (.slice (some ⟨gg7, 0, none⟩) (n) cc7) ns7) := oo7
    have BB7 : Hid (Below w6.heap.size w6 u7) := ((Below.refl _ w6).alloc (Nat.le_refl _) _).trans bb7
    have hu7 : w6.heap.size < u7.heap.size := by simp at zz7; omega
    clear oo7 bb7 zz7
    go_wp2_with (at_builtin; refine grow_num _ rfl _ _ rfl w6.heap.size _ ns7 rfl (World.ownsRow.alloc OO7.out _) (by intro e; cases e) u7.heap.size 1 1 [T] rfl rfl (row_ints u7 [T] 3 _ rfl) (n + 1) (by rw [hl7]) (by omega) (by simp; omega) ?_)
    intro hh7 kk7 w7 pp7 dd7
    have eb7 : Below w6.heap.size w6 w7 := (BB7.out.alloc (by omega) _).trans dd7
    have n7 : Only B w6 w7 := Only.of_below eb7
    have C7 : Hid (CurAt a len cap zs B w7 _) := curAt_below C6.out eb7 hBw7
    have N7 : Hid (Only B w0 w7) := N6.out.trans n7
    have S7 : Hid (Strs B w7 (.slice (some ⟨gn, 0, none⟩) n cn) n) := S6.out.only n7
    have I7 : Hid (Ints B w7 (.slice (some ⟨gt, 0, none⟩) n ct) n) := I6.out.only n7
    have O7x6 : Hid (ownNod w7 w0.heap.size (.slice b6 l6.length k6) l6) := ownNod_only O6x6.out n7 hBw
    have E7xa : Hid (Strs B w7 (.slice (some ⟨hh3, 0, none⟩) (n + 1) kk3) (n + 1)) := E6xa.out.only n7
    have E7xb : Hid (Ints B w7 (.slice (some ⟨hh7, 0, none⟩) (n + 1) kk7) (n + 1)) := ownN.ints pp7 (by simp [hl7]) hBw7
    clear n7 eb7 pp7 dd7 OO7 BB7 HCC7
    go_wp2_with fail
    refine (HG.out a len cap zs B w7 _ ty (deep - 1) (.slice (some ⟨hh3, 0, none⟩) (n + 1) kk3) (.slice (some ⟨hh7, 0, none⟩) (n + 1) kk7) (n + 1) C7.out (mu_less1 ty hd1 hdf) (by omega) (by omega) (by omega) (by omega) E7xa.out E7xb.out).mono ?_
    rintro e w8 ⟨v8, l8, s8, rfl, o8, p8, m8, t8, c8, n8⟩
    obtain ⟨b8, g8, k8, sp8, rfl, -⟩ := ownNod_form o8
    have O8x8 : Hid (ownNod w8 w0.heap.size (.slice b8 l8.length k8) l8) := ownNod_base o8 N7.out.grow
    have T8 : Hid (Trim l8) := t8
    have C8 : Hid (CurAt a len cap zs B w8 s8) := c8
    have N8 : Hid (Only B w0 w8) := N7.out.trans n8
    have S8 : Hid (Strs B w8 (.slice (some ⟨gn, 0, none⟩) n cn) n) := S7.out.only n8
    have I8 : Hid (Ints B w8 (.slice (some ⟨gt, 0, none⟩) n ct) n) := I7.out.only n8
    have O8x6 : Hid (ownNod w8 w0.heap.size (.slice b6 l6.length k6) l6) := ownNod_only O7x6.out n8 hBw
    have E8xa : Hid (Strs B w8 (.slice (some ⟨hh3, 0, none⟩) (n + 1) kk3) (n + 1)) := E7xa.out.only n8
    have E8xb : Hid (Ints B w8 (.slice (some ⟨hh7, 0, none⟩) (n + 1) kk7) (n + 1)) := E7xb.out.only n8
    clear c8 n8 o8 t8
    have hP := HP.out
    go_wp2_with fail
    refine (make2 ⟨5, 0, 0, 0, 0, X, ⟨#[]⟩⟩ (trim_node (hzX) (by decide)) w8 w0.heap.size (.slice b6 l6.length k6) (.slice b8 l8.length k8) l6 l8 O8x6.out O8x8.out p6 p8 T6.out T8.out (by omega)).mono ?_
    rintro e we ⟨ve, le, rfl, oe, qe, te, be⟩
    have D : Hid (DrawEnd a len cap zs B w0 (4 ^ (f + 1)) (.returned ve) we) := draw_end N8.out C8.out be oe (by omega) (by omega) te
    clear be oe te
    go_wp2
    go_ret
    exact D.out
  · go_wp2_with fail
    refine (below_some C4.out 5 (by omega) (by omega)).mono ?_
    rintro e w5 ⟨T, s5, rfl, hr5, hq5, c5, n5⟩
    have C5 : Hid (CurAt a len cap zs B w5 s5) := c5
    have N5 : Hid (Only B w0 w5) := N4.out.trans n5
    have S5 : Hid (Strs B w5 (.slice (some ⟨gn, 0, none⟩) n cn) n) := S4.out.only n5
    have I5 : Hid (Ints B w5 (.slice (some ⟨gt, 0, none⟩) n ct) n) := I4.out.only n5
    have E5xa : Hid (Strs B w5 (.slice (some ⟨hh3, 0, none⟩) (n + 1) kk3) (n + 1)) := E4xa.out.only n5
    clear c5 n5
    go_wp2_with fail
    refine (HG.out a len cap zs B w5 _ T (deep - 1) (.slice (some ⟨gn, 0, none⟩) n cn) (.slice (some ⟨gt, 0, none⟩) n ct) (n) C5.out (mu_less1 T hd1 hdf) (by omega) (by omega) (by omega) (by omega) S5.out I5.out).mono ?_
    rintro e w6 ⟨v6, l6, s6, rfl, o6, p6, m6, t6, c6, n6⟩
    obtain ⟨b6, g6, k6, sp6, rfl, -⟩ := ownNod_form o6
    have O6x6 : Hid (ownNod w6 w0.heap.size (.slice b6 l6.length k6) l6) := ownNod_base o6 N5.out.grow
    have T6 : Hid (Trim l6) := t6
    have C6 : Hid (CurAt a len cap zs B w6 s6) := c6
    have N6 : Hid (Only B w0 w6) := N5.out.trans n6
    have S6 : Hid (Strs B w6 (.slice (some ⟨gn, 0, none⟩) n cn) n) := S5.out.only n6
    have I6 : Hid (Ints B w6 (.slice (some ⟨gt, 0, none⟩) n ct) n) := I5.out.only n6
    have E6xa : Hid (Strs B w6 (.slice (some ⟨hh3, 0, none⟩) (n + 1) kk3) (n + 1)) := E5xa.out.only n6
    clear c6 n6 o6 t6
    obtain ⟨ns7, hl7, hgB7, hgw7, hcc7⟩ := I6.out.cells
    have HCC7 : Hid (_) := hcc7
    have hBw7 := C6.out.size
    clear hcc7
    go_wp2_with (at_builtin; refine grow_num _ rfl _ _ rfl w6.heap.size _ [] rfl num_empty (by intro e; cases e) gt (n) ct ns7 rfl hl7 (fun q hq => old_cell hgw7 (HCC7.out q hq) _) (n) (by simp) (by omega) (by simp) ?_)
    intro gg7 cc7 u7 oo7 bb7
    have zz7 := bb7.size
    have OO7 : Hid (ownN u7 w6.heap.size (.slice (some ⟨gg7, 0, none⟩) (n) cc7) ns7) := oo7
    have BB7 : Hid (Below w6.heap.size w6 u7) := ((Below.refl _ w6).alloc (Nat.le_refl _) _).trans bb7
    have hu7 : w6.heap.size < u7.heap.size := by simp at zz7; omega
    clear oo7 bb7 zz7
    go_wp2_with (at_builtin; refine grow_num _ rfl _ _ rfl w6.heap.size _ ns7 rfl (World.ownsRow.alloc OO7.out _) (by intro e; cases e) u7.heap.size 1 1 [T] rfl rfl (row_ints u7 [T] 3 _ rfl) (n + 1) (by rw [hl7]) (by omega) (by simp; omega) ?_)
    intro hh7 kk7 w7 pp7 dd7
    have eb7 : Below w6.heap.size w6 w7 := (BB7.out.alloc (by omega) _).trans dd7
    have n7 : Only B w6 w7 := Only.of_below eb7
    have C7 : Hid (CurAt a len cap zs B w7 _) := curAt_below C6.out eb7 hBw7
    have N7 : Hid (Only B w0 w7) := N6.out.trans n7
    have S7 : Hid (Strs B w7 (.slice (some ⟨gn, 0, none⟩) n cn) n) := S6.out.only n7
    have I7 : Hid (Ints B w7 (.slice (some ⟨gt, 0, none⟩) n ct) n) := I6.out.only n7
    have O7x6 : Hid (ownNod w7 w0.heap.size (.slice b6 l6.length k6) l6) := ownNod_only O6x6.out n7 hBw
    have E7xa : Hid (Strs B w7 (.slice (some ⟨hh3, 0, none⟩) (n + 1) kk3) (n + 1)) := E6xa.out.only n7
    have E7xb : Hid (Ints B w7 (.slice (some ⟨hh7, 0, none⟩) (n + 1) kk7) (n + 1)) := ownN.ints pp7 (by simp [hl7]) hBw7
    clear n7 eb7 pp7 dd7 OO7 BB7 HCC7
    go_wp2_with fail
    refine (HG.out a len cap zs B w7 _ ty (deep - 1) (.slice (some ⟨hh3, 0, none⟩) (n + 1) kk3) (.slice (some ⟨hh7, 0, none⟩) (n + 1) kk7) (n + 1) C7.out (mu_less1 ty hd1 hdf) (by omega) (by omega) (by omega) (by omega) E7xa.out E7xb.out).mono ?_
    rintro e w8 ⟨v8, l8, s8, rfl, o8, p8, m8, t8, c8, n8⟩
    obtain ⟨b8, g8, k8, sp8, rfl, -⟩ := ownNod_form o8
    have O8x8 : Hid (ownNod w8 w0.heap.size (.slice b8 l8.length k8) l8) := ownNod_base o8 N7.out.grow
    have T8 : Hid (Trim l8) := t8
    have C8 : Hid (CurAt a len cap zs B w8 s8) := c8
    have N8 : Hid (Only B w0 w8) := N7.out.trans n8
    have S8 : Hid (Strs B w8 (.slice (some ⟨gn, 0, none⟩) n cn) n) := S7.out.only n8
    have I8 : Hid (Ints B w8 (.slice (some ⟨gt, 0, none⟩) n ct) n) := I7.out.only n8
    have O8x6 : Hid (ownNod w8 w0.heap.size (.slice b6 l6.length k6) l6) := ownNod_only O7x6.out n8 hBw
    have E8xa : Hid (Strs B w8 (.slice (some ⟨hh3, 0, none⟩) (n + 1) kk3) (n + 1)) := E7xa.out.only n8
    have E8xb : Hid (Ints B w8 (.slice (some ⟨hh7, 0, none⟩) (n + 1) kk7) (n + 1)) := E7xb.out.only n8
    clear c8 n8 o8 t8
    have hP := HP.out
    go_wp2_with fail
    refine (make2 ⟨5, 0, 0, 0, 0, X, ⟨#[]⟩⟩ (trim_node (hzX) (by decide)) w8 w0.heap.size (.slice b6 l6.length k6) (.slice b8 l8.length k8) l6 l8 O8x6.out O8x8.out p6 p8 T6.out T8.out (by omega)).mono ?_
    rintro e we ⟨ve, le, rfl, oe, qe, te, be⟩
    have D : Hid (DrawEnd a len cap zs B w0 (4 ^ (f + 1)) (.returned ve) we) := draw_end N8.out C8.out be oe (by omega) (by omega) te
    clear be oe te
    go_wp2
    go_ret
    exact D.out
  · obtain ⟨ns5, hl5, hgB5, hgw5, hz5, hcc5⟩ := E4xa.out.cells
    have HZ5 : Hid (∀ t ∈ ns5, Fit9 t) := sizes_mem hl5 hz5
    have HCC5 : Hid (_) := hcc5
    have hBw5 := C4.out.size
    clear hcc5 hz5
    go_wp2_with (at_builtin; refine grow_str _ rfl _ _ rfl w4.heap.size _ [] rfl str_empty (by intro e; cases e) hh3 (n + 1) kk3 ns5 rfl hl5 (fun q hq => old_cell hgw5 (HCC5.out q hq) _) (n + 1) (by simp) (by omega) (by simp) ?_)
    intro gg5 cc5 u5 oo5 bb5
    have zz5 := bb5.size
    have OO5 : Hid (ownS u5 w4.heap.size (.slice (some ⟨gg5, 0, none⟩) (n + 1) cc5) ns5) := oo5
    have BB5 : Hid (Below w4.heap.size w4 u5) := ((Below.refl _ w4).alloc (Nat.le_refl _) _).trans bb5
    have hu5 : w4.heap.size < u5.heap.size := by simp at zz5; omega
    clear oo5 bb5 zz5
    go_wp2_with (at_builtin; refine grow_str _ rfl _ _ rfl w4.heap.size _ ns5 rfl (World.ownsRow.alloc OO5.out _) (by intro e; cases e) u5.heap.size 1 1 [Y] rfl rfl (row_new u5 [Y] 9 _ rfl) (n + 1 + 1) (by rw [hl5]) (by omega) (by simp; omega) ?_)
    intro hh5 kk5 w5 pp5 dd5
    have eb5 : Below w4.heap.size w4 w5 := (BB5.out.alloc (by omega) _).trans dd5
    have n5 : Only B w4 w5 := Only.of_below eb5
    have C5 : Hid (CurAt a len cap zs B w5 _) := curAt_below C4.out eb5 hBw5
    have N5 : Hid (Only B w0 w5) := N4.out.trans n5
    have S5 : Hid (Strs B w5 (.slice (some ⟨gn, 0, none⟩) n cn) n) := S4.out.only n5
    have I5 : Hid (Ints B w5 (.slice (some ⟨gt, 0, none⟩) n ct) n) := I4.out.only n5
    have E5xa : Hid (Strs B w5 (.slice (some ⟨hh3, 0, none⟩) (n + 1) kk3) (n + 1)) := E4xa.out.only n5
    have E5xc : Hid (Strs B w5 (.slice (some ⟨hh5, 0, none⟩) (n + 1 + 1) kk5) (n + 1 + 1)) := ownS.strs pp5 (by simp [hl5]) hBw5 (by intro t ht; rcases List.mem_append.1 ht with ht | ht; exact HZ5.out t ht; simp at ht; subst ht; exact hzY)
    clear n5 eb5 pp5 dd5 OO5 BB5 HCC5 HZ5
    obtain ⟨ns6, hl6, hgB6, hgw6, hcc6⟩ := I5.out.cells
    have HCC6 : Hid (_) := hcc6
    have hBw6 := C5.out.size
    clear hcc6
    go_wp2_with (at_builtin; refine grow_num _ rfl _ _ rfl w5.heap.size _ [] rfl num_empty (by intro e; cases e) gt (n) ct ns6 rfl hl6 (fun q hq => old_cell hgw6 (HCC6.out q hq) _) (n) (by simp) (by omega) (by simp) ?_)
    intro gg6 cc6 u6 oo6 bb6
    have zz6 := bb6.size
    have OO6 : Hid (ownN u6 w5.heap.size (.slice (some ⟨gg6, 0, none⟩) (n) cc6) ns6) := oo6
    have BB6 : Hid (Below w5.heap.size w5 u6) := ((Below.refl _ w5).alloc (Nat.le_refl _) _).trans bb6
    have hu6 : w5.heap.size < u6.heap.size := by simp at zz6; omega
    clear oo6 bb6 zz6
    go_wp2_with (at_builtin; refine grow_num _ rfl _ _ rfl w5.heap.size _ ns6 rfl (World.ownsRow.alloc OO6.out _) (by intro e; cases e) u6.heap.size 2 2 [1, 0] rfl rfl (row_ints u6 [1, 0] 3 _ rfl) (n + 2) (by rw [hl6]) (by omega) (by simp; omega) ?_)
    intro hh6 kk6 w6 pp6 dd6
    have eb6 : Below w5.heap.size w5 w6 := (BB6.out.alloc (by omega) _).trans dd6
    have n6 : Only B w5 w6 := Only.of_below eb6
    have C6 : Hid (CurAt a len cap zs B w6 _) := curAt_below C5.out eb6 hBw6
    have N6 : Hid (Only B w0 w6) := N5.out.trans n6
    have S6 : Hid (Strs B w6 (.slice (some ⟨gn, 0, none⟩) n cn) n) := S5.out.only n6
    have I6 : Hid (Ints B w6 (.slice (some ⟨gt, 0, none⟩) n ct) n) := I5.out.only n6
    have E6xa : Hid (Strs B w6 (.slice (some ⟨hh3, 0, none⟩) (n + 1) kk3) (n + 1)) := E5xa.out.only n6
    have E6xc : Hid (Strs B w6 (.slice (some ⟨hh5, 0, none⟩) (n + 1 + 1) kk5) (n + 1 + 1)) := E5xc.out.only n6
    have E6xb : Hid (Ints B w6 (.slice (some ⟨hh6, 0, none⟩) (n + 2) kk6) (n + 2)) := ownN.ints pp6 (by simp [hl6]) hBw6
    clear n6 eb6 pp6 dd6 OO6 BB6 HCC6

    go_wp2_with fail
    refine (HG.out a len cap zs B w6 _ 0 (deep - 1) (.slice (some ⟨hh5, 0, none⟩) (n + 1 + 1) kk5) (.slice (some ⟨hh6, 0, none⟩) (n + 2) kk6) (n + 1 + 1) C6.out (mu_less1 0 hd1 hdf) (by omega) (by omega) (by omega) (by omega) E6xc.out E6xb.out).mono ?_
    rintro e w7 ⟨v7, l7, s7, rfl, o7, p7, m7, t7, c7, n7⟩
    obtain ⟨b7, g7, k7, sp7, rfl, -⟩ := ownNod_form o7
    have O7x7 : Hid (ownNod w7 w0.heap.size (.slice b7 l7.length k7) l7) := ownNod_base o7 N6.out.grow
    have T7 : Hid (Trim l7) := t7
    have C7 : Hid (CurAt a len cap zs B w7 s7) := c7
    have N7 : Hid (Only B w0 w7) := N6.out.trans n7
    have S7 : Hid (Strs B w7 (.slice (some ⟨gn, 0, none⟩) n cn) n) := S6.out.only n7
    have I7 : Hid (Ints B w7 (.slice (some ⟨gt, 0, none⟩) n ct) n) := I6.out.only n7
    have E7xa : Hid (Strs B w7 (.slice (some ⟨hh3, 0, none⟩) (n + 1) kk3) (n + 1)) := E6xa.out.only n7
    have E7xc : Hid (Strs B w7 (.slice (some ⟨hh5, 0, none⟩) (n + 1 + 1) kk5) (n + 1 + 1)) := E6xc.out.only n7
    have E7xb : Hid (Ints B w7 (.slice (some ⟨hh6, 0, none⟩) (n + 2) kk6) (n + 2)) := E6xb.out.only n7
    clear c7 n7 o7 t7
    obtain ⟨ns8, hl8, hgB8, hgw8, hcc8⟩ := I7.out.cells
    have HCC8 : Hid (_) := hcc8
    have hBw8 := C7.out.size
    clear hcc8
    go_wp2_with (at_builtin; refine grow_num _ rfl _ _ rfl w7.heap.size _ [] rfl num_empty (by intro e; cases e) gt (n) ct ns8 rfl hl8 (fun q hq => old_cell hgw8 (HCC8.out q hq) _) (n) (by simp) (by omega) (by simp) ?_)
    intro gg8 cc8 u8 oo8 bb8
    have zz8 := bb8.size
    have OO8 : Hid (ownN u8 w7.heap.size (.slice (some ⟨gg8, 0, none⟩) (n) cc8) ns8) := oo8
    have BB8 : Hid (Below w7.heap.size w7 u8) := ((Below.refl _ w7).alloc (Nat.le_refl _) _).trans bb8
    have hu8 : w7.heap.size < u8.heap.size := by simp at zz8; omega
    clear oo8 bb8 zz8
    go_wp2_with (at_builtin; refine grow_num _ rfl _ _ rfl w7.heap.size _ ns8 rfl (World.ownsRow.alloc OO8.out _) (by intro e; cases e) u8.heap.size 1 1 [1] rfl rfl (row_ints u8 [1] 3 _ rfl) (n + 1) (by rw [hl8]) (by omega) (by simp; omega) ?_)
    intro hh8 kk8 w8 pp8 dd8
    have eb8 : Below w7.heap.size w7 w8 := (BB8.out.alloc (by omega) _).trans dd8
    have n8 : Only B w7 w8 := Only.of_below eb8
    have C8 : Hid (CurAt a len cap zs B w8 _) := curAt_below C7.out eb8 hBw8
    have N8 : Hid (Only B w0 w8) := N7.out.trans n8
    have S8 : Hid (Strs B w8 (.slice (some ⟨gn, 0, none⟩) n cn) n) := S7.out.only n8
    have I8 : Hid (Ints B w8 (.slice (some ⟨gt, 0, none⟩) n ct) n) := I7.out.only n8
    have O8x7 : Hid (ownNod w8 w0.heap.size (.slice b7 l7.length k7) l7) := ownNod_only O7x7.out n8 hBw
    have E8xa : Hid (Strs B w8 (.slice (some ⟨hh3, 0, none⟩) (n + 1) kk3) (n + 1)) := E7xa.out.only n8
    have E8xc : Hid (Strs B w8 (.slice (some ⟨hh5, 0, none⟩) (n + 1 + 1) kk5) (n + 1 + 1)) := E7xc.out.only n8
    have E8xb : Hid (Ints B w8 (.slice (some ⟨hh6, 0, none⟩) (n + 2) kk6) (n + 2)) := E7xb.out.only n8
    have E8xd : Hid (Ints B w8 (.slice (some ⟨hh8, 0, none⟩) (n + 1) kk8) (n + 1)) := ownN.ints pp8 (by simp [hl8]) hBw8
    clear n8 eb8 pp8 dd8 OO8 BB8 HCC8
    go_wp2_with fail
    refine (HG.out a len cap zs B w8 _ ty (deep - 1) (.slice (some ⟨hh3, 0, none⟩) (n + 1) kk3) (.slice (some ⟨hh8, 0, none⟩) (n + 1) kk8) (n + 1) C8.out (mu_less1 ty hd1 hdf) (by omega) (by omega) (by omega) (by omega) E8xa.out E8xd.out).mono ?_
    rintro e w9 ⟨v9, l9, s9, rfl, o9, p9, m9, t9, c9, n9⟩
    obtain ⟨b9, g9, k9, sp9, rfl, -⟩ := ownNod_form o9
    have O9x9 : Hid (ownNod w9 w0.heap.size (.slice b9 l9.length k9) l9) := ownNod_base o9 N8.out.grow
    have T9 : Hid (Trim l9) := t9
    have C9 : Hid (CurAt a len cap zs B w9 s9) := c9
    have N9 : Hid (Only B w0 w9) := N8.out.trans n9
    have S9 : Hid (Strs B w9 (.slice (some ⟨gn, 0, none⟩) n cn) n) := S8.out.only n9
    have I9 : Hid (Ints B w9 (.slice (some ⟨gt, 0, none⟩) n ct) n) := I8.out.only n9
    have O9x7 : Hid (ownNod w9 w0.heap.size (.slice b7 l7.length k7) l7) := ownNod_only O8x7.out n9 hBw
    have E9xa : Hid (Strs B w9 (.slice (some ⟨hh3, 0, none⟩) (n + 1) kk3) (n + 1)) := E8xa.out.only n9
    have E9xc : Hid (Strs B w9 (.slice (some ⟨hh5, 0, none⟩) (n + 1 + 1) kk5) (n + 1 + 1)) := E8xc.out.only n9
    have E9xb : Hid (Ints B w9 (.slice (some ⟨hh6, 0, none⟩) (n + 2) kk6) (n + 2)) := E8xb.out.only n9
    have E9xd : Hid (Ints B w9 (.slice (some ⟨hh8, 0, none⟩) (n + 1) kk8) (n + 1)) := E8xd.out.only n9
    clear c9 n9 o9 t9
    have hP := HP.out
    go_wp2_with fail
    refine (make2 ⟨6, 0, 0, 0, 0, X, Y⟩ (trim_node (hzX) (hzY)) w9 w0.heap.size (.slice b7 l7.length k7) (.slice b9 l9.length k9) l7 l9 O9x7.out O9x9.out p7 p9 T7.out T9.out (by omega)).mono ?_
    rintro e we ⟨ve, le, rfl, oe, qe, te, be⟩
    have D : Hid (DrawEnd a len cap zs B w0 (4 ^ (f + 1)) (.returned ve) we) := draw_end N9.out C9.out be oe (by omega) (by omega) te
    clear be oe te
    go_wp2
    go_ret
    exact D.out
  · go_wp2_with fail
    refine (HG.out a len cap zs B w4 _ 0 (deep - 2) (.slice (some ⟨gn, 0, none⟩) n cn) (.slice (some ⟨gt, 0, none⟩) n ct) (n) C4.out (mu_less2 0 hd1 hdf) (by omega) (by omega) (by omega) (by omega) S4.out I4.out).mono ?_
    rintro e w5 ⟨v5, l5, s5, rfl, o5, p5, m5, t5, c5, n5⟩
    obtain ⟨b5, g5, k5, sp5, rfl, -⟩ := ownNod_form o5
    have O5x5 : Hid (ownNod w5 w0.heap.size (.slice b5 l5.length k5) l5) := ownNod_base o5 N4.out.grow
    have T5 : Hid (Trim l5) := t5
    have C5 : Hid (CurAt a len cap zs B w5 s5) := c5
    have N5 : Hid (Only B w0 w5) := N4.out.trans n5
    have S5 : Hid (Strs B w5 (.slice (some ⟨gn, 0, none⟩) n cn) n) := S4.out.only n5
    have I5 : Hid (Ints B w5 (.slice (some ⟨gt, 0, none⟩) n ct) n) := I4.out.only n5
    have E5xa : Hid (Strs B w5 (.slice (some ⟨hh3, 0, none⟩) (n + 1) kk3) (n + 1)) := E4xa.out.only n5
    clear c5 n5 o5 t5
    go_wp2_with fail
    refine (HG.out a len cap zs B w5 _ ty (deep - 1) (.slice (some ⟨gn, 0, none⟩) n cn) (.slice (some ⟨gt, 0, none⟩) n ct) (n) C5.out (mu_less1 ty hd1 hdf) (by omega) (by omega) (by omega) (by omega) S5.out I5.out).mono ?_
    rintro e w6 ⟨v6, l6, s6, rfl, o6, p6, m6, t6, c6, n6⟩
    obtain ⟨b6, g6, k6, sp6, rfl, -⟩ := ownNod_form o6
    have O6x6 : Hid (ownNod w6 w0.heap.size (.slice b6 l6.length k6) l6) := ownNod_base o6 N5.out.grow
    have T6 : Hid (Trim l6) := t6
    have C6 : Hid (CurAt a len cap zs B w6 s6) := c6
    have N6 : Hid (Only B w0 w6) := N5.out.trans n6
    have S6 : Hid (Strs B w6 (.slice (some ⟨gn, 0, none⟩) n cn) n) := S5.out.only n6
    have I6 : Hid (Ints B w6 (.slice (some ⟨gt, 0, none⟩) n ct) n) := I5.out.only n6
    have O6x5 : Hid (ownNod w6 w0.heap.size (.slice b5 l5.length k5) l5) := ownNod_only O5x5.out n6 hBw
    have E6xa : Hid (Strs B w6 (.slice (some ⟨hh3, 0, none⟩) (n + 1) kk3) (n + 1)) := E5xa.out.only n6
    clear c6 n6 o6 t6
    go_wp2_with fail
    refine (HG.out a len cap zs B w6 _ ty (deep - 2) (.slice (some ⟨gn, 0, none⟩) n cn) (.slice (some ⟨gt, 0, none⟩) n ct) (n) C6.out (mu_less2 ty hd1 hdf) (by omega) (by omega) (by omega) (by omega) S6.out I6.out).mono ?_
    rintro e w7 ⟨v7, l7, s7, rfl, o7, p7, m7, t7, c7, n7⟩
    obtain ⟨b7, g7, k7, sp7, rfl, -⟩ := ownNod_form o7
    have O7x7 : Hid (ownNod w7 w0.heap.size (.slice b7 l7.length k7) l7) := ownNod_base o7 N6.out.grow
    have T7 : Hid (Trim l7) := t7
    have C7 : Hid (CurAt a len cap zs B w7 s7) := c7
    have N7 : Hid (Only B w0 w7) := N6.out.trans n7
    have S7 : Hid (Strs B w7 (.slice (some ⟨gn, 0, none⟩) n cn) n) := S6.out.only n7
    have I7 : Hid (Ints B w7 (.slice (some ⟨gt, 0, none⟩) n ct) n) := I6.out.only n7
    have O7x5 : Hid (ownNod w7 w0.heap.size (.slice b5 l5.length k5) l5) := ownNod_only O6x5.out n7 hBw
    have O7x6 : Hid (ownNod w7 w0.heap.size (.slice b6 l6.length k6) l6) := ownNod_only O6x6.out n7 hBw
    have E7xa : Hid (Strs B w7 (.slice (some ⟨hh3, 0, none⟩) (n + 1) kk3) (n + 1)) := E6xa.out.only n7
    clear c7 n7 o7 t7
    have hP := HP.out
    go_wp2_with fail
    refine (make3 ⟨7, 0, 0, 0, 0, ⟨#[]⟩, ⟨#[]⟩⟩ (trim_node (by decide) (by decide)) w7 w0.heap.size (.slice b5 l5.length k5) (.slice b6 l6.length k6) (.slice b7 l7.length k7) l5 l6 l7 O7x5.out O7x6.out O7x7.out p5 p6 p7 T5.out T6.out T7.out (by omega)).mono ?_
    rintro e we ⟨ve, le, rfl, oe, qe, te, be⟩
    have D : Hid (DrawEnd a len cap zs B w0 (4 ^ (f + 1)) (.returned ve) we) := draw_end N7.out C7.out be oe (by omega) (by omega) te
    clear be oe te
    go_wp2
    go_ret
    exact D.out
  · obtain ⟨ns5, hl5, hgB5, hgw5, hz5, hcc5⟩ := E4xa.out.cells
    have HZ5 : Hid (∀ t ∈ ns5, Fit9 t) := sizes_mem hl5 hz5
    have HCC5 : Hid (_) := hcc5
    have hBw5 := C4.out.size
    clear hcc5 hz5
    go_wp2_with (at_builtin; refine grow_str _ rfl _ _ rfl w4.heap.size _ [] rfl str_empty (by intro e; cases e) hh3 (n + 1) kk3 ns5 rfl hl5 (fun q hq => old_cell hgw5 (HCC5.out q hq) _) (n + 1) (by simp) (by omega) (by simp) ?_)
    intro gg5 cc5 u5 oo5 bb5
    have zz5 := bb5.size
    have OO5 : Hid (ownS u5 w4.heap.size (.slice (some ⟨gg5, 0, none⟩) (n + 1) cc5) ns5) := oo5
    have BB5 : Hid (Below w4.heap.size w4 u5) := ((Below.refl _ w4).alloc (Nat.le_refl _) _).trans bb5
    have hu5 : w4.heap.size < u5.heap.size := by simp at zz5; omega
    clear oo5 bb5 zz5
    go_wp2_with (at_builtin; refine grow_str _ rfl _ _ rfl w4.heap.size _ ns5 rfl (World.ownsRow.alloc OO5.out _) (by intro e; cases e) u5.heap.size 1 1 [Y] rfl rfl (row_new u5 [Y] 9 _ rfl) (n + 1 + 1) (by rw [hl5]) (by omega) (by simp; omega) ?_)
    intro hh5 kk5 w5 pp5 dd5
    have eb5 : Below w4.heap.size w4 w5 := (BB5.out.alloc (by omega) _).trans dd5
    have n5 : Only B w4 w5 := Only.of_below eb5
    have C5 : Hid (CurAt a len cap zs B w5 _) := curAt_below C4.out eb5 hBw5
    have N5 : Hid (Only B w0 w5) := N4.out.trans n5
    have S5 : Hid (Strs B w5 (.slice (some ⟨gn, 0, none⟩) n cn) n) := S4.out.only n5
    have I5 : Hid (Ints B w5 (.slice (some ⟨gt, 0, none⟩) n ct) n) := I4.out.only n5
    have E5xa : Hid (Strs B w5 (.slice (some ⟨hh3, 0, none⟩) (n + 1) kk3) (n + 1)) := E4xa.out.only n5
    have E5xc : Hid (Strs B w5 (.slice (some ⟨hh5, 0, none⟩) (n + 1 + 1) kk5) (n + 1 + 1)) := ownS.strs pp5 (by simp [hl5]) hBw5 (by intro t ht; rcases List.mem_append.1 ht with ht | ht; exact HZ5.out t ht; simp at ht; subst ht; exact hzY)
    clear n5 eb5 pp5 dd5 OO5 BB5 HCC5 HZ5
    go_wp2_with fail
    refine (HG.out a len cap zs B w5 _ 3 (deep - 1) (.slice (some ⟨gn, 0, none⟩) n cn) (.slice (some ⟨gt, 0, none⟩) n ct) (n) C5.out (mu_less1 3 hd1 hdf) (by omega) (by omega) (by omega) (by omega) S5.out I5.out).mono ?_
    rintro e w6 ⟨v6, l6, s6, rfl, o6, p6, m6, t6, c6, n6⟩
    obtain ⟨b6, g6, k6, sp6, rfl, -⟩ := ownNod_form o6
    have O6x6 : Hid (ownNod w6 w0.heap.size (.slice b6 l6.length k6) l6) := ownNod_base o6 N5.out.grow
    have T6 : Hid (Trim l6) := t6
    have C6 : Hid (CurAt a len cap zs B w6 s6) := c6
    have N6 : Hid (Only B w0 w6) := N5.out.trans n6
    have S6 : Hid (Strs B w6 (.slice (some ⟨gn, 0, none⟩) n cn) n) := S5.out.only n6
    have I6 : Hid (Ints B w6 (.slice (some ⟨gt, 0, none⟩) n ct) n) := I5.out.only n6
    have E6xa : Hid (Strs B w6 (.slice (some ⟨hh3, 0, none⟩) (n + 1) kk3) (n + 1)) := E5xa.out.only n6
    have E6xc : Hid (Strs B w6 (.slice (some ⟨hh5, 0, none⟩) (n + 1 + 1) kk5) (n + 1 + 1)) := E5xc.out.only n6
    clear c6 n6 o6 t6
    go_wp2_with fail
    refine (HG.out a len cap zs B w6 _ ty (deep - 2) (.slice (some ⟨gn, 0, none⟩) n cn) (.slice (some ⟨gt, 0, none⟩) n ct) (n) C6.out (mu_less2 ty hd1 hdf) (by omega) (by omega) (by omega) (by omega) S6.out I6.out).mono ?_
    rintro e w7 ⟨v7, l7, s7, rfl, o7, p7, m7, t7, c7, n7⟩
    obtain ⟨b7, g7, k7, sp7, rfl, -⟩ := ownNod_form o7
    have O7x7 : Hid (ownNod w7 w0.heap.size (.slice b7 l7.length k7) l7) := ownNod_base o7 N6.out.grow
    have T7 : Hid (Trim l7) := t7
    have C7 : Hid (CurAt a len cap zs B w7 s7) := c7
    have N7 : Hid (Only B w0 w7) := N6.out.trans n7
    have S7 : Hid (Strs B w7 (.slice (some ⟨gn, 0, none⟩) n cn) n) := S6.out.only n7
    have I7 : Hid (Ints B w7 (.slice (some ⟨gt, 0, none⟩) n ct) n) := I6.out.only n7
    have O7x6 : Hid (ownNod w7 w0.heap.size (.slice b6 l6.length k6) l6) := ownNod_only O6x6.out n7 hBw
    have E7xa : Hid (Strs B w7 (.slice (some ⟨hh3, 0, none⟩) (n + 1) kk3) (n + 1)) := E6xa.out.only n7
    have E7xc : Hid (Strs B w7 (.slice (some ⟨hh5, 0, none⟩) (n + 1 + 1) kk5) (n + 1 + 1)) := E6xc.out.only n7
    clear c7 n7 o7 t7
    obtain ⟨ns8, hl8, hgB8, hgw8, hcc8⟩ := I7.out.cells
    have HCC8 : Hid (_) := hcc8
    have hBw8 := C7.out.size
    clear hcc8
    go_wp2_with (at_builtin; refine grow_num _ rfl _ _ rfl w7.heap.size _ [] rfl num_empty (by intro e; cases e) gt (n) ct ns8 rfl hl8 (fun q hq => old_cell hgw8 (HCC8.out q hq) _) (n) (by simp) (by omega) (by simp) ?_)
    intro gg8 cc8 u8 oo8 bb8
    have zz8 := bb8.size
    have OO8 : Hid (ownN u8 w7.heap.size (.slice (some ⟨gg8, 0, none⟩) (n) cc8) ns8) := oo8
    have BB8 : Hid (Below w7.heap.size w7 u8) := ((Below.refl _ w7).alloc (Nat.le_refl _) _).trans bb8
    have hu8 : w7.heap.size < u8.heap.size := by simp at zz8; omega
    clear oo8 bb8 zz8
    go_wp2_with (at_builtin; refine grow_num _ rfl _ _ rfl w7.heap.size _ ns8 rfl (World.ownsRow.alloc OO8.out _) (by intro e; cases e) u8.heap.size 2 2 [0, 3] rfl rfl (row_ints u8 [0, 3] 3 _ rfl) (n + 2) (by rw [hl8]) (by omega) (by simp; omega) ?_)
    intro hh8 kk8 w8 pp8 dd8
    have eb8 : Below w7.heap.size w7 w8 := (BB8.out.alloc (by omega) _).trans dd8
    have n8 : Only B w7 w8 := Only.of_below eb8
    have C8 : Hid (CurAt a len cap zs B w8 _) := curAt_below C7.out eb8 hBw8
    have N8 : Hid (Only B w0 w8) := N7.out.trans n8
    have S8 : Hid (Strs B w8 (.slice (some ⟨gn, 0, none⟩) n cn) n) := S7.out.only n8
    have I8 : Hid (Ints B w8 (.slice (some ⟨gt, 0, none⟩) n ct) n) := I7.out.only n8
    have O8x6 : Hid (ownNod w8 w0.heap.size (.slice b6 l6.length k6) l6) := ownNod_only O7x6.out n8 hBw
    have O8x7 : Hid (ownNod w8 w0.heap.size (.slice b7 l7.length k7) l7) := ownNod_only O7x7.out n8 hBw
    have E8xa : Hid (Strs B w8 (.slice (some ⟨hh3, 0, none⟩) (n + 1) kk3) (n + 1)) := E7xa.out.only n8
    have E8xc : Hid (Strs B w8 (.slice (some ⟨hh5, 0, none⟩) (n + 1 + 1) kk5) (n + 1 + 1)) := E7xc.out.only n8
    have E8xb : Hid (Ints B w8 (.slice (some ⟨hh8, 0, none⟩) (n + 2) kk8) (n + 2)) := ownN.ints pp8 (by simp [hl8]) hBw8
    clear n8 eb8 pp8 dd8 OO8 BB8 HCC8
    go_wp2_with fail
    refine (HG.out a len cap zs B w8 _ ty (deep - 1) (.slice (some ⟨hh5, 0, none⟩) (n + 1 + 1) kk5) (.slice (some ⟨hh8, 0, none⟩) (n + 2) kk8) (n + 1 + 1) C8.out (mu_less1 ty hd1 hdf) (by omega) (by omega) (by omega) (by omega) E8xc.out E8xb.out).mono ?_
    rintro e w9 ⟨v9, l9, s9, rfl, o9, p9, m9, t9, c9, n9⟩
    obtain ⟨b9, g9, k9, sp9, rfl, -⟩ := ownNod_form o9
    have O9x9 : Hid (ownNod w9 w0.heap.size (.slice b9 l9.length k9) l9) := ownNod_base o9 N8.out.grow
    have T9 : Hid (Trim l9) := t9
    have C9 : Hid (CurAt a len cap zs B w9 s9) := c9
    have N9 : Hid (Only B w0 w9) := N8.out.trans n9
    have S9 : Hid (Strs B w9 (.slice (some ⟨gn, 0, none⟩) n cn) n) := S8.out.only n9
    have I9 : Hid (Ints B w9 (.slice (some ⟨gt, 0, none⟩) n ct) n) := I8.out.only n9
    have O9x6 : Hid (ownNod w9 w0.heap.size (.slice b6 l6.length k6) l6) := ownNod_only O8x6.out n9 hBw
    have O9x7 : Hid (ownNod w9 w0.heap.size (.slice b7 l7.length k7) l7) := ownNod_only O8x7.out n9 hBw
    have E9xa : Hid (Strs B w9 (.slice (some ⟨hh3, 0, none⟩) (n + 1) kk3) (n + 1)) := E8xa.out.only n9
    have E9xc : Hid (Strs B w9 (.slice (some ⟨hh5, 0, none⟩) (n + 1 + 1) kk5) (n + 1 + 1)) := E8xc.out.only n9
    have E9xb : Hid (Ints B w9 (.slice (some ⟨hh8, 0, none⟩) (n + 2) kk8) (n + 2)) := E8xb.out.only n9
    clear c9 n9 o9 t9
    have hP := HP.out
    go_wp2_with fail
    refine (make3 ⟨14, 0, 0, 0, 0, X, Y⟩ (trim_node (hzX) (hzY)) w9 w0.heap.size (.slice b6 l6.length k6) (.slice b7 l7.length k7) (.slice b9 l9.length k9) l6 l7 l9 O9x6.out O9x7.out O9x9.out p6 p7 p9 T6.out T7.out T9.out (by omega)).mono ?_
    rintro e we ⟨ve, le, rfl, oe, qe, te, be⟩
    have D : Hid (DrawEnd a len cap zs B w0 (4 ^ (f + 1)) (.returned ve) we) := draw_end N9.out C9.out be oe (by omega) (by omega) te
    clear be oe te
    go_wp2
    go_ret
    exact D.out
  · go_wp2_with fail
    refine (HG.out a len cap zs B w4 _ ty (deep - 1) (.slice (some ⟨gn, 0, none⟩) n cn) (.slice (some ⟨gt, 0, none⟩) n ct) (n) C4.out (mu_less1 ty hd1 hdf) (by omega) (by omega) (by omega) (by omega) S4.out I4.out).mono ?_
    rintro e w5 ⟨v5, l5, s5, rfl, o5, p5, m5, t5, c5, n5⟩
    obtain ⟨b5, g5, k5, sp5, rfl, -⟩ := ownNod_form o5
    have O5x5 : Hid (ownNod w5 w0.heap.size (.slice b5 l5.length k5) l5) := ownNod_base o5 N4.out.grow
    have T5 : Hid (Trim l5) := t5
    have C5 : Hid (CurAt a len cap zs B w5 s5) := c5
    have N5 : Hid (Only B w0 w5) := N4.out.trans n5
    have S5 : Hid (Strs B w5 (.slice (some ⟨gn, 0, none⟩) n cn) n) := S4.out.only n5
    have I5 : Hid (Ints B w5 (.slice (some ⟨gt, 0, none⟩) n ct) n) := I4.out.only n5
    have E5xa : Hid (Strs B w5 (.slice (some ⟨hh3, 0, none⟩) (n + 1) kk3) (n + 1)) := E4xa.out.only n5
    clear c5 n5 o5 t5
    obtain ⟨ns6, hl6, hgB6, hgw6, hcc6⟩ := I5.out.cells
    have HCC6 : Hid (_) := hcc6
    have hBw6 := C5.out.size
    clear hcc6
    go_wp2_with (at_builtin; refine grow_num _ rfl _ _ rfl w5.heap.size _ [] rfl num_empty (by intro e; cases e) gt (n) ct ns6 rfl hl6 (fun q hq => old_cell hgw6 (HCC6.out q hq) _) (n) (by simp) (by omega) (by simp) ?_)
    intro gg6 cc6 u6 oo6 bb6
    have zz6 := bb6.size
    have OO6 : Hid (ownN u6 w5.heap.size (.slice (some ⟨gg6, 0, none⟩) (n) cc6) ns6) := oo6
    have BB6 : Hid (Below w5.heap.size w5 u6) := ((Below.refl _ w5).alloc (Nat.le_refl _) _).trans bb6
    have hu6 : w5.heap.size < u6.heap.size := by simp at zz6; omega
    clear oo6 bb6 zz6
    go_wp2_with (at_builtin; refine grow_num _ rfl _ _ rfl w5.heap.size _ ns6 rfl (World.ownsRow.alloc OO6.out _) (by intro e; cases e) u6.heap.size 1 1 [0] rfl rfl (row_ints u6 [0] 3 _ rfl) (n + 1) (by rw [hl6]) (by omega) (by simp; omega) ?_)
    intro hh6 kk6 w6 pp6 dd6
    have eb6 : Below w5.heap.size w5 w6 := (BB6.out.alloc (by omega) _).trans dd6
    have n6 : Only B w5 w6 := Only.of_below eb6
    have C6 : Hid (CurAt a len cap zs B w6 _) := curAt_below C5.out eb6 hBw6
    have N6 : Hid (Only B w0 w6) := N5.out.trans n6
    have S6 : Hid (Strs B w6 (.slice (some ⟨gn, 0, none⟩) n cn) n) := S5.out.only n6
    have I6 : Hid (Ints B w6 (.slice (some ⟨gt, 0, none⟩) n ct) n) := I5.out.only n6
    have O6x5 : Hid (ownNod w6 w0.heap.size (.slice b5 l5.length k5) l5) := ownNod_only O5x5.out n6 hBw
    have E6xa : Hid (Strs B w6 (.slice (some ⟨hh3, 0, none⟩) (n + 1) kk3) (n + 1)) := E5xa.out.only n6
    have E6xb : Hid (Ints B w6 (.slice (some ⟨hh6, 0, none⟩) (n + 1) kk6) (n + 1)) := ownN.ints pp6 (by simp [hl6]) hBw6
    clear n6 eb6 pp6 dd6 OO6 BB6 HCC6
    go_wp2_with fail
    refine (HG.out a len cap zs B w6 _ ty (deep - 2) (.slice (some ⟨hh3, 0, none⟩) (n + 1) kk3) (.slice (some ⟨hh6, 0, none⟩) (n + 1) kk6) (n + 1) C6.out (mu_less2 ty hd1 hdf) (by omega) (by omega) (by omega) (by omega) E6xa.out E6xb.out).mono ?_
    rintro e w7 ⟨v7, l7, s7, rfl, o7, p7, m7, t7, c7, n7⟩
    obtain ⟨b7, g7, k7, sp7, rfl, -⟩ := ownNod_form o7
    have O7x7 : Hid (ownNod w7 w0.heap.size (.slice b7 l7.length k7) l7) := ownNod_base o7 N6.out.grow
    have T7 : Hid (Trim l7) := t7
    have C7 : Hid (CurAt a len cap zs B w7 s7) := c7
    have N7 : Hid (Only B w0 w7) := N6.out.trans n7
    have S7 : Hid (Strs B w7 (.slice (some ⟨gn, 0, none⟩) n cn) n) := S6.out.only n7
    have I7 : Hid (Ints B w7 (.slice (some ⟨gt, 0, none⟩) n ct) n) := I6.out.only n7
    have O7x5 : Hid (ownNod w7 w0.heap.size (.slice b5 l5.length k5) l5) := ownNod_only O6x5.out n7 hBw
    have E7xa : Hid (Strs B w7 (.slice (some ⟨hh3, 0, none⟩) (n + 1) kk3) (n + 1)) := E6xa.out.only n7
    have E7xb : Hid (Ints B w7 (.slice (some ⟨hh6, 0, none⟩) (n + 1) kk6) (n + 1)) := E6xb.out.only n7
    clear c7 n7 o7 t7
    have hP := HP.out
    go_wp2_with fail
    refine (make2 ⟨19, 0, 0, 0, 0, X, ⟨#[]⟩⟩ (trim_node (hzX) (by decide)) w7 w0.heap.size (.slice b5 l5.length k5) (.slice b7 l7.length k7) l5 l7 O7x5.out O7x7.out p5 p7 T5.out T7.out (by omega)).mono ?_
    rintro e we ⟨ve, le, rfl, oe, qe, te, be⟩
    have D : Hid (DrawEnd a len cap zs B w0 (4 ^ (f + 1)) (.returned ve) we) := draw_end N7.out C7.out be oe (by omega) (by omega) te
    clear be oe te
    go_wp2
    go_ret
    exact D.out
end Go.Proofs.YtobijbhgpgnfkaaGreatDoor
