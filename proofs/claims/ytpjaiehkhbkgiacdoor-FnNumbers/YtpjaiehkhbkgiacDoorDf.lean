/-
  The draws: a text is spoilt. Conditions: written at each theorem.
-/
import Derived.Test.YtpjaiehkhbkgiacDoorDe
namespace Go.Proofs.YtpjaiehkhbkgiacDoor
open Go.ChangeShapes Go.WideShapes Go.ChangeAt Go.RowKit
set_option linter.unusedVariables false

section
variable {a : Option Addr} {len cap : Nat} {zs : List Int} {B : Nat}

theorem spoilE_at {w : World} {s : Nat × Int} (h : CurAt a len cap zs B w s) (d : ByteArray) (hd : d.size = 0) :
    Calls Tryd.prog 25 #[.pointer (some ⟨B, 0, none⟩), .string d] w fun e w' => e = .returned (.string (strOfNums (textL zs len 3 s))) ∧ CurAt a len cap zs B w' (textS zs len 3 s) ∧ Only B w w' := by
  have H : Hid (CurAt a len cap zs B w s) := h
  clear h
  go_enter Tryd.func25, Tryd.ntmps25
  go_wp2_with fail
  refine (text_at H.out 3 (by omega) (by omega)).mono ?_
  rintro e w1 ⟨rfl, c1, b1⟩
  have C1 : Hid (CurAt a len cap zs B w1 (textS zs len 3 s)) := c1
  have B1 : Hid (Only B w w1) := b1
  clear c1 b1
  go_wp2
  go_ret
  exact ⟨rfl, C1.out, B1.out⟩

def spK (zs : List Int) (len : Nat) (d : ByteArray) (s : Nat × Int) : Nat := (belowV zs len d.size s).1.toNat
def spS (zs : List Int) (len : Nat) (d : ByteArray) (s : Nat × Int) : Nat × Int := (belowV zs len d.size s).2

theorem curAt_drew {w : World} {s : Nat × Int} (h : CurAt a len cap zs B w s) : CurAt a len cap zs B w.drew s :=
  ⟨⟨h.cur.c0, h.cur.c1, h.cur.c2, h.cur.f1, h.cur.f2⟩, h.row, h.small, h.low, h.size⟩
theorem curAt_drewN {w : World} {s : Nat × Int} (h : CurAt a len cap zs B w s) (n : Nat) : CurAt a len cap zs B (w.drewN n) s :=
  ⟨⟨h.cur.c0, h.cur.c1, h.cur.c2, h.cur.f1, h.cur.f2⟩, h.row, h.small, h.low, h.size⟩

theorem conv1 (w : World) (x : Int) : (convert 22 9 (.slice (some ⟨w.heap.size, 0, none⟩) 1 1)).run Tryd.prog (w.alloc (.cells #[.int .u8 x] 5)) =
    .ok (.string (strOfNums [x])) (w.alloc (.cells #[.int .u8 x] 5)) :=
  run_convert_bytes_arg _ 22 5 Tryd.underlying22 Tryd.underlying5 w.heap.size 0 1 1 [x] rfl (fun i hi => by
    obtain rfl : i = 0 := by omega
    rw [World.cell?_alloc_at _ _ _ _ rfl]
    rfl) 9 Tryd.underlying9

theorem name28 : (Tryd.f28.name == "runtime.NumGoroutine") = false := by kernel_rfl
theorem body28 : Tryd.f28.body.isNone = false := by kernel_rfl
theorem name26 : (Tryd.f26.name == "runtime.NumGoroutine") = false := by kernel_rfl
theorem body26 : Tryd.f26.body.isNone = false := by kernel_rfl

theorem spoil0_at {w : World} {s : Nat × Int} (h : CurAt a len cap zs B w s) (d : ByteArray) (hd : 0 < d.size) (hd2 : d.size ≤ 1000) (h0 : (belowV zs len 4 (spS zs len d s)).1 = 0) :
    Calls Tryd.prog 25 #[.pointer (some ⟨B, 0, none⟩), .string d] w fun e w' => e = .returned (.string (d.extract 0 (spK zs len d s) ++ d.extract (spK zs len d s + 1) d.size)) ∧ CurAt a len cap zs B w' (belowV zs len 4 (spS zs len d s)).2 ∧ Only B w w' := by
  have H : Hid (CurAt a len cap zs B w s) := h
  clear h
  have hr := belowV_range (zs := zs) (len := len) (d.size : Int) s (by omega)
  have hk : (belowV zs len d.size s).1 = (spK zs len d s : Nat) := by unfold spK; omega
  have hs : (belowV zs len d.size s).2 = spS zs len d s := rfl
  have hkl : spK zs len d s < d.size := by omega
  have hne : ((d.size : Int) == 0) = false := beq_eq_false_iff_ne.2 (by omega)
  clear hr
  generalize spK zs len d s = k at *
  generalize spS zs len d s = s1 at *
  go_enter Tryd.func25, Tryd.ntmps25
  go_wp2_with fail
  refine (below_at H.out (d.size : Int) (by omega)).mono ?_
  rintro e w1 ⟨rfl, c1, b1⟩
  rw [hs] at c1
  rw [hk]
  have C1 : Hid (CurAt a len cap zs B w1 s1) := c1
  clear c1 H hk hs
  go_wp2_with fail
  refine (below_at C1.out 4 (by omega)).mono ?_
  rintro e w2 ⟨rfl, c2, b2⟩
  have C2 : Hid (CurAt a len cap zs B w2 (belowV zs len 4 s1).2) := c2
  have B2 : Hid (Only B w w2) := b1.trans b2
  clear c2 b1 b2 C1
  have p1 : (k : Int) ≤ d.size := by omega
  have p2 : (k : Int) + 1 ≤ d.size := by omega
  have p3 : IntKind.i64.wrap ((k : Int) + 1) = (k : Int) + 1 := wrapI _ (by omega)
  go_wp2
  go_quiet (fail)
  go_wp2
  go_ret
  exact ⟨rfl, curAt_drewN C2.out _, B2.out.drewN _⟩

theorem spoil2_at {w : World} {s : Nat × Int} (h : CurAt a len cap zs B w s) (d : ByteArray) (hd : 0 < d.size) (hd2 : d.size ≤ 1000) (h0 : (belowV zs len 4 (spS zs len d s)).1 = 2) :
    Calls Tryd.prog 25 #[.pointer (some ⟨B, 0, none⟩), .string d] w fun e w' => e = .returned (.string (d.extract 0 (spK zs len d s))) ∧ CurAt a len cap zs B w' (belowV zs len 4 (spS zs len d s)).2 ∧ Only B w w' := by
  have H : Hid (CurAt a len cap zs B w s) := h
  clear h
  have hr := belowV_range (zs := zs) (len := len) (d.size : Int) s (by omega)
  have hk : (belowV zs len d.size s).1 = (spK zs len d s : Nat) := by unfold spK; omega
  have hs : (belowV zs len d.size s).2 = spS zs len d s := rfl
  have hkl : spK zs len d s < d.size := by omega
  have hne : ((d.size : Int) == 0) = false := beq_eq_false_iff_ne.2 (by omega)
  clear hr
  generalize spK zs len d s = k at *
  generalize spS zs len d s = s1 at *
  go_enter Tryd.func25, Tryd.ntmps25
  go_wp2_with fail
  refine (below_at H.out (d.size : Int) (by omega)).mono ?_
  rintro e w1 ⟨rfl, c1, b1⟩
  rw [hs] at c1
  rw [hk]
  have C1 : Hid (CurAt a len cap zs B w1 s1) := c1
  clear c1 H hk hs
  go_wp2_with fail
  refine (below_at C1.out 4 (by omega)).mono ?_
  rintro e w2 ⟨rfl, c2, b2⟩
  have C2 : Hid (CurAt a len cap zs B w2 (belowV zs len 4 s1).2) := c2
  have B2 : Hid (Only B w w2) := b1.trans b2
  clear c2 b1 b2 C1
  have p1 : (k : Int) ≤ d.size := by omega
  have p2 : (k : Int) + 1 ≤ d.size := by omega
  have p3 : IntKind.i64.wrap ((k : Int) + 1) = (k : Int) + 1 := wrapI _ (by omega)
  go_wp2
  go_ret
  exact ⟨rfl, C2.out, B2.out⟩

theorem spoil1_at {w : World} {s : Nat × Int} (h : CurAt a len cap zs B w s) (d : ByteArray) (hd : 0 < d.size) (hd2 : d.size ≤ 1000) (h0 : (belowV zs len 4 (spS zs len d s)).1 = 1) :
    Calls Tryd.prog 25 #[.pointer (some ⟨B, 0, none⟩), .string d] w fun e w' => e = .returned (.string (d.extract 0 (spK zs len d s) ++ strOfNums [bv zs len (belowV zs len 4 (spS zs len d s)).2] ++ d.extract (spK zs len d s) d.size)) ∧ CurAt a len cap zs B w' (st1 len (belowV zs len 4 (spS zs len d s)).2) ∧ Only B w w' := by
  have H : Hid (CurAt a len cap zs B w s) := h
  clear h
  have hr := belowV_range (zs := zs) (len := len) (d.size : Int) s (by omega)
  have hk : (belowV zs len d.size s).1 = (spK zs len d s : Nat) := by unfold spK; omega
  have hs : (belowV zs len d.size s).2 = spS zs len d s := rfl
  have hkl : spK zs len d s < d.size := by omega
  have hne : ((d.size : Int) == 0) = false := beq_eq_false_iff_ne.2 (by omega)
  clear hr
  generalize spK zs len d s = k at *
  generalize spS zs len d s = s1 at *
  go_enter Tryd.func25, Tryd.ntmps25
  go_wp2_with fail
  refine (below_at H.out (d.size : Int) (by omega)).mono ?_
  rintro e w1 ⟨rfl, c1, b1⟩
  rw [hs] at c1
  rw [hk]
  have C1 : Hid (CurAt a len cap zs B w1 s1) := c1
  clear c1 H hk hs
  go_wp2_with fail
  refine (below_at C1.out 4 (by omega)).mono ?_
  rintro e w2 ⟨rfl, c2, b2⟩
  have C2 : Hid (CurAt a len cap zs B w2 (belowV zs len 4 s1).2) := c2
  have B2 : Hid (Only B w w2) := b1.trans b2
  clear c2 b1 b2 C1
  have p1 : (k : Int) ≤ d.size := by omega
  have p2 : (k : Int) + 1 ≤ d.size := by omega
  have p3 : IntKind.i64.wrap ((k : Int) + 1) = (k : Int) + 1 := wrapI _ (by omega)
  have rb := bv_range zs len (belowV zs len 4 s1).2
  have e1 : IntKind.u8.wrap (bv zs len (belowV zs len 4 s1).2) = bv zs len (belowV zs len 4 s1).2 := by rw [IntKind.wrap_u8']; omega
  have z1 : ∀ x, (strOfNums [x]).size = 1 := fun x => strOfNums_size [x]
  have q1 : ¬ 9223372036854775807 < min k d.size + 1 := by omega
  have q2 : ¬ 9223372036854775807 < min k d.size + 1 + (d.size - k) := by omega
  go_wp2
  go_region_law (refine step_call rfl 28 #[.tmp 32] #[36] rfl #[.pointer (some ⟨B, 0, none⟩)] (by simp [Act.eval, Act.put]) Tryd.func28 name28 body28 _ (byte_at (curAt_drew C2.out)) ?_; rintro e w3 ⟨rfl, c3, b3⟩; have hcv := conv1 w3; refine ⟨_, rfl, ?_⟩)
  all_goals
    have C3 : Hid (CurAt a len cap zs B (w3.alloc (.cells #[.int .u8 (bv zs len (belowV zs len 4 s1).2)] 5)) (st1 len (belowV zs len 4 s1).2)) := curAt_alloc c3 _
    have B3 : Hid (Only B w (w3.alloc (.cells #[.int .u8 (bv zs len (belowV zs len 4 s1).2)] 5))) := (B2.out.drew.trans b3).trans (only_alloc _ _)
    clear c3 b3
    go_wp2
    go_ret
    exact ⟨rfl, C3.out, B3.out⟩

def spX (zs : List Int) (len : Nat) (b : Int) (s : Nat × Int) : Int := IntKind.u8.wrap (bits .xor .i64 b (1 + (belowV zs len 255 s).1))

set_option maxHeartbeats 1000000 in
theorem spoil3_at {w : World} {s : Nat × Int} (h : CurAt a len cap zs B w s) (d : ByteArray) (hd : 0 < d.size) (hd2 : d.size ≤ 1000) (h0 : ¬ (belowV zs len 4 (spS zs len d s)).1 = 0) (h1 : ¬ (belowV zs len 4 (spS zs len d s)).1 = 1) (h2 : ¬ (belowV zs len 4 (spS zs len d s)).1 = 2) :
    Calls Tryd.prog 25 #[.pointer (some ⟨B, 0, none⟩), .string d] w fun e w' => e = .returned (.string (d.extract 0 (spK zs len d s) ++ strOfNums [spX zs len (byteAt d (spK zs len d s)) (belowV zs len 4 (spS zs len d s)).2] ++ d.extract (spK zs len d s + 1) d.size)) ∧ CurAt a len cap zs B w' (belowV zs len 255 (belowV zs len 4 (spS zs len d s)).2).2 ∧ Only B w w' := by
  have H : Hid (CurAt a len cap zs B w s) := h
  clear h
  have hr := belowV_range (zs := zs) (len := len) (d.size : Int) s (by omega)
  have hk : (belowV zs len d.size s).1 = (spK zs len d s : Nat) := by unfold spK; omega
  have hs : (belowV zs len d.size s).2 = spS zs len d s := rfl
  have hkl : spK zs len d s < d.size := by omega
  have hne : ((d.size : Int) == 0) = false := beq_eq_false_iff_ne.2 (by omega)
  clear hr
  generalize spK zs len d s = k at *
  generalize spS zs len d s = s1 at *
  go_enter Tryd.func25, Tryd.ntmps25
  go_wp2_with fail
  refine (below_at H.out (d.size : Int) (by omega)).mono ?_
  rintro e w1 ⟨rfl, c1, b1⟩
  rw [hs] at c1
  rw [hk]
  have C1 : Hid (CurAt a len cap zs B w1 s1) := c1
  clear c1 H hk hs
  go_wp2_with fail
  refine (below_at C1.out 4 (by omega)).mono ?_
  rintro e w2 ⟨rfl, c2, b2⟩
  have C2 : Hid (CurAt a len cap zs B w2 (belowV zs len 4 s1).2) := c2
  have B2 : Hid (Only B w w2) := b1.trans b2
  clear c2 b1 b2 C1
  have p1 : (k : Int) ≤ d.size := by omega
  have p2 : (k : Int) + 1 ≤ d.size := by omega
  have p3 : IntKind.i64.wrap ((k : Int) + 1) = (k : Int) + 1 := wrapI _ (by omega)
  have rb := belowV_range (zs := zs) (len := len) 255 (belowV zs len 4 s1).2 (by omega)
  have hbl := byteAt_lt d k
  have hb : d[k].toNat = byteAt d k := (byteAt_in hkl).symm
  have e1 : IntKind.i64.wrap ((byteAt d k : Nat) : Int) = (byteAt d k : Nat) := wrapI _ (by omega)
  have e2 : IntKind.i64.wrap (1 + (belowV zs len 255 (belowV zs len 4 s1).2).1) = 1 + (belowV zs len 255 (belowV zs len 4 s1).2).1 := wrapI _ (by omega)
  have e3 : IntKind.u8.wrap (bits .xor .i64 ((byteAt d k : Nat) : Int) (1 + (belowV zs len 255 (belowV zs len 4 s1).2).1)) = spX zs len (byteAt d k) (belowV zs len 4 s1).2 := rfl
  have z1 : ∀ x, (strOfNums [x]).size = 1 := fun x => strOfNums_size [x]
  have q1 : ¬ 9223372036854775807 < min k d.size + 1 := by omega
  have q2 : ¬ 9223372036854775807 < min k d.size + 1 + (d.size - (k + 1)) := by omega
  have q3 : (k : Int) < d.size := by omega
  have q4 : 0 ≤ (k : Int) + 1 := by omega
  go_wp2
  go_region_law (refine step_call rfl 26 #[.tmp 54, .const (.int .i64 255)] #[36, 3] rfl #[.pointer (some ⟨B, 0, none⟩), .int .i64 255] (by simp [Act.eval, Act.put]) Tryd.func26 name26 body26 _ (below_at (curAt_drew C2.out) 255 (by omega)) ?_; rintro e w3 ⟨rfl, c3, b3⟩; have hcv := conv1 w3; refine ⟨_, rfl, ?_⟩)
  all_goals
    have C3 : Hid (CurAt a len cap zs B (w3.alloc (.cells #[.int .u8 (spX zs len (byteAt d k) (belowV zs len 4 s1).2)] 5)) (belowV zs len 255 (belowV zs len 4 s1).2).2) := curAt_alloc c3 _
    have B3 : Hid (Only B w (w3.alloc (.cells #[.int .u8 (spX zs len (byteAt d k) (belowV zs len 4 s1).2)] 5))) := (B2.out.drew.trans b3).trans (only_alloc _ _)
    clear c3 b3
    go_wp2
    go_ret
    exact ⟨rfl, C3.out, B3.out⟩
end
end Go.Proofs.YtpjaiehkhbkgiacDoor
