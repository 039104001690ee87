/-
  The draws: numbers below another one, numbers, out of a cursor. Conditions: written at each theorem.
-/
import Derived.Test.YtjjanmccijghgaaDoorCa
namespace Go.Proofs.YtjjanmccijghgaaDoor
open Go.ChangeShapes Go.WideShapes Go.ChangeAt Go.RowKit
set_option linter.unusedVariables false

/-- A cursor in block B over the bytes zs, and what is known beside it. -/
structure CurAt (a : Option Addr) (len cap : Nat) (zs : List Int) (B : Nat) (w : World) (s : Nat × Int) : Prop where
  cur : Cur w B a len cap s.1 s.2
  row : IsRow w a len cap zs
  small : len ≤ 1048576
  low : ∀ x, a = some x → 0 < zs.length → x.block < B
  size : B < w.heap.size

theorem isRow_below {w w' : World} {a : Option Addr} {len cap B : Nat} {zs : List Int} (h : IsRow w a len cap zs) (hb : Below B w w') (hB : ∀ x, a = some x → 0 < zs.length → x.block < B) : IsRow w' a len cap zs := by
  rcases h with h | ⟨x, rfl, h1, h2, h3, h4, h5⟩
  · exact Or.inl h
  · refine Or.inr ⟨x, rfl, h1, h2, h3, fun i hi => ?_, h5⟩
    have hx := hB x rfl (by omega)
    have e : (x.add i).block = x.block := by unfold Addr.add; split <;> rfl
    rw [hb.cell (by rw [e]; exact hx)]
    exact h4 i hi

def st1 (len : Nat) (s : Nat × Int) : Nat × Int := (nextI len s.1, stepH s.2)
def bv (zs : List Int) (len : Nat) (s : Nat × Int) : Int := byteV zs len s.1 s.2

section
variable {a : Option Addr} {len cap : Nat} {zs : List Int} {B : Nat}

theorem bv_range (zs : List Int) (len : Nat) (s : Nat × Int) : 0 ≤ bv zs len s ∧ bv zs len s ≤ 255 := byteV_range _ _ _ _

theorem byte_at {w : World} {s : Nat × Int} (h : CurAt a len cap zs B w s) :
    Calls Tryd.prog 38 #[.pointer (some ⟨B, 0, none⟩)] w fun e w' => e = .returned (.int .i64 (bv zs len s)) ∧ CurAt a len cap zs B w' (st1 len s) ∧ Only B w w' := by
  refine (byte_any zs a len cap B s.1 s.2 w h.cur h.row h.small h.low).mono ?_
  rintro e w' ⟨rfl, hc, hb⟩
  exact ⟨rfl, ⟨hc, isRow_below h.row (hb.below (Nat.le_of_lt h.size)) h.low, h.small, h.low, Nat.lt_of_lt_of_le h.size hb.size⟩, hb⟩

/-- A cursor whose own block is as it was. -/
theorem curAt_below {w w' : World} {s : Nat × Int} (h : CurAt a len cap zs B w s) {C : Nat} (hb : Below C w w') (hC : B < C) : CurAt a len cap zs B w' s :=
  ⟨⟨(hb.cell hC).trans h.cur.c0, (hb.cell hC).trans h.cur.c1, (hb.cell hC).trans h.cur.c2, (hb.frozen hC).trans h.cur.f1, (hb.frozen hC).trans h.cur.f2⟩,
    isRow_below h.row (hb.mono (Nat.le_of_lt hC)) h.low, h.small, h.low, Nat.lt_of_lt_of_le h.size hb.size⟩

/-- A number below n, and where the cursor stands then. -/
def belowV (zs : List Int) (len : Nat) (n : Int) (s : Nat × Int) : Int × (Nat × Int) :=
  if n ≤ 0 then (0, s) else if n ≤ 256 then (bv zs len s % n, st1 len s)
  else ((bv zs len s * 16777216 + bv zs len (st1 len s) * 65536 + bv zs len (st1 len (st1 len s)) * 256 + bv zs len (st1 len (st1 len (st1 len s)))) % n, st1 len (st1 len (st1 len (st1 len s))))

theorem belowV_range (n : Int) (s : Nat × Int) (hn : 0 < n) : 0 ≤ (belowV zs len n s).1 ∧ (belowV zs len n s).1 < n := by
  unfold belowV
  rw [if_neg (by omega)]
  split
  · exact ⟨Int.emod_nonneg _ (by omega), Int.emod_lt_of_pos _ hn⟩
  · exact ⟨Int.emod_nonneg _ (by omega), Int.emod_lt_of_pos _ hn⟩

theorem below_at {w : World} {s : Nat × Int} (h : CurAt a len cap zs B w s) (n : Int) (hn : n ≤ 2147483647) :
    Calls Tryd.prog 25 #[.pointer (some ⟨B, 0, none⟩), .int .i64 n] w fun e w' => e = .returned (.int .i64 (belowV zs len n s).1) ∧ CurAt a len cap zs B w' (belowV zs len n s).2 ∧ Only B w w' := by
  by_cases h0 : n ≤ 0
  · have e : belowV zs len n s = (0, s) := by unfold belowV; rw [if_pos h0]
    rw [e]
    go_enter Tryd.func25, Tryd.ntmps25
    go_wp2
    go_ret
    exact ⟨rfl, h, Only.refl _ _⟩
  · by_cases h1 : n ≤ 256
    · have e : belowV zs len n s = (bv zs len s % n, st1 len s) := by unfold belowV; rw [if_neg h0, if_pos h1]
      rw [e]
      have hr := bv_range zs len s
      have H : Hid (CurAt a len cap zs B w s) := h
      clear h
      go_enter Tryd.func25, Tryd.ntmps25
      go_wp2_with fail
      refine (byte_at H.out).mono ?_
      rintro e w1 ⟨rfl, c1, b1⟩
      have C1 : Hid (CurAt a len cap zs B w1 (st1 len s)) := c1
      clear c1
      go_wp2
      go_ret
      exact ⟨rfl, C1.out, b1⟩
    · have e : belowV zs len n s = ((bv zs len s * 16777216 + bv zs len (st1 len s) * 65536 + bv zs len (st1 len (st1 len s)) * 256 + bv zs len (st1 len (st1 len (st1 len s)))) % n, st1 len (st1 len (st1 len (st1 len s)))) := by unfold belowV; rw [if_neg h0, if_neg h1]
      rw [e]
      have r1 := bv_range zs len s
      have r2 := bv_range zs len (st1 len s)
      have r3 := bv_range zs len (st1 len (st1 len s))
      have r4 := bv_range zs len (st1 len (st1 len (st1 len s)))
      have H : Hid (CurAt a len cap zs B w s) := h
      clear h
      go_enter Tryd.func25, Tryd.ntmps25
      go_wp2_with fail
      refine (byte_at H.out).mono ?_
      rintro e w1 ⟨rfl, c1, b1⟩
      have C1 : Hid (CurAt a len cap zs B w1 (st1 len s)) := c1
      clear c1 H
      go_wp2_with fail
      refine (byte_at C1.out).mono ?_
      rintro e w2 ⟨rfl, c1, b2⟩
      have C2 : Hid (CurAt a len cap zs B w2 (st1 len (st1 len s))) := c1
      clear c1 C1
      go_wp2_with fail
      refine (byte_at C2.out).mono ?_
      rintro e w3 ⟨rfl, c1, b3⟩
      have C3 : Hid (CurAt a len cap zs B w3 (st1 len (st1 len (st1 len s)))) := c1
      clear c1 C2
      go_wp2_with fail
      refine (byte_at C3.out).mono ?_
      rintro e w4 ⟨rfl, c1, b4⟩
      have C4 : Hid (CurAt a len cap zs B w4 (st1 len (st1 len (st1 len (st1 len s))))) := c1
      clear c1 C3
      have b5 := ((b1.trans b2).trans b3).trans b4
      clear b1 b2 b3 b4
      go_wp2
      go_ret
      exact ⟨rfl, C4.out, b5⟩

theorem once_at {w : World} {s : Nat × Int} (h : CurAt a len cap zs B w s) (n : Int) (hn : n ≤ 2147483647) :
    Calls Tryd.prog 26 #[.pointer (some ⟨B, 0, none⟩), .int .i64 n] w fun e w' => e = .returned (.bool ((belowV zs len n s).1 == 0)) ∧ CurAt a len cap zs B w' (belowV zs len n s).2 ∧ Only B w w' := by
  have H : Hid (CurAt a len cap zs B w s) := h
  clear h
  go_enter Tryd.func26, Tryd.ntmps26
  go_wp2_with fail
  refine (below_at H.out n hn).mono ?_
  rintro e w1 ⟨rfl, c1, b1⟩
  have C1 : Hid (CurAt a len cap zs B w1 (belowV zs len n s).2) := c1
  clear c1 H
  go_wp2
  go_ret
  exact ⟨rfl, C1.out, b1⟩
end
end Go.Proofs.YtjjanmccijghgaaDoor
