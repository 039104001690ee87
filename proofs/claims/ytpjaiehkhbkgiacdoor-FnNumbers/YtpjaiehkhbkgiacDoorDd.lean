/-
  The draws: a text, and a code's cursor. Conditions: written at each theorem.
-/
import Derived.Test.YtpjaiehkhbkgiacDoorDc
namespace Go.Proofs.YtpjaiehkhbkgiacDoor
open Go.ChangeShapes Go.WideShapes Go.ChangeAt Go.RowKit
set_option linter.unusedVariables false

theorem Only.grown {B : Nat} {w0 w w' : World} {row : Option Nat} (h : Only B w0 w) (hg : w.grownBy w' row) (hr : ∀ k, row = some k → w0.heap.size ≤ k) : Only B w0 w' := by
  have hb : Below w0.heap.size w w' := (Below.refl _ _).grown hg h.size hr
  exact ⟨hb.os.trans h.os, hb.tape.trans h.tape, hb.output.trans h.output, Nat.le_trans h.size hb.size, fun k hk hB => (hb.block k hk).trans (h.block k hk hB)⟩

theorem own_only {w w' : World} {base B : Nat} {v : Value} {L : List Int} (h : ownB w base v L) (ho : Only B w w') (hB : B < base) : ownB w' base v L := by
  refine ⟨h.1, ?_⟩
  rcases h.2 with h2 | ⟨g, cap, cur, h1, h2, h3, h4⟩
  · exact Or.inl h2
  · refine Or.inr ⟨g, cap, cur, h1, h2, ?_, h4⟩
    rw [ho.block g (Array.getElem?_eq_some_iff.1 h3).1 (by omega)]
    exact h3

/-- The cursor when so many bytes more have been drawn. -/
def stN (len : Nat) : Nat → Nat × Int → Nat × Int
  | 0, s => s
  | k + 1, s => st1 len (stN len k s)

/-- A byte in a text's style. -/
def sb (style b : Int) : Int := if style = 1 then b % 2 else if style = 2 then 97 + b % 4 else b

/-- The first k bytes of a text. -/
def tl (zs : List Int) (len : Nat) (style : Int) (s : Nat × Int) : Nat → List Int
  | 0 => []
  | k + 1 => tl zs len style s k ++ [sb style (bv zs len (stN len k s))]

theorem tl_length (zs : List Int) (len : Nat) (style : Int) (s : Nat × Int) : ∀ k, (tl zs len style s k).length = k
  | 0 => rfl
  | k + 1 => by simp [tl, tl_length zs len style s k]

def textN (zs : List Int) (len : Nat) (most : Int) (s : Nat × Int) : Nat := (belowV zs len (most + 1) (belowV zs len 4 s).2).1.toNat
def textL (zs : List Int) (len : Nat) (most : Int) (s : Nat × Int) : List Int := tl zs len (belowV zs len 4 s).1 (belowV zs len (most + 1) (belowV zs len 4 s).2).2 (textN zs len most s)
def textS (zs : List Int) (len : Nat) (most : Int) (s : Nat × Int) : Nat × Int := stN len (textN zs len most s) (belowV zs len (most + 1) (belowV zs len 4 s).2).2

section
variable {a : Option Addr} {len cap : Nat} {zs : List Int} {B : Nat}

set_option maxRecDepth 20000 in
theorem text_at {w : World} {s : Nat × Int} (h : CurAt a len cap zs B w s) (most : Int) (hm0 : 0 ≤ most) (hm : most ≤ 1000) :
    Calls Tryd.prog 18 #[.pointer (some ⟨B, 0, none⟩), .int .i64 most] w fun e w' => e = .returned (.string (strOfNums (textL zs len most s))) ∧ CurAt a len cap zs B w' (textS zs len most s) ∧ Only B w w' := by
  obtain ⟨i0, hi, hz0, hz1, hz2⟩ := info_parts Tryd.info5
  have hBs := h.size
  have H : Hid (CurAt a len cap zs B (w.alloc (.cells #[] 5)) s) := curAt_alloc h _
  have HO : Hid (Only B w (w.alloc (.cells #[] 5))) := only_alloc _ _
  have hown0 : ownB (w.alloc (.cells #[] 5)) w.heap.size (.slice (some ⟨w.heap.size, 0, none⟩) 0 0) [] := World.ownsRow_lit _ #[] 0 (Nat.le_refl _) (by unfold maxLen; omega) rfl
  have HW : Hid (ownB (w.alloc (.cells #[] 5)) w.heap.size (.slice (some ⟨w.heap.size, 0, none⟩) 0 0) []) := hown0
  have r1 := belowV_range (zs := zs) (len := len) 4 s (by omega)
  have r2 := belowV_range (zs := zs) (len := len) (most + 1) (belowV zs len 4 s).2 (by omega)
  clear h hown0
  go_enter Tryd.func18, Tryd.ntmps18
  go_wp2_with fail
  refine (below_at H.out 4 (by omega)).mono ?_
  rintro e w1 ⟨rfl, c1, b1⟩
  have C1 : Hid (CurAt a len cap zs B w1 (belowV zs len 4 s).2) := c1
  have O1 : Hid (Only B w w1) := HO.out.trans b1
  have W1 : Hid (ownB w1 w.heap.size (.slice (some ⟨w.heap.size, 0, none⟩) 0 0) []) := own_only HW.out b1 hBs
  clear c1 b1 H HO HW
  go_wp2_with fail
  refine (below_at C1.out (most + 1) (by omega)).mono ?_
  rintro e w2 ⟨rfl, c2, b2⟩
  have C2 : Hid (CurAt a len cap zs B w2 (belowV zs len (most + 1) (belowV zs len 4 s).2).2) := c2
  have O2 : Hid (Only B w w2) := O1.out.trans b2
  have W2 : Hid (ownB w2 w.heap.size (.slice (some ⟨w.heap.size, 0, none⟩) 0 0) []) := own_only W1.out b2 hBs
  clear c2 b2 C1 O1 W1
  have eN : (belowV zs len (most + 1) (belowV zs len 4 s).2).1 = (textN zs len most s : Nat) := by
    unfold textN
    omega
  have eL : Hid (textL zs len most s = tl zs len (belowV zs len 4 s).1 (belowV zs len (most + 1) (belowV zs len 4 s).2).2 (textN zs len most s)) := rfl
  have eS : Hid (textS zs len most s = stN len (textN zs len most s) (belowV zs len (most + 1) (belowV zs len 4 s).2).2) := rfl
  have hN : (textN zs len most s : Int) ≤ 1000 := by omega
  rw [eN]
  clear eN r2
  generalize textN zs len most s = N at *
  generalize (belowV zs len (most + 1) (belowV zs len 4 s).2).2 = s2 at *
  generalize (belowV zs len 4 s).1 = st at *
  go_wp2
  go_loopw [5, 7] (fun out n wr => ∃ k : Nat, k ≤ N ∧ n = .int .i64 ((N : Int) - k) ∧ ownB wr w.heap.size out (tl zs len st s2 k) ∧ CurAt a len cap zs B wr (stN len k s2) ∧ Only B w wr) (fun _ n _ => (intOf n).toNat)
  case atStart => exact ⟨0, by omega, by simp, W2.out, C2.out, O2.out⟩
  case round =>
    obtain ⟨k, hk, rfl, hown, hcur, honly⟩ := hrel
    have hl := tl_length zs len st s2 k
    by_cases hkN : k = N
    · subst hkN
      have hc := conv_own hown
      have HC : Hid (CurAt a len cap zs B wr (stN len k s2)) := hcur
      have HOn : Hid (Only B w wr) := honly
      clear hcur honly hown C2 O2 W2
      go_wp2
      rw [eL.out, eS.out]
      go_ret
      exact ⟨rfl, HC.out, HOn.out⟩
    · have hlt : k < N := by omega
      have hpos : (0 : Int) < (N : Int) - k := by omega
      have HC : Hid (CurAt a len cap zs B wr (stN len k s2)) := hcur
      have HOn : Hid (Only B w wr) := honly
      have HOw : Hid (ownB wr w.heap.size u5 (tl zs len st s2 k)) := hown
      clear hcur honly hown C2 O2 W2
      go_wp2_with fail
      refine (byte_at HC.out).mono ?_
      rintro e w3 ⟨rfl, c3, b3⟩
      have rb := bv_range zs len (stN len k s2)
      have C3 : Hid (CurAt a len cap zs B w3 (stN len (k + 1) s2)) := c3
      have O3 : Hid (Only B w w3) := HOn.out.trans b3
      have hown : ownB w3 w.heap.size u5 (tl zs len st s2 k) := own_only HOw.out b3 hBs
      clear c3 HC HOw HOn
      have hsz3 : w.heap.size ≤ w3.heap.size := O3.out.size
      by_cases h1 : st = 1
      · have t1 : (st == 1) = true := by simp [h1]
        have t2 : (st == 2) = false := by simp [h1]
        have ES : Hid (tl zs len st s2 (k + 1) = tl zs len st s2 k ++ [bv zs len (stN len k s2) % 2]) := by
          show tl zs len st s2 k ++ [sb st (bv zs len (stN len k s2))] = _
          rw [sb, if_pos h1]
        clear h1
        generalize bv zs len (stN len k s2) = b at *
        go_wp2_with (at_builtin; refine wpList_append_own _ rfl (.tmp 31) (.tmp 34) 22 rfl w.heap.size 5 i0 (.int .u8 0) 1 1 Tryd.underlying22 hi hz0 hz1 hz2 rfl (by decide) _ _ _ rfl (hown.alloc _) ⟨w3.heap.size, 0, none⟩ 1 1 [.int .u8 (b % 2)] rfl rfl ?c1 ?c2 ?c3 ?c4 ?c5 ?_)
        all_goals try (first | exact cell_one_new _ _ _ | (simp [Value.oneCell']; done) | (unfold maxLen; omega) | omega | (simp; omega))
        intro v' w4 hown' hgrow _
        have hown4 : ownB w4 w.heap.size v' (tl zs len st s2 (k + 1)) := by
          rw [ES.out]
          simpa [ownB, hl] using hown'
        have hr : ∀ j, u5.ownBlock = some j → w.heap.size ≤ j := fun j hj => (hown.lt j hj).1
        have hb4 : Below w.heap.size w3 w4 := ((Below.refl _ _).alloc hsz3 _).grown hgrow (by simp; omega) hr
        have C4 : Hid (CurAt a len cap zs B w4 (stN len (k + 1) s2)) := curAt_below C3.out hb4 hBs
        have O4 : Hid (Only B w w4) := (O3.out.trans (only_alloc _ _)).grown hgrow hr
        have W4 : Hid (ownB w4 w.heap.size v' (tl zs len st s2 (k + 1))) := hown4
        clear hown' hgrow hown hown4 C3 O3 hb4 hr ES
        go_wp2
        go_roundw
        case rel => exact ⟨k + 1, by omega, by go_num, W4.out, C4.out, O4.out⟩
        case measure => simp [intOf]; omega
      · have t1 : (st == 1) = false := by simpa using h1
        by_cases h2 : st = 2
        · have t2 : (st == 2) = true := by simp [h2]
          have ES : Hid (tl zs len st s2 (k + 1) = tl zs len st s2 k ++ [97 + bv zs len (stN len k s2) % 4]) := by
            show tl zs len st s2 k ++ [sb st (bv zs len (stN len k s2))] = _
            rw [sb, if_neg h1, if_pos h2]
          clear h1 h2
          generalize bv zs len (stN len k s2) = b at *
          go_wp2_with (at_builtin; refine wpList_append_own _ rfl (.tmp 31) (.tmp 34) 22 rfl w.heap.size 5 i0 (.int .u8 0) 1 1 Tryd.underlying22 hi hz0 hz1 hz2 rfl (by decide) _ _ _ rfl (hown.alloc _) ⟨w3.heap.size, 0, none⟩ 1 1 [.int .u8 (97 + b % 4)] rfl rfl ?d1 ?d2 ?d3 ?d4 ?d5 ?_)
          all_goals try (first | exact cell_one_new _ _ _ | (simp [Value.oneCell']; done) | (unfold maxLen; omega) | omega | (simp; omega))
          intro v' w4 hown' hgrow _
          have hown4 : ownB w4 w.heap.size v' (tl zs len st s2 (k + 1)) := by
            rw [ES.out]
            simpa [ownB, hl] using hown'
          have hr : ∀ j, u5.ownBlock = some j → w.heap.size ≤ j := fun j hj => (hown.lt j hj).1
          have hb4 : Below w.heap.size w3 w4 := ((Below.refl _ _).alloc hsz3 _).grown hgrow (by simp; omega) hr
          have C4 : Hid (CurAt a len cap zs B w4 (stN len (k + 1) s2)) := curAt_below C3.out hb4 hBs
          have O4 : Hid (Only B w w4) := (O3.out.trans (only_alloc _ _)).grown hgrow hr
          have W4 : Hid (ownB w4 w.heap.size v' (tl zs len st s2 (k + 1))) := hown4
          clear hown' hgrow hown hown4 C3 O3 hb4 hr ES
          go_wp2
          go_roundw
          case rel => exact ⟨k + 1, by omega, by go_num, W4.out, C4.out, O4.out⟩
          case measure => simp [intOf]; omega
        · have t2 : (st == 2) = false := by simpa using h2
          have ES : Hid (tl zs len st s2 (k + 1) = tl zs len st s2 k ++ [bv zs len (stN len k s2)]) := by
            show tl zs len st s2 k ++ [sb st (bv zs len (stN len k s2))] = _
            rw [sb, if_neg h1, if_neg h2]
          clear h1 h2
          generalize bv zs len (stN len k s2) = b at *
          go_wp2_with (at_builtin; refine wpList_append_own _ rfl (.tmp 31) (.tmp 34) 22 rfl w.heap.size 5 i0 (.int .u8 0) 1 1 Tryd.underlying22 hi hz0 hz1 hz2 rfl (by decide) _ _ _ rfl (hown.alloc _) ⟨w3.heap.size, 0, none⟩ 1 1 [.int .u8 (b)] rfl rfl ?e1 ?e2 ?e3 ?e4 ?e5 ?_)
          all_goals try (first | exact cell_one_new _ _ _ | (simp [Value.oneCell']; done) | (unfold maxLen; omega) | omega | (simp; omega))
          intro v' w4 hown' hgrow _
          have hown4 : ownB w4 w.heap.size v' (tl zs len st s2 (k + 1)) := by
            rw [ES.out]
            simpa [ownB, hl] using hown'
          have hr : ∀ j, u5.ownBlock = some j → w.heap.size ≤ j := fun j hj => (hown.lt j hj).1
          have hb4 : Below w.heap.size w3 w4 := ((Below.refl _ _).alloc hsz3 _).grown hgrow (by simp; omega) hr
          have C4 : Hid (CurAt a len cap zs B w4 (stN len (k + 1) s2)) := curAt_below C3.out hb4 hBs
          have O4 : Hid (Only B w w4) := (O3.out.trans (only_alloc _ _)).grown hgrow hr
          have W4 : Hid (ownB w4 w.heap.size v' (tl zs len st s2 (k + 1))) := hown4
          clear hown' hgrow hown hown4 C3 O3 hb4 hr ES
          go_wp2
          go_roundw
          case rel => exact ⟨k + 1, by omega, by go_num, W4.out, C4.out, O4.out⟩
          case measure => simp [intOf]; omega
end
end Go.Proofs.YtpjaiehkhbkgiacDoor
