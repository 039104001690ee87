/-
  The draws: a text for ReadVar, the same at every call. Conditions: written at each theorem.
-/
import Derived.Test.YtpjaiehkhbkgiacDoorDf
namespace Go.Proofs.YtpjaiehkhbkgiacDoor
open Go.ChangeShapes Go.WideShapes Go.ChangeAt Go.RowKit
set_option linter.unusedVariables false

def spoilV (zs : List Int) (len : Nat) (d : ByteArray) (s : Nat × Int) : ByteArray :=
  if d.size = 0 then strOfNums (textL zs len 3 s)
  else if (belowV zs len 4 (spS zs len d s)).1 = 0 then d.extract 0 (spK zs len d s) ++ d.extract (spK zs len d s + 1) d.size
  else if (belowV zs len 4 (spS zs len d s)).1 = 1 then d.extract 0 (spK zs len d s) ++ strOfNums [bv zs len (belowV zs len 4 (spS zs len d s)).2] ++ d.extract (spK zs len d s) d.size
  else if (belowV zs len 4 (spS zs len d s)).1 = 2 then d.extract 0 (spK zs len d s)
  else d.extract 0 (spK zs len d s) ++ strOfNums [spX zs len (byteAt d (spK zs len d s)) (belowV zs len 4 (spS zs len d s)).2] ++ d.extract (spK zs len d s + 1) d.size

theorem spoilV_size (zs : List Int) (len : Nat) (d : ByteArray) (s : Nat × Int) (hd : d.size ≤ 400) : (spoilV zs len d s).size ≤ 1000 := by
  have ht := textL_length zs len 3 s (by omega)
  have z1 : ∀ x, (strOfNums [x]).size = 1 := fun x => strOfNums_size [x]
  unfold spoilV
  (repeat' split) <;> simp only [ByteArray.size_append, ByteArray.size_extract, z1, strOfNums_size] <;> omega

def varAns (n : Int) : ByteArray := if 0 ≤ n ∧ n ≤ 562949953421311 then strOfNums (vr n.toNat) else ByteArray.empty

theorem varAns_size (n : Int) : (varAns n).size ≤ 7 := by
  unfold varAns
  split
  · rw [strOfNums_size]; exact vr_length7 (by omega)
  · simp

theorem specVar_all (n : Int) (w : World) :
    Calls Tryd.prog 23 #[.int .i64 n] w fun e w' => e = .returned (.string (varAns n)) ∧ Below w.heap.size w w' := by
  unfold varAns
  by_cases h : 0 ≤ n ∧ n ≤ 562949953421311
  · rw [if_pos h]
    obtain ⟨m, rfl⟩ := Int.eq_ofNat_of_zero_le h.1
    exact spec_var m (by omega) w
  · rw [if_neg h]
    exact spec_var_no n (by omega) w

theorem implVar_all (n : Int) (w : World) :
    Calls Tryd.prog 7 #[.int .i64 n] w fun e w' => e = .returned (.string (varAns n)) ∧ Below w.heap.size w w' := by
  unfold varAns
  by_cases h : 0 ≤ n ∧ n ≤ 562949953421311
  · rw [if_pos h]
    obtain ⟨m, rfl⟩ := Int.eq_ofNat_of_zero_le h.1
    exact impl_var m (by omega) w
  · rw [if_neg h]
    exact impl_var_no n (by omega) w

section
variable {a : Option Addr} {len cap : Nat} {zs : List Int} {B : Nat}

theorem spoil_at {w : World} {s : Nat × Int} (h : CurAt a len cap zs B w s) (d : ByteArray) (hd : d.size ≤ 1000) :
    Calls Tryd.prog 25 #[.pointer (some ⟨B, 0, none⟩), .string d] w fun e w' => e = .returned (.string (spoilV zs len d s)) ∧ Only B w w' := by
  unfold spoilV
  by_cases h0 : d.size = 0
  · rw [if_pos h0]
    exact (spoilE_at h d h0).mono fun e w' ⟨he, _, hb⟩ => ⟨he, hb⟩
  · rw [if_neg h0]
    by_cases h1 : (belowV zs len 4 (spS zs len d s)).1 = 0
    · rw [if_pos h1]
      exact (spoil0_at h d (by omega) hd h1).mono fun e w' ⟨he, _, hb⟩ => ⟨he, hb⟩
    · rw [if_neg h1]
      by_cases h2 : (belowV zs len 4 (spS zs len d s)).1 = 1
      · rw [if_pos h2]
        exact (spoil1_at h d (by omega) hd h2).mono fun e w' ⟨he, _, hb⟩ => ⟨he, hb⟩
      · rw [if_neg h2]
        by_cases h3 : (belowV zs len 4 (spS zs len d s)).1 = 2
        · rw [if_pos h3]
          exact (spoil2_at h d (by omega) hd h3).mono fun e w' ⟨he, _, hb⟩ => ⟨he, hb⟩
        · rw [if_neg h3]
          exact (spoil3_at h d (by omega) hd h1 h2 h3).mono fun e w' ⟨he, _, hb⟩ => ⟨he, hb⟩
end

def rvN (zs : List Int) (len : Nat) : Int × (Nat × Int) := numV zs len (newS zs len)
def rvD (zs : List Int) (len : Nat) : ByteArray := varAns (rvN zs len).1 ++ strOfNums (textL zs len 4 (rvN zs len).2)
def rvO (zs : List Int) (len : Nat) : Int × (Nat × Int) := belowV zs len 4 (textS zs len 4 (rvN zs len).2)
def rvV (zs : List Int) (len : Nat) : ByteArray := if (rvO zs len).1 = 0 then spoilV zs len (rvD zs len) (rvO zs len).2 else rvD zs len

theorem rvD_size (zs : List Int) (len : Nat) : (rvD zs len).size ≤ 11 := by
  have h1 := varAns_size (rvN zs len).1
  have h2 := textL_length zs len 4 (rvN zs len).2 (by omega)
  unfold rvD
  rw [ByteArray.size_append, strOfNums_size]
  omega

theorem rvV_size (zs : List Int) (len : Nat) : (rvV zs len).size ≤ 1000 := by
  have h := rvD_size zs len
  unfold rvV
  split
  · exact spoilV_size _ _ _ _ (by omega)
  · omega

theorem drawRv_at (a : Option Addr) (len cap : Nat) (zs : List Int) (w : World) (hrow : IsRow w a len cap zs) (hl : len ≤ 1048576) :
    Calls Tryd.prog 15 #[.slice a len cap] w fun e w' => e = .returned (.string (rvV zs len)) ∧ Below w.heap.size w w' := by
  have HR : Hid (IsRow w a len cap zs) := hrow
  clear hrow
  have hD := rvD_size zs len
  have hT := textL_length zs len 4 (rvN zs len).2 (by omega)
  have hV := varAns_size (rvN zs len).1
  have eV : Hid (rvV zs len = if (rvO zs len).1 = 0 then spoilV zs len (rvD zs len) (rvO zs len).2 else rvD zs len) := rfl
  have eD : varAns (rvN zs len).1 ++ strOfNums (textL zs len 4 (rvN zs len).2) = rvD zs len := rfl
  have hT2 : (strOfNums (textL zs len 4 (rvN zs len).2)).size ≤ 4 := by rw [strOfNums_size]; omega
  go_enter Tryd.func15, Tryd.ntmps15
  go_wp2_with fail
  refine (new_at a len cap zs w HR.out hl).mono ?_
  rintro e w1 ⟨rfl, c1, b1⟩
  have C1 : Hid (CurAt a len cap zs w.heap.size w1 (newS zs len)) := c1
  clear c1
  go_wp2_with fail
  refine (num_at C1.out).mono ?_
  rintro e w2 ⟨rfl, c2, b2⟩
  have C2 : Hid (CurAt a len cap zs w.heap.size w2 (rvN zs len).2) := c2
  have B2 : Hid (Below w.heap.size w w2) := b1.trans (b2.below b1.size)
  have hfold : numV zs len (newS zs len) = rvN zs len := rfl
  rw [hfold]
  clear c2 C1 b1 b2 hfold
  go_wp2_with fail
  refine (specVar_all (rvN zs len).1 w2).mono ?_
  rintro e w3 ⟨rfl, b3⟩
  have C3 : Hid (CurAt a len cap zs w.heap.size w3 (rvN zs len).2) := curAt_below C2.out b3 C2.out.size
  have B3 : Hid (Below w.heap.size w w3) := B2.out.trans (b3.mono B2.out.size)
  clear C2 B2 b3
  go_wp2_with fail
  refine (text_at C3.out 4 (by omega) (by omega)).mono ?_
  rintro e w4 ⟨rfl, c4, b4⟩
  have C4 : Hid (CurAt a len cap zs w.heap.size w4 (textS zs len 4 (rvN zs len).2)) := c4
  have B4 : Hid (Below w.heap.size w w4) := B3.out.trans (b4.below B3.out.size)
  clear C3 B3 b4 c4
  go_wp2_with fail
  refine (once_at C4.out 4 (by omega)).mono ?_
  rintro e w5 ⟨rfl, c5, b5⟩
  have C5 : Hid (CurAt a len cap zs w.heap.size w5 (rvO zs len).2) := c5
  have B5 : Hid (Below w.heap.size w w5) := B4.out.trans (b5.below B4.out.size)
  have hfold : belowV zs len 4 (textS zs len 4 (rvN zs len).2) = rvO zs len := rfl
  rw [hfold]
  clear C4 B4 b5 c5 hfold
  by_cases h0 : (rvO zs len).1 = 0
  · have h0' : ((rvO zs len).1 == 0) = true := by simp [h0]
    have E : Hid (rvV zs len = spoilV zs len (rvD zs len) (rvO zs len).2) := by rw [eV.out, if_pos h0]; rfl
    clear h0 eV
    go_wp2_with fail
    refine (spoil_at C5.out (rvD zs len) (by omega)).mono ?_
    rintro e w6 ⟨rfl, b6⟩
    have B6 : Hid (Below w.heap.size w w6) := B5.out.trans (b6.below B5.out.size)
    clear b6 B5 C5
    go_wp2
    rw [E.out]
    go_ret
    exact ⟨rfl, B6.out⟩
  · have h0' : ((rvO zs len).1 == 0) = false := by simpa using h0
    have E : Hid (rvV zs len = rvD zs len) := by rw [eV.out, if_neg h0]; rfl
    clear h0 eV
    go_wp2
    rw [E.out]
    go_ret
    exact ⟨rfl, B5.out⟩
end Go.Proofs.YtpjaiehkhbkgiacDoor
