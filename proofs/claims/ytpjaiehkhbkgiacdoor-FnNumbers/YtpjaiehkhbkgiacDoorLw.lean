/-
  The law's walk. Conditions: written at each theorem.
-/
import Derived.Test.YtpjaiehkhbkgiacDoorMa
namespace Go.Proofs.YtpjaiehkhbkgiacDoor
open Go.ChangeShapes Go.WideShapes Go.ChangeAt Go.RowKit
set_option linter.unusedVariables false

theorem big_at (a : Option Addr) (len cap : Nat) (b : Bool) (hb : decide ((1048576 : Int) < len) = b) (w : World) :
    Calls Tryd.prog 4 #[.slice a len cap] w fun e w' => e = .returned (.bool b) ∧ w = w' := by
  go_enter Tryd.func4, Tryd.ntmps4
  go_wp2
  go_ret
  exact ⟨by rw [← hb]; rfl, rfl⟩

theorem nonempty_vr (m : Nat) : (strOfNums (vr m)).toList.isEmpty = false := by
  rw [Lib.toList_data, strOfNums_data]
  have := vr_pos m
  cases h : vr m with
  | nil => rw [h] at this; simp at this
  | cons x r => simp

theorem rf_any (s : ByteArray) (hs : s.size ≤ maxLen) (w : World) :
    Calls Tryd.prog 10 #[.string s, .int .i64 7] w fun e w' => (∃ (y : Int) (is : Bool), e = .returned (.tuple #[.int .i64 y, .bool is])) ∧ w = w' := by
  by_cases h : (7 : Int) ≤ s.size
  · exact (impl_rf s 7 (by omega) (by omega) h hs w).mono fun e w' ⟨he, hw⟩ => ⟨⟨_, _, he⟩, hw.symm⟩
  · exact (impl_rf_no s 7 (by omega) w).mono fun e w' ⟨he, hw⟩ => ⟨⟨_, _, he⟩, hw.symm⟩

set_option maxRecDepth 200000 in
set_option maxHeartbeats 1000000 in
theorem law_A1 (a : Option Addr) (len cap : Nat) (zs : List Int) (w : World) (hrow : IsRow w a len cap zs) (hl : len ≤ 1048576) (m : Nat) (hm : (numV zs len (newS zs len)).1 = m) (hA : m < 1000000000)
    (hp : PowIs w) (ts tr : TypeId) (ps pr : Value) (hS : w.var? Tryd.prog "strconv.ErrSyntax" = some #[.iface ts ps]) (hR : w.var? Tryd.prog "strconv.ErrRange" = some #[.iface tr pr]) :
    Calls Tryd.prog 3 #[.slice a len cap] w fun e w' => e = .returned (.bool true) ∧ Below w.heap.size w w' := by
  have HR : Hid (IsRow w a len cap zs) := hrow
  have HP : Hid (PowIs w) := hp
  have HS : Hid (w.var? Tryd.prog "strconv.ErrSyntax" = some #[.iface ts ps]) := hS
  have HRg : Hid (w.var? Tryd.prog "strconv.ErrRange" = some #[.iface tr pr]) := hR
  have HM : Hid ((numV zs len (newS zs len)).1 = m) := hm
  have lowR : Hid (∀ x, a = some x → 0 < zs.length → x.block < w.heap.size) := row_low hrow
  clear hrow hp hS hR hm
  obtain ⟨T, hT⟩ : ∃ T, T = strOfNums (textL zs len 40 (newS zs len)) := ⟨_, rfl⟩
  have hTs : T.size ≤ 40 := by rw [hT, strOfNums_size]; have := textL_length zs len 40 (newS zs len) (by omega); omega
  have HT : Hid (strOfNums (textL zs len 40 (newS zs len)) = T) := hT.symm
  clear hT
  go_enter Tryd.func3, Tryd.ntmps3
  go_wp2_with fail
  refine (big_at a len cap false (decide_eq_false (by omega)) w).mono ?_
  rintro e w' ⟨rfl, rfl⟩
  go_wp2_with fail
  refine (drawVar_at a len cap zs w HR.out hl).mono ?_
  rintro e w1 ⟨rfl, b1⟩
  rw [HM.out]
  go_wp2_with fail
  refine (drawHex_at a len cap zs w1 (isRow_below HR.out b1 lowR.out) hl).mono ?_
  rintro e w2 ⟨rfl, b2'⟩
  have b2 := b1.trans (b2'.mono b1.size)
  rw [HT.out]
  clear b1 b2' HM HT
  go_wp2_with fail
  refine (impl_var m (by omega) w2).mono ?_
  rintro e w3 ⟨rfl, b3'⟩
  have b3 := b2.trans (b3'.mono b2.size)
  clear b2 b3'
  have hVs : (strOfNums (vr m)).size = (vr m).length := strOfNums_size _
  have hV7 := vr_length7 (n := m) (by omega)
  have hVp := vr_pos m
  have hVe := nonempty_vr m
  have hrv := rv_back m (by omega) T
  generalize (vr m).length = vl at *
  generalize strOfNums (vr m) = V at *
  have HV : Hid (IsRv (V ++ T) m vl) := hrv
  clear hrv
  go_wp2_with fail
  refine (impl_rv (V ++ T) (by rw [ByteArray.size_append]; omega) w3).mono ?_
  rintro e w4 ⟨⟨x, k, hxk, rfl⟩, rfl⟩
  obtain ⟨hx1, hx2⟩ := isRv_one hxk HV.out
  subst x
  subst k
  clear hxk HV
  go_wp2_with fail
  have hq0 : m / 256 ^ 7 = 0 := Nat.div_eq_of_lt (by omega)
  have hFa : fxAns m 7 = fx m 7 := by rw [fxAns, if_pos hq0]
  have hF := impl_fx_all m 7 (by omega) (by omega) (by omega) w3
  rw [hFa] at hF
  refine hF.mono ?_
  rintro e w5 ⟨rfl, b5'⟩
  have b5 := b3.trans (b5'.mono b3.size)
  have hFs := fx_size m
  have hFe : (fx m 7).toList.isEmpty = false := by rw [Lib.toList_data]; rfl
  have hFb := fx_back m hq0 T
  clear b3 b5' hF hFa hq0
  generalize fx m 7 = F at *
  go_wp2_with fail
  have hG := impl_rf (F ++ T) 7 (by omega) (by omega) (by rw [ByteArray.size_append]; omega) (by rw [ByteArray.size_append]; unfold maxLen; omega) w5
  have e7 : (7 : Int).toNat = 7 := rfl
  rw [e7, hFb] at hG
  refine hG.mono ?_
  clear hG hFb e7
  rintro e w6 ⟨rfl, rfl⟩
  go_wp2_with fail
  refine (impl_dec (m : Int) (by omega) (by omega) w6 (var_kept gPow HP.out b5)).mono ?_
  rintro e w7 ⟨rfl, b7'⟩
  have b7 := b5.trans (b7'.mono b5.size)
  have hIl := Lib.itoa_length_le (m : Int) (by omega) (by omega)
  have hIs : (ByteArray.mk (Lib.itoa (m : Int)).toArray).size ≤ 21 := by simpa [ByteArray.size] using hIl
  clear b5 b7'
  go_wp2_with fail
  refine (impl_rd (ByteArray.mk (Lib.itoa (m : Int)).toArray) (by omega) w7 (var_kept gPow HP.out b7) ts tr ps pr (var_kept gSyn HS.out b7) (var_kept gRng HRg.out b7)).mono ?_
  rintro e w8 ⟨⟨d, fine, hrd, rfl⟩, b8'⟩
  have b8 := b7.trans (b8'.mono b7.size)
  have hrd2 : IsRd (ByteArray.mk (Lib.itoa (m : Int)).toArray).data.toList (m : Int) true := Or.inl ⟨rfl, by omega, by omega, by simp⟩
  obtain ⟨hd1, hd2⟩ := isRd_one hrd hrd2
  subst d
  subst fine
  clear hrd hrd2 b7 b8' hIl hIs
  have D1 : decide ((-1000000000 : Int) < (m : Int)) = true := decide_eq_true (by omega)
  have D2 : decide ((m : Int) < 1000000000) = true := decide_eq_true (by omega)
  clear hA
  go_wp2_with fail
  clear D1 D2
  refine (impl_hex T (by omega) w8).mono ?_
  rintro e w9 ⟨rfl, b9'⟩
  have b9 := b8.trans (b9'.mono b8.size)
  have hHs : (strOfNums (hx T T.size)).size = 2 * T.size := by rw [strOfNums_size, hx_length]
  have hH := hex_back T
  generalize strOfNums (hx T T.size) = X at *
  clear b8 b9'
  go_wp2_with fail
  have hU := impl_unhex X (by omega) (by omega) w9
  rw [hH.1, hH.2] at hU
  refine hU.mono ?_
  clear hU hH hHs
  rintro e w10 ⟨rfl, b10'⟩
  have b10 := b9.trans (b10'.mono b9.size)
  clear b9 b10'
  go_wp2_with fail
  refine (drawRv_at a len cap zs w10 (isRow_below HR.out b10 lowR.out) hl).mono ?_
  rintro e w11 ⟨rfl, b11'⟩
  have b11 := b10.trans (b11'.mono b10.size)
  have hRs := rvV_size zs len
  clear b10 b11'
  go_wp2_with fail
  refine (impl_rv (rvV zs len) (by omega) w11).mono ?_
  rintro e w12 ⟨⟨z, j, hzj, rfl⟩, rfl⟩
  rcases hzj with ⟨hz0, hj0, _⟩ | ⟨hj1, hj7, hjl, hg, hz⟩
  · subst z
    subst j
    go_wp2
    go_ret
    exact ⟨rfl, b11⟩
  · have hz49 : z ≤ 562949953421311 := by rw [hz]; exact val_lt49 _ 0 j hj7
    have hcmp : ((strOfNums (vr z)).toList == ((rvV zs len).extract 0 j).toList) = true := (cmp_var (rvV zs len) j z hjl).2 (by rw [hz]; exact (vr_iff _ j hj1).2 hg)
    have HCM : Hid (((strOfNums (vr z)).toList == ((rvV zs len).extract 0 j).toList) = true) := hcmp
    have hj0 : ((j : Int) == 0) = false := beq_eq_false_iff_ne.2 (by omega)
    have hjp : (0 : Int) < j := by omega
    have hjl' : (j : Int) ≤ (rvV zs len).size := by omega
    have HZ : Hid (z ≤ 562949953421311) := hz49
    clear hcmp hg hz hz49
    go_wp2_with fail
    refine (drawRv_at a len cap zs w11 (isRow_below HR.out b11 lowR.out) hl).mono ?_
    rintro e w13 ⟨rfl, b13'⟩
    have b13 := b11.trans (b13'.mono b11.size)
    clear b11 b13'
    go_wp2_with fail
    refine (impl_var z HZ.out w13).mono ?_
    rintro e w14 ⟨rfl, b14'⟩
    have b14 := b13.trans (b14'.mono b13.size)
    clear b13 b14'
    go_wp2_with fail
    refine (drawRv_at a len cap zs w14 (isRow_below HR.out b14 lowR.out) hl).mono ?_
    rintro e w15 ⟨rfl, b15'⟩
    have b15 := b14.trans (b15'.mono b14.size)
    clear b14 b15'
    have hcmp2 := HCM.out
    go_wp2
    go_ret
    exact ⟨rfl, b15⟩

set_option maxRecDepth 200000 in
set_option maxHeartbeats 1000000 in
theorem law_A2 (a : Option Addr) (len cap : Nat) (zs : List Int) (w : World) (hrow : IsRow w a len cap zs) (hl : len ≤ 1048576) (m : Nat) (hm : (numV zs len (newS zs len)).1 = m) (hA : 1000000000 ≤ m) (hA2 : m ≤ 562949953421311)
    (hp : PowIs w) (ts tr : TypeId) (ps pr : Value) (hS : w.var? Tryd.prog "strconv.ErrSyntax" = some #[.iface ts ps]) (hR : w.var? Tryd.prog "strconv.ErrRange" = some #[.iface tr pr]) :
    Calls Tryd.prog 3 #[.slice a len cap] w fun e w' => e = .returned (.bool true) ∧ Below w.heap.size w w' := by
  have HR : Hid (IsRow w a len cap zs) := hrow
  have HP : Hid (PowIs w) := hp
  have HS : Hid (w.var? Tryd.prog "strconv.ErrSyntax" = some #[.iface ts ps]) := hS
  have HRg : Hid (w.var? Tryd.prog "strconv.ErrRange" = some #[.iface tr pr]) := hR
  have HM : Hid ((numV zs len (newS zs len)).1 = m) := hm
  have lowR : Hid (∀ x, a = some x → 0 < zs.length → x.block < w.heap.size) := row_low hrow
  clear hrow hp hS hR hm
  obtain ⟨T, hT⟩ : ∃ T, T = strOfNums (textL zs len 40 (newS zs len)) := ⟨_, rfl⟩
  have hTs : T.size ≤ 40 := by rw [hT, strOfNums_size]; have := textL_length zs len 40 (newS zs len) (by omega); omega
  have HT : Hid (strOfNums (textL zs len 40 (newS zs len)) = T) := hT.symm
  clear hT
  go_enter Tryd.func3, Tryd.ntmps3
  go_wp2_with fail
  refine (big_at a len cap false (decide_eq_false (by omega)) w).mono ?_
  rintro e w' ⟨rfl, rfl⟩
  go_wp2_with fail
  refine (drawVar_at a len cap zs w HR.out hl).mono ?_
  rintro e w1 ⟨rfl, b1⟩
  rw [HM.out]
  go_wp2_with fail
  refine (drawHex_at a len cap zs w1 (isRow_below HR.out b1 lowR.out) hl).mono ?_
  rintro e w2 ⟨rfl, b2'⟩
  have b2 := b1.trans (b2'.mono b1.size)
  rw [HT.out]
  clear b1 b2' HM HT
  go_wp2_with fail
  refine (impl_var m (by omega) w2).mono ?_
  rintro e w3 ⟨rfl, b3'⟩
  have b3 := b2.trans (b3'.mono b2.size)
  clear b2 b3'
  have hVs : (strOfNums (vr m)).size = (vr m).length := strOfNums_size _
  have hV7 := vr_length7 (n := m) (by omega)
  have hVp := vr_pos m
  have hVe := nonempty_vr m
  have hrv := rv_back m (by omega) T
  generalize (vr m).length = vl at *
  generalize strOfNums (vr m) = V at *
  have HV : Hid (IsRv (V ++ T) m vl) := hrv
  clear hrv
  go_wp2_with fail
  refine (impl_rv (V ++ T) (by rw [ByteArray.size_append]; omega) w3).mono ?_
  rintro e w4 ⟨⟨x, k, hxk, rfl⟩, rfl⟩
  obtain ⟨hx1, hx2⟩ := isRv_one hxk HV.out
  subst x
  subst k
  clear hxk HV
  go_wp2_with fail
  have hq0 : m / 256 ^ 7 = 0 := Nat.div_eq_of_lt (by omega)
  have hFa : fxAns m 7 = fx m 7 := by rw [fxAns, if_pos hq0]
  have hF := impl_fx_all m 7 (by omega) (by omega) (by omega) w3
  rw [hFa] at hF
  refine hF.mono ?_
  rintro e w5 ⟨rfl, b5'⟩
  have b5 := b3.trans (b5'.mono b3.size)
  have hFs := fx_size m
  have hFe : (fx m 7).toList.isEmpty = false := by rw [Lib.toList_data]; rfl
  have hFb := fx_back m hq0 T
  clear b3 b5' hF hFa hq0
  generalize fx m 7 = F at *
  go_wp2_with fail
  have hG := impl_rf (F ++ T) 7 (by omega) (by omega) (by rw [ByteArray.size_append]; omega) (by rw [ByteArray.size_append]; unfold maxLen; omega) w5
  have e7 : (7 : Int).toNat = 7 := rfl
  rw [e7, hFb] at hG
  refine hG.mono ?_
  clear hG hFb e7
  rintro e w6 ⟨rfl, rfl⟩
  go_wp2_with fail
  refine (impl_dec (m : Int) (by omega) (by omega) w6 (var_kept gPow HP.out b5)).mono ?_
  rintro e w7 ⟨rfl, b7'⟩
  have b7 := b5.trans (b7'.mono b5.size)
  have hIl := Lib.itoa_length_le (m : Int) (by omega) (by omega)
  have hIs : (ByteArray.mk (Lib.itoa (m : Int)).toArray).size ≤ 21 := by simpa [ByteArray.size] using hIl
  clear b5 b7'
  go_wp2_with fail
  refine (impl_rd (ByteArray.mk (Lib.itoa (m : Int)).toArray) (by omega) w7 (var_kept gPow HP.out b7) ts tr ps pr (var_kept gSyn HS.out b7) (var_kept gRng HRg.out b7)).mono ?_
  rintro e w8 ⟨⟨d, fine, hrd, rfl⟩, b8'⟩
  have b8 := b7.trans (b8'.mono b7.size)
  have hrd2 : IsRd (ByteArray.mk (Lib.itoa (m : Int)).toArray).data.toList 0 false := Or.inr ⟨rfl, rfl, fun m' h1' h2' he' => by
    have a1 := atoi_itoa (m : Int) (by omega) (by omega)
    have a2 := atoi_itoa m' (by omega) (by omega)
    have he2 : Lib.itoa (m : Int) = Lib.itoa m' := by simpa using he'
    rw [he2, a2] at a1
    injection a1 with a1
    omega⟩
  obtain ⟨hd1, hd2⟩ := isRd_one hrd hrd2
  subst d
  subst fine
  clear hrd hrd2 b7 b8' hIl hIs
  have D1 : decide ((-1000000000 : Int) < (m : Int)) = true := decide_eq_true (by omega)
  have D2 : decide ((m : Int) < 1000000000) = false := decide_eq_false (by omega)
  clear hA hA2
  go_wp2_with fail
  clear D1 D2
  refine (impl_hex T (by omega) w8).mono ?_
  rintro e w9 ⟨rfl, b9'⟩
  have b9 := b8.trans (b9'.mono b8.size)
  have hHs : (strOfNums (hx T T.size)).size = 2 * T.size := by rw [strOfNums_size, hx_length]
  have hH := hex_back T
  generalize strOfNums (hx T T.size) = X at *
  clear b8 b9'
  go_wp2_with fail
  have hU := impl_unhex X (by omega) (by omega) w9
  rw [hH.1, hH.2] at hU
  refine hU.mono ?_
  clear hU hH hHs
  rintro e w10 ⟨rfl, b10'⟩
  have b10 := b9.trans (b10'.mono b9.size)
  clear b9 b10'
  go_wp2_with fail
  refine (drawRv_at a len cap zs w10 (isRow_below HR.out b10 lowR.out) hl).mono ?_
  rintro e w11 ⟨rfl, b11'⟩
  have b11 := b10.trans (b11'.mono b10.size)
  have hRs := rvV_size zs len
  clear b10 b11'
  go_wp2_with fail
  refine (impl_rv (rvV zs len) (by omega) w11).mono ?_
  rintro e w12 ⟨⟨z, j, hzj, rfl⟩, rfl⟩
  rcases hzj with ⟨hz0, hj0, _⟩ | ⟨hj1, hj7, hjl, hg, hz⟩
  · subst z
    subst j
    go_wp2
    go_ret
    exact ⟨rfl, b11⟩
  · have hz49 : z ≤ 562949953421311 := by rw [hz]; exact val_lt49 _ 0 j hj7
    have hcmp : ((strOfNums (vr z)).toList == ((rvV zs len).extract 0 j).toList) = true := (cmp_var (rvV zs len) j z hjl).2 (by rw [hz]; exact (vr_iff _ j hj1).2 hg)
    have HCM : Hid (((strOfNums (vr z)).toList == ((rvV zs len).extract 0 j).toList) = true) := hcmp
    have hj0 : ((j : Int) == 0) = false := beq_eq_false_iff_ne.2 (by omega)
    have hjp : (0 : Int) < j := by omega
    have hjl' : (j : Int) ≤ (rvV zs len).size := by omega
    have HZ : Hid (z ≤ 562949953421311) := hz49
    clear hcmp hg hz hz49
    go_wp2_with fail
    refine (drawRv_at a len cap zs w11 (isRow_below HR.out b11 lowR.out) hl).mono ?_
    rintro e w13 ⟨rfl, b13'⟩
    have b13 := b11.trans (b13'.mono b11.size)
    clear b11 b13'
    go_wp2_with fail
    refine (impl_var z HZ.out w13).mono ?_
    rintro e w14 ⟨rfl, b14'⟩
    have b14 := b13.trans (b14'.mono b13.size)
    clear b13 b14'
    go_wp2_with fail
    refine (drawRv_at a len cap zs w14 (isRow_below HR.out b14 lowR.out) hl).mono ?_
    rintro e w15 ⟨rfl, b15'⟩
    have b15 := b14.trans (b15'.mono b14.size)
    clear b14 b15'
    have hcmp2 := HCM.out
    go_wp2
    go_ret
    exact ⟨rfl, b15⟩

set_option maxRecDepth 200000 in
set_option maxHeartbeats 1000000 in
theorem law_B1 (a : Option Addr) (len cap : Nat) (zs : List Int) (w : World) (hrow : IsRow w a len cap zs) (hl : len ≤ 1048576) (n : Int) (hm : (numV zs len (newS zs len)).1 = n) (hA : n < 0) (hA2 : -1000000000 < n)
    (hp : PowIs w) (ts tr : TypeId) (ps pr : Value) (hS : w.var? Tryd.prog "strconv.ErrSyntax" = some #[.iface ts ps]) (hR : w.var? Tryd.prog "strconv.ErrRange" = some #[.iface tr pr]) :
    Calls Tryd.prog 3 #[.slice a len cap] w fun e w' => e = .returned (.bool true) ∧ Below w.heap.size w w' := by
  have HR : Hid (IsRow w a len cap zs) := hrow
  have HP : Hid (PowIs w) := hp
  have HS : Hid (w.var? Tryd.prog "strconv.ErrSyntax" = some #[.iface ts ps]) := hS
  have HRg : Hid (w.var? Tryd.prog "strconv.ErrRange" = some #[.iface tr pr]) := hR
  have HM : Hid ((numV zs len (newS zs len)).1 = n) := hm
  have lowR : Hid (∀ x, a = some x → 0 < zs.length → x.block < w.heap.size) := row_low hrow
  clear hrow hp hS hR hm
  obtain ⟨T, hT⟩ : ∃ T, T = strOfNums (textL zs len 40 (newS zs len)) := ⟨_, rfl⟩
  have hTs : T.size ≤ 40 := by rw [hT, strOfNums_size]; have := textL_length zs len 40 (newS zs len) (by omega); omega
  have HT : Hid (strOfNums (textL zs len 40 (newS zs len)) = T) := hT.symm
  clear hT
  go_enter Tryd.func3, Tryd.ntmps3
  go_wp2_with fail
  refine (big_at a len cap false (decide_eq_false (by omega)) w).mono ?_
  rintro e w' ⟨rfl, rfl⟩
  go_wp2_with fail
  refine (drawVar_at a len cap zs w HR.out hl).mono ?_
  rintro e w1 ⟨rfl, b1⟩
  rw [HM.out]
  go_wp2_with fail
  refine (drawHex_at a len cap zs w1 (isRow_below HR.out b1 lowR.out) hl).mono ?_
  rintro e w2 ⟨rfl, b2'⟩
  have b2 := b1.trans (b2'.mono b1.size)
  rw [HT.out]
  clear b1 b2' HM HT
  go_wp2_with fail
  refine (impl_var_no n (by omega) w2).mono ?_
  rintro e w3 ⟨rfl, b3'⟩
  have b3 := b2.trans (b3'.mono b2.size)
  clear b2 b3'
  go_wp2_with fail
  refine (impl_rv (ByteArray.empty ++ T) (by rw [ByteArray.size_append]; simp; omega) w3).mono ?_
  rintro e w4 ⟨⟨x, k, hxk, rfl⟩, rfl⟩
  clear hxk
  go_wp2_with fail
  refine (impl_fx_no n 7 (by omega) w3).mono ?_
  rintro e w5 ⟨rfl, b5'⟩
  have b5 := b3.trans (b5'.mono b3.size)
  clear b3 b5'
  go_wp2_with fail
  refine (rf_any (ByteArray.empty ++ T) (by rw [ByteArray.size_append]; simp; unfold maxLen; omega) w5).mono ?_
  rintro e w6 ⟨⟨y, is, rfl⟩, rfl⟩
  go_wp2_with fail
  refine (impl_dec n (by omega) (by omega) w5 (var_kept gPow HP.out b5)).mono ?_
  rintro e w7 ⟨rfl, b7'⟩
  have b7 := b5.trans (b7'.mono b5.size)
  have hIl := Lib.itoa_length_le n (by omega) (by omega)
  have hIs : (ByteArray.mk (Lib.itoa n).toArray).size ≤ 21 := by simpa [ByteArray.size] using hIl
  clear b5 b7'
  go_wp2_with fail
  refine (impl_rd (ByteArray.mk (Lib.itoa n).toArray) (by omega) w7 (var_kept gPow HP.out b7) ts tr ps pr (var_kept gSyn HS.out b7) (var_kept gRng HRg.out b7)).mono ?_
  rintro e w8 ⟨⟨d, fine, hrd, rfl⟩, b8'⟩
  have b8 := b7.trans (b8'.mono b7.size)
  have hrd2 : IsRd (ByteArray.mk (Lib.itoa n).toArray).data.toList n true := Or.inl ⟨rfl, by omega, by omega, by simp⟩
  obtain ⟨hd1, hd2⟩ := isRd_one hrd hrd2
  subst d
  subst fine
  clear hrd hrd2 b7 b8' hIl hIs
  have D1 : decide ((-1000000000 : Int) < n) = true := decide_eq_true (by omega)
  have D2 : decide (n < 1000000000) = true := decide_eq_true (by omega)
  clear hA hA2
  go_wp2_with fail
  clear D1 D2
  refine (impl_hex T (by omega) w8).mono ?_
  rintro e w9 ⟨rfl, b9'⟩
  have b9 := b8.trans (b9'.mono b8.size)
  have hHs : (strOfNums (hx T T.size)).size = 2 * T.size := by rw [strOfNums_size, hx_length]
  have hH := hex_back T
  generalize strOfNums (hx T T.size) = X at *
  clear b8 b9'
  go_wp2_with fail
  have hU := impl_unhex X (by omega) (by omega) w9
  rw [hH.1, hH.2] at hU
  refine hU.mono ?_
  clear hU hH hHs
  rintro e w10 ⟨rfl, b10'⟩
  have b10 := b9.trans (b10'.mono b9.size)
  clear b9 b10'
  go_wp2_with fail
  refine (drawRv_at a len cap zs w10 (isRow_below HR.out b10 lowR.out) hl).mono ?_
  rintro e w11 ⟨rfl, b11'⟩
  have b11 := b10.trans (b11'.mono b10.size)
  have hRs := rvV_size zs len
  clear b10 b11'
  go_wp2_with fail
  refine (impl_rv (rvV zs len) (by omega) w11).mono ?_
  rintro e w12 ⟨⟨z, j, hzj, rfl⟩, rfl⟩
  rcases hzj with ⟨hz0, hj0, _⟩ | ⟨hj1, hj7, hjl, hg, hz⟩
  · subst z
    subst j
    go_wp2
    go_ret
    exact ⟨rfl, b11⟩
  · have hz49 : z ≤ 562949953421311 := by rw [hz]; exact val_lt49 _ 0 j hj7
    have hcmp : ((strOfNums (vr z)).toList == ((rvV zs len).extract 0 j).toList) = true := (cmp_var (rvV zs len) j z hjl).2 (by rw [hz]; exact (vr_iff _ j hj1).2 hg)
    have HCM : Hid (((strOfNums (vr z)).toList == ((rvV zs len).extract 0 j).toList) = true) := hcmp
    have hj0 : ((j : Int) == 0) = false := beq_eq_false_iff_ne.2 (by omega)
    have hjp : (0 : Int) < j := by omega
    have hjl' : (j : Int) ≤ (rvV zs len).size := by omega
    have HZ : Hid (z ≤ 562949953421311) := hz49
    clear hcmp hg hz hz49
    go_wp2_with fail
    refine (drawRv_at a len cap zs w11 (isRow_below HR.out b11 lowR.out) hl).mono ?_
    rintro e w13 ⟨rfl, b13'⟩
    have b13 := b11.trans (b13'.mono b11.size)
    clear b11 b13'
    go_wp2_with fail
    refine (impl_var z HZ.out w13).mono ?_
    rintro e w14 ⟨rfl, b14'⟩
    have b14 := b13.trans (b14'.mono b13.size)
    clear b13 b14'
    go_wp2_with fail
    refine (drawRv_at a len cap zs w14 (isRow_below HR.out b14 lowR.out) hl).mono ?_
    rintro e w15 ⟨rfl, b15'⟩
    have b15 := b14.trans (b15'.mono b14.size)
    clear b14 b15'
    have hcmp2 := HCM.out
    go_wp2
    go_ret
    exact ⟨rfl, b15⟩

set_option maxRecDepth 200000 in
set_option maxHeartbeats 1000000 in
theorem law_B2 (a : Option Addr) (len cap : Nat) (zs : List Int) (w : World) (hrow : IsRow w a len cap zs) (hl : len ≤ 1048576) (n : Int) (hm : (numV zs len (newS zs len)).1 = n) (hA : -9223372036854775808 ≤ n) (hA2 : n ≤ -1000000000)
    (hp : PowIs w) (ts tr : TypeId) (ps pr : Value) (hS : w.var? Tryd.prog "strconv.ErrSyntax" = some #[.iface ts ps]) (hR : w.var? Tryd.prog "strconv.ErrRange" = some #[.iface tr pr]) :
    Calls Tryd.prog 3 #[.slice a len cap] w fun e w' => e = .returned (.bool true) ∧ Below w.heap.size w w' := by
  have HR : Hid (IsRow w a len cap zs) := hrow
  have HP : Hid (PowIs w) := hp
  have HS : Hid (w.var? Tryd.prog "strconv.ErrSyntax" = some #[.iface ts ps]) := hS
  have HRg : Hid (w.var? Tryd.prog "strconv.ErrRange" = some #[.iface tr pr]) := hR
  have HM : Hid ((numV zs len (newS zs len)).1 = n) := hm
  have lowR : Hid (∀ x, a = some x → 0 < zs.length → x.block < w.heap.size) := row_low hrow
  clear hrow hp hS hR hm
  obtain ⟨T, hT⟩ : ∃ T, T = strOfNums (textL zs len 40 (newS zs len)) := ⟨_, rfl⟩
  have hTs : T.size ≤ 40 := by rw [hT, strOfNums_size]; have := textL_length zs len 40 (newS zs len) (by omega); omega
  have HT : Hid (strOfNums (textL zs len 40 (newS zs len)) = T) := hT.symm
  clear hT
  go_enter Tryd.func3, Tryd.ntmps3
  go_wp2_with fail
  refine (big_at a len cap false (decide_eq_false (by omega)) w).mono ?_
  rintro e w' ⟨rfl, rfl⟩
  go_wp2_with fail
  refine (drawVar_at a len cap zs w HR.out hl).mono ?_
  rintro e w1 ⟨rfl, b1⟩
  rw [HM.out]
  go_wp2_with fail
  refine (drawHex_at a len cap zs w1 (isRow_below HR.out b1 lowR.out) hl).mono ?_
  rintro e w2 ⟨rfl, b2'⟩
  have b2 := b1.trans (b2'.mono b1.size)
  rw [HT.out]
  clear b1 b2' HM HT
  go_wp2_with fail
  refine (impl_var_no n (by omega) w2).mono ?_
  rintro e w3 ⟨rfl, b3'⟩
  have b3 := b2.trans (b3'.mono b2.size)
  clear b2 b3'
  go_wp2_with fail
  refine (impl_rv (ByteArray.empty ++ T) (by rw [ByteArray.size_append]; simp; omega) w3).mono ?_
  rintro e w4 ⟨⟨x, k, hxk, rfl⟩, rfl⟩
  clear hxk
  go_wp2_with fail
  refine (impl_fx_no n 7 (by omega) w3).mono ?_
  rintro e w5 ⟨rfl, b5'⟩
  have b5 := b3.trans (b5'.mono b3.size)
  clear b3 b5'
  go_wp2_with fail
  refine (rf_any (ByteArray.empty ++ T) (by rw [ByteArray.size_append]; simp; unfold maxLen; omega) w5).mono ?_
  rintro e w6 ⟨⟨y, is, rfl⟩, rfl⟩
  go_wp2_with fail
  refine (impl_dec n (by omega) (by omega) w5 (var_kept gPow HP.out b5)).mono ?_
  rintro e w7 ⟨rfl, b7'⟩
  have b7 := b5.trans (b7'.mono b5.size)
  have hIl := Lib.itoa_length_le n (by omega) (by omega)
  have hIs : (ByteArray.mk (Lib.itoa n).toArray).size ≤ 21 := by simpa [ByteArray.size] using hIl
  clear b5 b7'
  go_wp2_with fail
  refine (impl_rd (ByteArray.mk (Lib.itoa n).toArray) (by omega) w7 (var_kept gPow HP.out b7) ts tr ps pr (var_kept gSyn HS.out b7) (var_kept gRng HRg.out b7)).mono ?_
  rintro e w8 ⟨⟨d, fine, hrd, rfl⟩, b8'⟩
  have b8 := b7.trans (b8'.mono b7.size)
  have hrd2 : IsRd (ByteArray.mk (Lib.itoa n).toArray).data.toList 0 false := Or.inr ⟨rfl, rfl, fun m' h1' h2' he' => by
    have a1 := atoi_itoa n (by omega) (by omega)
    have a2 := atoi_itoa m' (by omega) (by omega)
    have he2 : Lib.itoa n = Lib.itoa m' := by simpa using he'
    rw [he2, a2] at a1
    injection a1 with a1
    omega⟩
  obtain ⟨hd1, hd2⟩ := isRd_one hrd hrd2
  subst d
  subst fine
  clear hrd hrd2 b7 b8' hIl hIs
  have D1 : decide ((-1000000000 : Int) < n) = false := decide_eq_false (by omega)
  have D2 : decide (n < 1000000000) = true := decide_eq_true (by omega)
  clear hA hA2
  go_wp2_with fail
  clear D1 D2
  refine (impl_hex T (by omega) w8).mono ?_
  rintro e w9 ⟨rfl, b9'⟩
  have b9 := b8.trans (b9'.mono b8.size)
  have hHs : (strOfNums (hx T T.size)).size = 2 * T.size := by rw [strOfNums_size, hx_length]
  have hH := hex_back T
  generalize strOfNums (hx T T.size) = X at *
  clear b8 b9'
  go_wp2_with fail
  have hU := impl_unhex X (by omega) (by omega) w9
  rw [hH.1, hH.2] at hU
  refine hU.mono ?_
  clear hU hH hHs
  rintro e w10 ⟨rfl, b10'⟩
  have b10 := b9.trans (b10'.mono b9.size)
  clear b9 b10'
  go_wp2_with fail
  refine (drawRv_at a len cap zs w10 (isRow_below HR.out b10 lowR.out) hl).mono ?_
  rintro e w11 ⟨rfl, b11'⟩
  have b11 := b10.trans (b11'.mono b10.size)
  have hRs := rvV_size zs len
  clear b10 b11'
  go_wp2_with fail
  refine (impl_rv (rvV zs len) (by omega) w11).mono ?_
  rintro e w12 ⟨⟨z, j, hzj, rfl⟩, rfl⟩
  rcases hzj with ⟨hz0, hj0, _⟩ | ⟨hj1, hj7, hjl, hg, hz⟩
  · subst z
    subst j
    go_wp2
    go_ret
    exact ⟨rfl, b11⟩
  · have hz49 : z ≤ 562949953421311 := by rw [hz]; exact val_lt49 _ 0 j hj7
    have hcmp : ((strOfNums (vr z)).toList == ((rvV zs len).extract 0 j).toList) = true := (cmp_var (rvV zs len) j z hjl).2 (by rw [hz]; exact (vr_iff _ j hj1).2 hg)
    have HCM : Hid (((strOfNums (vr z)).toList == ((rvV zs len).extract 0 j).toList) = true) := hcmp
    have hj0 : ((j : Int) == 0) = false := beq_eq_false_iff_ne.2 (by omega)
    have hjp : (0 : Int) < j := by omega
    have hjl' : (j : Int) ≤ (rvV zs len).size := by omega
    have HZ : Hid (z ≤ 562949953421311) := hz49
    clear hcmp hg hz hz49
    go_wp2_with fail
    refine (drawRv_at a len cap zs w11 (isRow_below HR.out b11 lowR.out) hl).mono ?_
    rintro e w13 ⟨rfl, b13'⟩
    have b13 := b11.trans (b13'.mono b11.size)
    clear b11 b13'
    go_wp2_with fail
    refine (impl_var z HZ.out w13).mono ?_
    rintro e w14 ⟨rfl, b14'⟩
    have b14 := b13.trans (b14'.mono b13.size)
    clear b13 b14'
    go_wp2_with fail
    refine (drawRv_at a len cap zs w14 (isRow_below HR.out b14 lowR.out) hl).mono ?_
    rintro e w15 ⟨rfl, b15'⟩
    have b15 := b14.trans (b15'.mono b14.size)
    clear b14 b15'
    have hcmp2 := HCM.out
    go_wp2
    go_ret
    exact ⟨rfl, b15⟩

set_option maxRecDepth 200000 in
set_option maxHeartbeats 1000000 in
theorem law_C1 (a : Option Addr) (len cap : Nat) (zs : List Int) (w : World) (hrow : IsRow w a len cap zs) (hl : len ≤ 1048576) (m : Nat) (hm : (numV zs len (newS zs len)).1 = m) (hA : 562949953421311 < m) (hA2 : m < 72057594037927936)
    (hp : PowIs w) (ts tr : TypeId) (ps pr : Value) (hS : w.var? Tryd.prog "strconv.ErrSyntax" = some #[.iface ts ps]) (hR : w.var? Tryd.prog "strconv.ErrRange" = some #[.iface tr pr]) :
    Calls Tryd.prog 3 #[.slice a len cap] w fun e w' => e = .returned (.bool true) ∧ Below w.heap.size w w' := by
  have HR : Hid (IsRow w a len cap zs) := hrow
  have HP : Hid (PowIs w) := hp
  have HS : Hid (w.var? Tryd.prog "strconv.ErrSyntax" = some #[.iface ts ps]) := hS
  have HRg : Hid (w.var? Tryd.prog "strconv.ErrRange" = some #[.iface tr pr]) := hR
  have HM : Hid ((numV zs len (newS zs len)).1 = m) := hm
  have lowR : Hid (∀ x, a = some x → 0 < zs.length → x.block < w.heap.size) := row_low hrow
  clear hrow hp hS hR hm
  obtain ⟨T, hT⟩ : ∃ T, T = strOfNums (textL zs len 40 (newS zs len)) := ⟨_, rfl⟩
  have hTs : T.size ≤ 40 := by rw [hT, strOfNums_size]; have := textL_length zs len 40 (newS zs len) (by omega); omega
  have HT : Hid (strOfNums (textL zs len 40 (newS zs len)) = T) := hT.symm
  clear hT
  go_enter Tryd.func3, Tryd.ntmps3
  go_wp2_with fail
  refine (big_at a len cap false (decide_eq_false (by omega)) w).mono ?_
  rintro e w' ⟨rfl, rfl⟩
  go_wp2_with fail
  refine (drawVar_at a len cap zs w HR.out hl).mono ?_
  rintro e w1 ⟨rfl, b1⟩
  rw [HM.out]
  go_wp2_with fail
  refine (drawHex_at a len cap zs w1 (isRow_below HR.out b1 lowR.out) hl).mono ?_
  rintro e w2 ⟨rfl, b2'⟩
  have b2 := b1.trans (b2'.mono b1.size)
  rw [HT.out]
  clear b1 b2' HM HT
  go_wp2_with fail
  refine (impl_var_no (m : Int) (by omega) w2).mono ?_
  rintro e w3 ⟨rfl, b3'⟩
  have b3 := b2.trans (b3'.mono b2.size)
  clear b2 b3'
  go_wp2_with fail
  refine (impl_rv (ByteArray.empty ++ T) (by rw [ByteArray.size_append]; simp; omega) w3).mono ?_
  rintro e w4 ⟨⟨x, k, hxk, rfl⟩, rfl⟩
  clear hxk
  go_wp2_with fail
  have hq0 : m / 256 ^ 7 = 0 := Nat.div_eq_of_lt (by omega)
  have hFa : fxAns m 7 = fx m 7 := by rw [fxAns, if_pos hq0]
  have hF := impl_fx_all m 7 (by omega) (by omega) (by omega) w3
  rw [hFa] at hF
  refine hF.mono ?_
  rintro e w5 ⟨rfl, b5'⟩
  have b5 := b3.trans (b5'.mono b3.size)
  have hFs := fx_size m
  have hFe : (fx m 7).toList.isEmpty = false := by rw [Lib.toList_data]; rfl
  have hFb := fx_back m hq0 T
  clear b3 b5' hF hFa hq0
  generalize fx m 7 = F at *
  go_wp2_with fail
  have hG := impl_rf (F ++ T) 7 (by omega) (by omega) (by rw [ByteArray.size_append]; omega) (by rw [ByteArray.size_append]; unfold maxLen; omega) w5
  have e7 : (7 : Int).toNat = 7 := rfl
  rw [e7, hFb] at hG
  refine hG.mono ?_
  clear hG hFb e7
  rintro e w6 ⟨rfl, rfl⟩
  go_wp2_with fail
  refine (impl_dec (m : Int) (by omega) (by omega) w6 (var_kept gPow HP.out b5)).mono ?_
  rintro e w7 ⟨rfl, b7'⟩
  have b7 := b5.trans (b7'.mono b5.size)
  have hIl := Lib.itoa_length_le (m : Int) (by omega) (by omega)
  have hIs : (ByteArray.mk (Lib.itoa (m : Int)).toArray).size ≤ 21 := by simpa [ByteArray.size] using hIl
  clear b5 b7'
  go_wp2_with fail
  refine (impl_rd (ByteArray.mk (Lib.itoa (m : Int)).toArray) (by omega) w7 (var_kept gPow HP.out b7) ts tr ps pr (var_kept gSyn HS.out b7) (var_kept gRng HRg.out b7)).mono ?_
  rintro e w8 ⟨⟨d, fine, hrd, rfl⟩, b8'⟩
  have b8 := b7.trans (b8'.mono b7.size)
  have hrd2 : IsRd (ByteArray.mk (Lib.itoa (m : Int)).toArray).data.toList 0 false := Or.inr ⟨rfl, rfl, fun m' h1' h2' he' => by
    have a1 := atoi_itoa (m : Int) (by omega) (by omega)
    have a2 := atoi_itoa m' (by omega) (by omega)
    have he2 : Lib.itoa (m : Int) = Lib.itoa m' := by simpa using he'
    rw [he2, a2] at a1
    injection a1 with a1
    omega⟩
  obtain ⟨hd1, hd2⟩ := isRd_one hrd hrd2
  subst d
  subst fine
  clear hrd hrd2 b7 b8' hIl hIs
  have D1 : decide ((-1000000000 : Int) < (m : Int)) = true := decide_eq_true (by omega)
  have D2 : decide ((m : Int) < 1000000000) = false := decide_eq_false (by omega)
  clear hA hA2
  go_wp2_with fail
  clear D1 D2
  refine (impl_hex T (by omega) w8).mono ?_
  rintro e w9 ⟨rfl, b9'⟩
  have b9 := b8.trans (b9'.mono b8.size)
  have hHs : (strOfNums (hx T T.size)).size = 2 * T.size := by rw [strOfNums_size, hx_length]
  have hH := hex_back T
  generalize strOfNums (hx T T.size) = X at *
  clear b8 b9'
  go_wp2_with fail
  have hU := impl_unhex X (by omega) (by omega) w9
  rw [hH.1, hH.2] at hU
  refine hU.mono ?_
  clear hU hH hHs
  rintro e w10 ⟨rfl, b10'⟩
  have b10 := b9.trans (b10'.mono b9.size)
  clear b9 b10'
  go_wp2_with fail
  refine (drawRv_at a len cap zs w10 (isRow_below HR.out b10 lowR.out) hl).mono ?_
  rintro e w11 ⟨rfl, b11'⟩
  have b11 := b10.trans (b11'.mono b10.size)
  have hRs := rvV_size zs len
  clear b10 b11'
  go_wp2_with fail
  refine (impl_rv (rvV zs len) (by omega) w11).mono ?_
  rintro e w12 ⟨⟨z, j, hzj, rfl⟩, rfl⟩
  rcases hzj with ⟨hz0, hj0, _⟩ | ⟨hj1, hj7, hjl, hg, hz⟩
  · subst z
    subst j
    go_wp2
    go_ret
    exact ⟨rfl, b11⟩
  · have hz49 : z ≤ 562949953421311 := by rw [hz]; exact val_lt49 _ 0 j hj7
    have hcmp : ((strOfNums (vr z)).toList == ((rvV zs len).extract 0 j).toList) = true := (cmp_var (rvV zs len) j z hjl).2 (by rw [hz]; exact (vr_iff _ j hj1).2 hg)
    have HCM : Hid (((strOfNums (vr z)).toList == ((rvV zs len).extract 0 j).toList) = true) := hcmp
    have hj0 : ((j : Int) == 0) = false := beq_eq_false_iff_ne.2 (by omega)
    have hjp : (0 : Int) < j := by omega
    have hjl' : (j : Int) ≤ (rvV zs len).size := by omega
    have HZ : Hid (z ≤ 562949953421311) := hz49
    clear hcmp hg hz hz49
    go_wp2_with fail
    refine (drawRv_at a len cap zs w11 (isRow_below HR.out b11 lowR.out) hl).mono ?_
    rintro e w13 ⟨rfl, b13'⟩
    have b13 := b11.trans (b13'.mono b11.size)
    clear b11 b13'
    go_wp2_with fail
    refine (impl_var z HZ.out w13).mono ?_
    rintro e w14 ⟨rfl, b14'⟩
    have b14 := b13.trans (b14'.mono b13.size)
    clear b13 b14'
    go_wp2_with fail
    refine (drawRv_at a len cap zs w14 (isRow_below HR.out b14 lowR.out) hl).mono ?_
    rintro e w15 ⟨rfl, b15'⟩
    have b15 := b14.trans (b15'.mono b14.size)
    clear b14 b15'
    have hcmp2 := HCM.out
    go_wp2
    go_ret
    exact ⟨rfl, b15⟩

set_option maxRecDepth 200000 in
set_option maxHeartbeats 1000000 in
theorem law_C2 (a : Option Addr) (len cap : Nat) (zs : List Int) (w : World) (hrow : IsRow w a len cap zs) (hl : len ≤ 1048576) (m : Nat) (hm : (numV zs len (newS zs len)).1 = m) (hA : 72057594037927936 ≤ m) (hA2 : m < 9223372036854775808)
    (hp : PowIs w) (ts tr : TypeId) (ps pr : Value) (hS : w.var? Tryd.prog "strconv.ErrSyntax" = some #[.iface ts ps]) (hR : w.var? Tryd.prog "strconv.ErrRange" = some #[.iface tr pr]) :
    Calls Tryd.prog 3 #[.slice a len cap] w fun e w' => e = .returned (.bool true) ∧ Below w.heap.size w w' := by
  have HR : Hid (IsRow w a len cap zs) := hrow
  have HP : Hid (PowIs w) := hp
  have HS : Hid (w.var? Tryd.prog "strconv.ErrSyntax" = some #[.iface ts ps]) := hS
  have HRg : Hid (w.var? Tryd.prog "strconv.ErrRange" = some #[.iface tr pr]) := hR
  have HM : Hid ((numV zs len (newS zs len)).1 = m) := hm
  have lowR : Hid (∀ x, a = some x → 0 < zs.length → x.block < w.heap.size) := row_low hrow
  clear hrow hp hS hR hm
  obtain ⟨T, hT⟩ : ∃ T, T = strOfNums (textL zs len 40 (newS zs len)) := ⟨_, rfl⟩
  have hTs : T.size ≤ 40 := by rw [hT, strOfNums_size]; have := textL_length zs len 40 (newS zs len) (by omega); omega
  have HT : Hid (strOfNums (textL zs len 40 (newS zs len)) = T) := hT.symm
  clear hT
  go_enter Tryd.func3, Tryd.ntmps3
  go_wp2_with fail
  refine (big_at a len cap false (decide_eq_false (by omega)) w).mono ?_
  rintro e w' ⟨rfl, rfl⟩
  go_wp2_with fail
  refine (drawVar_at a len cap zs w HR.out hl).mono ?_
  rintro e w1 ⟨rfl, b1⟩
  rw [HM.out]
  go_wp2_with fail
  refine (drawHex_at a len cap zs w1 (isRow_below HR.out b1 lowR.out) hl).mono ?_
  rintro e w2 ⟨rfl, b2'⟩
  have b2 := b1.trans (b2'.mono b1.size)
  rw [HT.out]
  clear b1 b2' HM HT
  go_wp2_with fail
  refine (impl_var_no (m : Int) (by omega) w2).mono ?_
  rintro e w3 ⟨rfl, b3'⟩
  have b3 := b2.trans (b3'.mono b2.size)
  clear b2 b3'
  go_wp2_with fail
  refine (impl_rv (ByteArray.empty ++ T) (by rw [ByteArray.size_append]; simp; omega) w3).mono ?_
  rintro e w4 ⟨⟨x, k, hxk, rfl⟩, rfl⟩
  clear hxk
  go_wp2_with fail
  have hq0 : ¬ m / 256 ^ 7 = 0 := by
    intro h0
    have := Nat.lt_of_div_eq_zero (by decide) h0
    omega
  have hFa : fxAns m 7 = ByteArray.empty := by rw [fxAns, if_neg hq0]
  have hF := impl_fx_all m 7 (by omega) (by omega) (by omega) w3
  rw [hFa] at hF
  refine hF.mono ?_
  clear hF hFa hq0
  have E1 : decide ((72057594037927936 : Int) ≤ (m : Int)) = true := decide_eq_true (by omega)
  have E2 : decide ((m : Int) < 0) = false := decide_eq_false (by omega)
  rintro e w5 ⟨rfl, b5'⟩
  have b5 := b3.trans (b5'.mono b3.size)
  clear b3 b5'
  go_wp2_with fail
  refine (rf_any (ByteArray.empty ++ T) (by rw [ByteArray.size_append]; simp; unfold maxLen; omega) w5).mono ?_
  rintro e w6 ⟨⟨y, is, rfl⟩, rfl⟩
  go_wp2_with fail
  clear E1 E2
  refine (impl_dec (m : Int) (by omega) (by omega) w5 (var_kept gPow HP.out b5)).mono ?_
  rintro e w7 ⟨rfl, b7'⟩
  have b7 := b5.trans (b7'.mono b5.size)
  have hIl := Lib.itoa_length_le (m : Int) (by omega) (by omega)
  have hIs : (ByteArray.mk (Lib.itoa (m : Int)).toArray).size ≤ 21 := by simpa [ByteArray.size] using hIl
  clear b5 b7'
  go_wp2_with fail
  refine (impl_rd (ByteArray.mk (Lib.itoa (m : Int)).toArray) (by omega) w7 (var_kept gPow HP.out b7) ts tr ps pr (var_kept gSyn HS.out b7) (var_kept gRng HRg.out b7)).mono ?_
  rintro e w8 ⟨⟨d, fine, hrd, rfl⟩, b8'⟩
  have b8 := b7.trans (b8'.mono b7.size)
  have hrd2 : IsRd (ByteArray.mk (Lib.itoa (m : Int)).toArray).data.toList 0 false := Or.inr ⟨rfl, rfl, fun m' h1' h2' he' => by
    have a1 := atoi_itoa (m : Int) (by omega) (by omega)
    have a2 := atoi_itoa m' (by omega) (by omega)
    have he2 : Lib.itoa (m : Int) = Lib.itoa m' := by simpa using he'
    rw [he2, a2] at a1
    injection a1 with a1
    omega⟩
  obtain ⟨hd1, hd2⟩ := isRd_one hrd hrd2
  subst d
  subst fine
  clear hrd hrd2 b7 b8' hIl hIs
  have D1 : decide ((-1000000000 : Int) < (m : Int)) = true := decide_eq_true (by omega)
  have D2 : decide ((m : Int) < 1000000000) = false := decide_eq_false (by omega)
  clear hA hA2
  go_wp2_with fail
  clear D1 D2
  refine (impl_hex T (by omega) w8).mono ?_
  rintro e w9 ⟨rfl, b9'⟩
  have b9 := b8.trans (b9'.mono b8.size)
  have hHs : (strOfNums (hx T T.size)).size = 2 * T.size := by rw [strOfNums_size, hx_length]
  have hH := hex_back T
  generalize strOfNums (hx T T.size) = X at *
  clear b8 b9'
  go_wp2_with fail
  have hU := impl_unhex X (by omega) (by omega) w9
  rw [hH.1, hH.2] at hU
  refine hU.mono ?_
  clear hU hH hHs
  rintro e w10 ⟨rfl, b10'⟩
  have b10 := b9.trans (b10'.mono b9.size)
  clear b9 b10'
  go_wp2_with fail
  refine (drawRv_at a len cap zs w10 (isRow_below HR.out b10 lowR.out) hl).mono ?_
  rintro e w11 ⟨rfl, b11'⟩
  have b11 := b10.trans (b11'.mono b10.size)
  have hRs := rvV_size zs len
  clear b10 b11'
  go_wp2_with fail
  refine (impl_rv (rvV zs len) (by omega) w11).mono ?_
  rintro e w12 ⟨⟨z, j, hzj, rfl⟩, rfl⟩
  rcases hzj with ⟨hz0, hj0, _⟩ | ⟨hj1, hj7, hjl, hg, hz⟩
  · subst z
    subst j
    go_wp2
    go_ret
    exact ⟨rfl, b11⟩
  · have hz49 : z ≤ 562949953421311 := by rw [hz]; exact val_lt49 _ 0 j hj7
    have hcmp : ((strOfNums (vr z)).toList == ((rvV zs len).extract 0 j).toList) = true := (cmp_var (rvV zs len) j z hjl).2 (by rw [hz]; exact (vr_iff _ j hj1).2 hg)
    have HCM : Hid (((strOfNums (vr z)).toList == ((rvV zs len).extract 0 j).toList) = true) := hcmp
    have hj0 : ((j : Int) == 0) = false := beq_eq_false_iff_ne.2 (by omega)
    have hjp : (0 : Int) < j := by omega
    have hjl' : (j : Int) ≤ (rvV zs len).size := by omega
    have HZ : Hid (z ≤ 562949953421311) := hz49
    clear hcmp hg hz hz49
    go_wp2_with fail
    refine (drawRv_at a len cap zs w11 (isRow_below HR.out b11 lowR.out) hl).mono ?_
    rintro e w13 ⟨rfl, b13'⟩
    have b13 := b11.trans (b13'.mono b11.size)
    clear b11 b13'
    go_wp2_with fail
    refine (impl_var z HZ.out w13).mono ?_
    rintro e w14 ⟨rfl, b14'⟩
    have b14 := b13.trans (b14'.mono b13.size)
    clear b13 b14'
    go_wp2_with fail
    refine (drawRv_at a len cap zs w14 (isRow_below HR.out b14 lowR.out) hl).mono ?_
    rintro e w15 ⟨rfl, b15'⟩
    have b15 := b14.trans (b15'.mono b14.size)
    clear b14 b15'
    have hcmp2 := HCM.out
    go_wp2
    go_ret
    exact ⟨rfl, b15⟩

end Go.Proofs.YtpjaiehkhbkgiacDoor
