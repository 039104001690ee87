/-
  To make two types one is the same from either side: the law's walk. Conditions: written at each theorem.
-/
import Derived.Test.YtjjanmccijghgaaDoorHn
import Derived.Test.YtjjanmccijghgaaDoorJd
namespace Go.Proofs.YtjjanmccijghgaaDoor
open Go.Sort
open Go.ChangeShapes Go.WideShapes Go.ChangeAt Go.RowKit
set_option linter.unusedVariables false

theorem bytes_nil (l : List UInt8) : ((⟨l.toArray⟩ : ByteArray) = ⟨#[]⟩) ↔ l = [] := by
  constructor
  · intro h
    injection h with h
    simpa using h
  · intro h
    rw [h]

theorem bytes_size (l : List UInt8) : (⟨l.toArray⟩ : ByteArray).size = l.length := by
  show l.toArray.size = _
  simp

set_option maxHeartbeats 4000000 in
set_option maxRecDepth 20000 in
theorem unified_walk (a : Option Addr) (len cap : Nat) (zs : List Int) (w : World) (eg : Addr) (hrow : IsRow w a len cap zs) (hl : ¬ (1048576 : Int) < len) (hp : ∀ w', Below w.heap.size w w' → PowIs w') (he : ErrAt w (errE eg)) :
    Calls Tryd.prog 3 #[.slice a len cap] w fun e w' => e = .returned (.bool true) ∧ Below w.heap.size w w' := by
  have HR : Hid (IsRow w a len cap zs) := hrow
  have HP : Hid (∀ w', Below w.heap.size w w' → PowIs w') := hp
  have HER : Hid (ErrAt w (errE eg)) := he
  clear hrow hp he
  go_enter Tryd.func3, Tryd.ntmps3
  go_wp2_with fail
  refine (tbig_no a len cap (by omega) w).mono ?_
  rintro e w ⟨rfl, rfl⟩
  go_wp2_with fail
  refine (draw_unified a len cap zs w HR.out (by omega)).mono ?_
  rintro e w1 ⟨v, n, i, j, rfl, hi0, hi1, hj0, hj1, g, c, ts, rfl, rfl, hA, hn3, hn14, hg, b1⟩
  have A1 : Hid (TypAt w1 g ts) := hA
  have B1 : Hid (Below w.heap.size w w1) := b1
  have HG : g < w1.heap.size := hA.lt (by omega)
  have s1 := b1.size
  clear hA b1 HR
  have CU : Hid (∀ (x y : Int) w2, Below w.heap.size w w2 → TypAt w2 g ts → Calls Tryd.prog 7 #[.slice (some ⟨g, 0, none⟩) ts.length c, .int .i64 x, .int .i64 y] w2 (UniRet ts x y w2)) := fun x y w2 hb hA => impl_unified _ g c ts x y eg (fun _ => rfl) (by omega) w2 (fun w' h' => HP.out w' (hb.trans (h'.mono hb.size))) (HER.out.below hb) hA
  have CI : Hid (∀ (w2 : World), TypAt w2 g ts → Calls Tryd.prog 8 #[.slice (some ⟨g, 0, none⟩) ts.length c, .int .i64 i] w2 fun e w' => e = .returned (.int .i64 ((sizB ts i : Nat) : Int)) ∧ Below w2.heap.size w2 w') := fun w2 hA => impl_sizeOf _ g c ts i (by omega) (by omega) (fun _ => rfl) (by omega) w2 hA
  have CS : Hid (∀ (w2 : World), TypAt w2 g ts → Calls Tryd.prog 9 #[.slice (some ⟨g, 0, none⟩) ts.length c, .int .i64 i] w2 fun e w' => e = .returned (.int .i64 ((sizB ts i : Nat) : Int)) ∧ Below w2.heap.size w2 w') := fun w2 hA => spec_sizeOf _ g c ts i (fun _ => rfl) (by omega) w2 hA
  have CH : Hid (∀ w2, Below w.heap.size w w2 → TypAt w2 g ts → Calls Tryd.prog 10 #[.slice (some ⟨g, 0, none⟩) ts.length c, .int .i64 i] w2 fun e w' => e = .returned (.string ⟨(shoB ts i).toArray⟩) ∧ Below w2.heap.size w2 w') := fun w2 hb hA => impl_showType _ g c ts i (by omega) (by omega) (fun _ => rfl) (by omega) w2 (fun w' h' => HP.out w' (hb.trans (h'.mono hb.size))) hA
  have CT : Hid (∀ w2, TypAt w2 g ts → Calls Tryd.prog 11 #[.slice (some ⟨g, 0, none⟩) ts.length c] w2 fun e w' => e = .returned (.bool (tabB ts)) ∧ Below w2.heap.size w2 w') := fun w2 hA => spec_table (some ⟨g, 0, none⟩) g c ts (fun _ => rfl) (by omega) w2 hA
  go_wp2_with fail
  refine (CU.out i j w1 B1.out A1.out).mono ?_
  rintro e w2 ⟨S1, V1, rfl, hu1, b2⟩
  have A2 : Hid (TypAt w2 g ts) := A1.out.below b2 (fun _ => HG)
  have B2 : Hid (Below w.heap.size w w2) := B1.out.trans (b2.mono s1)
  have s2 := b2.size
  have HU1 : Hid (UniE ts i j S1 V1) := hu1
  clear b2 hu1
  go_wp2_with fail
  refine (CU.out j i w2 B2.out A2.out).mono ?_
  rintro e w3 ⟨S2, V2, rfl, hu2, b3⟩
  have A3 : Hid (TypAt w3 g ts) := A2.out.below b3 (fun _ => by omega)
  have B3 : Hid (Below w.heap.size w w3) := B2.out.trans (b3.mono (by omega))
  have s3 := b3.size
  obtain ⟨rfl, rfl⟩ := uniE_one HU1.out (uniE_sym hu2)
  clear b3 hu2
  go_wp2_with fail
  refine (CU.out i i w3 B3.out A3.out).mono ?_
  rintro e w4 ⟨S3, V3, rfl, hu3, b4⟩
  have A4 : Hid (TypAt w4 g ts) := A3.out.below b4 (fun _ => by omega)
  have B4 : Hid (Below w.heap.size w w4) := B3.out.trans (b4.mono (by omega))
  have s4 := b4.size
  have HV3 : Hid (V3 = decide (1 ≤ sizB ts i ∧ sizB ts i ≤ 60)) := (uniE_self hu3).1
  have HSN : Hid (shoB ts i = S3) := (uniE_self hu3).2.symm
  clear b4 hu3
  go_wp2_with fail
  refine (CI.out w4 A4.out).mono ?_
  rintro e w5 ⟨rfl, b5⟩
  have A5 : Hid (TypAt w5 g ts) := A4.out.below b5 (fun _ => by omega)
  have B5 : Hid (Below w.heap.size w w5) := B4.out.trans (b5.mono (by omega))
  have s5 := b5.size
  clear b5 CU CI
  have HL : Hid (V1 = decide (0 < S1.length)) := uniE_len HU1.out
  have HIN : Hid (1 ≤ sizB ts i → tabB ts = true) := fun h => (siz_in h).1
  have HTF : Hid (tabB ts = false → V1 = false ∧ S1 = [] ∧ sizB ts i = 0 ∧ shoB ts i = []) := fun h => ⟨(uniE_table h HU1.out).1, (uniE_table h HU1.out).2, (no_table h i).1, (no_table h i).2⟩
  obtain ⟨z, hz⟩ : ∃ z, sizB ts i = z := ⟨_, rfl⟩
  have hz61 := siz_le' ts i
  rw [hz] at HV3 HTF CS HIN hz61 ⊢
  clear hz HU1
  go_wp2_with fail
  refine (CS.out w5 A5.out).mono ?_
  rintro e w6 ⟨rfl, b6⟩
  have A6 : Hid (TypAt w6 g ts) := A5.out.below b6 (fun _ => by omega)
  have B6 : Hid (Below w.heap.size w w6) := B5.out.trans (b6.mono (by omega))
  have s6 := b6.size
  clear b6 CS
  have hlen : (⟨S1.toArray⟩ : ByteArray).size = S1.length := bytes_size S1
  obtain ⟨T1, hT1⟩ : ∃ T : ByteArray, ⟨S1.toArray⟩ = T := ⟨_, rfl⟩
  have HT1 : Hid ((⟨S1.toArray⟩ : ByteArray) = T1) := hT1
  rw [hT1] at hlen ⊢
  have HL2 : Hid (V1 = decide ((0 : Int) < T1.size)) := by
    show V1 = _
    rw [HL.out, hlen]
    by_cases h : 0 < S1.length
    · rw [decide_eq_true h, decide_eq_true (by omega)]
    · rw [decide_eq_false h, decide_eq_false (by omega)]
  clear HL hT1 hlen
  by_cases hq : 1 ≤ z ∧ z ≤ 60
  · have h1 : (1 : Int) ≤ z := by omega
    have h60 : (z : Int) ≤ 60 := by omega
    have hv : V3 = true := by rw [HV3.out, decide_eq_true hq]
    subst hv
    have htab := HIN.out hq.1
    rw [htab] at CT
    clear HV3 hq HIN HTF htab
    rw [← HSN.out]
    go_wp2_with fail
    refine (CH.out w6 B6.out A6.out).mono ?_
    rintro e w7 ⟨rfl, b7⟩
    have A7 : Hid (TypAt w7 g ts) := A6.out.below b7 (fun _ => by omega)
    have B7 : Hid (Below w.heap.size w w7) := B6.out.trans (b7.mono (by omega))
    have s7 := b7.size
    clear b7 CH
    generalize (⟨(shoB ts i).toArray⟩ : ByteArray) = T3 at *
    go_wp2_with fail
    refine (CT.out w7 A7.out).mono ?_
    rintro e w8 ⟨rfl, b8⟩
    have B8 : Hid (Below w.heap.size w w8) := B7.out.trans (b8.mono (by omega))
    clear b8 CT
    go_wp2
    go_ret
    exact ⟨by rw [HL2.out]; simp, B8.out⟩
  · have hv : V3 = false := by rw [HV3.out, decide_eq_false hq]
    subst hv
    generalize (⟨S3.toArray⟩ : ByteArray) = T3
    clear HV3 HIN HSN
    have HQ : Hid (¬ (1 ≤ z ∧ z ≤ 60)) := hq
    clear hq
    by_cases hz1 : (1 : Int) ≤ z
    · have h60 : ¬ (z : Int) ≤ 60 := fun h => HQ.out ⟨by omega, by omega⟩
      have htab : tabB ts = true := by
        cases h : tabB ts
        · have := (HTF.out h).2.2.1
          omega
        · rfl
      rw [htab] at CT
      clear HTF htab CH
      go_wp2_with fail
      refine (CT.out w6 A6.out).mono ?_
      rintro e w8 ⟨rfl, b8⟩
      have B8 : Hid (Below w.heap.size w w8) := B6.out.trans (b8.mono (by omega))
      clear b8 CT
      go_wp2
      go_ret
      exact ⟨by rw [HL2.out]; simp, B8.out⟩
    · have hz0 : z = 0 := by omega
      subst hz0
      cases htab : tabB ts
      · obtain ⟨f1, f2, _, f4⟩ := HTF.out htab
        rw [htab] at CT
        rw [f4] at CH
        subst f1
        clear HTF htab
        go_wp2_with fail
        refine (CT.out w6 A6.out).mono ?_
        rintro e w8 ⟨rfl, b8⟩
        have A8 : Hid (TypAt w8 g ts) := A6.out.below b8 (fun _ => by omega)
        have B8 : Hid (Below w.heap.size w w8) := B6.out.trans (b8.mono (by omega))
        clear b8 CT
        go_wp2_with fail
        refine (CH.out w8 B8.out A8.out).mono ?_
        rintro e w9 ⟨rfl, b9⟩
        have B9 : Hid (Below w.heap.size w w9) := B8.out.trans (b9.mono B8.out.size)
        clear b9 CH
        go_wp2
        go_ret
        exact ⟨by rfl, B9.out⟩
      · rw [htab] at CT
        clear HTF htab CH
        go_wp2_with fail
        refine (CT.out w6 A6.out).mono ?_
        rintro e w8 ⟨rfl, b8⟩
        have B8 : Hid (Below w.heap.size w w8) := B6.out.trans (b8.mono (by omega))
        clear b8 CT
        go_wp2
        go_ret
        exact ⟨by rw [HL2.out]; simp, B8.out⟩
end Go.Proofs.YtjjanmccijghgaaDoor
