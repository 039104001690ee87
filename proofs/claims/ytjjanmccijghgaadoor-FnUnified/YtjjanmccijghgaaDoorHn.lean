/-
  A type has as many parts as what it is made of, and one more: the law's walk. Conditions: written at each theorem.
-/
import Derived.Test.YtjjanmccijghgaaDoorHp
import Derived.Test.YtjjanmccijghgaaDoorHo
import Derived.Test.YtjjanmccijghgaaDoorHh
import Derived.Test.YtjjanmccijghgaaDoorHs
import Derived.Lib.QuietBelow
namespace Go.Proofs.YtjjanmccijghgaaDoor
open Go.Sort
open Go.ChangeShapes Go.WideShapes Go.ChangeAt Go.RowKit
set_option linter.unusedVariables false

theorem tbig_no (a : Option Addr) (len cap : Nat) (h : ¬ (1048576 : Int) < len) (w : World) : Calls Tryd.prog 5 #[.slice a len cap] w fun e w' => e = .returned (.bool false) ∧ w' = w := by
  go_enter Tryd.func5, Tryd.ntmps5
  go_wp2
  go_ret
  exact ⟨by simp, rfl⟩

theorem tbig_yes (a : Option Addr) (len cap : Nat) (h : (1048576 : Int) < len) (w : World) : Calls Tryd.prog 5 #[.slice a len cap] w fun e w' => e = .returned (.bool true) ∧ w' = w := by
  go_enter Tryd.func5, Tryd.ntmps5
  go_wp2
  go_ret
  exact ⟨by simp, rfl⟩

theorem siz_le' (ts : List Typ) (i : Int) : sizB ts i ≤ 61 := by
  unfold sizB
  split <;> omega

set_option maxHeartbeats 3000000 in
set_option maxRecDepth 20000 in
theorem sizes_walk (a : Option Addr) (len cap : Nat) (zs : List Int) (w : World) (hrow : IsRow w a len cap zs) (hl : ¬ (1048576 : Int) < len) (hp : ∀ w', Below w.heap.size w w' → PowIs w') :
    Calls Tryd.prog 4 #[.slice a len cap] w fun e w' => e = .returned (.bool true) ∧ Below w.heap.size w w' := by
  have HR : Hid (IsRow w a len cap zs) := hrow
  have HP : Hid (∀ w', Below w.heap.size w w' → PowIs w') := hp
  clear hrow hp
  go_enter Tryd.func4, Tryd.ntmps4
  go_wp2_with fail
  refine (tbig_no a len cap (by omega) w).mono ?_
  rintro e w ⟨rfl, rfl⟩
  go_wp2_with fail
  refine (draw_sizeOf a len cap zs w HR.out (by omega)).mono ?_
  rintro e w1 ⟨v, n, i, rfl, hi0, hi1, g, c, ts, rfl, rfl, hA, hn3, hn14, hg, b1⟩
  have A1 : Hid (TypAt w1 g ts) := hA
  have B1 : Hid (Below w.heap.size w w1) := b1
  have HG : g < w1.heap.size := hA.lt (by omega)
  have s1 := b1.size
  clear hA b1 HR
  have CI : Hid (∀ (k : Int), -9223372036854775808 ≤ k → k ≤ 9223372036854775807 → ∀ w, TypAt w g ts → Calls Tryd.prog 8 #[.slice (some ⟨g, 0, none⟩) ts.length c, .int .i64 k] w fun e w' => e = .returned (.int .i64 ((sizB ts k : Nat) : Int)) ∧ Below w.heap.size w w') := fun k h0 h1 w hA => impl_sizeOf _ g c ts k h0 h1 (fun _ => rfl) (by omega) w hA
  have CS : Hid (∀ (k : Int) w, TypAt w g ts → Calls Tryd.prog 9 #[.slice (some ⟨g, 0, none⟩) ts.length c, .int .i64 k] w fun e w' => e = .returned (.int .i64 ((sizB ts k : Nat) : Int)) ∧ Below w.heap.size w w') := fun k w hA => spec_sizeOf _ g c ts k (fun _ => rfl) (by omega) w hA
  have hz61 := siz_le' ts i
  have HS : Hid (shoB ts i = [] ↔ ¬ (1 ≤ sizB ts i ∧ sizB ts i ≤ 60)) := sho_nil ts i
  have HZ : Hid (sizB ts i = 0 → ¬ (tabB ts = true ∧ 0 ≤ i ∧ i < ts.length)) := siz_zero
  have HI : Hid (1 ≤ sizB ts i → tabB ts = true ∧ 0 ≤ i ∧ i < ts.length) := siz_in
  go_wp2_with fail
  refine (CI.out i (by omega) (by omega) w1 A1.out).mono ?_
  rintro e w2 ⟨rfl, b2⟩
  have A2 : Hid (TypAt w2 g ts) := A1.out.below b2 (fun _ => HG)
  have B2 : Hid (Below w.heap.size w w2) := B1.out.trans (b2.mono s1)
  have s2 := b2.size
  clear b2
  have CH : Hid (∀ w, (∀ w', Below w.heap.size w w' → PowIs w') → TypAt w g ts → Calls Tryd.prog 10 #[.slice (some ⟨g, 0, none⟩) ts.length c, .int .i64 i] w fun e w' => e = .returned (.string ⟨(shoB ts i).toArray⟩) ∧ Below w.heap.size w w') := fun w hp hA => impl_showType _ g c ts i (by omega) (by omega) (fun _ => rfl) (by omega) w hp hA
  have HN : Hid (sizB ts i = sizB ts i) := rfl
  obtain ⟨z, hz⟩ : ∃ z, sizB ts i = z := ⟨_, rfl⟩
  have HZZ : Hid (sizB ts i = z) := hz
  have CSi := CS.out i
  rw [hz] at hz61 HS HZ HI CSi ⊢
  have CSi' : Hid (∀ w, TypAt w g ts → Calls Tryd.prog 9 #[.slice (some ⟨g, 0, none⟩) ts.length c, .int .i64 i] w fun e w' => e = .returned (.int .i64 (z : Int)) ∧ Below w.heap.size w w') := CSi
  clear hz HN CSi
  go_wp2_with fail
  refine (CSi'.out w2 A2.out).mono ?_
  rintro e w3 ⟨rfl, b3⟩
  have A3 : Hid (TypAt w3 g ts) := A2.out.below b3 (fun _ => by omega)
  have B3 : Hid (Below w.heap.size w w3) := B2.out.trans (b3.mono (by omega))
  have s3 := b3.size
  clear b3
  go_wp2_with fail
  refine (CH.out w3 (fun w' h' => HP.out w' (B3.out.trans (h'.mono (by omega)))) A3.out).mono ?_
  rintro e w4 ⟨rfl, b4⟩
  have A4 : Hid (TypAt w4 g ts) := A3.out.below b4 (fun _ => by omega)
  have B4 : Hid (Below w.heap.size w w4) := B3.out.trans (b4.mono (by omega))
  have s4 := b4.size
  have HE : Hid ((⟨(shoB ts i).toArray⟩ : ByteArray) = ⟨#[]⟩ ↔ ¬ (1 ≤ z ∧ z ≤ 60)) := by
    show _ ↔ _
    rw [← HS.out]
    constructor
    · intro h
      injection h with h
      exact Array.toList_inj.2 h |> fun q => by simpa using q
    · intro h
      rw [h]
  generalize (⟨(shoB ts i).toArray⟩ : ByteArray) = S at HE ⊢
  clear b4 A1 A2 A3 B1 B2 B3 CH CSi' HP HS
  by_cases hz0 : z = 0
  · subst hz0
    have hS : S = ⟨#[]⟩ := HE.out.2 (by omega)
    subst hS
    have hno := HZ.out rfl
    have HT : Hid (Calls _ _ _ _ _) := spec_table (some ⟨g, 0, none⟩) g c ts (fun _ => rfl) (by omega) w4 A4.out
    clear HE HI HZ
    go_wp2_with fail
    refine Calls.mono HT.out ?_
    rintro e w5 ⟨rfl, b5⟩
    have B5 : Hid (Below w.heap.size w w5) := B4.out.trans (b5.mono (by omega))
    clear b5 HT
    cases htb : tabB ts
    · go_wp2
      go_ret
      exact ⟨rfl, B5.out⟩
    · have hor : i < 0 ∨ (ts.length : Int) ≤ i := by
        rw [htb] at hno
        by_cases h : i < 0
        · exact Or.inl h
        · exact Or.inr (by
            by_cases h2 : (ts.length : Int) ≤ i
            · exact h2
            · exact absurd ⟨rfl, by omega, by omega⟩ hno)
      clear hno htb
      rcases hor with h | h
      · go_wp2
        go_ret
        exact ⟨rfl, B5.out⟩
      · by_cases h2 : i < 0
        · omega
        · go_wp2
          go_ret
          exact ⟨rfl, B5.out⟩
  · obtain ⟨htab, hi00, hil⟩ := HI.out (by omega)
    obtain ⟨k, rfl⟩ := Int.eq_ofNat_of_zero_le hi00
    have hkl : k < ts.length := by omega
    have hst := siz_step htab hkl
    have hent := (tab_parts htab).2.1 k hkl
    have tt := A4.out k hkl
    have hkid := hent.kids
    rw [show sizB ts (k : Int) = z from HZZ.out] at hst
    have hk0 := hent.k0
    have hk5 := hent.k5
    obtain ⟨⟨x0, x1, x2⟩, hx⟩ : ∃ y, ts.getD k noTyp = y := ⟨_, rfl⟩
    rw [hx] at hst tt hkid hk0 hk5
    have q0 : w4.cell? ⟨g, k * 3, none⟩ = some (.int .i64 x0) := tt.c0
    have q1 : w4.cell? ⟨g, k * 3 + 1, none⟩ = some (.int .i64 x1) := tt.c1
    have q2 : w4.cell? ⟨g, k * 3 + 2, none⟩ = some (.int .i64 x2) := tt.c2
    have HW : Hid (z = min (wantZ ts ⟨x0, x1, x2⟩) 61) := hst
    have HK : Hid (∀ k ∈ kidZ ⟨x0, x1, x2⟩, 0 ≤ k ∧ k < ts.length) := hkid
    simp only at hk0 hk5
    clear hst hent tt hkid hx HZ HI HZZ htab hil hi00 CS
    have hSe : S.toList.isEmpty = !decide ((z : Int) ≤ 60) := by
      rw [Lib.toList_data]
      by_cases h6 : (z : Int) ≤ 60
      · rw [decide_eq_true h6]
        cases hd : S.data.toList with
        | cons x r => rfl
        | nil => exact absurd (by obtain ⟨d⟩ := S; simp at hd; rw [hd]) (fun q => HE.out.1 q (by omega))
      · rw [decide_eq_false h6, HE.out.2 (by omega)]
        rfl
    have hz1 : (1 : Int) ≤ z := by omega
    clear HE
    have hzz : ((z : Int) == 0) = false := by simp; omega
    rcases (by omega : x0 = 0 ∨ x0 = 1 ∨ x0 = 2 ∨ x0 = 3 ∨ x0 = 4 ∨ x0 = 5) with rfl | rfl | rfl | rfl | rfl | rfl
    · by_cases ha : 0 ≤ x1
      · obtain ⟨ka0, ka1⟩ := HK.out x1 (by simp [kidZ, ha])
        have HW1 : Hid (z = min (sizB ts x1) 61) := by have := HW.out; show z = _; simpa [wantZ, ha] using this
        clear HW HK
        go_wp2_with fail
        refine (CI.out x1 (by omega) (by omega) _ (A4.out.below ((Below.refl _ _).alloc (Nat.le_refl _) _) (fun _ => by omega))).mono ?_
        rintro e w5 ⟨rfl, b5⟩
        have B5 : Hid (Below w.heap.size w w5) := B4.out.trans ((((Below.refl _ _).alloc (Nat.le_refl _) _).trans (b5.mono (by simp))).mono (by omega))
        clear b5
        have hp61 := siz_le' ts x1
        generalize sizB ts x1 = p1 at *
        go_wp2
        all_goals
          go_ret
          have hw1 := HW1.out
          exact ⟨by simp; omega, B5.out⟩
      · have hz' : z = 1 := by have := HW.out; simp [wantZ, ha] at this; omega
        subst hz'
        clear HW
        go_wp2
        go_ret
        exact ⟨by rfl, B4.out.trans (((Below.refl _ _).alloc (Nat.le_refl _) _).mono (by omega))⟩
    · have hz' : z = 1 := by have := HW.out; simp [wantZ] at this; omega
      subst hz'
      clear HW
      go_wp2
      go_ret
      exact ⟨by rfl, B4.out.trans (((Below.refl _ _).alloc (Nat.le_refl _) _).mono (by omega))⟩
    · obtain ⟨kb0, kb1⟩ := HK.out x2 (by simp [kidZ])
      obtain ⟨ka0, ka1⟩ := HK.out x1 (by simp [kidZ])
      have HW1 : Hid (z = min (1 + sizB ts x1 + sizB ts x2) 61) := by have := HW.out; show z = _; simpa [wantZ] using this
      clear HW HK
      have hp61 := siz_le' ts x1
      have hp62 := siz_le' ts x2
      obtain ⟨p1, hp1⟩ : ∃ p, sizB ts x1 = p := ⟨_, rfl⟩
      obtain ⟨p2, hp2⟩ : ∃ p, sizB ts x2 = p := ⟨_, rfl⟩
      have AW : TypAt (w4.alloc (.cells #[.int .i64 2, .int .i64 x1, .int .i64 x2] 35)) g ts := A4.out.below ((Below.refl _ _).alloc (Nat.le_refl _) _) (fun _ => by omega)
      have d1 := cell_regrown (w := (w4.alloc (.cells #[.int .i64 2, .int .i64 x1, .int .i64 x2] 35))) (a := ⟨w4.heap.size, 1, none⟩) (v := .int .i64 x1) (by simp)
      have d2 := cell_regrown (w := (w4.alloc (.cells #[.int .i64 2, .int .i64 x1, .int .i64 x2] 35))) (a := ⟨w4.heap.size, 2, none⟩) (v := .int .i64 x2) (by simp)
      have cD1 : ∀ d os, Calls Tryd.prog 8 #[.slice (some ⟨g, 0, none⟩) ts.length c, .int .i64 x1] (grow (redrawn (w4.alloc (.cells #[.int .i64 2, .int .i64 x1, .int .i64 x2] 35)) d) os) fun e w'' => e = .returned (.int .i64 (p1 : Int)) ∧ ∃ p : Regrown, w'' = grow (redrawn (w4.alloc (.cells #[.int .i64 2, .int .i64 x1, .int .i64 x2] 35)) p.d) p.os := fun d os => by
        have h := CI.out x1 (by omega) (by omega) (grow (redrawn (w4.alloc (.cells #[.int .i64 2, .int .i64 x1, .int .i64 x2] 35)) d) os) (AW.below (below_regrown _ d os) (fun _ => by simp; omega))
        rw [hp1] at h
        exact Calls.regrown_of h
      have cD2 : ∀ d os, Calls Tryd.prog 8 #[.slice (some ⟨g, 0, none⟩) ts.length c, .int .i64 x2] (grow (redrawn (w4.alloc (.cells #[.int .i64 2, .int .i64 x1, .int .i64 x2] 35)) d) os) fun e w'' => e = .returned (.int .i64 (p2 : Int)) ∧ ∃ p : Regrown, w'' = grow (redrawn (w4.alloc (.cells #[.int .i64 2, .int .i64 x1, .int .i64 x2] 35)) p.d) p.os := fun d os => by
        have h := CI.out x2 (by omega) (by omega) (grow (redrawn (w4.alloc (.cells #[.int .i64 2, .int .i64 x1, .int .i64 x2] 35)) d) os) (AW.below (below_regrown _ d os) (fun _ => by simp; omega))
        rw [hp2] at h
        exact Calls.regrown_of h
      rw [hp1, hp2] at HW1
      rw [hp1] at hp61
      rw [hp2] at hp62
      clear hp1 hp2 AW ka0 ka1 kb0 kb1
      go_wp2
      refine wp_region_quiet_below (by kernel_rfl) (by kernel_rfl) ?_
      repeat (go_big_quiet_step (first | with_reducible exact cD1 _ _ | with_reducible exact cD2 _ _))
      refine wpQuiet_nil ?_
      intro _ hw'
      obtain ⟨⟨dq, osq⟩, hw''⟩ := hw'
      subst hw''
      have B6 : Hid (Below w.heap.size w (grow (redrawn (w4.alloc (.cells #[.int .i64 2, .int .i64 x1, .int .i64 x2] 35)) dq) osq)) := B4.out.trans ((((Below.refl _ _).alloc (Nat.le_refl _) _).trans ((below_regrown _ dq osq).mono (by simp))).mono (by omega))
      clear cD1 cD2 d1 d2
      go_wp2
      all_goals
        go_ret
        have hw1 := HW1.out
        exact ⟨by simp; omega, B6.out⟩
    · obtain ⟨kb0, kb1⟩ := HK.out x2 (by simp [kidZ])
      obtain ⟨ka0, ka1⟩ := HK.out x1 (by simp [kidZ])
      have HW1 : Hid (z = min (1 + sizB ts x1 + sizB ts x2) 61) := by have := HW.out; show z = _; simpa [wantZ] using this
      clear HW HK
      have hp61 := siz_le' ts x1
      have hp62 := siz_le' ts x2
      obtain ⟨p1, hp1⟩ : ∃ p, sizB ts x1 = p := ⟨_, rfl⟩
      obtain ⟨p2, hp2⟩ : ∃ p, sizB ts x2 = p := ⟨_, rfl⟩
      have AW : TypAt (w4.alloc (.cells #[.int .i64 3, .int .i64 x1, .int .i64 x2] 35)) g ts := A4.out.below ((Below.refl _ _).alloc (Nat.le_refl _) _) (fun _ => by omega)
      have d1 := cell_regrown (w := (w4.alloc (.cells #[.int .i64 3, .int .i64 x1, .int .i64 x2] 35))) (a := ⟨w4.heap.size, 1, none⟩) (v := .int .i64 x1) (by simp)
      have d2 := cell_regrown (w := (w4.alloc (.cells #[.int .i64 3, .int .i64 x1, .int .i64 x2] 35))) (a := ⟨w4.heap.size, 2, none⟩) (v := .int .i64 x2) (by simp)
      have cD1 : ∀ d os, Calls Tryd.prog 8 #[.slice (some ⟨g, 0, none⟩) ts.length c, .int .i64 x1] (grow (redrawn (w4.alloc (.cells #[.int .i64 3, .int .i64 x1, .int .i64 x2] 35)) d) os) fun e w'' => e = .returned (.int .i64 (p1 : Int)) ∧ ∃ p : Regrown, w'' = grow (redrawn (w4.alloc (.cells #[.int .i64 3, .int .i64 x1, .int .i64 x2] 35)) p.d) p.os := fun d os => by
        have h := CI.out x1 (by omega) (by omega) (grow (redrawn (w4.alloc (.cells #[.int .i64 3, .int .i64 x1, .int .i64 x2] 35)) d) os) (AW.below (below_regrown _ d os) (fun _ => by simp; omega))
        rw [hp1] at h
        exact Calls.regrown_of h
      have cD2 : ∀ d os, Calls Tryd.prog 8 #[.slice (some ⟨g, 0, none⟩) ts.length c, .int .i64 x2] (grow (redrawn (w4.alloc (.cells #[.int .i64 3, .int .i64 x1, .int .i64 x2] 35)) d) os) fun e w'' => e = .returned (.int .i64 (p2 : Int)) ∧ ∃ p : Regrown, w'' = grow (redrawn (w4.alloc (.cells #[.int .i64 3, .int .i64 x1, .int .i64 x2] 35)) p.d) p.os := fun d os => by
        have h := CI.out x2 (by omega) (by omega) (grow (redrawn (w4.alloc (.cells #[.int .i64 3, .int .i64 x1, .int .i64 x2] 35)) d) os) (AW.below (below_regrown _ d os) (fun _ => by simp; omega))
        rw [hp2] at h
        exact Calls.regrown_of h
      rw [hp1, hp2] at HW1
      rw [hp1] at hp61
      rw [hp2] at hp62
      clear hp1 hp2 AW ka0 ka1 kb0 kb1
      go_wp2
      refine wp_region_quiet_below (by kernel_rfl) (by kernel_rfl) ?_
      repeat (go_big_quiet_step (first | with_reducible exact cD1 _ _ | with_reducible exact cD2 _ _))
      refine wpQuiet_nil ?_
      intro _ hw'
      obtain ⟨⟨dq, osq⟩, hw''⟩ := hw'
      subst hw''
      have B6 : Hid (Below w.heap.size w (grow (redrawn (w4.alloc (.cells #[.int .i64 3, .int .i64 x1, .int .i64 x2] 35)) dq) osq)) := B4.out.trans ((((Below.refl _ _).alloc (Nat.le_refl _) _).trans ((below_regrown _ dq osq).mono (by simp))).mono (by omega))
      clear cD1 cD2 d1 d2
      go_wp2
      all_goals
        go_ret
        have hw1 := HW1.out
        exact ⟨by simp; omega, B6.out⟩
    · obtain ⟨ka0, ka1⟩ := HK.out x1 (by simp [kidZ])
      have HW1 : Hid (z = min (1 + sizB ts x1) 61) := by have := HW.out; show z = _; simpa [wantZ] using this
      clear HW HK
      go_wp2_with fail
      refine (CI.out x1 (by omega) (by omega) _ (A4.out.below ((Below.refl _ _).alloc (Nat.le_refl _) _) (fun _ => by omega))).mono ?_
      rintro e w5 ⟨rfl, b5⟩
      have B5 : Hid (Below w.heap.size w w5) := B4.out.trans ((((Below.refl _ _).alloc (Nat.le_refl _) _).trans (b5.mono (by simp))).mono (by omega))
      clear b5
      have hp61 := siz_le' ts x1
      generalize sizB ts x1 = p1 at *
      go_wp2
      all_goals
        go_ret
        have hw1 := HW1.out
        exact ⟨by simp; omega, B5.out⟩
    · obtain ⟨ka0, ka1⟩ := HK.out x1 (by simp [kidZ])
      have HW1 : Hid (z = min (1 + sizB ts x1) 61) := by have := HW.out; show z = _; simpa [wantZ] using this
      clear HW HK
      go_wp2_with fail
      refine (CI.out x1 (by omega) (by omega) _ (A4.out.below ((Below.refl _ _).alloc (Nat.le_refl _) _) (fun _ => by omega))).mono ?_
      rintro e w5 ⟨rfl, b5⟩
      have B5 : Hid (Below w.heap.size w w5) := B4.out.trans ((((Below.refl _ _).alloc (Nat.le_refl _) _).trans (b5.mono (by simp))).mono (by omega))
      clear b5
      have hp61 := siz_le' ts x1
      generalize sizB ts x1 = p1 at *
      go_wp2
      all_goals
        go_ret
        have hw1 := HW1.out
        exact ⟨by simp; omega, B5.out⟩
end Go.Proofs.YtjjanmccijghgaaDoor
