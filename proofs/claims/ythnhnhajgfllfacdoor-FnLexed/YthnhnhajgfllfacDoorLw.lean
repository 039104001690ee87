/-
  FnLexed: the walk of its text. Conditions: written at each theorem.
-/
import Derived.Test.YthnhnhajgfllfacDoorRe
import Derived.Test.YthnhnhajgfllfacDoorCl
import Derived.Test.YthnhnhajgfllfacDoorLs
import Derived.Test.YthnhnhajgfllfacDoorUi
import Derived.Deep.QuietTactic
import Derived.BigQuiet
import Derived.Lib.QuietBelow
namespace Go.Proofs.YthnhnhajgfllfacDoor
open Go.ChangeShapes Go.WideShapes Go.ChangeAt Go.RowKit Go.Sort
set_option linter.unusedVariables false

theorem own_slice {w : World} {B : Nat} {v : Value} {ts : List Tok} (h : ownT w B v ts) :
    ∃ (a : Option Addr) (g cap : Nat), v = .slice a ts.length cap ∧ (0 < ts.length → a = some ⟨g, 0, none⟩) ∧ TokAt w g ts ∧ (0 < ts.length → g < w.heap.size) := by
  rcases h.2 with ⟨rfl, h0⟩ | ⟨g, cap, cur, rfl, hb, hg, hn, hm, hs, ht⟩
  · rw [h0]
    have e : ts = [] := List.length_eq_zero_iff.1 h0
    subst e
    exact ⟨none, B, 0, rfl, fun h => absurd h (by omega), fun i hi => absurd hi (by simp), fun h => absurd h (by omega)⟩
  · exact ⟨some ⟨g, 0, none⟩, g, cap, rfl, fun _ => rfl, tokAt_own h rfl, fun _ => (Array.getElem?_eq_some_iff.1 hg).1⟩

theorem word_of {t : ByteArray} {n p : Int} (h : VT ⟨3, t, n, p⟩) : isWordB t = true := by
  rcases h with ⟨h, _⟩ | ⟨h, _⟩ | ⟨_, h1, h8, ha, _⟩ | ⟨h, _⟩
  · simp at h
  · simp at h
  · exact decide_eq_true ⟨h1, h8, ha⟩
  · simp at h

theorem num_of {t : ByteArray} {n p : Int} (h : VT ⟨4, t, n, p⟩) : -1000000000 < n ∧ n < 1000000000 := by
  rcases h with ⟨h, _⟩ | ⟨h, _⟩ | ⟨h, _⟩ | ⟨_, _, _, hr, _⟩
  · simp at h
  · simp at h
  · simp at h
  · rcases hr with ⟨_, h1, h2, _⟩ | ⟨h, _⟩
    · simp only at h1 h2; omega
    · cases h

theorem itoa_of {t : ByteArray} {n p : Int} (h : VT ⟨4, t, n, p⟩) : t = ⟨(Lib.itoa n).toArray⟩ := by
  rcases h with ⟨h, _⟩ | ⟨h, _⟩ | ⟨h, _⟩ | ⟨_, _, _, hr, _⟩
  · simp at h
  · simp at h
  · simp at h
  · rcases hr with ⟨_, _, _, h3⟩ | ⟨h, _⟩
    · apply bytes_ext
      simpa using h3
    · cases h

theorem below_drewN {B : Nat} {a w : World} (h : Below B a w) (n : Nat) : Below B a (w.drewN n) := ⟨h.os, h.tape, h.output, h.size, h.block⟩

theorem lexes_ways {s : ByteArray} {ts : List Tok} {n : Int} (hs : s.size ≤ 4000) (h : Lexes s ts n) : n = -1 ∨ (ts = [] ∧ 0 ≤ n ∧ n < s.size) := by
  rcases h with ⟨h, _⟩ | ⟨_, m, i, out, hr, hf⟩
  · omega
  · rcases hf with ⟨_, _, h⟩ | ⟨hb, rfl, rfl⟩
    · exact Or.inl h
    · exact Or.inr ⟨rfl, by omega, by have := hb.1; omega⟩

set_option maxHeartbeats 8000000 in
set_option maxRecDepth 100000 in
theorem law_walk (a : Option Addr) (len cap : Nat) (zs : List Int) (w : World) (hrow : IsRow w a len cap zs) (hl : len ≤ 1048576) (hv : Vars w) :
    Calls Tryd.prog 3 #[.slice a len cap] w fun e w' => e = .returned (.bool true) ∧ Below w.heap.size w w' := by
  have HR : Hid (IsRow w a len cap zs) := hrow
  have HV : Hid (Vars w) := hv
  clear hrow hv
  go_enter Tryd.func3, Tryd.ntmps3
  go_wp2_with fail
  refine (big_at a len cap false (decide_eq_false (by omega)) w).mono ?_
  rintro e w0 ⟨rfl, rfl⟩
  go_wp2_with fail
  refine (drawLex_at a len cap zs w0 HR.out hl).mono ?_
  rintro e w1 ⟨S, hS, rfl, b1⟩
  have s1 := b1.size
  have V1 : Hid (Vars w1) := HV.out.kept b1
  go_wp2_with fail
  refine (impl_lex S (by omega) w1 V1.out).mono ?_
  rintro e w2 ⟨⟨ts, n, v, hx, ho, rfl⟩, b2⟩
  have HX : Hid (Lexes S ts n) := hx
  have s2 := b2.size
  obtain ⟨a1, g1, c1, rfl, ha1, hT1, hl1⟩ := own_slice ho
  have HT2 : Hid (TokAt w2 g1 ts) := hT1
  have HL2 : Hid (0 < ts.length → g1 < w2.heap.size) := hl1
  have HA : Hid (0 < ts.length → a1 = some ⟨g1, 0, none⟩) := ha1
  have B2 : Hid (Below w0.heap.size w0 w2) := b1.trans (b2.mono s1)
  clear hx ho ha1 hT1 hl1 b1 b2 V1 HR
  go_wp2_with fail
  refine (spec_lex S (by omega) w2).mono ?_
  rintro e w3 ⟨⟨ts', n', v3, hx3, _, rfl⟩, b3⟩
  obtain ⟨rfl, rfl⟩ := lexes_one HX.out hx3
  have s3 := b3.size
  have HT3 : Hid (TokAt w3 g1 ts) := fun i hi => HT2.out.below b3 (HL2.out (by omega)) i hi
  have B3 : Hid (Below w0.heap.size w0 w3) := B2.out.trans (b3.mono (by omega))
  have HL3 : Hid (0 < ts.length → g1 < w3.heap.size) := fun h => by have := HL2.out h; omega
  clear hx3 b3 HT2 B2 HL2
  rcases lexes_ways (by omega) HX.out with rfl | ⟨rfl, hn0, hn1⟩
  · obtain ⟨hgood, hlen, hlens, husz, ts', hx', hsame⟩ := relexes (by omega) HX.out
    have HG : Hid (Good S S.size ts) := hgood
    have HY : Hid (Lexes (ulxS ts) ts' (-1)) := hx'
    have HM : Hid (Same ts ts.length ts') := hsame
    have HU : Hid (lens ts ts.length ≤ 1000 ∧ (ulxS ts).size ≤ 4000) := ⟨hlens, husz⟩
    clear hgood hlens husz hx' hsame HX
    go_wp2
    go_loopw [8, 9] (fun la i wr => ∃ k : Nat, k ≤ ts.length ∧ i = .int .i64 k ∧ la = .int .i64 (endOf ts k) ∧ Below w3.heap.size w3 wr) (fun _ i _ => ts.length - (intOf i).toNat)
    case atStart => exact ⟨0, by omega, rfl, rfl, Below.refl _ _⟩
    case round =>
      obtain ⟨k, hk, rfl, rfl, hb⟩ := hrel
      by_cases hin : k < ts.length
      · have e1 : (k : Int) < ts.length := by omega
        obtain rfl := HA.out (by omega)
        have t := (HT3.out.below hb (HL3.out (by omega))) k hin
        obtain ⟨hvt, ⟨p, hp, hps, hpx⟩, hend⟩ := HG.out.each k hin
        have HE : Hid (endOf ts (k + 1) = (ts.getD k noTok).place + (ts.getD k noTok).text.size) := rfl
        have q0 := t.c0
        have q1 := t.c1
        have q2 := t.c2
        have q3 := t.c3
        generalize ts.getD k noTok = y at *
        obtain ⟨x0, x1, x2, x3⟩ := y
        simp only at q0 q1 q2 q3 hp hps hpx hend HE
        subst hp
        have hsz := hb.size
        clear t
        generalize endOf ts k = L at *
        have g1 : decide ((p : Int) < L) = false := decide_eq_false (by omega)
        have g2 : decide ((S.size : Int) < (p : Int) + x1.size) = false := decide_eq_false (by omega)
        have g3 : (p : Int) + x1.size ≤ S.size := by omega
        have HVT : Hid (VT ⟨x0, x1, x2, p⟩) := hvt
        have HB : Hid (Below w3.heap.size w3 (wr.alloc (.cells #[.int .i64 x0, .string x1, .int .i64 x2, .int .i64 (p : Int)] 29))) := hb.alloc hsz _
        by_cases h3 : x0 = 3
        · subst h3
          have HW := word_of hvt
          have cW : ∀ W, Calls Tryd.prog 9 #[.string x1] W fun e w' => e = .returned (.bool true) ∧ w' = W := fun W => by rw [← HW]; exact impl_word x1 (by unfold maxLen; omega) W
          clear hvt hend hps HW hb
          go_wp2
          go_quiet (first | (go_at_call 9; refine Calls.quiet_of_same (cW _)))
          clear cW
          go_wp2
          go_roundw
          case rel => exact ⟨k + 1, by omega, by go_num, by rw [HE.out], below_drewN HB.out _⟩
          case measure => simp [intOf]; omega
        · by_cases h4 : x0 = 4
          · subst h4
            have HW := num_of hvt
            have V3 : Hid (Vars w3) := HV.out.kept B3.out
            have hI := itoa_of hvt
            have cD : ∀ d os, Calls Tryd.prog 10 #[.int .i64 x2] (grow (redrawn (wr.alloc (.cells #[.int .i64 4, .string x1, .int .i64 x2, .int .i64 (p : Int)] 29)) d) os) fun e w'' => e = .returned (.string x1) ∧ ∃ q : Regrown, w'' = grow (redrawn (wr.alloc (.cells #[.int .i64 4, .string x1, .int .i64 x2, .int .i64 (p : Int)] 29)) q.d) q.os := fun d os => by
              refine Calls.regrown_of ?_
              rw [hI]
              have hbb := below_regrown (wr.alloc (.cells #[.int .i64 4, .string x1, .int .i64 x2, .int .i64 (p : Int)] 29)) d os
              rw [hI] at hbb HB
              exact impl_dec x2 (by omega) (by omega) _ (V3.out.kept (HB.out.trans (hbb.mono (by simp; omega)))).1
            have d0 := cell_regrown (w := wr.alloc (.cells #[.int .i64 4, .string x1, .int .i64 x2, .int .i64 (p : Int)] 29)) (a := ⟨wr.heap.size, 0, none⟩) (v := .int .i64 4) (by simp)
            have d1 := cell_regrown (w := wr.alloc (.cells #[.int .i64 4, .string x1, .int .i64 x2, .int .i64 (p : Int)] 29)) (a := ⟨wr.heap.size, 1, none⟩) (v := .string x1) (by simp)
            have d2 := cell_regrown (w := wr.alloc (.cells #[.int .i64 4, .string x1, .int .i64 x2, .int .i64 (p : Int)] 29)) (a := ⟨wr.heap.size, 2, none⟩) (v := .int .i64 x2) (by simp)
            have d3 := cell_regrown (w := wr.alloc (.cells #[.int .i64 4, .string x1, .int .i64 x2, .int .i64 (p : Int)] 29)) (a := ⟨wr.heap.size, 3, none⟩) (v := .int .i64 (p : Int)) (by simp)
            clear hvt hend hps HW hb hI
            go_wp2
            refine wp_region_quiet_below (by kernel_rfl) (by kernel_rfl) ?_
            repeat (go_big_quiet_step (exact cD _ _))
            refine wpQuiet_nil ?_
            intro _ hw'
            obtain ⟨⟨dq, osq⟩, hw''⟩ := hw'
            subst hw''
            clear cD
            go_wp2
            go_roundw
            case rel => exact ⟨k + 1, by omega, by go_num, by rw [HE.out], HB.out.trans ((below_regrown _ dq osq).mono (by simp; omega))⟩
            case measure => simp [intOf]; omega
          · have n3 : (x0 == 3) = false := by simpa using h3
            have n4 : (x0 == 4) = false := by simpa using h4
            clear hvt h3 h4 hend hps hb
            go_wp2
            go_quiet (fail)
            go_wp2
            go_roundw
            case rel => exact ⟨k + 1, by omega, by go_num, by rw [HE.out], below_drewN HB.out _⟩
            case measure => simp [intOf]; omega
      · obtain rfl : k = ts.length := by omega
        have hsz := hb.size
        have HT4 : Hid (TokAt wr g1 ts) := fun i hi => HT3.out.below hb (HL3.out (by omega)) i hi
        have HL4 : Hid (0 < ts.length → g1 < wr.heap.size) := fun h => by have := HL3.out h; omega
        have B4 : Hid (Below w0.heap.size w0 wr) := B3.out.trans (hb.mono (by omega))
        have HEQ : Hid (ts'.length = ts.length) := HM.out.1
        clear hb HT3 HL3 B3 HG
        generalize endOf ts ts.length = L at *
        go_wp2_with fail
        refine (impl_unlex a1 g1 c1 ts HA.out (by omega) (by have := HU.out.1; omega) wr HT4.out).mono ?_
        rintro e w5 ⟨rfl, b5⟩
        have s5 := b5.size
        have HT5 : Hid (TokAt w5 g1 ts) := fun i hi => HT4.out.below b5 (HL4.out (by omega)) i hi
        have HL5 : Hid (0 < ts.length → g1 < w5.heap.size) := fun h => by have := HL4.out h; omega
        have B5 : Hid (Below w0.heap.size w0 w5) := B4.out.trans (b5.mono (by omega))
        have V5 : Hid (Vars w5) := HV.out.kept B5.out
        clear b5 HT4 HL4 B4
        go_wp2_with fail
        refine (impl_lex (ulxS ts) HU.out.2 w5 V5.out).mono ?_
        rintro e w6 ⟨⟨us, n6, v6, hx6, ho6, rfl⟩, b6⟩
        obtain ⟨rfl, rfl⟩ := lexes_one HY.out hx6
        have s6 := b6.size
        obtain ⟨a2, g2, c2, rfl, ha2, hT2, hl2⟩ := own_slice ho6
        have HT6 : Hid (TokAt w6 g1 ts) := fun i hi => HT5.out.below b6 (HL5.out (by omega)) i hi
        have HL6 : Hid (0 < ts.length → g1 < w6.heap.size) := fun h => by have := HL5.out h; omega
        have HS6 : Hid (TokAt w6 g2 ts') := hT2
        have HK6 : Hid (0 < ts.length → g2 < w6.heap.size) := fun h => hl2 (by rw [HEQ.out]; exact h)
        have HA2 : Hid (0 < ts.length → a2 = some ⟨g2, 0, none⟩) := fun h => ha2 (by rw [HEQ.out]; exact h)
        have B6 : Hid (Below w0.heap.size w0 w6) := B5.out.trans (b6.mono (by omega))
        clear hx6 ho6 ha2 hT2 hl2 b6 HT5 HL5 B5 V5
        rw [HEQ.out]
        go_wp2
        go_loopw [13] (fun i wx => ∃ k : Nat, k ≤ ts.length ∧ i = .int .i64 k ∧ Below w6.heap.size w6 wx) (fun i _ => ts.length - (intOf i).toNat)
        case atStart => exact ⟨0, by omega, rfl, Below.refl _ _⟩
        case round =>
          obtain ⟨k, hk2, rfl, hb2⟩ := hrel
          by_cases hin2 : k < ts.length
          · have e1 : (k : Int) < ts.length := by omega
            obtain rfl := HA.out (by omega)
            obtain rfl := HA2.out (by omega)
            have t := (HT6.out.below hb2 (HL6.out (by omega))) k hin2
            have u := (HS6.out.below hb2 (HK6.out (by omega))) k (by rw [HEQ.out]; exact hin2)
            obtain ⟨m0, m1, m2⟩ := HM.out.2 k hin2
            have q0 := t.c0
            have q1 := t.c1
            have q2 := t.c2
            have r0 := u.c0
            have r1 := u.c1
            have r2 := u.c2
            rw [m0] at r0
            rw [m1] at r1
            rw [m2] at r2
            clear t u m0 m1 m2
            generalize ts.getD k noTok = y at *
            obtain ⟨x0, x1, x2, x3⟩ := y
            simp only at q0 q1 q2 r0 r1 r2
            have H2 : Hid (Below w6.heap.size w6 _) := hb2
            clear hb2
            go_wp2
            go_quiet (fail)
            go_wp2
            go_roundw
            case rel => exact ⟨k + 1, by omega, by go_num, below_drewN H2.out _⟩
            case measure => simp [intOf]; omega
          · have e1 : (ts.length : Int) ≤ k := by omega
            go_wp2
            go_ret
            exact ⟨rfl, B6.out.trans (hb2.mono (by omega))⟩
  · have e0 : ¬ n < 0 := by omega
    clear HX HT3 HA HL3
    go_wp2
    go_ret
    exact ⟨by rfl, B3.out⟩
end Go.Proofs.YthnhnhajgfllfacDoor
