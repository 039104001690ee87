/-
  Lex, the specification's: the tokens of every text, or the place of its first fault. Conditions: written at each theorem.
-/
import Derived.Test.YtobijbhgpgnfkaaGreatDoorLi
namespace Go.Proofs.YtobijbhgpgnfkaaGreatDoor
open Go.ChangeShapes Go.WideShapes Go.ChangeAt Go.RowKit
set_option linter.unusedVariables false

theorem own_empty {w : World} {B : Nat} (hB : B ≤ w.heap.size) : ownT (w.alloc (.cells #[] 66)) B (.slice (some ⟨w.heap.size, 0, none⟩) 0 0) [] :=
  World.ownsRow_lit w #[] 0 hB (by omega) rfl

theorem lexEnd_bad' {s : ByteArray} {B k i : Nat} {out : List Tok} {w : World} (hs : s.size ≤ 4000) (hr : Reach s k i out) (hb : Bad s i) (hB : B ≤ w.heap.size) :
    LexEnd s B (.returned (.tuple #[.slice (some ⟨w.heap.size, 0, none⟩) 0 0, .int .i64 i])) (w.alloc (.cells #[] 66)) :=
  ⟨[], i, _, Or.inr ⟨hs, k, i, out, hr, Or.inr ⟨hb, rfl, rfl⟩⟩, own_empty hB, rfl⟩

theorem spec_lex_long (s : ByteArray) (hs : 4000 < s.size) (hm : s.size ≤ maxLen) (w : World) :
    Calls Tryz.prog 25 #[.string s] w fun e w' => LexEnd s w.heap.size e w' ∧ Below w.heap.size w w' := by
  have hs' : (4000 : Int) < s.size := by omega
  go_enter Tryz.func25, Tryz.ntmps25
  go_wp2
  go_ret2
  exact ⟨⟨[], 4000, _, Or.inl ⟨hs, rfl, rfl⟩, own_empty (Nat.le_refl _), rfl⟩, (Below.refl _ w).alloc (Nat.le_refl _) _⟩

/-- The state of the loop over the text. -/
def Sat (s : ByteArray) (w : World) (g : Nat) (out pl : Value) (wr : World) : Prop :=
  ∃ (k i : Nat) (ts : List Tok), pl = .int .i64 i ∧ i + g = s.size ∧ Reach s k i ts ∧ ownT wr w.heap.size out ts ∧ Below w.heap.size w wr

set_option maxHeartbeats 8000000 in
set_option maxRecDepth 20000 in
theorem spec_lex (s : ByteArray) (hs : s.size ≤ 4000) (w : World) :
    Calls Tryz.prog 25 #[.string s] w fun e w' => LexEnd s w.heap.size e w' ∧ Below w.heap.size w w' := by
  have hs' : (s.size : Int) ≤ 4000 := by omega
  go_enter Tryz.func25, Tryz.ntmps25
  go_wp2
  go_loopg [4, 5] s.size (fun g out i wr => Sat s w g out i wr)
  case atStart => exact ⟨0, 0, [], rfl, by omega, ⟨rfl, rfl⟩, own_empty (Nat.le_refl _), (Below.refl _ w).alloc (Nat.le_refl _) _⟩
  case round =>
    obtain ⟨k, i, ts, rfl, hig, hreach, hown, hbel⟩ := hrel
    have HQ : Hid (Reach s k i ts) := hreach
    have HO : Hid (ownT wr w.heap.size u4 ts) := hown
    have hlen := reach_len hreach
    have hsz := hbel.size
    clear hreach hown
    by_cases hi0 : i < s.size
    · have hi' : (i : Int) < s.size := by omega
      have hbb := bAt_in hi0
      obtain ⟨i0, hi, hz0, hz1, hz2⟩ := info_parts info_tok
      by_cases h32 : bAt s i = 32
      · have HS : Hid (Step s i (i + 1) []) := ⟨hi0, Or.inl ⟨Or.inl h32, rfl, rfl⟩⟩
        have HM : Hid (Sat s w (s.size - (i + 1)) u4 (.int .i64 ((i + 1 : Nat) : Int)) wr) := ⟨k + 1, i + 1, ts, rfl, by omega, by have h := reach_step HQ.out HS.out; rwa [List.append_nil] at h, HO.out, hbel⟩
        have n32 : (s[i].toNat : Int) = 32 := by omega
        clear h32 hbb HS HQ HO hbel hi hz0 hz1 hz2
        go_wp2
        go_roundg (s.size - (i + 1))
        case rel => exact HM.out
        case measure => omega
      · by_cases h10 : bAt s i = 10
        · have HS : Hid (Step s i (i + 1) []) := ⟨hi0, Or.inl ⟨Or.inr h10, rfl, rfl⟩⟩
          have HM : Hid (Sat s w (s.size - (i + 1)) u4 (.int .i64 ((i + 1 : Nat) : Int)) wr) := ⟨k + 1, i + 1, ts, rfl, by omega, by have h := reach_step HQ.out HS.out; rwa [List.append_nil] at h, HO.out, hbel⟩
          have n10 : (s[i].toNat : Int) = 10 := by omega
          clear h32 h10 hbb HS HQ HO hbel hi hz0 hz1 hz2
          go_wp2
          go_roundg (s.size - (i + 1))
          case rel => exact HM.out
          case measure => omega
        · by_cases h35 : bAt s i = 35
          · have n35 : (s[i].toNat : Int) = 35 := by omega
            have H35 : Hid (bAt s i = 35) := h35
            clear h32 h10 h35 hbb hi hz0 hz1 hz2
            go_wp2
            go_loopg [5] (s.size - i) (fun g pl wx => wx = wr ∧ ∃ q : Nat, pl = .int .i64 q ∧ i ≤ q ∧ q + g = s.size ∧ (∀ j, i ≤ j → j < q → inRem (bAt s j)))
            case atStart => exact ⟨rfl, i, rfl, Nat.le_refl _, by omega, fun j h1 h2 => by omega⟩
            case round =>
              obtain ⟨rfl, q, rfl, hpq, hqg, hall⟩ := hrel
              by_cases hq : q < s.size ∧ bAt s q ≠ 10
              · obtain ⟨hq, hnl⟩ := hq
                have hq' : (q : Int) < s.size := by omega
                have hnl' : ((s[q].toNat : Int) != 10) = true := by rw [bAt_in hq] at hnl; rw [bne_iff_ne]; omega
                have HA : Hid (∀ j, i ≤ j → j < q + 1 → inRem (bAt s j)) := fun j h1 h2 => by
                  rcases Nat.lt_or_eq_of_le (Nat.le_of_lt_succ h2) with h | rfl
                  · exact hall j h1 h
                  · exact hnl
                clear hall hnl
                go_wp2
                go_roundg (s.size - (q + 1))
                case rel => exact ⟨rfl, q + 1, by go_num, by omega, by omega, HA.out⟩
                case measure => omega
              · have hiq : i < q := by
                  rcases Nat.lt_or_eq_of_le hpq with h | rfl
                  · exact h
                  · exact absurd ⟨hi0, by have := H35.out; omega⟩ hq
                have HS : Hid (Step s i q []) := ⟨hi0, Or.inr (Or.inl ⟨H35.out, ⟨hpq, by omega, hall, fun h h2 => hq ⟨h, h2⟩⟩, rfl⟩)⟩
                have HM : Hid (Sat s w (s.size - q) u4 (.int .i64 (q : Nat)) wr) := ⟨k + 1, q, ts, rfl, by omega, by have h := reach_step HQ.out HS.out; rwa [List.append_nil] at h, HO.out, hbel⟩
                by_cases hqs : q < s.size
                · have hq' : (q : Int) < s.size := by omega
                  have hnl : bAt s q = 10 := by omega
                  have hnl' : (s[q].toNat : Int) = 10 := by rw [bAt_in hqs] at hnl; omega
                  clear hall HS hnl hq HQ HO hbel
                  go_wp2
                  go_roundg (s.size - q)
                  case rel => exact HM.out
                  case measure => omega
                · have hq' : (s.size : Int) ≤ q := by omega
                  clear hall HS hq HQ HO hbel
                  go_wp2
                  go_roundg (s.size - q)
                  case rel => exact HM.out
                  case measure => omega
          · by_cases h40 : bAt s i = 40
            · have HS : Hid (Step s i (i + 1) [⟨1, byteS 40, 0, i⟩]) := ⟨hi0, Or.inr (Or.inr (Or.inl ⟨h40, rfl, rfl⟩))⟩
              have n40 : (s[i].toNat : Int) = 40 := by omega
              clear h32 h10 h35 h40 hbb
              go_wp2_with (at_builtin; refine wpList_append_own _ rfl _ _ 33 rfl w.heap.size 66 i0 _ 4 40 Tryz.underlying33 hi hz0 hz1 hz2 rfl (by decide) _ _ _ rfl (HO.out.alloc _) ⟨wr.heap.size, 0, none⟩ 1 1 (tcells ⟨1, byteS 40, 0, i⟩) rfl rfl ?a1 ?a2 ?a3 ?a4 ?a5 ?_)
              case a1 => exact new_cells rfl _ _ _ _ _
              case a2 => intro u hu; simp [tcells] at hu; rcases hu with rfl | rfl | rfl | rfl <;> rfl
              case a3 => unfold maxLen; omega
              case a4 => omega
              case a5 => simp; omega
              intro v' W3 hown' hgrow _
              have hO3 : ownT W3 w.heap.size v' (ts ++ [⟨1, byteS 40, 0, i⟩]) := own_next ⟨1, byteS 40, 0, i⟩ hown' rfl rfl
              have hB3 : Below w.heap.size w W3 := (hbel.alloc (by omega) _).grown hgrow (by simp; omega) (fun q hq => (HO.out.lt q hq).1)
              have HM : Hid (Sat s w (s.size - (i + 1)) v' (.int .i64 ((i + 1) : Nat)) W3) := ⟨k + 1, (i + 1), ts ++ [⟨1, byteS 40, 0, i⟩], rfl, by omega, reach_step HQ.out HS.out, hO3, hB3⟩
              clear hown' hgrow hO3 hB3 HQ HO hbel hi hz0 hz1 hz2
              go_wp2
              go_roundg (s.size - (i + 1))
              case rel => exact HM.out
              case measure => omega
            · by_cases h41 : bAt s i = 41
              · have HS : Hid (Step s i (i + 1) [⟨2, byteS 41, 0, i⟩]) := ⟨hi0, Or.inr (Or.inr (Or.inr (Or.inl ⟨h41, rfl, rfl⟩)))⟩
                have n41 : (s[i].toNat : Int) = 41 := by omega
                clear h32 h10 h35 h40 h41 hbb
                go_wp2_with (at_builtin; refine wpList_append_own _ rfl _ _ 33 rfl w.heap.size 66 i0 _ 4 40 Tryz.underlying33 hi hz0 hz1 hz2 rfl (by decide) _ _ _ rfl (HO.out.alloc _) ⟨wr.heap.size, 0, none⟩ 1 1 (tcells ⟨2, byteS 41, 0, i⟩) rfl rfl ?b1 ?b2 ?b3 ?b4 ?b5 ?_)
                case b1 => exact new_cells rfl _ _ _ _ _
                case b2 => intro u hu; simp [tcells] at hu; rcases hu with rfl | rfl | rfl | rfl <;> rfl
                case b3 => unfold maxLen; omega
                case b4 => omega
                case b5 => simp; omega
                intro v' W3 hown' hgrow _
                have hO3 : ownT W3 w.heap.size v' (ts ++ [⟨2, byteS 41, 0, i⟩]) := own_next ⟨2, byteS 41, 0, i⟩ hown' rfl rfl
                have hB3 : Below w.heap.size w W3 := (hbel.alloc (by omega) _).grown hgrow (by simp; omega) (fun q hq => (HO.out.lt q hq).1)
                have HM : Hid (Sat s w (s.size - (i + 1)) v' (.int .i64 ((i + 1) : Nat)) W3) := ⟨k + 1, (i + 1), ts ++ [⟨2, byteS 41, 0, i⟩], rfl, by omega, reach_step HQ.out HS.out, hO3, hB3⟩
                clear hown' hgrow hO3 hB3 HQ HO hbel hi hz0 hz1 hz2
                go_wp2
                go_roundg (s.size - (i + 1))
                case rel => exact HM.out
                case measure => omega
              · have n32 : ((s[i].toNat : Int) == 32) = false := by rw [beq_eq_false_iff_ne]; omega
                have n10 : ((s[i].toNat : Int) == 10) = false := by rw [beq_eq_false_iff_ne]; omega
                have n35 : ((s[i].toNat : Int) == 35) = false := by rw [beq_eq_false_iff_ne]; omega
                have n40 : ((s[i].toNat : Int) == 40) = false := by rw [beq_eq_false_iff_ne]; omega
                have n41 : ((s[i].toNat : Int) == 41) = false := by rw [beq_eq_false_iff_ne]; omega
                by_cases hl : lowA (bAt s i)
                · have g1 : (97 : Int) ≤ s[i].toNat := by omega
                  have g2 : (s[i].toNat : Int) ≤ 122 := by omega
                  have HB : Hid (lowA (bAt s i)) := hl
                  clear h32 h10 h35 h40 h41 hbb hl
                  go_wp2_with fail
                  refine (spec_let_yes _ g1 g2 _).mono ?_
                  rintro e w1 ⟨rfl, rfl⟩
                  go_wp2_with fail
                  refine (spec_run_let s i hs (by omega) _).mono ?_
                  rintro e w2 ⟨⟨j, hr, rfl⟩, rfl⟩
                  have hij : i < j := by
                    rcases Nat.lt_or_eq_of_le hr.1 with h | rfl
                    · exact h
                    · exact absurd HB.out (hr.2.2.2 hi0)
                  have hjs : j ≤ s.size := hr.2.1
                  have hij' : (i : Int) ≤ j := by omega
                  have hjs' : (j : Int) ≤ s.size := by omega
                  obtain ⟨T, hT⟩ : ∃ T, s.extract i j = T := ⟨_, rfl⟩
                  have HT : Hid (s.extract i j = T) := hT
                  have hz : T.size ≤ 4000 := by rw [← hT, run_size hr]; omega
                  have HW : Hid (isWordB T = decide (j ≤ i + 8)) := by
                    show isWordB T = _
                    rw [← hT]
                    exact run_word hi0 HB.out hr
                  have HR : Hid (RunTo lowA s i j) := hr
                  clear hr
                  go_wp2_with fail
                  refine (spec_word T (by unfold maxLen; omega) _).mono ?_
                  rintro e w3 ⟨rfl, rfl⟩
                  have hw := HW.out
                  by_cases h8 : j ≤ i + 8
                  · rw [decide_eq_true h8] at hw
                    rw [hw]
                    have HS : Hid (Step s i j [⟨3, T, 0, i⟩]) := ⟨hi0, Or.inr (Or.inr (Or.inr (Or.inr (Or.inl ⟨HB.out, HR.out, h8, by rw [HT.out]⟩))))⟩
                    clear hw HW HB HR HT
                    go_wp2_with (at_builtin; refine wpList_append_own _ rfl _ _ 33 rfl w.heap.size 66 i0 _ 4 40 Tryz.underlying33 hi hz0 hz1 hz2 rfl (by decide) _ _ _ rfl (HO.out.alloc _) ⟨w3.heap.size, 0, none⟩ 1 1 (tcells ⟨3, T, 0, i⟩) rfl rfl ?c1 ?c2 ?c3 ?c4 ?c5 ?_)
                    case c1 => exact new_cells rfl _ _ _ _ _
                    case c2 => intro u hu; simp [tcells] at hu; rcases hu with rfl | rfl | rfl | rfl <;> rfl
                    case c3 => unfold maxLen; omega
                    case c4 => omega
                    case c5 => simp; omega
                    intro v' W3 hown' hgrow _
                    have hO3 : ownT W3 w.heap.size v' (ts ++ [⟨3, T, 0, i⟩]) := own_next ⟨3, T, 0, i⟩ hown' rfl rfl
                    have hB3 : Below w.heap.size w W3 := (hbel.alloc (by omega) _).grown hgrow (by simp; omega) (fun q hq => (HO.out.lt q hq).1)
                    have HM : Hid (Sat s w (s.size - j) v' (.int .i64 (j : Nat)) W3) := ⟨k + 1, j, ts ++ [⟨3, T, 0, i⟩], rfl, by omega, reach_step HQ.out HS.out, hO3, hB3⟩
                    clear hown' hgrow hO3 hB3 HQ HO hbel hi hz0 hz1 hz2
                    go_wp2
                    go_roundg (s.size - j)
                    case rel => exact HM.out
                    case measure => omega
                  · rw [decide_eq_false h8] at hw
                    rw [hw]
                    have HD : Hid (Bad s i) := ⟨hi0, Or.inl ⟨HB.out, j, HR.out, by omega⟩⟩
                    clear hw HW HB HR HT hi hz0 hz1 hz2 hT
                    have HF : Hid (LexEnd s w.heap.size (.returned (.tuple #[.slice (some ⟨w3.heap.size, 0, none⟩) 0 0, .int .i64 i])) (w3.alloc (.cells #[] 66))) := lexEnd_bad' hs HQ.out HD.out (by omega)
                    clear HQ HO
                    go_wp2
                    go_ret2
                    exact ⟨HF.out, hbel.alloc (by omega) _⟩
                · have g0 : (s[i].toNat : Int) < 97 ∨ 122 < (s[i].toNat : Int) := by omega
                  by_cases hd : dig9 (bAt s i)
                  · have g1 : (48 : Int) ≤ s[i].toNat := by omega
                    have g2 : (s[i].toNat : Int) ≤ 57 := by omega
                    have HB : Hid (dig9 (bAt s i)) := hd
                    clear h32 h10 h35 h40 h41 hbb hl hd
                    go_wp2_with fail
                    refine (spec_let_no _ g0 _).mono ?_
                    rintro e w1 ⟨rfl, rfl⟩
                    go_wp2_with fail
                    refine (spec_dig_yes _ g1 g2 _).mono ?_
                    rintro e w1 ⟨rfl, rfl⟩
                    go_wp2_with fail
                    refine (spec_run_dig s i hs (by omega) _).mono ?_
                    rintro e w2 ⟨⟨j, hr, rfl⟩, rfl⟩
                    have hij : i < j := by
                      rcases Nat.lt_or_eq_of_le hr.1 with h | rfl
                      · exact h
                      · exact absurd HB.out (hr.2.2.2 hi0)
                    have hjs : j ≤ s.size := hr.2.1
                    have hij' : (i : Int) ≤ j := by omega
                    have hjs' : (j : Int) ≤ s.size := by omega
                    obtain ⟨T, hT⟩ : ∃ T, s.extract i j = T := ⟨_, rfl⟩
                    have HT : Hid (s.extract i j = T) := hT
                    have hz : T.size ≤ 4000 := by rw [← hT, run_size hr]; omega
                    have HR : Hid (RunTo dig9 s i j) := hr
                    clear hr
                    go_wp2_with fail
                    refine (spec_rd T (by omega) _).mono ?_
                    rintro e w3 ⟨⟨v, ok, hrd, rfl⟩, hb3⟩
                    have HRD : Hid (IsRd T.data.toList v ok) := hrd
                    have HO3 : Hid (ownT w3 w.heap.size u4 ts) := own_kept HO.out hb3 (Nat.le_refl _)
                    have hsz3 := hb3.size
                    have hbel3 : Below w.heap.size w w3 := hbel.trans (hb3.mono hsz)
                    clear hrd HO hbel hb3
                    rename Hid (ownT w3 w.heap.size u4 ts) => HO
                    rename Below w.heap.size w w3 => hbel
                    by_cases hg : ok = true ∧ v ≤ 65535
                    · obtain ⟨rfl, hv⟩ := hg
                      have hv' : ¬ (65535 : Int) < v := by omega
                      have HS : Hid (Step s i j [⟨4, T, v, i⟩]) := ⟨hi0, Or.inr (Or.inr (Or.inr (Or.inr (Or.inr ⟨HB.out, HR.out, v, by rw [HT.out]; exact HRD.out, hv, by rw [HT.out]⟩))))⟩
                      clear HB HR HT HRD
                      go_wp2_with (at_builtin; refine wpList_append_own _ rfl _ _ 33 rfl w.heap.size 66 i0 _ 4 40 Tryz.underlying33 hi hz0 hz1 hz2 rfl (by decide) _ _ _ rfl (HO.out.alloc _) ⟨w3.heap.size, 0, none⟩ 1 1 (tcells ⟨4, T, v, i⟩) rfl rfl ?d1 ?d2 ?d3 ?d4 ?d5 ?_)
                      case d1 => exact new_cells rfl _ _ _ _ _
                      case d2 => intro u hu; simp [tcells] at hu; rcases hu with rfl | rfl | rfl | rfl <;> rfl
                      case d3 => unfold maxLen; omega
                      case d4 => omega
                      case d5 => simp; omega
                      intro v' W3 hown' hgrow _
                      have hO3 : ownT W3 w.heap.size v' (ts ++ [⟨4, T, v, i⟩]) := own_next ⟨4, T, v, i⟩ hown' rfl rfl
                      have hB3 : Below w.heap.size w W3 := (hbel.alloc (by omega) _).grown hgrow (by simp; omega) (fun q hq => (HO.out.lt q hq).1)
                      have HM : Hid (Sat s w (s.size - j) v' (.int .i64 (j : Nat)) W3) := ⟨k + 1, j, ts ++ [⟨4, T, v, i⟩], rfl, by omega, reach_step HQ.out HS.out, hO3, hB3⟩
                      clear hown' hgrow hO3 hB3 HQ HO hbel hi hz0 hz1 hz2
                      go_wp2
                      go_roundg (s.size - j)
                      case rel => exact HM.out
                      case measure => omega
                    · have HD : Hid (Bad s i) := by
                        refine ⟨hi0, Or.inr (Or.inl ⟨HB.out, j, HR.out, v, ok, by rw [HT.out]; exact HRD.out, ?_⟩)⟩
                        cases ok with
                        | false => exact Or.inl rfl
                        | true => exact Or.inr (Int.not_le.1 (fun h => hg ⟨rfl, h⟩))
                      cases ok with
                      | false =>
                        clear hg HB HR HT HRD hi hz0 hz1 hz2 hT
                        have HF : Hid (LexEnd s w.heap.size (.returned (.tuple #[.slice (some ⟨w3.heap.size, 0, none⟩) 0 0, .int .i64 i])) (w3.alloc (.cells #[] 66))) := lexEnd_bad' hs HQ.out HD.out (by omega)
                        clear HQ HO
                        go_wp2
                        go_ret2
                        exact ⟨HF.out, hbel.alloc (by omega) _⟩
                      | true =>
                        have hv : (65535 : Int) < v := Int.not_le.1 (fun h => hg ⟨rfl, h⟩)
                        clear hg HB HR HT HRD hi hz0 hz1 hz2 hT
                        have HF : Hid (LexEnd s w.heap.size (.returned (.tuple #[.slice (some ⟨w3.heap.size, 0, none⟩) 0 0, .int .i64 i])) (w3.alloc (.cells #[] 66))) := lexEnd_bad' hs HQ.out HD.out (by omega)
                        clear HQ HO
                        go_wp2
                        go_ret2
                        exact ⟨HF.out, hbel.alloc (by omega) _⟩
                  · have g3 : (s[i].toNat : Int) < 48 ∨ 57 < (s[i].toNat : Int) := by omega
                    have HD : Hid (Bad s i) := ⟨hi0, Or.inr (Or.inr ⟨h32, h10, h35, h40, h41, hl, hd⟩)⟩
                    clear h32 h10 h35 h40 h41 hbb hl hd hi hz0 hz1 hz2
                    go_wp2_with fail
                    refine (spec_let_no _ g0 _).mono ?_
                    rintro e w1 ⟨rfl, rfl⟩
                    go_wp2_with fail
                    refine (spec_dig_no _ g3 _).mono ?_
                    rintro e w1 ⟨rfl, rfl⟩
                    have HF : Hid (LexEnd s w.heap.size (.returned (.tuple #[.slice (some ⟨w1.heap.size, 0, none⟩) 0 0, .int .i64 i])) (w1.alloc (.cells #[] 66))) := lexEnd_bad' hs HQ.out HD.out (by omega)
                    clear HQ HO
                    go_wp2
                    go_ret2
                    exact ⟨HF.out, hbel.alloc (by omega) _⟩
    · have hi' : (s.size : Int) ≤ i := by omega
      have HF : Hid (LexEnd s w.heap.size (.returned (.tuple #[u4, .int .i64 (-1)])) wr) := lexEnd_all hs HQ.out (by omega) HO.out
      clear HQ HO
      go_wp2
      go_ret2
      exact ⟨HF.out, hbel⟩
end Go.Proofs.YtobijbhgpgnfkaaGreatDoor
