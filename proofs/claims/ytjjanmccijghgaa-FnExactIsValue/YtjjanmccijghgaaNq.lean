/-
  Nodes, the specification's: are the fields of a node as its kind wants them? Conditions: written at each theorem.
-/
import Derived.Test.YtjjanmccijghgaaNf
import Derived.Deep.CutRange
namespace Go.Proofs.Ytjjanmccijghgaa
open Go.ChangeShapes Go.WideShapes Go.ChangeAt Go.RowKit
set_option linter.unusedVariables false

/-- Kids that a kind has not are 0. -/
abbrev KidsNull (a : Nat) (x y z : Int) : Prop := (a < 1 → x = 0) ∧ (a < 2 → y = 0) ∧ (a < 3 → z = 0)

/-- Names are there where the kind has them, and nowhere else. -/
abbrev NamesFit (m : Nat) (s o : ByteArray) : Prop := (m = 0 → s.size = 0) ∧ (0 < m → isNameB s = true) ∧ (m ≤ 1 → o.size = 0) ∧ (1 < m → isNameB o = true)

/-- The number is one that the kind may have. -/
abbrev NumFits (k n : Int) : Prop := (k = 2 → 0 ≤ n ∧ n ≤ 65535) ∧ (k = 8 → 0 ≤ n ∧ n ≤ 3) ∧ (k ≠ 2 → k ≠ 8 → n = 0)

abbrev FieldsOk (t : Nod) : Prop := (1 ≤ t.kind ∧ t.kind ≤ 19) ∧ KidsNull (arN t.kind) t.a t.b t.c ∧ NamesFit (nmN t.kind) t.name t.other ∧ NumFits t.kind t.n

def fieldsB (t : Nod) : Bool := decide (FieldsOk t)

theorem empty_name (s : ByteArray) (h : s.size = 0) : isNameB s = false := by
  have : isWordB s = false := decide_eq_false (fun hw => by omega)
  rw [isNameB, this]
  rfl

theorem size_full (s : ByteArray) (h : ¬ s.size = 0) : s.toList.isEmpty = false := by
  rw [Lib.toList_data, List.isEmpty_eq_false_iff]
  intro e
  have : s.data.toList.length = 0 := by rw [e]; rfl
  rw [Array.length_toList] at this
  exact h this

theorem size_empty (s : ByteArray) (h : s.size = 0) : s.toList.isEmpty = true := by
  rw [Lib.toList_data, List.isEmpty_iff]
  have : s.data.toList.length = 0 := by rw [Array.length_toList]; exact h
  exact List.length_eq_zero_iff.1 this

theorem size_eq (s : ByteArray) (h : s.size = 0) : s = ⟨#[]⟩ := by
  apply data_ext
  have : s.data.toList.length = 0 := by rw [Array.length_toList]; exact h
  rw [List.length_eq_zero_iff.1 this]

set_option maxHeartbeats 8000000 in
set_option maxRecDepth 20000 in
theorem spec_fields (k a b c n : Int) (s o : ByteArray) (hs : s.size ≤ maxLen) (ho : o.size ≤ maxLen) (w : World) :
    Calls Try.prog 19 #[.agg #[.int .i64 k, .int .i64 a, .int .i64 b, .int .i64 c, .int .i64 n, .string s, .string o]] w fun e w' =>
      e = .returned (.bool (fieldsB ⟨k, a, b, c, n, s, o⟩)) ∧ Below w.heap.size w w' := by
  have HF : Hid (fieldsB ⟨k, a, b, c, n, s, o⟩ = decide ((1 ≤ k ∧ k ≤ 19) ∧ KidsNull (arN k) a b c ∧ NamesFit (nmN k) s o ∧ NumFits k n)) := rfl
  have hs' : Hid (s.size ≤ maxLen) := hs
  have ho' : Hid (o.size ≤ maxLen) := ho
  clear hs ho
  have hB0 : Below w.heap.size w (w.alloc (.cells #[.int .i64 k, .int .i64 a, .int .i64 b, .int .i64 c, .int .i64 n, .string s, .string o] 34)) := (Below.refl _ w).alloc (Nat.le_refl _) _
  go_enter Try.func19, Try.ntmps19
  go_wp2_with fail
  refine (word_in _ _ _ _).mono ?_
  rintro e w1 ⟨rfl, rfl⟩
  by_cases hk : 1 ≤ k ∧ k ≤ 19
  · obtain ⟨hk1, hk2⟩ := hk
    have d1 : (decide (1 ≤ k) && decide (k ≤ 19)) = true := by rw [decide_eq_true hk1, decide_eq_true hk2]; rfl
    rw [d1]
    have HK : Hid (1 ≤ k ∧ k ≤ 19) := ⟨hk1, hk2⟩
    clear d1 hk1 hk2
    go_wp2_with fail
    refine (spec_arity k _).mono ?_
    rintro e w2 ⟨rfl, rfl⟩
    have har := arN_le k
    generalize arN k = ar at *
    go_upto_region 4 with fail
    go_cut [36] from 12 to 36 (fun v wx => v = .bool (decide (¬ KidsNull ar a b c)) ∧ wx = w.alloc (.cells #[.int .i64 k, .int .i64 a, .int .i64 b, .int .i64 c, .int .i64 n, .string s, .string o] 34))
    case first =>
      rcases (by omega : ar = 0 ∨ ar = 1 ∨ ar = 2 ∨ ar = 3) with rfl | rfl | rfl | rfl
      · by_cases za : a = 0
        · have na : (a != 0) = false := by simpa using za
          have Za : Hid (a = 0) := za
          clear za
          by_cases zb : b = 0
          · have nb : (b != 0) = false := by simpa using zb
            have Zb : Hid (b = 0) := zb
            clear zb
            by_cases zc : c = 0
            · have nc : (c != 0) = false := by simpa using zc
              have Zc : Hid (c = 0) := zc
              clear zc
              go_wp2
              go_meet
              exact ⟨by rw [decide_eq_false]; exact fun h => h ⟨fun _ => Za.out, fun _ => Zb.out, fun _ => Zc.out⟩, rfl⟩
            · have nc : (c != 0) = true := by simpa using zc
              go_wp2
              go_meet
              exact ⟨by rw [decide_eq_true]; exact fun h => zc (h.2.2 (by omega)), rfl⟩
          · have nb : (b != 0) = true := by simpa using zb
            go_wp2
            go_meet
            exact ⟨by rw [decide_eq_true]; exact fun h => zb (h.2.1 (by omega)), rfl⟩
        · have na : (a != 0) = true := by simpa using za
          go_wp2
          go_meet
          exact ⟨by rw [decide_eq_true]; exact fun h => za (h.1 (by omega)), rfl⟩
      · by_cases zb : b = 0
        · have nb : (b != 0) = false := by simpa using zb
          have Zb : Hid (b = 0) := zb
          clear zb
          by_cases zc : c = 0
          · have nc : (c != 0) = false := by simpa using zc
            have Zc : Hid (c = 0) := zc
            clear zc
            go_wp2
            go_meet
            exact ⟨by rw [decide_eq_false]; exact fun h => h ⟨fun h => by omega, fun _ => Zb.out, fun _ => Zc.out⟩, rfl⟩
          · have nc : (c != 0) = true := by simpa using zc
            go_wp2
            go_meet
            exact ⟨by rw [decide_eq_true]; exact fun h => zc (h.2.2 (by omega)), rfl⟩
        · have nb : (b != 0) = true := by simpa using zb
          go_wp2
          go_meet
          exact ⟨by rw [decide_eq_true]; exact fun h => zb (h.2.1 (by omega)), rfl⟩
      · by_cases zc : c = 0
        · have nc : (c != 0) = false := by simpa using zc
          have Zc : Hid (c = 0) := zc
          clear zc
          go_wp2
          go_meet
          exact ⟨by rw [decide_eq_false]; exact fun h => h ⟨fun h => by omega, fun h => by omega, fun _ => Zc.out⟩, rfl⟩
        · have nc : (c != 0) = true := by simpa using zc
          go_wp2
          go_meet
          exact ⟨by rw [decide_eq_true]; exact fun h => zc (h.2.2 (by omega)), rfl⟩
      · go_wp2
        go_meet
        exact ⟨by rw [decide_eq_false]; exact fun h => h ⟨fun h => by omega, fun h => by omega, fun h => by omega⟩, rfl⟩
    case rest =>
      obtain ⟨rfl, rfl⟩ := hcut
      by_cases hkn : KidsNull ar a b c
      · have d2 : decide (¬ KidsNull ar a b c) = false := decide_eq_false (fun h => h hkn)
        have HN : Hid (KidsNull ar a b c) := hkn
        clear hkn
        rw [d2]
        clear d2
        go_wp2_with fail
        refine (spec_names k _).mono ?_
        rintro e w3 ⟨rfl, rfl⟩
        have hnm := nmN_le k
        generalize nmN k = m at *
        go_upto_region 7 with fail
        go_cut [71] from 40 to 71 (fun v wx => v = .bool (decide (¬ NamesFit m s o)) ∧ Below w.heap.size w wx ∧ Below (w.heap.size + 1) (w.alloc (.cells #[.int .i64 k, .int .i64 a, .int .i64 b, .int .i64 c, .int .i64 n, .string s, .string o] 34)) wx)
        case first =>
          go_wp2_with fail
          refine (spec_name s hs'.out _).mono ?_
          rintro e w4 ⟨rfl, hb4⟩
          have hb4' : Below (w.heap.size + 1) (w.alloc (.cells #[.int .i64 k, .int .i64 a, .int .i64 b, .int .i64 c, .int .i64 n, .string s, .string o] 34)) w4 := by simpa using hb4
          have q5 : w4.cell? ⟨w.heap.size, 5, none⟩ = some (.string s) := (World.cell?_of_block (hb4'.block w.heap.size (by omega))).trans (by simp)
          have q6 : w4.cell? ⟨w.heap.size, 6, none⟩ = some (.string o) := (World.cell?_of_block (hb4'.block w.heap.size (by omega))).trans (by simp)
          have B4 : Hid (Below w.heap.size w w4) := hB0.trans (hb4'.mono (by omega))
          have B4' : Hid (Below (w.heap.size + 1) (w.alloc (.cells #[.int .i64 k, .int .i64 a, .int .i64 b, .int .i64 c, .int .i64 n, .string s, .string o] 34)) w4) := hb4'
          have s4 := hb4'.size
          simp only [World.size_alloc] at s4
          clear hb4 hb4'
          rcases (by omega : m = 0 ∨ m = 1 ∨ m = 2) with rfl | rfl | rfl
          · cases hp : isNameB s with
            | true =>
              have HP : Hid (isNameB s = true) := hp
              clear hp
              go_wp2
              go_meet
              exact ⟨(by rw [decide_eq_true]; exact fun h => by have e := empty_name s (h.1 rfl); rw [HP.out] at e; cases e), B4.out, B4'.out⟩
            | false =>
              clear hp
              by_cases zs : s.size = 0
              · have es := size_empty s zs
                have ZS : Hid (s.size = 0) := zs
                clear zs
                go_wp2_with fail
                refine (spec_name o ho'.out _).mono ?_
                rintro e w5 ⟨rfl, hb5⟩
                have p6 := (World.cell?_of_block (hb5.block w.heap.size (by omega))).trans q6
                have B5 : Hid (Below w.heap.size w w5) := B4.out.trans (hb5.mono (by omega))
                have B5' : Hid (Below (w.heap.size + 1) (w.alloc (.cells #[.int .i64 k, .int .i64 a, .int .i64 b, .int .i64 c, .int .i64 n, .string s, .string o] 34)) w5) := B4'.out.trans (hb5.mono (by omega))
                clear hb5 q5 q6
                cases hq : isNameB o with
                | true =>
                  have HQ : Hid (isNameB o = true) := hq
                  clear hq
                  go_wp2
                  go_meet
                  exact ⟨(by rw [decide_eq_true]; exact fun h => by have e := empty_name o (h.2.2.1 (by omega)); rw [HQ.out] at e; cases e), B5.out, B5'.out⟩
                | false =>
                  clear hq
                  by_cases zo : o.size = 0
                  · have eo := size_empty o zo
                    have ZO : Hid (o.size = 0) := zo
                    clear zo
                    go_wp2
                    go_meet
                    exact ⟨(by rw [decide_eq_false]; exact fun h => h ⟨fun _ => ZS.out, fun h => by omega, fun _ => ZO.out, fun h => by omega⟩), B5.out, B5'.out⟩
                  · have eo := size_full o zo
                    have ZO : Hid (¬ o.size = 0) := zo
                    clear zo
                    go_wp2
                    go_meet
                    exact ⟨(by rw [decide_eq_true]; exact fun h => ZO.out (h.2.2.1 (by omega))), B5.out, B5'.out⟩
              · have es := size_full s zs
                have ZS : Hid (¬ s.size = 0) := zs
                clear zs
                go_wp2
                go_meet
                exact ⟨(by rw [decide_eq_true]; exact fun h => ZS.out (h.1 rfl)), B4.out, B4'.out⟩
          · cases hp : isNameB s with
            | false =>
              have HP : Hid (isNameB s = false) := hp
              clear hp
              go_wp2
              go_meet
              exact ⟨(by rw [decide_eq_true]; exact fun h => by have e := h.2.1 (by omega); rw [HP.out] at e; cases e), B4.out, B4'.out⟩
            | true =>
              have HP : Hid (isNameB s = true) := hp
              clear hp
              go_wp2_with fail
              refine (spec_name o ho'.out _).mono ?_
              rintro e w5 ⟨rfl, hb5⟩
              have p6 := (World.cell?_of_block (hb5.block w.heap.size (by omega))).trans q6
              have B5 : Hid (Below w.heap.size w w5) := B4.out.trans (hb5.mono (by omega))
              have B5' : Hid (Below (w.heap.size + 1) (w.alloc (.cells #[.int .i64 k, .int .i64 a, .int .i64 b, .int .i64 c, .int .i64 n, .string s, .string o] 34)) w5) := B4'.out.trans (hb5.mono (by omega))
              clear hb5 q5 q6
              cases hq : isNameB o with
              | true =>
                have HQ : Hid (isNameB o = true) := hq
                clear hq
                go_wp2
                go_meet
                exact ⟨(by rw [decide_eq_true]; exact fun h => by have e := empty_name o (h.2.2.1 (by omega)); rw [HQ.out] at e; cases e), B5.out, B5'.out⟩
              | false =>
                clear hq
                by_cases zo : o.size = 0
                · have eo := size_empty o zo
                  have ZO : Hid (o.size = 0) := zo
                  clear zo
                  go_wp2
                  go_meet
                  exact ⟨(by rw [decide_eq_false]; exact fun h => h ⟨fun h => by omega, fun _ => HP.out, fun _ => ZO.out, fun h => by omega⟩), B5.out, B5'.out⟩
                · have eo := size_full o zo
                  have ZO : Hid (¬ o.size = 0) := zo
                  clear zo
                  go_wp2
                  go_meet
                  exact ⟨(by rw [decide_eq_true]; exact fun h => ZO.out (h.2.2.1 (by omega))), B5.out, B5'.out⟩
          · cases hp : isNameB s with
            | false =>
              have HP : Hid (isNameB s = false) := hp
              clear hp
              go_wp2
              go_meet
              exact ⟨(by rw [decide_eq_true]; exact fun h => by have e := h.2.1 (by omega); rw [HP.out] at e; cases e), B4.out, B4'.out⟩
            | true =>
              have HP : Hid (isNameB s = true) := hp
              clear hp
              go_wp2_with fail
              refine (spec_name o ho'.out _).mono ?_
              rintro e w5 ⟨rfl, hb5⟩
              have p6 := (World.cell?_of_block (hb5.block w.heap.size (by omega))).trans q6
              have B5 : Hid (Below w.heap.size w w5) := B4.out.trans (hb5.mono (by omega))
              have B5' : Hid (Below (w.heap.size + 1) (w.alloc (.cells #[.int .i64 k, .int .i64 a, .int .i64 b, .int .i64 c, .int .i64 n, .string s, .string o] 34)) w5) := B4'.out.trans (hb5.mono (by omega))
              clear hb5 q5 q6
              cases hq : isNameB o with
              | false =>
                have HQ : Hid (isNameB o = false) := hq
                clear hq
                go_wp2
                go_meet
                exact ⟨(by rw [decide_eq_true]; exact fun h => by have e := h.2.2.2 (by omega); rw [HQ.out] at e; cases e), B5.out, B5'.out⟩
              | true =>
                have HQ : Hid (isNameB o = true) := hq
                clear hq
                go_wp2
                go_meet
                exact ⟨(by rw [decide_eq_false]; exact fun h => h ⟨fun h => by omega, fun _ => HP.out, fun h => by omega, fun _ => HQ.out⟩), B5.out, B5'.out⟩
        case rest =>
          obtain ⟨rfl, hb6, hb6'⟩ := hcut
          have q0 : wc.cell? ⟨w.heap.size, 0, none⟩ = some (.int .i64 k) := (World.cell?_of_block (hb6'.block w.heap.size (by omega))).trans (by simp)
          have q4 : wc.cell? ⟨w.heap.size, 4, none⟩ = some (.int .i64 n) := (World.cell?_of_block (hb6'.block w.heap.size (by omega))).trans (by simp)
          have B6 : Hid (Below w.heap.size w wc) := hb6
          clear hb6 hb6'
          by_cases hnf : NamesFit m s o
          · have d3 : decide (¬ NamesFit m s o) = false := decide_eq_false (fun h => h hnf)
            have HM : Hid (NamesFit m s o) := hnf
            clear hnf
            rw [d3]
            clear d3
            have HV : Hid (fieldsB ⟨k, a, b, c, n, s, o⟩ = decide (NumFits k n)) := by
              show fieldsB ⟨k, a, b, c, n, s, o⟩ = decide (NumFits k n)
              rw [HF.out, decide_eq_decide]
              exact ⟨fun h => h.2.2.2, fun h => ⟨HK.out, HN.out, HM.out, h⟩⟩
            clear HF HK HN HM
            by_cases h2 : k = 2
            · subst h2
              have e2 : decide (NumFits 2 n) = (decide (0 ≤ n) && decide (n ≤ 65535)) := by
                rw [← Bool.decide_and, decide_eq_decide]
                exact ⟨fun h => h.1 rfl, fun h => ⟨fun _ => h, fun h => by omega, fun h => absurd rfl h⟩⟩
              rw [e2] at HV
              clear e2
              go_wp2_with fail
              refine (word_in _ _ _ _).mono ?_
              rintro e w7 ⟨rfl, rfl⟩
              go_wp2
              go_ret
              exact ⟨by rw [HV.out]; rfl, B6.out⟩
            · by_cases h8 : k = 8
              · subst h8
                have e8 : decide (NumFits 8 n) = (decide (0 ≤ n) && decide (n ≤ 3)) := by
                  rw [← Bool.decide_and, decide_eq_decide]
                  exact ⟨fun h => h.2.1 rfl, fun h => ⟨fun h => by omega, fun _ => h, fun _ h => absurd rfl h⟩⟩
                rw [e8] at HV
                clear e8
                go_wp2_with fail
                refine (word_in _ _ _ _).mono ?_
                rintro e w7 ⟨rfl, rfl⟩
                go_wp2
                go_ret
                exact ⟨by rw [HV.out]; rfl, B6.out⟩
              · have n2 : (k == 2) = false := by simpa using h2
                have n8 : (k == 8) = false := by simpa using h8
                have e0 : decide (NumFits k n) = (n == 0) := by
                  by_cases hn : n = 0
                  · rw [decide_eq_true (⟨fun h => absurd h h2, fun h => absurd h h8, fun _ _ => hn⟩)]
                    simp [hn]
                  · rw [decide_eq_false (fun h => hn (h.2.2 h2 h8))]
                    simp [hn]
                rw [e0] at HV
                clear e0 h2 h8
                go_wp2
                go_ret
                exact ⟨by rw [HV.out]; rfl, B6.out⟩
          · have d3 : decide (¬ NamesFit m s o) = true := decide_eq_true hnf
            rw [d3]
            have hv : Hid (fieldsB ⟨k, a, b, c, n, s, o⟩ = false) := by
              show fieldsB ⟨k, a, b, c, n, s, o⟩ = false
              rw [HF.out]
              exact decide_eq_false (fun h => hnf h.2.2.1)
            clear HF hnf d3
            go_wp2
            go_ret
            exact ⟨by rw [hv.out]; rfl, B6.out⟩
      · have d2 : decide (¬ KidsNull ar a b c) = true := decide_eq_true hkn
        rw [d2]
        have hv : Hid (fieldsB ⟨k, a, b, c, n, s, o⟩ = false) := by
          show fieldsB ⟨k, a, b, c, n, s, o⟩ = false
          rw [HF.out]
          exact decide_eq_false (fun h => hkn h.2.1)
        clear HF hkn d2
        go_wp2
        go_ret
        exact ⟨by rw [hv.out]; rfl, hB0⟩
  · have d1 : (decide (1 ≤ k) && decide (k ≤ 19)) = false := by rw [← Bool.decide_and]; exact decide_eq_false hk
    rw [d1]
    have hv : Hid (fieldsB ⟨k, a, b, c, n, s, o⟩ = false) := by
      show fieldsB ⟨k, a, b, c, n, s, o⟩ = false
      rw [HF.out]
      exact decide_eq_false (fun h => hk h.1)
    clear HF hk d1
    go_wp2
    go_ret
    exact ⟨by rw [hv.out]; rfl, hB0⟩
end Go.Proofs.Ytjjanmccijghgaa
