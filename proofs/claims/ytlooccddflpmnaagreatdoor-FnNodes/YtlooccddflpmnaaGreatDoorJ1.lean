/-
  Several texts in one, in their order: each is told at its own place by its theorems. Conditions: written at each theorem.
-/
import Derived.Test.YtlooccddflpmnaaGreatDoorNf
import Derived.Deep.CutRange
import Derived.Test.YtlooccddflpmnaaGreatDoorSt
import Derived.Deep.RegionHeld3
import Derived.Test.YtlooccddflpmnaaGreatDoorRows
import Derived.WalkKit
import Derived.ProofKit
import Derived.OpenShut
import Derived.ShutString
import Derived.WalkSpells
import Derived.Laws.OwnMore
import Derived.Below
import Derived.Lib.ItoaNum
import Derived.Lib.ItoaMem
import Derived.Lib.ItoaLen
import Derived.Lib.AtoiAll
import Derived.Lib.Strings
import Derived.Test.YtlooccddflpmnaaGreatDoorNy
import Derived.Deep.LoopGhost
import Derived.Lib.FrozenHead2
import Derived.Lib.OthersKept
import Derived.Lib.Builder
import Derived.Lib.UnsafeStr
import Derived.Shelf.RegionOpenPlain
import Derived.Test.YtlooccddflpmnaaGreatDoorWs
namespace Go.Proofs.YtlooccddflpmnaaGreatDoor
set_option linter.unusedVariables false

section
open Go.ChangeShapes Go.WideShapes Go.ChangeAt Go.RowKit

/-- Kids that a kind has not are 0. -/
abbrev KidsNull (a : Nat) (x y z : Int) : Prop := (a < 1 → x = 0) ∧ (a < 2 → y = 0) ∧ (a < 3 → z = 0)

/-- Names are there where the kind has them, and nowhere else. -/
abbrev NamesFit (m : Nat) (s o : ByteArray) : Prop := (m = 0 → s.size = 0) ∧ (0 < m → isNameB s = true) ∧ (m ≤ 1 → o.size = 0) ∧ (1 < m → isNameB o = true)

/-- The number is one that the kind may have. -/
abbrev NumFits (k n : Int) : Prop := (k = 2 → 0 ≤ n ∧ n ≤ 65535) ∧ (k = 8 → 0 ≤ n ∧ n ≤ 3) ∧ (k ≠ 2 → k ≠ 8 → n = 0)

abbrev FieldsOk (t : Nod) : Prop := (1 ≤ t.kind ∧ t.kind ≤ 19) ∧ KidsNull (arN t.kind) t.a t.b t.c ∧ NamesFit (nmN t.kind) t.name t.other ∧ NumFits t.kind t.n

def fieldsB (t : Nod) : Bool := decide (FieldsOk t)

theorem empty_name (s : ByteArray) (h : s.size = 0) : isNameB s = false := by
  have : isWordB s = false := decide_eq_false (fun hw => by omega)
  rw [isNameB, this]
  rfl

theorem size_full (s : ByteArray) (h : ¬ s.size = 0) : s.toList.isEmpty = false := by
  rw [Lib.toList_data, List.isEmpty_eq_false_iff]
  intro e
  have : s.data.toList.length = 0 := by rw [e]; rfl
  rw [Array.length_toList] at this
  exact h this

theorem size_empty (s : ByteArray) (h : s.size = 0) : s.toList.isEmpty = true := by
  rw [Lib.toList_data, List.isEmpty_iff]
  have : s.data.toList.length = 0 := by rw [Array.length_toList]; exact h
  exact List.length_eq_zero_iff.1 this

theorem size_eq (s : ByteArray) (h : s.size = 0) : s = ⟨#[]⟩ := by
  apply data_ext
  have : s.data.toList.length = 0 := by rw [Array.length_toList]; exact h
  rw [List.length_eq_zero_iff.1 this]

set_option maxHeartbeats 8000000 in
set_option maxRecDepth 20000 in
theorem spec_fields (k a b c n : Int) (s o : ByteArray) (hs : s.size ≤ maxLen) (ho : o.size ≤ maxLen) (w : World) :
    Calls Tryz.prog 57 #[.agg #[.int .i64 k, .int .i64 a, .int .i64 b, .int .i64 c, .int .i64 n, .string s, .string o]] w fun e w' =>
      e = .returned (.bool (fieldsB ⟨k, a, b, c, n, s, o⟩)) ∧ Below w.heap.size w w' := by
  have HF : Hid (fieldsB ⟨k, a, b, c, n, s, o⟩ = decide ((1 ≤ k ∧ k ≤ 19) ∧ KidsNull (arN k) a b c ∧ NamesFit (nmN k) s o ∧ NumFits k n)) := rfl
  have hs' : Hid (s.size ≤ maxLen) := hs
  have ho' : Hid (o.size ≤ maxLen) := ho
  clear hs ho
  have hB0 : Below w.heap.size w (w.alloc (.cells #[.int .i64 k, .int .i64 a, .int .i64 b, .int .i64 c, .int .i64 n, .string s, .string o] 44)) := (Below.refl _ w).alloc (Nat.le_refl _) _
  go_enter Tryz.func57, Tryz.ntmps57
  go_wp2_with fail
  refine (word_in _ _ _ _).mono ?_
  rintro e w1 ⟨rfl, rfl⟩
  by_cases hk : 1 ≤ k ∧ k ≤ 19
  · obtain ⟨hk1, hk2⟩ := hk
    have d1 : (decide (1 ≤ k) && decide (k ≤ 19)) = true := by rw [decide_eq_true hk1, decide_eq_true hk2]; rfl
    rw [d1]
    have HK : Hid (1 ≤ k ∧ k ≤ 19) := ⟨hk1, hk2⟩
    clear d1 hk1 hk2
    go_wp2_with fail
    refine (spec_arity k _).mono ?_
    rintro e w2 ⟨rfl, rfl⟩
    have har := arN_le k
    generalize arN k = ar at *
    go_upto_region 4 with fail
    go_cut [36] from 12 to 36 (fun v wx => v = .bool (decide (¬ KidsNull ar a b c)) ∧ wx = w.alloc (.cells #[.int .i64 k, .int .i64 a, .int .i64 b, .int .i64 c, .int .i64 n, .string s, .string o] 44))
    case first =>
      rcases (by omega : ar = 0 ∨ ar = 1 ∨ ar = 2 ∨ ar = 3) with rfl | rfl | rfl | rfl
      · by_cases za : a = 0
        · have na : (a != 0) = false := by simpa using za
          have Za : Hid (a = 0) := za
          clear za
          by_cases zb : b = 0
          · have nb : (b != 0) = false := by simpa using zb
            have Zb : Hid (b = 0) := zb
            clear zb
            by_cases zc : c = 0
            · have nc : (c != 0) = false := by simpa using zc
              have Zc : Hid (c = 0) := zc
              clear zc
              go_wp2
              go_meet
              exact ⟨by rw [decide_eq_false]; exact fun h => h ⟨fun _ => Za.out, fun _ => Zb.out, fun _ => Zc.out⟩, rfl⟩
            · have nc : (c != 0) = true := by simpa using zc
              go_wp2
              go_meet
              exact ⟨by rw [decide_eq_true]; exact fun h => zc (h.2.2 (by omega)), rfl⟩
          · have nb : (b != 0) = true := by simpa using zb
            go_wp2
            go_meet
            exact ⟨by rw [decide_eq_true]; exact fun h => zb (h.2.1 (by omega)), rfl⟩
        · have na : (a != 0) = true := by simpa using za
          go_wp2
          go_meet
          exact ⟨by rw [decide_eq_true]; exact fun h => za (h.1 (by omega)), rfl⟩
      · by_cases zb : b = 0
        · have nb : (b != 0) = false := by simpa using zb
          have Zb : Hid (b = 0) := zb
          clear zb
          by_cases zc : c = 0
          · have nc : (c != 0) = false := by simpa using zc
            have Zc : Hid (c = 0) := zc
            clear zc
            go_wp2
            go_meet
            exact ⟨by rw [decide_eq_false]; exact fun h => h ⟨fun h => by omega, fun _ => Zb.out, fun _ => Zc.out⟩, rfl⟩
          · have nc : (c != 0) = true := by simpa using zc
            go_wp2
            go_meet
            exact ⟨by rw [decide_eq_true]; exact fun h => zc (h.2.2 (by omega)), rfl⟩
        · have nb : (b != 0) = true := by simpa using zb
          go_wp2
          go_meet
          exact ⟨by rw [decide_eq_true]; exact fun h => zb (h.2.1 (by omega)), rfl⟩
      · by_cases zc : c = 0
        · have nc : (c != 0) = false := by simpa using zc
          have Zc : Hid (c = 0) := zc
          clear zc
          go_wp2
          go_meet
          exact ⟨by rw [decide_eq_false]; exact fun h => h ⟨fun h => by omega, fun h => by omega, fun _ => Zc.out⟩, rfl⟩
        · have nc : (c != 0) = true := by simpa using zc
          go_wp2
          go_meet
          exact ⟨by rw [decide_eq_true]; exact fun h => zc (h.2.2 (by omega)), rfl⟩
      · go_wp2
        go_meet
        exact ⟨by rw [decide_eq_false]; exact fun h => h ⟨fun h => by omega, fun h => by omega, fun h => by omega⟩, rfl⟩
    case rest =>
      obtain ⟨rfl, rfl⟩ := hcut
      by_cases hkn : KidsNull ar a b c
      · have d2 : decide (¬ KidsNull ar a b c) = false := decide_eq_false (fun h => h hkn)
        have HN : Hid (KidsNull ar a b c) := hkn
        clear hkn
        rw [d2]
        clear d2
        go_wp2_with fail
        refine (spec_names k _).mono ?_
        rintro e w3 ⟨rfl, rfl⟩
        have hnm := nmN_le k
        generalize nmN k = m at *
        go_upto_region 7 with fail
        go_cut [71] from 40 to 71 (fun v wx => v = .bool (decide (¬ NamesFit m s o)) ∧ Below w.heap.size w wx ∧ Below (w.heap.size + 1) (w.alloc (.cells #[.int .i64 k, .int .i64 a, .int .i64 b, .int .i64 c, .int .i64 n, .string s, .string o] 44)) wx)
        case first =>
          go_wp2_with fail
          refine (spec_name s hs'.out _).mono ?_
          rintro e w4 ⟨rfl, hb4⟩
          have hb4' : Below (w.heap.size + 1) (w.alloc (.cells #[.int .i64 k, .int .i64 a, .int .i64 b, .int .i64 c, .int .i64 n, .string s, .string o] 44)) w4 := by simpa using hb4
          have q5 : w4.cell? ⟨w.heap.size, 5, none⟩ = some (.string s) := (World.cell?_of_block (hb4'.block w.heap.size (by omega))).trans (by simp)
          have q6 : w4.cell? ⟨w.heap.size, 6, none⟩ = some (.string o) := (World.cell?_of_block (hb4'.block w.heap.size (by omega))).trans (by simp)
          have B4 : Hid (Below w.heap.size w w4) := hB0.trans (hb4'.mono (by omega))
          have B4' : Hid (Below (w.heap.size + 1) (w.alloc (.cells #[.int .i64 k, .int .i64 a, .int .i64 b, .int .i64 c, .int .i64 n, .string s, .string o] 44)) w4) := hb4'
          have s4 := hb4'.size
          simp only [World.size_alloc] at s4
          clear hb4 hb4'
          rcases (by omega : m = 0 ∨ m = 1 ∨ m = 2) with rfl | rfl | rfl
          · cases hp : isNameB s with
            | true =>
              have HP : Hid (isNameB s = true) := hp
              clear hp
              go_wp2
              go_meet
              exact ⟨(by rw [decide_eq_true]; exact fun h => by have e := empty_name s (h.1 rfl); rw [HP.out] at e; cases e), B4.out, B4'.out⟩
            | false =>
              clear hp
              by_cases zs : s.size = 0
              · have es := size_empty s zs
                have ZS : Hid (s.size = 0) := zs
                clear zs
                go_wp2_with fail
                refine (spec_name o ho'.out _).mono ?_
                rintro e w5 ⟨rfl, hb5⟩
                have p6 := (World.cell?_of_block (hb5.block w.heap.size (by omega))).trans q6
                have B5 : Hid (Below w.heap.size w w5) := B4.out.trans (hb5.mono (by omega))
                have B5' : Hid (Below (w.heap.size + 1) (w.alloc (.cells #[.int .i64 k, .int .i64 a, .int .i64 b, .int .i64 c, .int .i64 n, .string s, .string o] 44)) w5) := B4'.out.trans (hb5.mono (by omega))
                clear hb5 q5 q6
                cases hq : isNameB o with
                | true =>
                  have HQ : Hid (isNameB o = true) := hq
                  clear hq
                  go_wp2
                  go_meet
                  exact ⟨(by rw [decide_eq_true]; exact fun h => by have e := empty_name o (h.2.2.1 (by omega)); rw [HQ.out] at e; cases e), B5.out, B5'.out⟩
                | false =>
                  clear hq
                  by_cases zo : o.size = 0
                  · have eo := size_empty o zo
                    have ZO : Hid (o.size = 0) := zo
                    clear zo
                    go_wp2
                    go_meet
                    exact ⟨(by rw [decide_eq_false]; exact fun h => h ⟨fun _ => ZS.out, fun h => by omega, fun _ => ZO.out, fun h => by omega⟩), B5.out, B5'.out⟩
                  · have eo := size_full o zo
                    have ZO : Hid (¬ o.size = 0) := zo
                    clear zo
                    go_wp2
                    go_meet
                    exact ⟨(by rw [decide_eq_true]; exact fun h => ZO.out (h.2.2.1 (by omega))), B5.out, B5'.out⟩
              · have es := size_full s zs
                have ZS : Hid (¬ s.size = 0) := zs
                clear zs
                go_wp2
                go_meet
                exact ⟨(by rw [decide_eq_true]; exact fun h => ZS.out (h.1 rfl)), B4.out, B4'.out⟩
          · cases hp : isNameB s with
            | false =>
              have HP : Hid (isNameB s = false) := hp
              clear hp
              go_wp2
              go_meet
              exact ⟨(by rw [decide_eq_true]; exact fun h => by have e := h.2.1 (by omega); rw [HP.out] at e; cases e), B4.out, B4'.out⟩
            | true =>
              have HP : Hid (isNameB s = true) := hp
              clear hp
              go_wp2_with fail
              refine (spec_name o ho'.out _).mono ?_
              rintro e w5 ⟨rfl, hb5⟩
              have p6 := (World.cell?_of_block (hb5.block w.heap.size (by omega))).trans q6
              have B5 : Hid (Below w.heap.size w w5) := B4.out.trans (hb5.mono (by omega))
              have B5' : Hid (Below (w.heap.size + 1) (w.alloc (.cells #[.int .i64 k, .int .i64 a, .int .i64 b, .int .i64 c, .int .i64 n, .string s, .string o] 44)) w5) := B4'.out.trans (hb5.mono (by omega))
              clear hb5 q5 q6
              cases hq : isNameB o with
              | true =>
                have HQ : Hid (isNameB o = true) := hq
                clear hq
                go_wp2
                go_meet
                exact ⟨(by rw [decide_eq_true]; exact fun h => by have e := empty_name o (h.2.2.1 (by omega)); rw [HQ.out] at e; cases e), B5.out, B5'.out⟩
              | false =>
                clear hq
                by_cases zo : o.size = 0
                · have eo := size_empty o zo
                  have ZO : Hid (o.size = 0) := zo
                  clear zo
                  go_wp2
                  go_meet
                  exact ⟨(by rw [decide_eq_false]; exact fun h => h ⟨fun h => by omega, fun _ => HP.out, fun _ => ZO.out, fun h => by omega⟩), B5.out, B5'.out⟩
                · have eo := size_full o zo
                  have ZO : Hid (¬ o.size = 0) := zo
                  clear zo
                  go_wp2
                  go_meet
                  exact ⟨(by rw [decide_eq_true]; exact fun h => ZO.out (h.2.2.1 (by omega))), B5.out, B5'.out⟩
          · cases hp : isNameB s with
            | false =>
              have HP : Hid (isNameB s = false) := hp
              clear hp
              go_wp2
              go_meet
              exact ⟨(by rw [decide_eq_true]; exact fun h => by have e := h.2.1 (by omega); rw [HP.out] at e; cases e), B4.out, B4'.out⟩
            | true =>
              have HP : Hid (isNameB s = true) := hp
              clear hp
              go_wp2_with fail
              refine (spec_name o ho'.out _).mono ?_
              rintro e w5 ⟨rfl, hb5⟩
              have p6 := (World.cell?_of_block (hb5.block w.heap.size (by omega))).trans q6
              have B5 : Hid (Below w.heap.size w w5) := B4.out.trans (hb5.mono (by omega))
              have B5' : Hid (Below (w.heap.size + 1) (w.alloc (.cells #[.int .i64 k, .int .i64 a, .int .i64 b, .int .i64 c, .int .i64 n, .string s, .string o] 44)) w5) := B4'.out.trans (hb5.mono (by omega))
              clear hb5 q5 q6
              cases hq : isNameB o with
              | false =>
                have HQ : Hid (isNameB o = false) := hq
                clear hq
                go_wp2
                go_meet
                exact ⟨(by rw [decide_eq_true]; exact fun h => by have e := h.2.2.2 (by omega); rw [HQ.out] at e; cases e), B5.out, B5'.out⟩
              | true =>
                have HQ : Hid (isNameB o = true) := hq
                clear hq
                go_wp2
                go_meet
                exact ⟨(by rw [decide_eq_false]; exact fun h => h ⟨fun h => by omega, fun _ => HP.out, fun h => by omega, fun _ => HQ.out⟩), B5.out, B5'.out⟩
        case rest =>
          obtain ⟨rfl, hb6, hb6'⟩ := hcut
          have q0 : wc.cell? ⟨w.heap.size, 0, none⟩ = some (.int .i64 k) := (World.cell?_of_block (hb6'.block w.heap.size (by omega))).trans (by simp)
          have q4 : wc.cell? ⟨w.heap.size, 4, none⟩ = some (.int .i64 n) := (World.cell?_of_block (hb6'.block w.heap.size (by omega))).trans (by simp)
          have B6 : Hid (Below w.heap.size w wc) := hb6
          clear hb6 hb6'
          by_cases hnf : NamesFit m s o
          · have d3 : decide (¬ NamesFit m s o) = false := decide_eq_false (fun h => h hnf)
            have HM : Hid (NamesFit m s o) := hnf
            clear hnf
            rw [d3]
            clear d3
            have HV : Hid (fieldsB ⟨k, a, b, c, n, s, o⟩ = decide (NumFits k n)) := by
              show fieldsB ⟨k, a, b, c, n, s, o⟩ = decide (NumFits k n)
              rw [HF.out, decide_eq_decide]
              exact ⟨fun h => h.2.2.2, fun h => ⟨HK.out, HN.out, HM.out, h⟩⟩
            clear HF HK HN HM
            by_cases h2 : k = 2
            · subst h2
              have e2 : decide (NumFits 2 n) = (decide (0 ≤ n) && decide (n ≤ 65535)) := by
                rw [← Bool.decide_and, decide_eq_decide]
                exact ⟨fun h => h.1 rfl, fun h => ⟨fun _ => h, fun h => by omega, fun h => absurd rfl h⟩⟩
              rw [e2] at HV
              clear e2
              go_wp2_with fail
              refine (word_in _ _ _ _).mono ?_
              rintro e w7 ⟨rfl, rfl⟩
              go_wp2
              go_ret
              exact ⟨by rw [HV.out]; rfl, B6.out⟩
            · by_cases h8 : k = 8
              · subst h8
                have e8 : decide (NumFits 8 n) = (decide (0 ≤ n) && decide (n ≤ 3)) := by
                  rw [← Bool.decide_and, decide_eq_decide]
                  exact ⟨fun h => h.2.1 rfl, fun h => ⟨fun h => by omega, fun _ => h, fun _ h => absurd rfl h⟩⟩
                rw [e8] at HV
                clear e8
                go_wp2_with fail
                refine (word_in _ _ _ _).mono ?_
                rintro e w7 ⟨rfl, rfl⟩
                go_wp2
                go_ret
                exact ⟨by rw [HV.out]; rfl, B6.out⟩
              · have n2 : (k == 2) = false := by simpa using h2
                have n8 : (k == 8) = false := by simpa using h8
                have e0 : decide (NumFits k n) = (n == 0) := by
                  by_cases hn : n = 0
                  · rw [decide_eq_true (⟨fun h => absurd h h2, fun h => absurd h h8, fun _ _ => hn⟩)]
                    simp [hn]
                  · rw [decide_eq_false (fun h => hn (h.2.2 h2 h8))]
                    simp [hn]
                rw [e0] at HV
                clear e0 h2 h8
                go_wp2
                go_ret
                exact ⟨by rw [HV.out]; rfl, B6.out⟩
          · have d3 : decide (¬ NamesFit m s o) = true := decide_eq_true hnf
            rw [d3]
            have hv : Hid (fieldsB ⟨k, a, b, c, n, s, o⟩ = false) := by
              show fieldsB ⟨k, a, b, c, n, s, o⟩ = false
              rw [HF.out]
              exact decide_eq_false (fun h => hnf h.2.2.1)
            clear HF hnf d3
            go_wp2
            go_ret
            exact ⟨by rw [hv.out]; rfl, B6.out⟩
      · have d2 : decide (¬ KidsNull ar a b c) = true := decide_eq_true hkn
        rw [d2]
        have hv : Hid (fieldsB ⟨k, a, b, c, n, s, o⟩ = false) := by
          show fieldsB ⟨k, a, b, c, n, s, o⟩ = false
          rw [HF.out]
          exact decide_eq_false (fun h => hkn h.2.1)
        clear HF hkn d2
        go_wp2
        go_ret
        exact ⟨by rw [hv.out]; rfl, hB0⟩
  · have d1 : (decide (1 ≤ k) && decide (k ≤ 19)) = false := by rw [← Bool.decide_and]; exact decide_eq_false hk
    rw [d1]
    have hv : Hid (fieldsB ⟨k, a, b, c, n, s, o⟩ = false) := by
      show fieldsB ⟨k, a, b, c, n, s, o⟩ = false
      rw [HF.out]
      exact decide_eq_false (fun h => hk h.1)
    clear HF hk d1
    go_wp2
    go_ret
    exact ⟨by rw [hv.out]; rfl, hB0⟩
end

section
open Go.ChangeShapes Go.WideShapes Go.ChangeAt Go.RowKit

def kidL (t : Nod) : List Int := [t.a, t.b, t.c].take (arN t.kind)

/-- From the last kid to the first: each stands just ahead of where the next one's part begins. -/
def down (st : List Int) : List Int → Int → Option Int
  | [], at0 => some at0
  | c :: cs, at0 => if c = at0 - 1 ∧ 0 ≤ c then down st cs (st.getD c.toNat 0) else none

/-- Where the part of node i begins, if the nodes ahead of it begin there. -/
def stepS (t : Nod) (i : Nat) (st : List Int) : Option Int := if fieldsB t = true then down st (kidL t).reverse i else none

/-- Where the parts of the first k nodes begin; none where they do not lie as they should. -/
def startsF (ts : List Nod) : Nat → Option (List Int)
  | 0 => some []
  | k + 1 => (startsF ts k).bind fun st => (stepS (ts.getD k noNod) k st).map fun a => st ++ [a]

theorem down_range {st : List Int} {i : Nat} (hl : st.length = i) (hst : ∀ j, j < i → 0 ≤ st.getD j 0 ∧ st.getD j 0 ≤ j) : ∀ (cs : List Int) (p r : Int), 0 ≤ p → p ≤ i → down st cs p = some r → 0 ≤ r ∧ r ≤ i
  | [], p, r, h0, h1, h => by simp only [down, Option.some.injEq] at h; omega
  | c :: cs, p, r, h0, h1, h => by
    simp only [down] at h
    split at h
    · rename_i hc
      have hj := hst c.toNat (by omega)
      exact down_range hl hst cs _ r hj.1 (by omega) h
    · cases h

theorem startsF_range (ts : List Nod) : ∀ (k : Nat) (st : List Int), startsF ts k = some st → st.length = k ∧ ∀ j, j < k → 0 ≤ st.getD j 0 ∧ st.getD j 0 ≤ j
  | 0, st, h => by
    simp only [startsF, Option.some.injEq] at h
    subst h
    exact ⟨rfl, fun j hj => by omega⟩
  | k + 1, st, h => by
    simp only [startsF] at h
    obtain ⟨s0, h0, h1⟩ := Option.bind_eq_some_iff.1 h
    obtain ⟨a, ha, rfl⟩ := Option.map_eq_some_iff.1 h1
    obtain ⟨hl, hr⟩ := startsF_range ts k s0 h0
    have hb : 0 ≤ a ∧ a ≤ k := by
      unfold stepS at ha
      split at ha
      · exact down_range hl hr _ _ a (by omega) (by omega) ha
      · cases ha
    refine ⟨by simp [hl], fun j hj => ?_⟩
    by_cases hjk : j < k
    · have : (s0 ++ [a]).getD j 0 = s0.getD j 0 := by simp [List.getD, List.getElem?_append_left (show j < s0.length by omega)]
      rw [this]
      exact hr j hjk
    · obtain rfl : j = k := by omega
      have : (s0 ++ [a]).getD j 0 = a := by subst hl; simp [List.getD]
      rw [this]
      omega

theorem startsF_none (ts : List Nod) : ∀ (k m : Nat), k ≤ m → startsF ts k = none → startsF ts m = none
  | k, 0, h, h0 => by
    obtain rfl : k = 0 := by omega
    exact h0
  | k, m + 1, h, h0 => by
    rcases Nat.lt_or_eq_of_le h with hl | rfl
    · simp only [startsF]
      rw [startsF_none ts k m (Nat.le_of_lt_succ hl) h0]
      rfl
    · exact h0

/-- A slice of the call's own holds these numbers. -/
abbrev ownI (w : World) (base : Nat) (v : Value) (st : List Int) : Prop := w.ownsRow base 3 1 v st.length (st.map (Value.int .i64))

theorem info_int : (Tryz.prog.info? 3).map (fun i => (i.zero, i.size, i.bytes)) = some (some (.int .i64 0), 1, 8) := by kernel_rfl

theorem ownI_kept {w w' : World} {B N : Nat} {v : Value} {st : List Int} (h : ownI w B v st) (hb : Below N w w') (hN : w.heap.size ≤ N) : ownI w' B v st := by
  refine ⟨h.1, ?_⟩
  rcases h.2 with h0 | ⟨g, cap, cur, hv, hbg, hg, rest⟩
  · exact .inl h0
  · refine .inr ⟨g, cap, cur, hv, hbg, ?_, rest⟩
    have hlt : g < w.heap.size := (Array.getElem?_eq_some_iff.1 hg).1
    rw [hb.block g (by omega)]
    exact hg

theorem ownI_empty {w : World} {B : Nat} (hB : B ≤ w.heap.size) : ownI (w.alloc (.cells #[] 3)) B (.slice (some ⟨w.heap.size, 0, none⟩) 0 0) [] :=
  World.ownsRow_lit w #[] 0 hB (by omega) rfl

theorem ownI_next {w : World} {B : Nat} {v : Value} {st : List Int} {m : Nat} {xs : List Value} (a : Int) (h : w.ownsRow B 3 1 v m xs) (hn : m = st.length + 1) (hx : xs = st.map (Value.int .i64) ++ [.int .i64 a]) : ownI w B v (st ++ [a]) := by
  subst hn hx
  show w.ownsRow B 3 1 v (st ++ [a]).length ((st ++ [a]).map (Value.int .i64))
  rw [List.length_append, List.map_append]
  simpa using h

/-- The form of a slice of numbers that is not empty. -/
theorem ownI_form {w : World} {B : Nat} {v : Value} {st : List Int} (h : ownI w B v st) (h0 : 0 < st.length) :
    ∃ (g cap : Nat), v = .slice (some ⟨g, 0, none⟩) st.length cap ∧ B ≤ g ∧ g < w.heap.size ∧ ∀ j, j < st.length → w.cell? ⟨g, j, none⟩ = some (.int .i64 (st.getD j 0)) := by
  rcases h.2 with ⟨_, hz⟩ | ⟨g, cap, cur, rfl, hb, hg, hn, hm, hs, ht⟩
  · omega
  · refine ⟨g, cap, rfl, hb, (Array.getElem?_eq_some_iff.1 hg).1, fun j hj => ?_⟩
    rw [h.cellAt j (by omega)]
    simp [List.getD, List.getElem?_eq_getElem hj]

theorem ar_name : (Tryz.f99.name == "runtime.NumGoroutine") = false := by kernel_rfl
theorem ar_body : Tryz.f99.body.isNone = false := by kernel_rfl

set_option maxHeartbeats 1000000 in
set_option maxRecDepth 20000 in
theorem spec_kids (k a b c n : Int) (s o : ByteArray) (w : World) :
    Calls Tryz.prog 58 #[.agg #[.int .i64 k, .int .i64 a, .int .i64 b, .int .i64 c, .int .i64 n, .string s, .string o]] w fun e w' =>
      e = .returned (.slice (some ⟨w.heap.size + 1, 0, none⟩) (arN k) 3) ∧ w'.heap[w.heap.size + 1]? = some (.cells #[.int .i64 a, .int .i64 b, .int .i64 c] 3 (0, 0)) ∧ Below w.heap.size w w' := by
  have har := arN_le k
  have har' : (arN k : Int) ≤ 3 := by omega
  have har0 : (0 : Int) ≤ (arN k : Int) := by omega
  go_enter Tryz.func58, Tryz.ntmps58
  go_wp2
  go_region_held3 (fun w' => w'.cell? ⟨w.heap.size, 0, none⟩ = some (.int .i64 k) ∧ w'.cell? ⟨w.heap.size, 1, none⟩ = some (.int .i64 a) ∧ w'.cell? ⟨w.heap.size, 2, none⟩ = some (.int .i64 b) ∧ w'.cell? ⟨w.heap.size, 3, none⟩ = some (.int .i64 c)) (go_keep)
    (first | (go_at_call 99; refine (spec_arity k _).mono ?_; rintro e w' ⟨rfl, rfl⟩))
  all_goals go_wp2
  all_goals go_ret
  all_goals exact ⟨rfl, heap_alloc2_new _ _ _, (((Below.refl _ w).alloc (Nat.le_refl _) _).alloc (by simp) _).drew⟩
end

section
open Go.ChangeShapes Go.WideShapes Go.ChangeAt Go.RowKit

theorem down_app (st : List Int) (a : Int) (hr : ∀ j, j < st.length → 0 ≤ st.getD j 0 ∧ st.getD j 0 ≤ j) : ∀ (cs : List Int) (p : Int), p ≤ st.length → down (st ++ [a]) cs p = down st cs p
  | [], p, h => rfl
  | c :: cs, p, h => by
    simp only [down]
    by_cases hc : c = p - 1 ∧ 0 ≤ c
    · have hl : c.toNat < st.length := by omega
      have e : (st ++ [a]).getD c.toNat 0 = st.getD c.toNat 0 := by
        simp only [List.getD]
        rw [List.getElem?_append_left hl]
      have hh := hr c.toNat hl
      rw [if_pos hc, if_pos hc, e]
      exact down_app st a hr cs _ (by omega)
    · rw [if_neg hc, if_neg hc]

theorem starts_at (ts : List Nod) : ∀ (k : Nat) (st : List Int), startsF ts k = some st → ∀ j, j < k → fieldsB (ts.getD j noNod) = true ∧ down st (kidL (ts.getD j noNod)).reverse j = some (st.getD j 0)
  | 0, st, h, j, hj => by omega
  | k + 1, st, h, j, hj => by
    simp only [startsF] at h
    obtain ⟨s0, h0, h1⟩ := Option.bind_eq_some_iff.1 h
    obtain ⟨a, ha, rfl⟩ := Option.map_eq_some_iff.1 h1
    obtain ⟨hl, hr⟩ := startsF_range ts k s0 h0
    have hr' : ∀ j, j < s0.length → 0 ≤ s0.getD j 0 ∧ s0.getD j 0 ≤ j := fun j hj => hr j (by omega)
    by_cases hjk : j < k
    · obtain ⟨hf, hd⟩ := starts_at ts k s0 h0 j hjk
      refine ⟨hf, ?_⟩
      have e : (s0 ++ [a]).getD j 0 = s0.getD j 0 := by
        simp only [List.getD]
        rw [List.getElem?_append_left (by omega)]
      rw [down_app s0 a hr' _ _ (by omega), e]
      exact hd
    · obtain rfl : j = k := by omega
      unfold stepS at ha
      split at ha
      · rename_i hf
        refine ⟨hf, ?_⟩
        have e : (s0 ++ [a]).getD j 0 = a := by subst hl; simp [List.getD]
        rw [down_app s0 a hr' _ _ (by omega), e]
        exact ha
      · cases ha

theorem fields_small {t : Nod} (h : fieldsB t = true) : t.name.size ≤ 8 ∧ t.other.size ≤ 8 := by
  have hf : FieldsOk t := of_decide_eq_true h
  obtain ⟨_, _, ⟨h1, h2, h3, h4⟩, _⟩ := hf
  have hw : ∀ s : ByteArray, isNameB s = true → s.size ≤ 8 := fun s hs => by
    have := (Bool.and_eq_true_iff.1 hs).1
    have := of_decide_eq_true this
    exact this.2.1
  constructor
  · by_cases hz : nmN t.kind = 0
    · have := h1 hz; omega
    · exact hw _ (h2 (by omega))
  · by_cases hz : nmN t.kind ≤ 1
    · have := h3 hz; omega
    · exact hw _ (h4 (by omega))

theorem cut_split (ts : List Nod) (s p e : Nat) (h1 : s ≤ p) (h2 : p ≤ e) (h3 : e ≤ ts.length) : (ts.take e).drop s = (ts.take p).drop s ++ (ts.take e).drop p := by
  have e1 : ts.take e = ts.take p ++ (ts.take e).drop p := by
    have h := (List.take_append_drop p (ts.take e)).symm
    rw [List.take_take, Nat.min_eq_left h2] at h
    exact h
  have hl : (ts.take p).length = p := by simp; omega
  conv => lhs; rw [e1]
  rw [List.drop_append_of_le_length (by omega)]

theorem cut_one (ts : List Nod) (j : Nat) (h : j < ts.length) : (ts.take (j + 1)).drop j = [ts.getD j noNod] := by
  rw [List.take_succ_eq_append_getElem h, List.drop_append_of_le_length (by simp; omega)]
  simp [List.getD, List.getElem?_eq_getElem h]

theorem cut_length (ts : List Nod) (s e : Nat) (h1 : s ≤ e) (h3 : e ≤ ts.length) : ((ts.take e).drop s).length = e - s := by
  simp
  omega

theorem kidL_0 {t : Nod} (h : arN t.kind = 0) : kidL t = [] := by unfold kidL; rw [h]; rfl
theorem kidL_1 {t : Nod} (h : arN t.kind = 1) : kidL t = [t.a] := by unfold kidL; rw [h]; rfl
theorem kidL_2 {t : Nod} (h : arN t.kind = 2) : kidL t = [t.a, t.b] := by unfold kidL; rw [h]; rfl
theorem kidL_3 {t : Nod} (h : arN t.kind = 3) : kidL t = [t.a, t.b, t.c] := by unfold kidL; rw [h]; rfl

theorem down_one {st : List Int} {c p r : Int} {cs : List Int} (h : down st (c :: cs) p = some r) : c = p - 1 ∧ 0 ≤ c ∧ down st cs (st.getD c.toNat 0) = some r := by
  simp only [down] at h
  split at h
  · rename_i hc
    exact ⟨hc.1, hc.2, h⟩
  · cases h

theorem down_nil {st : List Int} {p r : Int} (h : down st [] p = some r) : p = r := by
  simpa only [down, Option.some.injEq] using h

/-- Nodes that lie as they should, with where their parts begin. -/
def Right (ts : List Nod) (st : List Nat) : Prop := ts.length ≤ 1000 ∧ ∀ j, j < ts.length → FieldsOk (ts.getD j noNod) ∧ st.getD j 0 ≤ j ∧
  (arN (ts.getD j noNod).kind = 0 → st.getD j 0 = j) ∧
  (arN (ts.getD j noNod).kind = 1 → ∃ a : Nat, (ts.getD j noNod).a = a ∧ a + 1 = j ∧ st.getD a 0 = st.getD j 0) ∧
  (arN (ts.getD j noNod).kind = 2 → ∃ a b : Nat, (ts.getD j noNod).a = a ∧ (ts.getD j noNod).b = b ∧ b + 1 = j ∧ a + 1 = st.getD b 0 ∧ st.getD a 0 = st.getD j 0) ∧
  (arN (ts.getD j noNod).kind = 3 → ∃ a b c : Nat, (ts.getD j noNod).a = a ∧ (ts.getD j noNod).b = b ∧ (ts.getD j noNod).c = c ∧ c + 1 = j ∧ b + 1 = st.getD c 0 ∧ a + 1 = st.getD b 0 ∧ st.getD a 0 = st.getD j 0)

theorem getD_nat (st : List Int) (j : Nat) : (st.map Int.toNat).getD j 0 = (st.getD j 0).toNat := by
  simp only [List.getD, List.getElem?_map]
  cases st[j]? <;> rfl

theorem right_of {ts : List Nod} {st : List Int} (hl : ts.length ≤ 1000) (h : startsF ts ts.length = some st) : Right ts (st.map Int.toNat) := by
  obtain ⟨hlen, hr⟩ := startsF_range ts ts.length st h
  refine ⟨hl, fun j hj => ?_⟩
  obtain ⟨hf, hd⟩ := starts_at ts ts.length st h j hj
  have hF : FieldsOk (ts.getD j noNod) := of_decide_eq_true hf
  have hj2 := hr j hj
  simp only [getD_nat]
  refine ⟨hF, by omega, fun e => ?_, fun e => ?_, fun e => ?_, fun e => ?_⟩
  · rw [kidL_0 e] at hd
    have := down_nil hd
    omega
  · rw [kidL_1 e] at hd
    obtain ⟨a1, a2, a3⟩ := down_one hd
    have := down_nil a3
    refine ⟨(ts.getD j noNod).a.toNat, by omega, by omega, ?_⟩
    rw [this]
  · rw [kidL_2 e] at hd
    obtain ⟨a1, a2, a3⟩ := down_one hd
    obtain ⟨b1, b2, b3⟩ := down_one a3
    have := down_nil b3
    have := hr (ts.getD j noNod).b.toNat (by omega)
    refine ⟨(ts.getD j noNod).a.toNat, (ts.getD j noNod).b.toNat, by omega, by omega, by omega, by omega, ?_⟩
    omega
  · rw [kidL_3 e] at hd
    obtain ⟨a1, a2, a3⟩ := down_one hd
    obtain ⟨b1, b2, b3⟩ := down_one a3
    obtain ⟨c1, c2, c3⟩ := down_one b3
    have := down_nil c3
    have := hr (ts.getD j noNod).c.toNat (by omega)
    have := hr (ts.getD j noNod).b.toNat (by omega)
    refine ⟨(ts.getD j noNod).a.toNat, (ts.getD j noNod).b.toNat, (ts.getD j noNod).c.toNat, by omega, by omega, by omega, by omega, by omega, by omega, ?_⟩
    omega
end

section
/-- The key of a form, by its kind and, with a primitive, by N. -/
def keyN (k n : Int) : ByteArray :=
  if k = 8 then
    if n = 0 then ⟨#[97, 100, 100]⟩ else if n = 1 then ⟨#[115, 117, 98]⟩ else if n = 2 then ⟨#[108, 101, 115, 115]⟩ else if n = 3 then ⟨#[115, 97, 109, 101]⟩ else ⟨#[]⟩
  else if k = 3 then ⟨#[102, 117, 110]⟩
  else if k = 4 then ⟨#[97, 112, 112]⟩
  else if k = 5 then ⟨#[108, 101, 116]⟩
  else if k = 6 then ⟨#[114, 101, 99]⟩
  else if k = 7 then ⟨#[105, 102]⟩
  else if k = 9 then ⟨#[112, 97, 105, 114]⟩
  else if k = 10 then ⟨#[102, 115, 116]⟩
  else if k = 11 then ⟨#[115, 110, 100]⟩
  else if k = 12 then ⟨#[110, 105, 108]⟩
  else if k = 13 then ⟨#[99, 111, 110, 115]⟩
  else if k = 14 then ⟨#[109, 97, 116, 99, 104]⟩
  else if k = 15 then ⟨#[114, 101, 102]⟩
  else if k = 16 then ⟨#[103, 101, 116]⟩
  else if k = 17 then ⟨#[115, 101, 116]⟩
  else if k = 18 then ⟨#[114, 97, 105, 115, 101]⟩
  else if k = 19 then ⟨#[116, 114, 121]⟩
  else ⟨#[]⟩

/-- How a form goes on behind its key. -/
def goesOn (k : Int) : List UInt8 :=
  if k = 3 then [110, 101]
  else if k = 5 then [110, 101, 101]
  else if k = 6 then [110, 110, 101, 101]
  else if k = 7 then [101, 101, 101]
  else if k = 14 then [101, 101, 110, 110, 101]
  else if k = 19 then [101, 110, 101]
  else if k = 10 ∨ k = 11 ∨ k = 15 ∨ k = 16 ∨ k = 18 then [101]
  else [101, 101]

def IsForm (k n : Int) : Prop := 3 ≤ k ∧ k ≤ 19 ∧ k ≠ 12 ∧ (k = 8 → 0 ≤ n ∧ n ≤ 3)

theorem keyN_no {k : Int} (n : Int) (h : k < 3 ∨ 19 < k) : keyN k n = ⟨#[]⟩ := by
  unfold keyN
  repeat rw [if_neg (by omega)]

theorem keyN_prim_no {n : Int} (h : n < 0 ∨ 3 < n) : keyN 8 n = ⟨#[]⟩ := by
  unfold keyN
  rw [if_pos rfl]
  repeat rw [if_neg (by omega)]
end

section
theorem dd_small {u : Nat} (h : u < 10) : Lib.decDigits u = [UInt8.ofNat (48 + u)] := Lib.decDigits_one h
theorem dd_big {u : Nat} (h : ¬ u < 10) : Lib.decDigits u = Lib.decDigits (u / 10) ++ [UInt8.ofNat (48 + u % 10)] := by
  rw [Lib.decDigits, dif_neg h]

theorem digit_nat (d : Nat) (h : d < 10) : (UInt8.ofNat (48 + d)).toNat = 48 + d := by
  rw [UInt8.toNat_ofNat']
  omega

theorem dd_digits : ∀ (u : Nat), ∀ c ∈ Lib.decDigits u, 48 ≤ c.toNat ∧ c.toNat ≤ 57 := by
  intro u
  induction u using Nat.strongRecOn with
  | ind u ih =>
    by_cases h : u < 10
    · rw [dd_small h]
      intro c hc
      simp only [List.mem_singleton] at hc
      subst hc
      rw [digit_nat u h]
      omega
    · rw [dd_big h]
      intro c hc
      simp only [List.mem_append, List.mem_singleton] at hc
      rcases hc with hc | hc
      · exact ih (u / 10) (by omega) c hc
      · subst hc
        rw [digit_nat _ (by omega)]
        omega

theorem dd_pos (u : Nat) : 0 < (Lib.decDigits u).length := by
  by_cases h : u < 10
  · rw [dd_small h]; simp
  · rw [dd_big h]; simp

theorem dd_length : ∀ (j u : Nat), u < 10 ^ (j + 1) → (Lib.decDigits u).length ≤ j + 1
  | 0, u, h => by rw [dd_small (by simpa using h)]; simp
  | j + 1, u, h => by
    by_cases hs : u < 10
    · rw [dd_small hs]; simp
    · rw [dd_big hs]
      have := dd_length j (u / 10) (by rw [Nat.div_lt_iff_lt_mul (by omega)]; rw [Nat.pow_succ] at h; exact h)
      simp; omega

theorem parse_dd : ∀ (u : Nat) (r : List UInt8), u < 1000000000000000000 → Lib.parseUint10 0 (Lib.decDigits u ++ r) = Lib.parseUint10 u r := by
  intro u
  induction u using Nat.strongRecOn with
  | ind u ih =>
    intro r hu
    by_cases h : u < 10
    · rw [dd_small h]
      simp only [List.cons_append, List.nil_append, Lib.parseUint10, digit_nat u h]
      rw [if_pos (by omega), if_neg (by omega), if_neg (by omega)]
      congr 1
      omega
    · rw [dd_big h, List.append_assoc, ih (u / 10) (by omega) _ (by omega)]
      simp only [List.cons_append, List.nil_append, Lib.parseUint10, digit_nat (u % 10) (by omega)]
      rw [if_pos (by omega), if_neg (by omega), if_neg (by omega)]
      congr 1
      omega

theorem parseMag_dd (u : Nat) (hu : u < 1000000000000000000) : Lib.parseMag (Lib.decDigits u) = .ok u := by
  unfold Lib.parseMag
  rw [if_neg (by have := dd_pos u; intro h; rw [h] at this; simp at this)]
  have := parse_dd u [] hu
  rw [List.append_nil] at this
  rw [this]
  rfl

theorem itoa_pos (u : Nat) : Lib.itoa (u : Int) = Lib.decDigits u := Lib.itoa_nonneg u
theorem itoa_neg (u : Nat) (h : 1 ≤ u) : Lib.itoa (-(u : Int)) = 45 :: Lib.decDigits u := Lib.itoa_neg u h

/-- A number is read from its own text. -/
theorem atoi_itoa (n : Int) (h1 : -1000000000000000000 < n) (h2 : n < 1000000000000000000) : Lib.atoiAll (Lib.itoa n) = .ok n := by
  by_cases h : n < 0
  · obtain ⟨u, rfl⟩ : ∃ u : Nat, n = -(u : Int) := ⟨n.natAbs, by omega⟩
    rw [itoa_neg u (by omega)]
    unfold Lib.atoiAll
    have e : (45 : UInt8).toNat = 45 := rfl
    simp only [e]
    rw [if_pos (by simp), parseMag_dd u (by omega)]
    simp
    omega
  · obtain ⟨u, rfl⟩ := Int.eq_ofNat_of_zero_le (show 0 ≤ n by omega)
    have hp := dd_pos u
    have hd := dd_digits u
    have hm := parseMag_dd u (by omega)
    rw [itoa_pos u]
    generalize Lib.decDigits u = l at *
    cases l with
    | nil => simp at hp
    | cons c r =>
      have hc := hd c (by simp)
      unfold Lib.atoiAll
      simp only []
      rw [if_neg (by omega), hm]
      have hne : ¬ c.toNat = 45 := by omega
      simp [hne]
      omega

/-- What the digits of a text say; what is no digit is passed over. -/
def num : Nat → List UInt8 → Nat
  | a, [] => a
  | a, c :: r => if 48 ≤ c.toNat ∧ c.toNat ≤ 57 then num (a * 10 + (c.toNat - 48)) r else num a r

def cnt : List UInt8 → Nat
  | [] => 0
  | c :: r => if 48 ≤ c.toNat ∧ c.toNat ≤ 57 then cnt r + 1 else cnt r

theorem num_append : ∀ (l r : List UInt8) (a : Nat), num a (l ++ r) = num (num a l) r
  | [], _, _ => rfl
  | c :: l, r, a => by
    simp only [List.cons_append, num]
    split <;> exact num_append l r _

theorem cnt_append : ∀ (l r : List UInt8), cnt (l ++ r) = cnt l + cnt r
  | [], _ => by simp [cnt]
  | c :: l, r => by
    simp only [List.cons_append, cnt, cnt_append l r]
    split <;> omega

theorem num_lt : ∀ (l : List UInt8) (a m : Nat), a < 10 ^ m → num a l < 10 ^ (m + cnt l)
  | [], a, m, h => by simpa [num, cnt] using h
  | c :: l, a, m, h => by
    simp only [num, cnt]
    split
    · have := num_lt l (a * 10 + (c.toNat - 48)) (m + 1) (by rw [Nat.pow_succ]; omega)
      rw [show m + (cnt l + 1) = m + 1 + cnt l by omega]
      exact this
    · exact num_lt l a m h

theorem cnt_le : ∀ (l : List UInt8), cnt l ≤ l.length
  | [] => by simp [cnt]
  | c :: l => by
    have := cnt_le l
    simp only [cnt, List.length_cons]
    split <;> omega

theorem num_dd : ∀ (u : Nat), num 0 (Lib.decDigits u) = u := by
  intro u
  induction u using Nat.strongRecOn with
  | ind u ih =>
    by_cases h : u < 10
    · rw [dd_small h]
      simp only [num, digit_nat u h]
      rw [if_pos (by omega)]
      omega
    · rw [dd_big h, num_append, ih (u / 10) (by omega)]
      simp only [num, digit_nat (u % 10) (by omega)]
      rw [if_pos (by omega)]
      omega

/-- What ReadDec answers. -/
def IsRd (l : List UInt8) (n : Int) (ok : Bool) : Prop :=
  (ok = true ∧ -1000000000 < n ∧ n < 1000000000 ∧ l = Lib.itoa n) ∨ (ok = false ∧ n = 0 ∧ ∀ m, -1000000000 < m → m < 1000000000 → l ≠ Lib.itoa m)

theorem isRd_one {l : List UInt8} {n n' : Int} {o o' : Bool} (h : IsRd l n o) (h' : IsRd l n' o') : n = n' ∧ o = o' := by
  rcases h with ⟨rfl, h1, h2, h3⟩ | ⟨rfl, rfl, h3⟩ <;> rcases h' with ⟨rfl, h1', h2', h3'⟩ | ⟨rfl, rfl, h3'⟩
  · have a := atoi_itoa n (by omega) (by omega)
    have b := atoi_itoa n' (by omega) (by omega)
    rw [← h3, h3', b] at a
    injection a with a
    exact ⟨a.symm, rfl⟩
  · exact absurd h3 (h3' _ h1 h2)
  · exact absurd h3' (h3 _ h1' h2')
  · exact ⟨rfl, rfl⟩

/-- The signed number of a text: behind a leading minus the other way. -/
def sgn (l : List UInt8) (n : Nat) : Int := if l.head? = some 45 then -(n : Int) else n

theorem itoa_back (m : Int) (h1 : -1000000000 < m) (h2 : m < 1000000000) :
    sgn (Lib.itoa m) (num 0 (Lib.itoa m)) = m ∧ cnt (Lib.itoa m) ≤ 9 ∧ (Lib.itoa m).length ≤ 10 := by
  by_cases h : m < 0
  · obtain ⟨u, rfl⟩ : ∃ u : Nat, m = -(u : Int) := ⟨m.natAbs, by omega⟩
    rw [itoa_neg u (by omega)]
    have hl := dd_length 8 u (by omega)
    have hc := cnt_le (Lib.decDigits u)
    refine ⟨?_, ?_, by simp; omega⟩
    · simp [sgn, num, num_dd]
    · simp [cnt]; omega
  · obtain ⟨u, rfl⟩ := Int.eq_ofNat_of_zero_le (show 0 ≤ m by omega)
    rw [itoa_pos u]
    have hl := dd_length 8 u (by omega)
    have hc := cnt_le (Lib.decDigits u)
    have hd := dd_digits u
    have hn := num_dd u
    refine ⟨?_, by omega, by omega⟩
    rw [hn]
    unfold sgn
    rw [if_neg]
    intro hh
    generalize Lib.decDigits u = l at *
    cases l with
    | nil => simp at hh
    | cons c r =>
      simp at hh
      have := hd c (by simp)
      rw [hh] at this
      revert this
      decide

/-- What the specification's ReadDec answers is what ReadDec answers. -/
theorem rd_spec_yes (l : List UInt8) (hk : cnt l ≤ 9) (hd : Lib.itoa (sgn l (num 0 l)) = l) : IsRd l (sgn l (num 0 l)) true := by
  have h := num_lt l 0 0 (by simp)
  have h2 : 10 ^ (0 + cnt l) ≤ 10 ^ 9 := Nat.pow_le_pow_right (by omega) (by omega)
  refine Or.inl ⟨rfl, ?_, ?_, hd.symm⟩ <;> (unfold sgn; split <;> omega)

theorem rd_spec_no (l : List UInt8) (h : 9 < cnt l ∨ 10 < l.length ∨ Lib.itoa (sgn l (num 0 l)) ≠ l) : IsRd l 0 false := by
  refine Or.inr ⟨rfl, rfl, fun m h1 h2 he => ?_⟩
  have hb := itoa_back m h1 h2
  subst he
  rw [hb.1] at h
  rcases h with h | h | h
  · omega
  · omega
  · exact h rfl
end

section
open Go.ChangeShapes Go.WideShapes Go.ChangeAt Go.RowKit

/-- The text behind a key: names and kids as the form asks for them, a blank ahead of each. -/
def argT (rec : Nat → List UInt8) : List UInt8 → List ByteArray → List Int → List UInt8
  | [], _, _ => []
  | c :: cs, ns, ks => if c = 110 then [32] ++ (ns.headD ByteArray.empty).data.toList ++ argT rec cs ns.tail ks else [32] ++ rec (ks.headD 0).toNat ++ argT rec cs ns ks.tail

def formT (rec : Nat → List UInt8) (t : Nod) : List UInt8 := [40] ++ (keyN t.kind t.n).data.toList ++ argT rec (goesOn t.kind) [t.name, t.other] [t.a, t.b, t.c] ++ [41]

def nodeT (rec : Nat → List UInt8) (t : Nod) : List UInt8 :=
  if t.kind = 1 then t.name.data.toList
  else if t.kind = 2 then Lib.itoa t.n
  else if t.kind = 12 then [110, 105, 108]
  else formT rec t

/-- The text of node i. -/
def textN (ts : List Nod) : Nat → Nat → List UInt8
  | 0, _ => []
  | f + 1, i => nodeT (textN ts f) (ts.getD i noNod)

theorem fields_form {t : Nod} (h : FieldsOk t) (h1 : t.kind ≠ 1) (h2 : t.kind ≠ 2) (h12 : t.kind ≠ 12) : IsForm t.kind t.n := by
  obtain ⟨⟨k1, k2⟩, _, _, hn⟩ := h
  refine ⟨by omega, by omega, h12, fun h8 => ?_⟩
  have := hn.2.1 h8
  omega

/-- The kids that a form asks for, in the order of their numbers. -/
def asked (k : Int) : Nat := ((goesOn k).filter (· ≠ 110)).length

theorem asked_ar {k n : Int} (h : IsForm k n) : asked k = arN k := by
  obtain ⟨h1, h2, h3, h4⟩ := h
  have : k = 3 ∨ k = 4 ∨ k = 5 ∨ k = 6 ∨ k = 7 ∨ k = 8 ∨ k = 9 ∨ k = 10 ∨ k = 11 ∨ k = 13 ∨ k = 14 ∨ k = 15 ∨ k = 16 ∨ k = 17 ∨ k = 18 ∨ k = 19 := by omega
  clear h1 h2 h3 h4
  rcases this with rfl | rfl | rfl | rfl | rfl | rfl | rfl | rfl | rfl | rfl | rfl | rfl | rfl | rfl | rfl | rfl <;> rfl

/-- Of right nodes each kid stands ahead. -/
theorem kid_ahead {ts : List Nod} {st : List Nat} (hR : Right ts st) {i : Nat} (hi : i < ts.length) {j : Nat} (hj : j < arN (ts.getD i noNod).kind) :
    ∃ q : Nat, [(ts.getD i noNod).a, (ts.getD i noNod).b, (ts.getD i noNod).c].getD j 0 = q ∧ q < i ∧ st.getD i 0 ≤ st.getD q 0 := by
  obtain ⟨_, hA⟩ := hR
  obtain ⟨hF, hs, h0, h1, h2, h3⟩ := hA i hi
  have h3le := arN_le (ts.getD i noNod).kind
  have : arN (ts.getD i noNod).kind = 1 ∨ arN (ts.getD i noNod).kind = 2 ∨ arN (ts.getD i noNod).kind = 3 := by omega
  rcases this with e | e | e
  · obtain ⟨a, ea, ha, hsa⟩ := h1 e
    obtain rfl : j = 0 := by omega
    exact ⟨a, ea, by omega, by omega⟩
  · obtain ⟨a, b, ea, eb, hb, hab, hsa⟩ := h2 e
    have hsb := (hA b (by omega)).2.1
    have hsa' := (hA a (by omega)).2.1
    have : j = 0 ∨ j = 1 := by omega
    rcases this with rfl | rfl
    · exact ⟨a, ea, by omega, by omega⟩
    · exact ⟨b, eb, by omega, by omega⟩
  · obtain ⟨a, b, c, ea, eb, ec, hc, hbc, hab, hsa⟩ := h3 e
    have hsc := (hA c (by omega)).2.1
    have hsb := (hA b (by omega)).2.1
    have hsa' := (hA a (by omega)).2.1
    have : j = 0 ∨ j = 1 ∨ j = 2 := by omega
    rcases this with rfl | rfl | rfl
    · exact ⟨a, ea, by omega, by omega⟩
    · exact ⟨b, eb, by omega, by omega⟩
    · exact ⟨c, ec, by omega, by omega⟩

theorem getD_tail {l : List Int} {j : Nat} : l.tail.getD j 0 = l.getD (j + 1) 0 := by cases l <;> simp [List.getD]
theorem headD_getD {l : List Int} : l.headD 0 = l.getD 0 0 := by cases l <;> rfl

/-- Only the kids that are asked for tell. -/
theorem argT_congr {r r' : Nat → List UInt8} : ∀ (cs : List UInt8) (ns : List ByteArray) (ks : List Int), (∀ j, j < (cs.filter (· ≠ 110)).length → r (ks.getD j 0).toNat = r' (ks.getD j 0).toNat) → argT r cs ns ks = argT r' cs ns ks
  | [], ns, ks, h => rfl
  | c :: cs, ns, ks, h => by
    unfold argT
    by_cases hc : c = 110
    · rw [if_pos hc, if_pos hc, argT_congr cs ns.tail ks (fun j hj => h j (by simpa [hc] using hj))]
    · have hl : ((c :: cs).filter (· ≠ 110)).length = (cs.filter (· ≠ 110)).length + 1 := by simp [hc]
      rw [if_neg hc, if_neg hc]
      have h0 := h 0 (by omega)
      rw [← headD_getD] at h0
      have h1 := argT_congr (r := r) (r' := r') cs ns ks.tail (fun j hj => by
        have := h (j + 1) (by omega)
        rw [getD_tail]
        exact this)
      rw [h0, h1]

theorem nodeT_congr {r r' : Nat → List UInt8} {t : Nod} (hF : FieldsOk t) (h : ∀ j, j < arN t.kind → r ([t.a, t.b, t.c].getD j 0).toNat = r' ([t.a, t.b, t.c].getD j 0).toNat) : nodeT r t = nodeT r' t := by
  unfold nodeT
  by_cases h1 : t.kind = 1
  · rw [if_pos h1, if_pos h1]
  by_cases h2 : t.kind = 2
  · rw [if_neg h1, if_neg h1, if_pos h2, if_pos h2]
  by_cases h12 : t.kind = 12
  · rw [if_neg h1, if_neg h1, if_neg h2, if_neg h2, if_pos h12, if_pos h12]
  rw [if_neg h1, if_neg h1, if_neg h2, if_neg h2, if_neg h12, if_neg h12]
  unfold formT
  have ha := asked_ar (fields_form hF h1 h2 h12)
  unfold asked at ha
  rw [argT_congr (goesOn t.kind) [t.name, t.other] [t.a, t.b, t.c] (fun j hj => h j (by omega))]

/-- More fuel tells the same text. -/
theorem textN_fuel {ts : List Nod} {st : List Nat} (hR : Right ts st) : ∀ (f i : Nat), i < f → i < ts.length → ∀ g, i < g → textN ts f i = textN ts g i
  | 0, i, h, _, _, _ => by omega
  | f + 1, i, h, hi, 0, hg => by omega
  | f + 1, i, h, hi, g + 1, hg => by
    show nodeT (textN ts f) _ = nodeT (textN ts g) _
    refine nodeT_congr (hR.2 i hi).1 (fun j hj => ?_)
    obtain ⟨q, hq, hlt, _⟩ := kid_ahead hR hi hj
    rw [hq]
    exact textN_fuel hR f q (by omega) (by omega) g (by omega)

theorem keyN_len (k n : Int) : (keyN k n).data.toList.length ≤ 5 := by
  by_cases h8 : k = 8
  · subst h8
    by_cases hn : n < 0 ∨ 3 < n
    · rw [keyN_prim_no hn]; decide
    · have : n = 0 ∨ n = 1 ∨ n = 2 ∨ n = 3 := by omega
      rcases this with rfl | rfl | rfl | rfl <;> decide +kernel
  · have e : keyN k n = keyN k 0 := by
      unfold keyN
      rw [if_neg h8, if_neg h8]
    by_cases hk : k < 3 ∨ 19 < k
    · rw [keyN_no n hk]; decide
    · rw [e]
      have : k = 3 ∨ k = 4 ∨ k = 5 ∨ k = 6 ∨ k = 7 ∨ k = 9 ∨ k = 10 ∨ k = 11 ∨ k = 12 ∨ k = 13 ∨ k = 14 ∨ k = 15 ∨ k = 16 ∨ k = 17 ∨ k = 18 ∨ k = 19 := by omega
      clear hk e h8
      rcases this with rfl | rfl | rfl | rfl | rfl | rfl | rfl | rfl | rfl | rfl | rfl | rfl | rfl | rfl | rfl | rfl <;> decide +kernel

theorem small_len {s : ByteArray} {n : Nat} (h : s.size ≤ n) : s.data.toList.length ≤ n := by
  rw [Array.length_toList]
  exact h

/-- How long what stands behind a key is, at most. -/
theorem argT_len {rec : Nat → List UInt8} {b : Nat → Nat} : ∀ (cs : List UInt8) (ns : List ByteArray) (ks : List Int), (∀ s ∈ ns, s.size ≤ 8) → (∀ j, j < (cs.filter (· ≠ 110)).length → (rec (ks.getD j 0).toNat).length + 9 ≤ b j) →
    ((argT rec cs ns ks).length : Int) ≤ 9 * ((cs.filter (· = 110)).length : Int) + (((List.range (cs.filter (· ≠ 110)).length).map b).sum : Int) - 8 * ((cs.filter (· ≠ 110)).length : Int)
  | [], ns, ks, hn, hk => by simp [argT]
  | c :: cs, ns, ks, hn, hk => by
    unfold argT
    by_cases hc : c = 110
    · rw [if_pos hc]
      have ih := argT_len (b := b) cs ns.tail ks (fun s hs => hn s (List.mem_of_mem_tail hs)) (fun j hj => hk j (by simpa [hc] using hj))
      have h0 : (ns.headD ByteArray.empty).data.toList.length ≤ 8 := by
        cases ns with
        | nil => simp
        | cons s ns => exact small_len (hn s (by simp))
      have e1 : ((c :: cs).filter (· = 110)).length = (cs.filter (· = 110)).length + 1 := by simp [hc]
      have e2 : ((c :: cs).filter (· ≠ 110)).length = (cs.filter (· ≠ 110)).length := by simp [hc]
      rw [e1, e2]
      simp only [List.length_append, List.length_cons, List.length_nil]
      omega
    · rw [if_neg hc]
      have e1 : ((c :: cs).filter (· = 110)).length = (cs.filter (· = 110)).length := by simp [hc]
      have e2 : ((c :: cs).filter (· ≠ 110)).length = (cs.filter (· ≠ 110)).length + 1 := by simp [hc]
      have ih := argT_len (b := fun j => b (j + 1)) cs ns ks.tail hn (fun j hj => by
        have := hk (j + 1) (by omega)
        rw [getD_tail]
        exact this)
      have h0 := hk 0 (by omega)
      rw [← headD_getD] at h0
      rw [e1, e2, List.range_succ_eq_map, List.map_cons, List.sum_cons, List.map_map]
      simp only [List.length_append, List.length_cons, List.length_nil]
      have e3 : ((List.range (cs.filter (· ≠ 110)).length).map (b ∘ Nat.succ)).sum = ((List.range (cs.filter (· ≠ 110)).length).map (fun j => b (j + 1))).sum := rfl
      rw [e3]
      omega

/-- The bounds of the forms: what a key and its names take, and its kids give. -/
theorem form_room {k n : Int} (h : IsForm k n) : ((keyN k n).data.toList.length : Int) + 9 * (((goesOn k).filter (· = 110)).length : Int) ≤ 6 + 8 * (arN k : Int) := by
  obtain ⟨h1, h2, h3, h4⟩ := h
  by_cases h8 : k = 8
  · subst h8
    obtain ⟨a, b⟩ := h4 rfl
    have : n = 0 ∨ n = 1 ∨ n = 2 ∨ n = 3 := by omega
    rcases this with rfl | rfl | rfl | rfl <;> decide +kernel
  · have e : keyN k n = keyN k 0 := by
      unfold keyN
      rw [if_neg h8, if_neg h8]
    rw [e]
    have : k = 3 ∨ k = 4 ∨ k = 5 ∨ k = 6 ∨ k = 7 ∨ k = 9 ∨ k = 10 ∨ k = 11 ∨ k = 13 ∨ k = 14 ∨ k = 15 ∨ k = 16 ∨ k = 17 ∨ k = 18 ∨ k = 19 := by omega
    clear h1 h2 h3 h4 h8 e
    rcases this with rfl | rfl | rfl | rfl | rfl | rfl | rfl | rfl | rfl | rfl | rfl | rfl | rfl | rfl | rfl <;> decide +kernel

theorem itoa_len {n : Int} (h0 : 0 ≤ n) (h1 : n ≤ 65535) : (Lib.itoa n).length ≤ 5 := by
  obtain ⟨u, rfl⟩ : ∃ u : Nat, n = u := ⟨n.toNat, by omega⟩
  rw [itoa_pos]
  exact dd_length 4 u (by omega)

/-- The kids' nodes and the node make up its part. -/
theorem kids_sum {ts : List Nod} {st : List Nat} (hR : Right ts st) {i : Nat} (hi : i < ts.length) :
    ((List.range (arN (ts.getD i noNod).kind)).map (fun j => 17 * ((([(ts.getD i noNod).a, (ts.getD i noNod).b, (ts.getD i noNod).c].getD j 0).toNat) + 1 - st.getD (([(ts.getD i noNod).a, (ts.getD i noNod).b, (ts.getD i noNod).c].getD j 0).toNat) 0))).sum = 17 * (i - st.getD i 0) := by
  obtain ⟨_, hA⟩ := hR
  obtain ⟨hF, hs, h0, h1, h2, h3⟩ := hA i hi
  have h3le := arN_le (ts.getD i noNod).kind
  have : arN (ts.getD i noNod).kind = 0 ∨ arN (ts.getD i noNod).kind = 1 ∨ arN (ts.getD i noNod).kind = 2 ∨ arN (ts.getD i noNod).kind = 3 := by omega
  rcases this with e | e | e | e
  · rw [e]
    have := h0 e
    show 0 = _
    omega
  · obtain ⟨a, ea, ha, hsa⟩ := h1 e
    have hsa' := (hA a (by omega)).2.1
    rw [e]
    show 17 * ((ts.getD i noNod).a.toNat + 1 - st.getD (ts.getD i noNod).a.toNat 0) + 0 = _
    rw [ea, Int.toNat_natCast]
    omega
  · obtain ⟨a, b, ea, eb, hb, hab, hsa⟩ := h2 e
    have hsb := (hA b (by omega)).2.1
    have hsa' := (hA a (by omega)).2.1
    rw [e]
    show 17 * ((ts.getD i noNod).a.toNat + 1 - st.getD (ts.getD i noNod).a.toNat 0) + (17 * ((ts.getD i noNod).b.toNat + 1 - st.getD (ts.getD i noNod).b.toNat 0) + 0) = _
    rw [ea, eb, Int.toNat_natCast, Int.toNat_natCast]
    omega
  · obtain ⟨a, b, c, ea, eb, ec, hc, hbc, hab, hsa⟩ := h3 e
    have hsc := (hA c (by omega)).2.1
    have hsb := (hA b (by omega)).2.1
    have hsa' := (hA a (by omega)).2.1
    rw [e]
    show 17 * ((ts.getD i noNod).a.toNat + 1 - st.getD (ts.getD i noNod).a.toNat 0) + (17 * ((ts.getD i noNod).b.toNat + 1 - st.getD (ts.getD i noNod).b.toNat 0) + (17 * ((ts.getD i noNod).c.toNat + 1 - st.getD (ts.getD i noNod).c.toNat 0) + 0)) = _
    rw [ea, eb, ec, Int.toNat_natCast, Int.toNat_natCast, Int.toNat_natCast]
    omega

/-- How many bytes a text has at most: seventeen a node of its part, less nine. -/
theorem textN_len {ts : List Nod} {st : List Nat} (hR : Right ts st) : ∀ (f i : Nat), i < f → i < ts.length → (textN ts f i).length + 9 ≤ 17 * (i + 1 - st.getD i 0)
  | 0, i, h, _ => by omega
  | f + 1, i, h, hi => by
    obtain ⟨hF, hs, _⟩ := hR.2 i hi
    have hsum := kids_sum hR hi
    have hkid := fun {j : Nat} (hj : j < arN (ts.getD i noNod).kind) => kid_ahead hR hi hj
    show (nodeT (textN ts f) (ts.getD i noNod)).length + 9 ≤ _
    have hsm := fields_small (decide_eq_true hF)
    unfold nodeT
    by_cases h1 : (ts.getD i noNod).kind = 1
    · rw [if_pos h1]
      have := small_len hsm.1
      omega
    by_cases h2 : (ts.getD i noNod).kind = 2
    · rw [if_neg h1, if_pos h2]
      have hn := hF.2.2.2.1 h2
      have := itoa_len hn.1 hn.2
      omega
    by_cases h12 : (ts.getD i noNod).kind = 12
    · rw [if_neg h1, if_neg h2, if_pos h12]
      show 3 + 9 ≤ _
      omega
    rw [if_neg h1, if_neg h2, if_neg h12]
    have hfm := fields_form hF h1 h2 h12
    have har := asked_ar hfm
    unfold asked at har
    have hroom := form_room hfm
    have hlen := argT_len (rec := textN ts f) (b := fun j => 17 * ((([(ts.getD i noNod).a, (ts.getD i noNod).b, (ts.getD i noNod).c].getD j 0).toNat) + 1 - st.getD (([(ts.getD i noNod).a, (ts.getD i noNod).b, (ts.getD i noNod).c].getD j 0).toNat) 0)) (goesOn (ts.getD i noNod).kind) [(ts.getD i noNod).name, (ts.getD i noNod).other] [(ts.getD i noNod).a, (ts.getD i noNod).b, (ts.getD i noNod).c]
      (by intro s hs'; simp at hs'; rcases hs' with rfl | rfl; exact hsm.1; exact hsm.2)
      (by
        intro j hj
        rw [har] at hj
        obtain ⟨q, hq, hlt, hst⟩ := hkid hj
        rw [hq]
        have := textN_len hR f q (by omega) (by omega)
        simpa using this)
    rw [har, hsum] at hlen
    unfold formT
    simp only [List.length_append, List.length_cons, List.length_nil]
    omega
end

section
open Go.RowKit

structure Tok where
  kind : Int
  text : ByteArray
  n : Int
  place : Int

def noTok : Tok := ⟨0, ByteArray.empty, 0, 0⟩

def tcells (t : Tok) : List Value := [.int .i64 t.kind, .string t.text, .int .i64 t.n, .int .i64 t.place]

/-- The i-th token's cells lie in block g behind each other. -/
structure TokIn (w : World) (g i : Nat) (t : Tok) : Prop where
  c0 : w.cell? ⟨g, i * 4, none⟩ = some (.int .i64 t.kind)
  c1 : w.cell? ⟨g, i * 4 + 1, none⟩ = some (.string t.text)
  c2 : w.cell? ⟨g, i * 4 + 2, none⟩ = some (.int .i64 t.n)
  c3 : w.cell? ⟨g, i * 4 + 3, none⟩ = some (.int .i64 t.place)

def TokAt (w : World) (g : Nat) (ts : List Tok) : Prop := ∀ i, i < ts.length → TokIn w g i (ts.getD i noTok)

theorem cell_lt' {w : World} {p : Addr} {v : Value} (h : w.cell? p = some v) : p.block < w.heap.size := World.block_lt_of_cell? w p h

theorem TokIn.below {w w' : World} {g i B : Nat} {t : Tok} (h : TokIn w g i t) (hb : Below B w w') (hg : g < B) : TokIn w' g i t :=
  ⟨(World.cell?_of_block (hb.block g hg)).trans h.c0, (World.cell?_of_block (hb.block g hg)).trans h.c1, (World.cell?_of_block (hb.block g hg)).trans h.c2, (World.cell?_of_block (hb.block g hg)).trans h.c3⟩

theorem TokAt.below {w w' : World} {g B : Nat} {ts : List Tok} (h : TokAt w g ts) (hb : Below B w w') (hg : g < B) : TokAt w' g ts := fun i hi => (h i hi).below hb hg

theorem getD_in {ts : List Tok} {i : Nat} (h : i < ts.length) : ts[i]? = some (ts.getD i noTok) := by simp [List.getD, List.getElem?_eq_getElem h]

theorem flat_at (ts : List Tok) : ∀ (i j : Nat), i < ts.length → j < 4 → (ts.flatMap tcells)[i * 4 + j]? = (tcells (ts.getD i noTok))[j]? := by
  induction ts with
  | nil => intro i j h _; simp at h
  | cons t ts ih =>
    intro i j h hj
    rcases i with _ | i
    · rw [List.flatMap_cons, List.getElem?_append_left (by simp [tcells]; omega)]
      simp
    · rw [List.flatMap_cons, List.getElem?_append_right (by simp [tcells]; omega)]
      have e : (i + 1) * 4 + j - (tcells t).length = i * 4 + j := by simp [tcells]; omega
      rw [e, ih i j (by simpa using h) hj]
      rfl

theorem flat_length (ts : List Tok) : (ts.flatMap tcells).length = ts.length * 4 := by
  induction ts with
  | nil => rfl
  | cons t ts ih => rw [List.flatMap_cons, List.length_append, ih]; simp [tcells]; omega

theorem flat_set (t : Tok) : ∀ (l : List Tok) (k : Nat), k < l.length →
    ((((l.flatMap tcells).set (k * 4) (.int .i64 t.kind)).set (k * 4 + 1) (.string t.text)).set (k * 4 + 2) (.int .i64 t.n)).set (k * 4 + 3) (.int .i64 t.place) = (l.set k t).flatMap tcells
  | [], k, h => by simp at h
  | x :: l, 0, h => by simp [tcells]
  | x :: l, k + 1, h => by
    have ih := flat_set t l k (by simpa using h)
    rw [List.set_cons_succ, List.flatMap_cons, List.flatMap_cons, ← ih]
    have e : (k + 1) * 4 = k * 4 + 4 := by omega
    rw [e]
    simp [tcells]

/-- A row of the call's own that holds the tokens' cells holds the tokens. -/
theorem tokAt_own {w : World} {base : Nat} {e : TypeId} {g n cap : Nat} {ts : List Tok} (h : w.ownsRow base e 4 (.slice (some ⟨g, 0, none⟩) n cap) n (ts.flatMap tcells)) (hn : n = ts.length) : TokAt w g ts := by
  subst hn
  intro i hi
  have c : ∀ j, j < 4 → w.cell? ⟨g, i * 4 + j, none⟩ = (tcells (ts.getD i noTok))[j]? := fun j hj => by rw [h.cellAt _ (by omega), flat_at ts i j hi hj]
  exact ⟨c 0 (by omega), c 1 (by omega), c 2 (by omega), c 3 (by omega)⟩

def kindOf (ts : List Tok) (i : Nat) : Int := (ts.getD i noTok).kind
def textOf (ts : List Tok) (i : Nat) : ByteArray := (ts.getD i noTok).text

/-- A blank stands ahead of the token at place k. -/
def gap (ts : List Tok) (k : Nat) : List UInt8 := if 0 < k ∧ kindOf ts (k - 1) ≠ 1 ∧ kindOf ts k ≠ 2 then [32] else []

/-- What Unlex makes of the first k tokens. -/
def ulx (ts : List Tok) : Nat → List UInt8
  | 0 => []
  | k + 1 => ulx ts k ++ gap ts k ++ (textOf ts k).data.toList

def ulxS (ts : List Tok) : ByteArray := ⟨(ulx ts (min ts.length 4000)).toArray⟩

/-- How many bytes the first k Texts have. -/
def lens (ts : List Tok) : Nat → Nat
  | 0 => 0
  | k + 1 => lens ts k + (textOf ts k).size

theorem lens_mono (ts : List Tok) : ∀ {k m : Nat}, k ≤ m → lens ts k ≤ lens ts m
  | k, 0, h => by
    obtain rfl : k = 0 := by omega
    exact Nat.le_refl _
  | k, m + 1, h => by
    rcases Nat.lt_or_eq_of_le h with hl | rfl
    · exact Nat.le_trans (lens_mono ts (Nat.le_of_lt_succ hl)) (by simp [lens])
    · exact Nat.le_refl _

theorem gap_le (ts : List Tok) (k : Nat) : (gap ts k).length ≤ 1 := by unfold gap; split <;> simp

theorem ulx_length (ts : List Tok) : ∀ k, (ulx ts k).length ≤ k + lens ts k
  | 0 => by simp [ulx]
  | k + 1 => by
    have := ulx_length ts k
    have h1 := gap_le ts k
    have h2 : (textOf ts k).data.toList.length = (textOf ts k).size := by rw [Array.length_toList]; rfl
    simp only [ulx, List.length_append, lens, h2]
    omega
end

section
open Go.ChangeShapes Go.WideShapes Go.ChangeAt Go.RowKit

/-- A fault: its code, its place. -/
abbrev Flt := Int × Int

def takeE (ts : List Tok) (E : Int) (i : Nat) (kind : Int) : Except Flt (Nat × Tok) :=
  if i < ts.length then (if (ts.getD i noTok).kind = kind then .ok (i + 1, ts.getD i noTok) else .error (3, (ts.getD i noTok).place)) else .error (2, E)

def nameE (ts : List Tok) (E : Int) (i : Nat) : Except Flt (Nat × ByteArray) :=
  if i < ts.length ∧ isKeyB (ts.getD i noTok).text = true then .error (3, (ts.getD i noTok).place)
  else match takeE ts E i 3 with
    | .ok (j, t) => .ok (j, t.text)
    | .error e => .error e

/-- The forms by their key: the kind, what N holds, how it goes on (110 a name, 101 an expression). -/
def formE (key : ByteArray) : Int × Int × ByteArray :=
  if (key.toList == [102, 117, 110]) = true then (3, 0, ⟨#[110, 101]⟩)
  else if (key.toList == [97, 112, 112]) = true then (4, 0, ⟨#[101, 101]⟩)
  else if (key.toList == [108, 101, 116]) = true then (5, 0, ⟨#[110, 101, 101]⟩)
  else if (key.toList == [114, 101, 99]) = true then (6, 0, ⟨#[110, 110, 101, 101]⟩)
  else if (key.toList == [105, 102]) = true then (7, 0, ⟨#[101, 101, 101]⟩)
  else if (key.toList == [97, 100, 100]) = true then (8, 0, ⟨#[101, 101]⟩)
  else if (key.toList == [115, 117, 98]) = true then (8, 1, ⟨#[101, 101]⟩)
  else if (key.toList == [108, 101, 115, 115]) = true then (8, 2, ⟨#[101, 101]⟩)
  else if (key.toList == [115, 97, 109, 101]) = true then (8, 3, ⟨#[101, 101]⟩)
  else if (key.toList == [112, 97, 105, 114]) = true then (9, 0, ⟨#[101, 101]⟩)
  else if (key.toList == [102, 115, 116]) = true then (10, 0, ⟨#[101]⟩)
  else if (key.toList == [115, 110, 100]) = true then (11, 0, ⟨#[101]⟩)
  else if (key.toList == [99, 111, 110, 115]) = true then (13, 0, ⟨#[101, 101]⟩)
  else if (key.toList == [109, 97, 116, 99, 104]) = true then (14, 0, ⟨#[101, 101, 110, 110, 101]⟩)
  else if (key.toList == [114, 101, 102]) = true then (15, 0, ⟨#[101]⟩)
  else if (key.toList == [103, 101, 116]) = true then (16, 0, ⟨#[101]⟩)
  else if (key.toList == [115, 101, 116]) = true then (17, 0, ⟨#[101, 101]⟩)
  else if (key.toList == [114, 97, 105, 115, 101]) = true then (18, 0, ⟨#[101]⟩)
  else if (key.toList == [116, 114, 121]) = true then (19, 0, ⟨#[101, 110, 101]⟩)
  else (0, 0, ⟨#[]⟩)

theorem ite_len {c : Prop} [Decidable c] {x y : Int × Int × ByteArray} (hx : x.2.2.size ≤ 5) (hy : y.2.2.size ≤ 5) : (if c then x else y).2.2.size ≤ 5 := by
  split <;> assumption

theorem formE_len (key : ByteArray) : (formE key).2.2.size ≤ 5 := by
  unfold formE
  repeat' first | decide | refine ite_len ?_ ?_

/-- What a form has behind its key. -/
def argsE (ts : List Tok) (E : Int) (rec : Nat → List Nod → Except Flt (Nat × List Nod)) : List UInt8 → Nat → Nod → List Nod → List Int → Except Flt (Nat × Nod × List Nod × List Int)
  | [], i, n, l, ks => .ok (i, n, l, ks)
  | c :: cs, i, n, l, ks =>
    if c = 110 then
      match nameE ts E i with
      | .ok (j, s) => argsE ts E rec cs j (if n.name.size = 0 then { n with name := s } else { n with other := s }) l ks
      | .error e => .error e
    else
      match rec i l with
      | .ok (j, m) => argsE ts E rec cs j n m (ks ++ [(m.length : Int) - 1])
      | .error e => .error e

def withKids (n : Nod) (ks : List Int) : Nod := match ks with
  | [] => n
  | [a] => { n with a := a }
  | [a, b] => { n with a := a, b := b }
  | a :: b :: c :: _ => { n with a := a, b := b, c := c }

/-- An expression behind the nodes that there are. -/
def exprE (ts : List Tok) (E : Int) : Nat → Nat → List Nod → Except Flt (Nat × List Nod)
  | 0, _, _ => .error (0, 0)
  | f + 1, i, l =>
    if i < ts.length then
      if (ts.getD i noTok).kind = 4 then .ok (i + 1, l ++ [⟨2, 0, 0, 0, (ts.getD i noTok).n, ByteArray.empty, ByteArray.empty⟩])
      else if (ts.getD i noTok).kind = 3 then
        if (ts.getD i noTok).text.data.toList = [110, 105, 108] then .ok (i + 1, l ++ [⟨12, 0, 0, 0, 0, ByteArray.empty, ByteArray.empty⟩])
        else match nameE ts E i with
          | .ok (j, s) => .ok (j, l ++ [⟨1, 0, 0, 0, 0, s, ByteArray.empty⟩])
          | .error e => .error e
      else if (ts.getD i noTok).kind = 2 then .error (3, (ts.getD i noTok).place)
      else match takeE ts E (i + 1) 3 with
        | .error e => .error e
        | .ok (j, key) =>
          if (formE key.text).1 = 0 then .error (3, key.place)
          else match argsE ts E (exprE ts E f) (formE key.text).2.2.data.toList j ⟨(formE key.text).1, 0, 0, 0, (formE key.text).2.1, ByteArray.empty, ByteArray.empty⟩ l [] with
            | .error e => .error e
            | .ok (j2, n, l2, ks) => match takeE ts E j2 2 with
              | .error e => .error e
              | .ok (j3, _) => .ok (j3, l2 ++ [withKids n ks])
    else .error (2, E)

/-- What a program's tokens come to: nodes, the code, the place. -/
def parseE (ts : List Tok) (E : Int) : List Nod × Int × Int :=
  match exprE ts E (ts.length + 1) 0 [] with
  | .error (c, a) => ([], c, a)
  | .ok (j, l) => if j < ts.length then ([], 4, (ts.getD j noTok).place) else if 150 < l.length then ([], 5, 0) else (l, 0, 0)

theorem takeE_ok {ts : List Tok} {E : Int} {i j : Nat} {k : Int} {t : Tok} (h : takeE ts E i k = .ok (j, t)) : j = i + 1 ∧ i < ts.length ∧ t = ts.getD i noTok ∧ t.kind = k := by
  unfold takeE at h
  split at h
  · rename_i hi
    split at h
    · rename_i hk
      simp only [Except.ok.injEq, Prod.mk.injEq] at h
      obtain ⟨rfl, rfl⟩ := h
      exact ⟨rfl, hi, rfl, hk⟩
    · cases h
  · cases h

theorem takeE_bad {ts : List Tok} {E : Int} {i : Nat} {k : Int} {e : Flt} (h : takeE ts E i k = .error e) : e.1 = 2 ∨ e.1 = 3 := by
  unfold takeE at h
  split at h
  · split at h
    · cases h
    · simp only [Except.error.injEq] at h
      subst h
      exact Or.inr rfl
  · simp only [Except.error.injEq] at h
    subst h
    exact Or.inl rfl

theorem nameE_ok {ts : List Tok} {E : Int} {i j : Nat} {s : ByteArray} (h : nameE ts E i = .ok (j, s)) : j = i + 1 ∧ i < ts.length ∧ s = (ts.getD i noTok).text := by
  unfold nameE at h
  split at h
  · cases h
  · split at h
    · rename_i j' t ht
      simp only [Except.ok.injEq, Prod.mk.injEq] at h
      obtain ⟨rfl, rfl⟩ := h
      obtain ⟨a, b, rfl, _⟩ := takeE_ok ht
      exact ⟨a, b, rfl⟩
    · cases h

theorem nameE_bad {ts : List Tok} {E : Int} {i : Nat} {e : Flt} (h : nameE ts E i = .error e) : e.1 = 2 ∨ e.1 = 3 := by
  unfold nameE at h
  split at h
  · simp only [Except.error.injEq] at h
    subst h
    exact Or.inr rfl
  · split at h
    · cases h
    · rename_i e' he
      simp only [Except.error.injEq] at h
      subst h
      exact takeE_bad he

/-- As many nodes come as tokens are taken, at most. -/
def Fair (ts : List Tok) (rec : Nat → List Nod → Except Flt (Nat × List Nod)) : Prop :=
  (∀ i l j m, rec i l = .ok (j, m) → i < j ∧ j ≤ ts.length ∧ 0 < m.length ∧ m.length + i ≤ l.length + j)

theorem argsE_fair {ts : List Tok} {E : Int} {rec : Nat → List Nod → Except Flt (Nat × List Nod)} (hf : Fair ts rec) : ∀ (cs : List UInt8) (i : Nat) (n : Nod) (l : List Nod) (ks : List Int) (j : Nat) (n' : Nod) (m : List Nod) (ks' : List Int),
    argsE ts E rec cs i n l ks = .ok (j, n', m, ks') → i ≤ j ∧ (i ≤ ts.length → j ≤ ts.length) ∧ m.length + i ≤ l.length + j ∧ ks'.length ≤ ks.length + cs.length
  | [], i, n, l, ks, j, n', m, ks', h => by
    simp only [argsE, Except.ok.injEq, Prod.mk.injEq] at h
    obtain ⟨rfl, rfl, rfl, rfl⟩ := h
    simp
  | c :: cs, i, n, l, ks, j, n', m, ks', h => by
    rw [argsE] at h
    split at h
    · split at h
      · rename_i j1 s hs
        obtain ⟨e1, e2, _⟩ := nameE_ok hs
        have ih := argsE_fair hf cs _ _ _ _ _ _ _ _ h
        simp only [List.length_cons]
        omega
      · cases h
    · split at h
      · rename_i j1 m1 hs
        obtain ⟨e1, e2, e3, e4⟩ := hf _ _ _ _ hs
        have ih := argsE_fair hf cs _ _ _ _ _ _ _ _ h
        simp only [List.length_append, List.length_cons, List.length_nil] at ih ⊢
        omega
      · cases h

theorem exprE_fair (ts : List Tok) (E : Int) : ∀ f, Fair ts (exprE ts E f)
  | 0 => fun i l j m h => by cases h
  | f + 1 => fun i l j m h => by
    rw [exprE] at h
    split at h
    · rename_i hi
      split at h
      · simp only [Except.ok.injEq, Prod.mk.injEq] at h
        obtain ⟨rfl, rfl⟩ := h
        simp
        omega
      · split at h
        · split at h
          · simp only [Except.ok.injEq, Prod.mk.injEq] at h
            obtain ⟨rfl, rfl⟩ := h
            simp
            omega
          · split at h
            · rename_i j1 s hs
              obtain ⟨e1, e2, _⟩ := nameE_ok hs
              simp only [Except.ok.injEq, Prod.mk.injEq] at h
              obtain ⟨rfl, rfl⟩ := h
              simp
              omega
            · cases h
        · split at h
          · cases h
          · split at h
            · cases h
            · rename_i j1 key hk
              obtain ⟨k1, k2, _, _⟩ := takeE_ok hk
              split at h
              · cases h
              · split at h
                · cases h
                · rename_i j2 n l2 ks ha
                  have fa := argsE_fair (exprE_fair ts E f) _ _ _ _ _ _ _ _ _ ha
                  split at h
                  · cases h
                  · rename_i j3 t3 h3
                    obtain ⟨c1, c2, _, _⟩ := takeE_ok h3
                    simp only [Except.ok.injEq, Prod.mk.injEq] at h
                    obtain ⟨rfl, rfl⟩ := h
                    simp
                    omega
    · cases h
end

section
open Go.ChangeShapes Go.WideShapes Go.ChangeAt Go.RowKit

theorem keyN_else {k : Int} (n : Int) (h : k ≠ 8) : keyN k n = keyN k 0 := by
  unfold keyN
  rw [if_neg h, if_neg h]

set_option maxRecDepth 20000 in
theorem form_key {k n : Int} (h : IsForm k n) : formE (keyN k n) = (k, if k = 8 then n else 0, ⟨(goesOn k).toArray⟩) := by
  obtain ⟨h1, h2, h3, h4⟩ := h
  by_cases h8 : k = 8
  · subst h8
    obtain ⟨a, b⟩ := h4 rfl
    have : n = 0 ∨ n = 1 ∨ n = 2 ∨ n = 3 := by omega
    rcases this with rfl | rfl | rfl | rfl <;> decide +kernel
  · rw [keyN_else n h8, if_neg h8]
    have : k = 3 ∨ k = 4 ∨ k = 5 ∨ k = 6 ∨ k = 7 ∨ k = 9 ∨ k = 10 ∨ k = 11 ∨ k = 13 ∨ k = 14 ∨ k = 15 ∨ k = 16 ∨ k = 17 ∨ k = 18 ∨ k = 19 := by omega
    clear h1 h2 h3 h4 h8
    rcases this with rfl | rfl | rfl | rfl | rfl | rfl | rfl | rfl | rfl | rfl | rfl | rfl | rfl | rfl | rfl <;> decide +kernel
end

section
open Go.ChangeShapes Go.WideShapes Go.ChangeAt Go.RowKit

set_option maxHeartbeats 2000000 in
theorem spec_form (key : ByteArray) (w : World) :
    Calls Tryz.prog 69 #[.string key] w fun e w' => e = .returned (.tuple #[.int .i64 (formE key).1, .int .i64 (formE key).2.1, .string (formE key).2.2]) ∧ w' = w := by
  go_enter Tryz.func69, Tryz.ntmps69
  go_wp2
  all_goals
    refine bodyPost_ret (results_tmp3 rfl _ _ _) rfl ⟨?_, rfl⟩
    simp [formE, *]
end

section
open Go.ChangeShapes Go.WideShapes Go.ChangeAt Go.RowKit

theorem key_in (x lo hi : Int) (w : World) : Calls Tryz.prog 29 #[.int .i64 x, .int .i64 lo, .int .i64 hi] w fun e w' => e = .returned (.bool (decide (lo ≤ x) && decide (x ≤ hi))) ∧ w' = w := by
  by_cases h : lo ≤ x
  · have hv : (decide (lo ≤ x) && decide (x ≤ hi)) = decide (x ≤ hi) := by simp [h]
    rw [hv]
    go_enter Tryz.func29, Tryz.ntmps29
    go_wp2
    go_ret
    exact ⟨rfl, rfl⟩
  · have hv : (decide (lo ≤ x) && decide (x ≤ hi)) = false := by simp [h]
    rw [hv]
    go_enter Tryz.func29, Tryz.ntmps29
    go_wp2
    go_ret
    exact ⟨rfl, rfl⟩

set_option maxHeartbeats 2000000 in
theorem spec_keyOf (k a b c n : Int) (s o : ByteArray) (w : World) : Calls Tryz.prog 120 #[.agg #[.int .i64 k, .int .i64 a, .int .i64 b, .int .i64 c, .int .i64 n, .string s, .string o]] w fun e w' => e = .returned (.string (keyN k n)) ∧ Below w.heap.size w w' := by
  have HB : Hid (Below w.heap.size w (w.alloc (.cells #[.int .i64 k, .int .i64 a, .int .i64 b, .int .i64 c, .int .i64 n, .string s, .string o] 44))) := (Below.refl _ w).alloc (Nat.le_refl _) _
  by_cases h8 : k = 8
  · subst h8
    by_cases m0 : n = 0
    · subst m0
      go_enter Tryz.func120, Tryz.ntmps120
      go_wp2_with fail
      refine (key_in 0 0 3 _).mono ?_
      rintro e w1 ⟨rfl, rfl⟩
      go_wp2
      go_ret
      exact ⟨rfl, HB.out.alloc (by simp) _⟩
    by_cases m1 : n = 1
    · subst m1
      go_enter Tryz.func120, Tryz.ntmps120
      go_wp2_with fail
      refine (key_in 1 0 3 _).mono ?_
      rintro e w1 ⟨rfl, rfl⟩
      go_wp2
      go_ret
      exact ⟨rfl, HB.out.alloc (by simp) _⟩
    by_cases m2 : n = 2
    · subst m2
      go_enter Tryz.func120, Tryz.ntmps120
      go_wp2_with fail
      refine (key_in 2 0 3 _).mono ?_
      rintro e w1 ⟨rfl, rfl⟩
      go_wp2
      go_ret
      exact ⟨rfl, HB.out.alloc (by simp) _⟩
    by_cases m3 : n = 3
    · subst m3
      go_enter Tryz.func120, Tryz.ntmps120
      go_wp2_with fail
      refine (key_in 3 0 3 _).mono ?_
      rintro e w1 ⟨rfl, rfl⟩
      go_wp2
      go_ret
      exact ⟨rfl, HB.out.alloc (by simp) _⟩
    have hv : Hid (keyN 8 n = ⟨#[]⟩) := keyN_prim_no (by omega)
    have hd : (decide (0 ≤ n) && decide (n ≤ 3)) = false := by simp; omega
    clear m0 m1 m2 m3
    go_enter Tryz.func120, Tryz.ntmps120
    go_wp2_with fail
    refine (key_in n 0 3 _).mono ?_
    rintro e w1 ⟨rfl, rfl⟩
    rw [hd]
    clear hd
    go_wp2
    go_ret
    exact ⟨by rw [hv.out]; rfl, HB.out⟩
  by_cases h3 : k = 3
  · subst h3
    clear h8
    go_enter Tryz.func120, Tryz.ntmps120
    go_wp2_with fail
    refine (key_in 3 3 19 _).mono ?_
    rintro e w1 ⟨rfl, rfl⟩
    go_wp2
    go_ret
    exact ⟨rfl, HB.out.alloc (by simp) _⟩
  by_cases h4 : k = 4
  · subst h4
    clear h8
    go_enter Tryz.func120, Tryz.ntmps120
    go_wp2_with fail
    refine (key_in 4 3 19 _).mono ?_
    rintro e w1 ⟨rfl, rfl⟩
    go_wp2
    go_ret
    exact ⟨rfl, HB.out.alloc (by simp) _⟩
  by_cases h5 : k = 5
  · subst h5
    clear h8
    go_enter Tryz.func120, Tryz.ntmps120
    go_wp2_with fail
    refine (key_in 5 3 19 _).mono ?_
    rintro e w1 ⟨rfl, rfl⟩
    go_wp2
    go_ret
    exact ⟨rfl, HB.out.alloc (by simp) _⟩
  by_cases h6 : k = 6
  · subst h6
    clear h8
    go_enter Tryz.func120, Tryz.ntmps120
    go_wp2_with fail
    refine (key_in 6 3 19 _).mono ?_
    rintro e w1 ⟨rfl, rfl⟩
    go_wp2
    go_ret
    exact ⟨rfl, HB.out.alloc (by simp) _⟩
  by_cases h7 : k = 7
  · subst h7
    clear h8
    go_enter Tryz.func120, Tryz.ntmps120
    go_wp2_with fail
    refine (key_in 7 3 19 _).mono ?_
    rintro e w1 ⟨rfl, rfl⟩
    go_wp2
    go_ret
    exact ⟨rfl, HB.out.alloc (by simp) _⟩
  by_cases h9 : k = 9
  · subst h9
    clear h8
    go_enter Tryz.func120, Tryz.ntmps120
    go_wp2_with fail
    refine (key_in 9 3 19 _).mono ?_
    rintro e w1 ⟨rfl, rfl⟩
    go_wp2
    go_ret
    exact ⟨rfl, HB.out.alloc (by simp) _⟩
  by_cases h10 : k = 10
  · subst h10
    clear h8
    go_enter Tryz.func120, Tryz.ntmps120
    go_wp2_with fail
    refine (key_in 10 3 19 _).mono ?_
    rintro e w1 ⟨rfl, rfl⟩
    go_wp2
    go_ret
    exact ⟨rfl, HB.out.alloc (by simp) _⟩
  by_cases h11 : k = 11
  · subst h11
    clear h8
    go_enter Tryz.func120, Tryz.ntmps120
    go_wp2_with fail
    refine (key_in 11 3 19 _).mono ?_
    rintro e w1 ⟨rfl, rfl⟩
    go_wp2
    go_ret
    exact ⟨rfl, HB.out.alloc (by simp) _⟩
  by_cases h12 : k = 12
  · subst h12
    clear h8
    go_enter Tryz.func120, Tryz.ntmps120
    go_wp2_with fail
    refine (key_in 12 3 19 _).mono ?_
    rintro e w1 ⟨rfl, rfl⟩
    go_wp2
    go_ret
    exact ⟨rfl, HB.out.alloc (by simp) _⟩
  by_cases h13 : k = 13
  · subst h13
    clear h8
    go_enter Tryz.func120, Tryz.ntmps120
    go_wp2_with fail
    refine (key_in 13 3 19 _).mono ?_
    rintro e w1 ⟨rfl, rfl⟩
    go_wp2
    go_ret
    exact ⟨rfl, HB.out.alloc (by simp) _⟩
  by_cases h14 : k = 14
  · subst h14
    clear h8
    go_enter Tryz.func120, Tryz.ntmps120
    go_wp2_with fail
    refine (key_in 14 3 19 _).mono ?_
    rintro e w1 ⟨rfl, rfl⟩
    go_wp2
    go_ret
    exact ⟨rfl, HB.out.alloc (by simp) _⟩
  by_cases h15 : k = 15
  · subst h15
    clear h8
    go_enter Tryz.func120, Tryz.ntmps120
    go_wp2_with fail
    refine (key_in 15 3 19 _).mono ?_
    rintro e w1 ⟨rfl, rfl⟩
    go_wp2
    go_ret
    exact ⟨rfl, HB.out.alloc (by simp) _⟩
  by_cases h16 : k = 16
  · subst h16
    clear h8
    go_enter Tryz.func120, Tryz.ntmps120
    go_wp2_with fail
    refine (key_in 16 3 19 _).mono ?_
    rintro e w1 ⟨rfl, rfl⟩
    go_wp2
    go_ret
    exact ⟨rfl, HB.out.alloc (by simp) _⟩
  by_cases h17 : k = 17
  · subst h17
    clear h8
    go_enter Tryz.func120, Tryz.ntmps120
    go_wp2_with fail
    refine (key_in 17 3 19 _).mono ?_
    rintro e w1 ⟨rfl, rfl⟩
    go_wp2
    go_ret
    exact ⟨rfl, HB.out.alloc (by simp) _⟩
  by_cases h18 : k = 18
  · subst h18
    clear h8
    go_enter Tryz.func120, Tryz.ntmps120
    go_wp2_with fail
    refine (key_in 18 3 19 _).mono ?_
    rintro e w1 ⟨rfl, rfl⟩
    go_wp2
    go_ret
    exact ⟨rfl, HB.out.alloc (by simp) _⟩
  by_cases h19 : k = 19
  · subst h19
    clear h8
    go_enter Tryz.func120, Tryz.ntmps120
    go_wp2_with fail
    refine (key_in 19 3 19 _).mono ?_
    rintro e w1 ⟨rfl, rfl⟩
    go_wp2
    go_ret
    exact ⟨rfl, HB.out.alloc (by simp) _⟩
  have hv : Hid (keyN k n = ⟨#[]⟩) := keyN_no n (by omega)
  have hd : (decide (3 ≤ k) && decide (k ≤ 19)) = false := by simp; omega
  have g8 : (k == 8) = false := by simpa using h8
  clear h3 h4 h5 h6 h7 h8 h9 h10 h11 h12 h13 h14 h15 h16 h17 h18 h19
  go_enter Tryz.func120, Tryz.ntmps120
  go_wp2_with fail
  refine (key_in k 3 19 _).mono ?_
  rintro e w1 ⟨rfl, rfl⟩
  rw [hd]
  clear hd
  go_wp2
  go_ret
  exact ⟨by rw [hv.out]; rfl, HB.out⟩
end

section
open Go.ChangeShapes Go.WideShapes Go.ChangeAt Go.RowKit

theorem conv1 (w : World) (x : Int) : (convert 22 9 (.slice (some ⟨w.heap.size, 0, none⟩) 1 1)).run Tryz.prog (w.alloc (.cells #[.int .u8 x] 5)) =
    .ok (.string (strOfNums [x])) (w.alloc (.cells #[.int .u8 x] 5)) :=
  run_convert_bytes_arg _ 22 5 Tryz.underlying22 Tryz.underlying5 w.heap.size 0 1 1 [x] rfl (fun i hi => by
    obtain rfl : i = 0 := by omega
    rw [World.cell?_alloc_at _ _ _ _ rfl]
    rfl) 9 Tryz.underlying9

/-- q is still to be written ahead of L. -/
def Left (N q : Nat) (L : List UInt8) : Prop := (q = 0 → L = Lib.decDigits N) ∧ (0 < q → Lib.decDigits q ++ L = Lib.decDigits N)

theorem left_start (N : Nat) (h : 0 < N) : Left N N [] := ⟨fun h0 => by omega, fun _ => by simp⟩

theorem left_step {N q : Nat} {L : List UInt8} (h : Left N q L) (hq : 0 < q) : Left N (q / 10) (UInt8.ofNat (48 + q % 10) :: L) := by
  have h2 := h.2 hq
  by_cases hs : q < 10
  · rw [dd_small hs] at h2
    refine ⟨fun _ => ?_, fun h0 => by omega⟩
    rw [← h2, show q % 10 = q by omega]
    rfl
  · rw [dd_big hs, List.append_assoc] at h2
    exact ⟨fun h0 => by omega, fun _ => h2⟩

theorem left_length {N q : Nat} {L : List UInt8} (h : Left N q L) (hN : N < 10000000000000000000) : L.length ≤ 19 := by
  have hl := dd_length 18 N (by omega)
  by_cases hq : q = 0
  · rw [h.1 hq]; exact hl
  · rw [← h.2 (by omega)] at hl
    simp at hl
    omega

theorem lay_digit (q : Nat) (L : List UInt8) : strOfNums [(48 : Int) + (q : Int) % 10] ++ ByteArray.mk L.toArray = ByteArray.mk (UInt8.ofNat (48 + q % 10) :: L).toArray := by
  show ByteArray.mk ([((48 : Int) + (q : Int) % 10)].map fun n => UInt8.ofNat n.toNat).toArray ++ ByteArray.mk L.toArray = _
  rw [ByteArray.mk_append_mk]
  have e : ((48 : Int) + (q : Int) % 10).toNat = 48 + q % 10 := by omega
  simp [e]
end

section
open Go.ChangeShapes Go.WideShapes Go.ChangeAt Go.RowKit

set_option maxRecDepth 20000 in
theorem spec_dec_pos (N : Nat) (h0 : 0 < N) (hN : N < 9223372036854775808) (w : World) :
    Calls Tryz.prog 104 #[.int .i64 N] w fun e w' => e = .returned (.string ⟨(Lib.itoa N).toArray⟩) ∧ Below w.heap.size w w' := by
  rw [itoa_pos]
  go_enter Tryz.func104, Tryz.ntmps104
  go_wp2
  go_loopw [0, 3] (fun n out wr => ∃ (q : Nat) (L : List UInt8), n = .int .i64 q ∧ q ≤ N ∧ out = .string ⟨L.toArray⟩ ∧ Hid (Left N q L) ∧ Below w.heap.size w wr) (fun n _ _ => (intOf n).toNat)
  case atStart => exact ⟨N, [], rfl, Nat.le_refl _, rfl, left_start N h0, Below.refl _ _⟩
  case round =>
    obtain ⟨q, L, rfl, hq, rfl, hleft, hbel⟩ := hrel
    have hlen := left_length hleft.out (by omega)
    by_cases hq0 : q = 0
    · subst hq0
      have E : Hid (L = Lib.decDigits N) := hleft.out.1 rfl
      go_wp2
      rw [E.out]
      go_ret
      exact ⟨rfl, hbel⟩
    · have hpos : 0 < q := by omega
      have hpos' : (0 : Int) < q := by omega
      have hc := conv1 wr
      have hs1 : ∀ x, (strOfNums [x]).size = 1 := fun x => strOfNums_size [x]
      have hs2 : (ByteArray.mk L.toArray).size ≤ 19 := by simpa [ByteArray.size] using hlen
      have E : Hid (Left N (q / 10) (UInt8.ofNat (48 + q % 10) :: L)) := left_step hleft.out hpos
      clear hleft
      go_wp2
      go_roundw
      case rel => exact ⟨q / 10, UInt8.ofNat (48 + q % 10) :: L, by go_num, by omega, by rw [lay_digit], E, hbel.alloc hbel.size _⟩
      case measure => simp [intOf]; omega

theorem spec_dec_zero (w : World) :
    Calls Tryz.prog 104 #[.int .i64 0] w fun e w' => e = .returned (.string ⟨(Lib.itoa 0).toArray⟩) ∧ Below w.heap.size w w' := by
  have e0 : (⟨(Lib.itoa 0).toArray⟩ : ByteArray) = ⟨#[48]⟩ := by
    rw [show (0 : Int) = ((0 : Nat) : Int) from rfl, itoa_pos, dd_small (by omega)]
    rfl
  rw [e0]
  go_enter Tryz.func104, Tryz.ntmps104
  go_wp2
  go_ret
  exact ⟨rfl, Below.refl _ _⟩

theorem tmod_neg (q : Nat) : (-(q : Int)).tmod 10 = -((q : Int) % 10) := by
  rw [Int.neg_tmod, Int.tmod_eq_emod_of_nonneg (by omega)]

theorem tdiv_neg (q : Nat) : (-(q : Int)).tdiv 10 = -((q : Int) / 10) := by
  rw [Int.neg_tdiv, Int.tdiv_eq_ediv_of_nonneg (by omega)]

set_option maxRecDepth 20000 in
theorem spec_dec_neg (N : Nat) (h0 : 0 < N) (hN : N ≤ 9223372036854775808) (w : World) :
    Calls Tryz.prog 104 #[.int .i64 (-(N : Int))] w fun e w' => e = .returned (.string ⟨(Lib.itoa (-(N : Int))).toArray⟩) ∧ Below w.heap.size w w' := by
  rw [itoa_neg N (by omega)]
  have hn0 : -(N : Int) < 0 := by omega
  go_enter Tryz.func104, Tryz.ntmps104
  go_wp2
  go_loopw [0, 3] (fun n out wr => ∃ (q : Nat) (L : List UInt8), n = .int .i64 (-(q : Int)) ∧ q ≤ N ∧ out = .string ⟨L.toArray⟩ ∧ Hid (Left N q L) ∧ Below w.heap.size w wr) (fun n _ _ => (-(intOf n)).toNat)
  case atStart => exact ⟨N, [], rfl, Nat.le_refl _, rfl, left_start N h0, Below.refl _ _⟩
  case round =>
    obtain ⟨q, L, rfl, hq, rfl, hleft, hbel⟩ := hrel
    have hlen := left_length hleft.out (by omega)
    have hs2 : (ByteArray.mk L.toArray).size ≤ 19 := by simpa [ByteArray.size] using hlen
    by_cases hq0 : q = 0
    · subst hq0
      have E : Hid (L = Lib.decDigits N) := hleft.out.1 rfl
      have e45 : Hid ((ByteArray.mk #[45]) ++ (ByteArray.mk (Lib.decDigits N).toArray) = ByteArray.mk (45 :: Lib.decDigits N).toArray) := by
        show (ByteArray.mk [45].toArray) ++ (ByteArray.mk (Lib.decDigits N).toArray) = _
        rw [ByteArray.mk_append_mk]
        rfl
      go_wp2
      rw [E.out, e45.out]
      go_ret
      exact ⟨rfl, hbel⟩
    · have hpos : 0 < q := by omega
      have hpos' : -(q : Int) < 0 := by omega
      have hc := conv1 wr
      have hs1 : ∀ x, (strOfNums [x]).size = 1 := fun x => strOfNums_size [x]
      have E : Hid (Left N (q / 10) (UInt8.ofNat (48 + q % 10) :: L)) := left_step hleft.out hpos
      have t1 := tmod_neg q
      have t2 := tdiv_neg q
      clear hleft
      by_cases hd : (q : Int) % 10 = 0
      · have HE : Hid (strOfNums [(48 : Int)] ++ ByteArray.mk L.toArray = ByteArray.mk (UInt8.ofNat (48 + q % 10) :: L).toArray) := by
          have := lay_digit q L
          rw [hd] at this
          exact this
        go_wp2
        go_roundw
        case rel => exact ⟨q / 10, UInt8.ofNat (48 + q % 10) :: L, by go_num, by omega, by rw [HE.out], E, hbel.alloc hbel.size _⟩
        case measure => simp [intOf]; omega
      · have hd2 : -((q : Int) % 10) < 0 := by omega
        go_wp2
        go_roundw
        case rel => exact ⟨q / 10, UInt8.ofNat (48 + q % 10) :: L, by go_num, by omega, by rw [lay_digit], E, hbel.alloc hbel.size _⟩
        case measure => simp [intOf]; omega

/-- The specification's Dec makes the decimal text of every int. -/
theorem spec_dec (n : Int) (h0 : -9223372036854775808 ≤ n) (h1 : n ≤ 9223372036854775807) (w : World) :
    Calls Tryz.prog 104 #[.int .i64 n] w fun e w' => e = .returned (.string ⟨(Lib.itoa n).toArray⟩) ∧ Below w.heap.size w w' := by
  rcases Int.lt_trichotomy n 0 with h | h | h
  · obtain ⟨N, rfl⟩ : ∃ N : Nat, n = -(N : Int) := ⟨n.natAbs, by omega⟩
    exact spec_dec_neg N (by omega) (by omega) w
  · subst h
    exact spec_dec_zero w
  · obtain ⟨N, rfl⟩ := Int.eq_ofNat_of_zero_le (show 0 ≤ n by omega)
    exact spec_dec_pos N (by omega) (by omega) w
end

section
open Go.ChangeShapes Go.WideShapes Go.ChangeAt Go.RowKit

/-- What is asked of the text of node i. -/
def ShowAt (ts : List Nod) (g cap f i : Nat) : Prop := ∀ w : World, NodAt w g ts →
  Calls Tryz.prog 102 #[.slice (some ⟨g, 0, none⟩) ts.length cap, .int .i64 i] w fun e w' => e = .returned (.string ⟨(textN ts f i).toArray⟩) ∧ Below w.heap.size w w'

theorem cells7_at {w : World} {g : Nat} {t : Nod} {e : TypeId} {z : Nat × Nat} (h : w.heap[g]? = some (.cells (nodCells t).toArray e z)) :
    w.cell? ⟨g, 0, none⟩ = some (.int .i64 t.kind) ∧ w.cell? ⟨g, 1, none⟩ = some (.int .i64 t.a) ∧ w.cell? ⟨g, 2, none⟩ = some (.int .i64 t.b) ∧ w.cell? ⟨g, 3, none⟩ = some (.int .i64 t.c) ∧ w.cell? ⟨g, 4, none⟩ = some (.int .i64 t.n) ∧ w.cell? ⟨g, 5, none⟩ = some (.string t.name) ∧ w.cell? ⟨g, 6, none⟩ = some (.string t.other) := by
  refine ⟨?_, ?_, ?_, ?_, ?_, ?_, ?_⟩ <;> (rw [cell_of_row _ _ _ _ _ _ h]; rfl)

theorem cells2_at {w : World} {g : Nat} {a b : ByteArray} {e : TypeId} {z : Nat × Nat} (h : w.heap[g]? = some (.cells #[.string a, .string b] e z)) : w.cell? ⟨g, 0, none⟩ = some (.string a) ∧ w.cell? ⟨g, 1, none⟩ = some (.string b) := by
  refine ⟨?_, ?_⟩ <;> (rw [cell_of_row _ _ _ _ _ _ h]; rfl)

theorem cells3_at {w : World} {g : Nat} {a b c : Int} {e : TypeId} {z : Nat × Nat} (h : w.heap[g]? = some (.cells #[.int .i64 a, .int .i64 b, .int .i64 c] e z)) : w.cell? ⟨g, 0, none⟩ = some (.int .i64 a) ∧ w.cell? ⟨g, 1, none⟩ = some (.int .i64 b) ∧ w.cell? ⟨g, 2, none⟩ = some (.int .i64 c) := by
  refine ⟨?_, ?_, ?_⟩ <;> (rw [cell_of_row _ _ _ _ _ _ h]; rfl)

theorem show_leaf {ts : List Nod} {g cap f i : Nat} (hi : i < ts.length) (hl : ts.length ≤ 1000) (h : (ts.getD i noNod).kind = 1 ∨ ((ts.getD i noNod).kind = 2 ∧ 0 ≤ (ts.getD i noNod).n ∧ (ts.getD i noNod).n ≤ 65535) ∨ (ts.getD i noNod).kind = 12) : ShowAt ts g cap (f + 1) i := by
  intro w hA
  have t := hA i hi
  have HX : Hid (textN ts (f + 1) i = nodeT (textN ts f) (ts.getD i noNod)) := rfl
  obtain ⟨⟨x0, x1, x2, x3, x4, x5, x6⟩, hx⟩ : ∃ y, ts.getD i noNod = y := ⟨_, rfl⟩
  rw [hx] at t h HX
  simp only at h
  have q0 : w.cell? ⟨g, i * 7, none⟩ = some (.int .i64 x0) := t.c0
  have q1 : w.cell? ⟨g, i * 7 + 1, none⟩ = some (.int .i64 x1) := t.c1
  have q2 : w.cell? ⟨g, i * 7 + 2, none⟩ = some (.int .i64 x2) := t.c2
  have q3 : w.cell? ⟨g, i * 7 + 3, none⟩ = some (.int .i64 x3) := t.c3
  have q4 : w.cell? ⟨g, i * 7 + 4, none⟩ = some (.int .i64 x4) := t.c4
  have q5 : w.cell? ⟨g, i * 7 + 5, none⟩ = some (.string x5) := t.c5
  have q6 : w.cell? ⟨g, i * 7 + 6, none⟩ = some (.string x6) := t.c6
  have hi' : (i : Int) < ts.length := by omega
  clear t hx hA
  have HB : Hid (Below w.heap.size w (w.alloc (.cells (nodCells ⟨x0, x1, x2, x3, x4, x5, x6⟩).toArray 44))) := (Below.refl _ w).alloc (Nat.le_refl _) _
  rcases h with rfl | ⟨rfl, h0, h1⟩ | rfl
  · go_enter Tryz.func102, Tryz.ntmps102
    go_wp2
    go_ret
    exact ⟨by rw [HX.out]; rfl, HB.out⟩
  · go_enter Tryz.func102, Tryz.ntmps102
    go_wp2_with fail
    refine (spec_dec x4 (by omega) (by omega) _).mono ?_
    rintro e w1 ⟨rfl, b1⟩
    have B1 : Hid (Below w.heap.size w w1) := HB.out.trans (b1.mono (by simp))
    clear b1
    go_wp2
    go_ret
    exact ⟨by rw [HX.out]; rfl, B1.out⟩
  · go_enter Tryz.func102, Tryz.ntmps102
    go_wp2
    go_ret
    exact ⟨by rw [HX.out]; rfl, HB.out⟩

theorem spec_form_key {k n : Int} (h : IsForm k n) (w : World) :
    Calls Tryz.prog 69 #[.string (keyN k n)] w fun e w' => (∃ m : Int, e = .returned (.tuple #[.int .i64 k, .int .i64 m, .string ⟨(goesOn k).toArray⟩])) ∧ w' = w := by
  refine (spec_form (keyN k n) w).mono ?_
  rintro e w' ⟨rfl, rfl⟩
  have := form_key h
  exact ⟨⟨_, by rw [this]⟩, rfl⟩

/-- While the form goes on: what is written, what is left. -/
def LoopS (rec : Nat → List UInt8) (t : Nod) (gn gk : Nat) (k : Nat) (s ns ks : Value) : Prop :=
  ∃ (S : ByteArray) (don : List UInt8) (x y ox oy : Nat), s = .string S ∧ S.data.toList = [40] ++ (keyN t.kind t.n).data.toList ++ don ∧ ns = .slice (some ⟨gn, ox, none⟩) (2 - x) (2 - x) ∧ ks = .slice (some ⟨gk, oy, none⟩) (arN t.kind - y) (3 - y) ∧ (x < 2 → ox = x) ∧ (y < 3 → oy = y)
    ∧ don ++ argT rec ((goesOn t.kind).drop k) ([t.name, t.other].drop x) ([t.a, t.b, t.c].drop y) = argT rec (goesOn t.kind) [t.name, t.other] [t.a, t.b, t.c]
    ∧ (((goesOn t.kind).drop k).filter (· = 110)).length + x ≤ 2 ∧ (((goesOn t.kind).drop k).filter (· ≠ 110)).length + y ≤ arN t.kind

theorem goes_two_names (k : Int) : ((goesOn k).filter (· = 110)).length ≤ 2 := by
  unfold goesOn
  by_cases h3 : k = 3
  · rw [if_pos h3]; decide
  rw [if_neg h3]
  by_cases h5 : k = 5
  · rw [if_pos h5]; decide
  rw [if_neg h5]
  by_cases h6 : k = 6
  · rw [if_pos h6]; decide
  rw [if_neg h6]
  by_cases h7 : k = 7
  · rw [if_pos h7]; decide
  rw [if_neg h7]
  by_cases h14 : k = 14
  · rw [if_pos h14]; decide
  rw [if_neg h14]
  by_cases h19 : k = 19
  · rw [if_pos h19]; decide
  rw [if_neg h19]
  by_cases h10 : k = 10 ∨ k = 11 ∨ k = 15 ∨ k = 16 ∨ k = 18
  · rw [if_pos h10]; decide
  rw [if_neg h10]
  decide

theorem nodeT_form {rec : Nat → List UInt8} {t : Nod} (h : IsForm t.kind t.n) : nodeT rec t = formT rec t := by
  unfold nodeT
  rw [if_neg (by have := h.1; omega), if_neg (by have := h.1; omega), if_neg h.2.2.1]

theorem goes_len (k : Int) : (goesOn k).length ≤ 5 := by
  unfold goesOn
  by_cases h3 : k = 3
  · rw [if_pos h3]; decide
  rw [if_neg h3]
  by_cases h5 : k = 5
  · rw [if_pos h5]; decide
  rw [if_neg h5]
  by_cases h6 : k = 6
  · rw [if_pos h6]; decide
  rw [if_neg h6]
  by_cases h7 : k = 7
  · rw [if_pos h7]; decide
  rw [if_neg h7]
  by_cases h14 : k = 14
  · rw [if_pos h14]; decide
  rw [if_neg h14]
  by_cases h19 : k = 19
  · rw [if_pos h19]; decide
  rw [if_neg h19]
  by_cases h10 : k = 10 ∨ k = 11 ∨ k = 15 ∨ k = 16 ∨ k = 18
  · rw [if_pos h10]; decide
  rw [if_neg h10]
  decide

theorem loop_start (rec : Nat → List UInt8) (t : Nod) (gn gk : Nat) (h : IsForm t.kind t.n) : LoopS rec t gn gk 0 (.string (⟨#[40]⟩ ++ keyN t.kind t.n)) (.slice (some ⟨gn, 0, none⟩) 2 2) (.slice (some ⟨gk, 0, none⟩) (arN t.kind) 3) := by
  refine ⟨_, [], 0, 0, 0, 0, rfl, ?_, rfl, rfl, fun _ => rfl, fun _ => rfl, rfl, ?_, ?_⟩
  · rw [ByteArray.data_append, Array.toList_append]
    simp
  · have := goes_two_names t.kind
    simpa using this
  · have := asked_ar h
    unfold asked at this
    show ((goesOn t.kind).filter (· ≠ 110)).length + 0 ≤ _
    omega

theorem bytes_join (A B : ByteArray) : (A ++ B).data.toList = A.data.toList ++ B.data.toList := by
  rw [ByteArray.data_append, Array.toList_append]

theorem loop_name {rec : Nat → List UInt8} {t : Nod} {gn gk k ox oy : Nat} {S : ByteArray} {don : List UInt8} {x y : Nat} (hox : x + 1 < 2 → ox = x + 1) (hoy : y < 3 → oy = y) {c : UInt8} {cs : List UInt8} (hc : (goesOn t.kind).drop k = c :: cs) (h110 : c = 110)
    (hS : S.data.toList = [40] ++ (keyN t.kind t.n).data.toList ++ don) (hd : don ++ argT rec ((goesOn t.kind).drop k) ([t.name, t.other].drop x) ([t.a, t.b, t.c].drop y) = argT rec (goesOn t.kind) [t.name, t.other] [t.a, t.b, t.c])
    (hn : (((goesOn t.kind).drop k).filter (· = 110)).length + x ≤ 2) (hk : (((goesOn t.kind).drop k).filter (· ≠ 110)).length + y ≤ arN t.kind) :
    x < 2 ∧ LoopS rec t gn gk (k + 1) (.string (S ++ ⟨#[32]⟩ ++ [t.name, t.other].getD x ByteArray.empty)) (.slice (some ⟨gn, ox, none⟩) (2 - (x + 1)) (2 - (x + 1))) (.slice (some ⟨gk, oy, none⟩) (arN t.kind - y) (3 - y)) := by
  have hcs : (goesOn t.kind).drop (k + 1) = cs := by rw [← List.drop_drop, hc]; rfl
  rw [hc] at hd hn hk
  have e1 : ((c :: cs).filter (· = 110)).length = (cs.filter (· = 110)).length + 1 := by simp [h110]
  have e2 : ((c :: cs).filter (· ≠ 110)).length = (cs.filter (· ≠ 110)).length := by simp [h110]
  rw [e1] at hn
  rw [e2] at hk
  refine ⟨by omega, _, don ++ [32] ++ ([t.name, t.other].getD x ByteArray.empty).data.toList, x + 1, y, ox, oy, rfl, ?_, rfl, rfl, hox, hoy, ?_, by rw [hcs]; omega, by rw [hcs]; exact hk⟩
  · rw [bytes_join, bytes_join, hS]
    simp
  · rw [hcs, ← hd]
    have hx : x = 0 ∨ x = 1 := by omega
    rw [argT, if_pos h110]
    rcases hx with rfl | rfl <;> simp

theorem loop_kid {rec : Nat → List UInt8} {t : Nod} {gn gk k ox oy : Nat} {S : ByteArray} {don : List UInt8} {x y : Nat} (hox : x < 2 → ox = x) (hoy : y + 1 < 3 → oy = y + 1) {c : UInt8} {cs : List UInt8} (hc : (goesOn t.kind).drop k = c :: cs) (h110 : c ≠ 110)
    (hS : S.data.toList = [40] ++ (keyN t.kind t.n).data.toList ++ don) (hd : don ++ argT rec ((goesOn t.kind).drop k) ([t.name, t.other].drop x) ([t.a, t.b, t.c].drop y) = argT rec (goesOn t.kind) [t.name, t.other] [t.a, t.b, t.c])
    (hn : (((goesOn t.kind).drop k).filter (· = 110)).length + x ≤ 2) (hk : (((goesOn t.kind).drop k).filter (· ≠ 110)).length + y ≤ arN t.kind) :
    y < arN t.kind ∧ LoopS rec t gn gk (k + 1) (.string (S ++ ⟨#[32]⟩ ++ ⟨(rec ([t.a, t.b, t.c].getD y 0).toNat).toArray⟩)) (.slice (some ⟨gn, ox, none⟩) (2 - x) (2 - x)) (.slice (some ⟨gk, oy, none⟩) (arN t.kind - (y + 1)) (3 - (y + 1))) := by
  have hcs : (goesOn t.kind).drop (k + 1) = cs := by rw [← List.drop_drop, hc]; rfl
  have har := arN_le t.kind
  rw [hc] at hd hn hk
  have e1 : ((c :: cs).filter (· = 110)).length = (cs.filter (· = 110)).length := by simp [h110]
  have e2 : ((c :: cs).filter (· ≠ 110)).length = (cs.filter (· ≠ 110)).length + 1 := by simp [h110]
  rw [e1] at hn
  rw [e2] at hk
  refine ⟨by omega, _, don ++ [32] ++ rec ([t.a, t.b, t.c].getD y 0).toNat, x, y + 1, ox, oy, rfl, ?_, rfl, rfl, hox, hoy, ?_, by rw [hcs]; exact hn, by rw [hcs]; omega⟩
  · rw [bytes_join, bytes_join, hS]
    simp
  · rw [hcs, ← hd]
    have hy : y = 0 ∨ y = 1 ∨ y = 2 := by omega
    rw [argT, if_neg h110]
    rcases hy with rfl | rfl | rfl <;> simp

theorem loop_end {rec : Nat → List UInt8} {t : Nod} {k : Nat} {S : ByteArray} {don : List UInt8} {x y : Nat} (hk : (goesOn t.kind).length ≤ k) (hS : S.data.toList = [40] ++ (keyN t.kind t.n).data.toList ++ don)
    (hd : don ++ argT rec ((goesOn t.kind).drop k) ([t.name, t.other].drop x) ([t.a, t.b, t.c].drop y) = argT rec (goesOn t.kind) [t.name, t.other] [t.a, t.b, t.c]) : S ++ ⟨#[41]⟩ = ⟨(formT rec t).toArray⟩ := by
  rw [List.drop_eq_nil_of_le hk, argT, List.append_nil] at hd
  apply data_ext
  rw [bytes_join, hS, hd]
  simp [formT]

theorem loop_len {rec : Nat → List UInt8} {t : Nod} {k : Nat} {S : ByteArray} {don : List UInt8} {x y : Nat} (hS : S.data.toList = [40] ++ (keyN t.kind t.n).data.toList ++ don)
    (hd : don ++ argT rec ((goesOn t.kind).drop k) ([t.name, t.other].drop x) ([t.a, t.b, t.c].drop y) = argT rec (goesOn t.kind) [t.name, t.other] [t.a, t.b, t.c]) : S.size ≤ (formT rec t).length := by
  have h1 : S.data.toList.length = S.size := by rw [Array.length_toList]; rfl
  rw [← h1, hS]
  unfold formT
  rw [← hd]
  simp only [List.length_append]
  omega

set_option maxHeartbeats 4000000 in
set_option maxRecDepth 20000 in
theorem show_form {ts : List Nod} {g cap f i : Nat} (hi : i < ts.length) (hl : ts.length ≤ 1000) (h : IsForm (ts.getD i noNod).kind (ts.getD i noNod).n) (hlen : (formT (textN ts f) (ts.getD i noNod)).length ≤ 100000) (IH : ∀ j, j < arN (ts.getD i noNod).kind → ∃ q : Nat, [(ts.getD i noNod).a, (ts.getD i noNod).b, (ts.getD i noNod).c].getD j 0 = q ∧ ShowAt ts g cap f q) : ShowAt ts g cap (f + 1) i := by
  intro w hA
  have t := hA i hi
  have HX : Hid (textN ts (f + 1) i = nodeT (textN ts f) (ts.getD i noNod)) := rfl
  obtain ⟨⟨x0, x1, x2, x3, x4, x5, x6⟩, hx⟩ : ∃ y, ts.getD i noNod = y := ⟨_, rfl⟩
  rw [hx] at t h HX IH hlen
  simp only at h IH
  have q0 : w.cell? ⟨g, i * 7, none⟩ = some (.int .i64 x0) := t.c0
  have q1 : w.cell? ⟨g, i * 7 + 1, none⟩ = some (.int .i64 x1) := t.c1
  have q2 : w.cell? ⟨g, i * 7 + 2, none⟩ = some (.int .i64 x2) := t.c2
  have q3 : w.cell? ⟨g, i * 7 + 3, none⟩ = some (.int .i64 x3) := t.c3
  have q4 : w.cell? ⟨g, i * 7 + 4, none⟩ = some (.int .i64 x4) := t.c4
  have q5 : w.cell? ⟨g, i * 7 + 5, none⟩ = some (.string x5) := t.c5
  have q6 : w.cell? ⟨g, i * 7 + 6, none⟩ = some (.string x6) := t.c6
  have hi' : (i : Int) < ts.length := by omega
  have HI : Hid (∀ j, j < arN x0 → ∃ q : Nat, [x1, x2, x3].getD j 0 = q ∧ ShowAt ts g cap f q) := IH
  have HF : Hid (IsForm x0 x4) := h
  have HA : Hid (NodAt w g ts) := hA
  have hg : g < w.heap.size := nod_lt q0
  have g1 : (x0 == 1) = false := by simp; have := h.1; omega
  have g2 : (x0 == 2) = false := by simp; have := h.1; omega
  have g12 : (x0 == 12) = false := by simp; exact h.2.2.1
  clear t hx hA IH h
  obtain ⟨wa, hwa⟩ : ∃ wa, w.alloc (.cells #[.int .i64 x0, .int .i64 x1, .int .i64 x2, .int .i64 x3, .int .i64 x4, .string x5, .string x6] 44) = wa := ⟨_, rfl⟩
  have HWA : Hid (w.alloc (.cells #[.int .i64 x0, .int .i64 x1, .int .i64 x2, .int .i64 x3, .int .i64 x4, .string x5, .string x6] 44) = wa) := hwa
  have Rf : Hid (wa.heap[w.heap.size]? = some (.cells (nodCells ⟨x0, x1, x2, x3, x4, x5, x6⟩).toArray 44 (0, 0))) := by rw [← hwa]; exact (MapKept.heap_alloc w _).1
  have sa : wa.heap.size = w.heap.size + 1 := by rw [← hwa]; simp
  have BA : Hid (Below w.heap.size w wa) := by rw [← hwa]; exact (Below.refl _ w).alloc (Nat.le_refl _) _
  clear hwa
  have CF : Hid (∀ w : World, Calls Tryz.prog 69 #[.string (keyN x0 x4)] w fun e w' => (∃ m : Int, e = .returned (.tuple #[.int .i64 x0, .int .i64 m, .string ⟨(goesOn x0).toArray⟩])) ∧ w' = w) := fun w => spec_form_key HF.out w
  have CK : Hid (∀ w : World, Calls Tryz.prog 120 #[.agg #[.int .i64 x0, .int .i64 x1, .int .i64 x2, .int .i64 x3, .int .i64 x4, .string x5, .string x6]] w fun e w' => e = .returned (.string (keyN x0 x4)) ∧ Below w.heap.size w w') := fun w => spec_keyOf x0 x1 x2 x3 x4 x5 x6 w
  have HL0 : Hid (∀ gn gk, LoopS (textN ts f) ⟨x0, x1, x2, x3, x4, x5, x6⟩ gn gk 0 (.string (⟨#[40]⟩ ++ keyN x0 x4)) (.slice (some ⟨gn, 0, none⟩) 2 2) (.slice (some ⟨gk, 0, none⟩) (arN x0) 3)) := fun gn gk => loop_start _ ⟨x0, x1, x2, x3, x4, x5, x6⟩ gn gk HF.out
  obtain ⟨KY, hKY⟩ : ∃ KY, keyN x0 x4 = KY := ⟨_, rfl⟩
  have HKY : Hid (keyN x0 x4 = KY) := hKY
  have hks : KY.size ≤ 5 := by rw [← hKY]; have := keyN_len x0 x4; rw [Array.length_toList] at this; exact this
  rw [hKY] at CF CK HL0
  clear hKY
  go_enter Tryz.func102, Tryz.ntmps102
  go_wp2_with fail
  rw [HWA.out]
  refine (CK.out wa).mono ?_
  rintro e w1 ⟨rfl, b1⟩
  have s1 := b1.size
  have r1 := (b1.block _ (by omega)).trans Rf.out
  have R1 : Hid (_) := r1
  have B1 : Hid (Below w.heap.size w w1) := BA.out.trans (b1.mono (by omega))
  clear b1 Rf BA HWA q0 q1 q2 q3 q4 q5 q6
  obtain ⟨q0, q1, q2, q3, q4, q5, q6⟩ := cells7_at r1
  simp only at q0 q1 q2 q3 q4 q5 q6
  clear r1
  go_wp2_with fail
  refine (CF.out w1).mono ?_
  rintro e w1 ⟨⟨m1, rfl⟩, rfl⟩
  obtain ⟨FB, hFB⟩ : ∃ FB : ByteArray, ⟨(goesOn x0).toArray⟩ = FB := ⟨_, rfl⟩
  rw [hFB]
  go_wp2_with fail
  refine (CK.out _).mono ?_
  rintro e w2 ⟨rfl, b2⟩
  have s2 := b2.size
  have r2 := (b2.block _ (by omega)).trans R1.out
  have R2 : Hid (_) := r2
  have B2 : Hid (Below w.heap.size w w2) := B1.out.trans (b2.mono (by omega))
  clear b2 q0 q1 q2 q3 q4 q5 q6 R1 B1
  obtain ⟨q0, q1, q2, q3, q4, q5, q6⟩ := cells7_at r2
  simp only at q0 q1 q2 q3 q4 q5 q6
  have hz1 : (⟨#[40]⟩ : ByteArray).size = 1 := rfl
  have R3 : Hid ((w2.alloc (.cells #[.string x5, .string x6] 9)).heap[w.heap.size]? = some (.cells (nodCells ⟨x0, x1, x2, x3, x4, x5, x6⟩).toArray 44 (0, 0))) := (((Below.refl w2.heap.size w2).alloc (Nat.le_refl _) _).block _ (by omega)).trans r2
  obtain ⟨p0, p1, p2, p3, p4, p5, p6⟩ := cells7_at R3.out
  simp only at p0 p1 p2 p3 p4 p5 p6
  have B3 : Hid (Below w.heap.size w (w2.alloc (.cells #[.string x5, .string x6] 9))) := B2.out.alloc (by omega) _
  have N3 : Hid ((w2.alloc (.cells #[.string x5, .string x6] 9)).heap[w2.heap.size]? = some (.cells #[.string x5, .string x6] 9 (0, 0))) := (MapKept.heap_alloc w2 _).1
  clear r2 B2 R2
  obtain ⟨w3, hw3⟩ : ∃ w3, w2.alloc (.cells #[.string x5, .string x6] 9) = w3 := ⟨_, rfl⟩
  have HW3 : Hid (w2.alloc (.cells #[.string x5, .string x6] 9) = w3) := hw3
  have s3 : w3.heap.size = w2.heap.size + 1 := by rw [← hw3]; simp
  have BW : Hid (Below w2.heap.size w2 w3) := by rw [← hw3]; exact (Below.refl _ w2).alloc (Nat.le_refl _) _
  rw [hw3] at R3 B3 N3
  clear hw3
  go_wp2_with fail
  refine (spec_kids x0 x1 x2 x3 x4 x5 x6 _).mono ?_
  rw [HW3.out]
  rintro e w4 ⟨rfl, hk4, b4⟩
  obtain ⟨GK, hGK⟩ : ∃ GK, w3.heap.size + 1 = GK := ⟨_, rfl⟩
  rw [hGK] at hk4 ⊢
  have s4 := b4.size
  have N4 : Hid (w4.heap[w2.heap.size]? = some (.cells #[.string x5, .string x6] 9 (0, 0))) := (b4.block _ (by omega)).trans N3.out
  have K4 : Hid (w4.heap[GK]? = some (.cells #[.int .i64 x1, .int .i64 x2, .int .i64 x3] 3 (0, 0))) := hk4
  have hkl : GK < w4.heap.size := (Array.getElem?_eq_some_iff.1 hk4).1
  have B4 : Hid (Below w.heap.size w w4) := B3.out.trans (b4.mono (by omega))
  clear b4 hk4 R3 B3 N3 HW3 BW p0 p1 p2 p3 p4 p5 p6 q0 q1 q2 q3 q4 q5 q6
  have L0 : Hid (LoopS (textN ts f) ⟨x0, x1, x2, x3, x4, x5, x6⟩ w2.heap.size (GK) 0 (.string (⟨#[40]⟩ ++ KY)) (.slice (some ⟨w2.heap.size, 0, none⟩) 2 2) (.slice (some ⟨GK, 0, none⟩) (arN x0) 3)) := HL0.out _ _
  have hfs : FB.size = (goesOn x0).length := by rw [← hFB]; simp [ByteArray.size]
  have hf5 : (goesOn x0).length ≤ 5 := goes_len x0
  have HFB : Hid (⟨(goesOn x0).toArray⟩ = FB) := hFB
  have har := arN_le x0
  clear hFB HL0 hGK
  go_wp2
  go_loopw [9, 10, 11, 12] (fun s ns ks i wr => ∃ k : Nat, k ≤ FB.size ∧ i = .int .i64 k ∧ Hid (LoopS (textN ts f) ⟨x0, x1, x2, x3, x4, x5, x6⟩ w2.heap.size (GK) k s ns ks) ∧ Below w4.heap.size w4 wr) (fun _ _ _ i _ => FB.size - (intOf i).toNat)
  case atStart => exact ⟨0, by omega, rfl, L0, Below.refl _ _⟩
  case round =>
    obtain ⟨k, hk, rfl, hL, hb⟩ := hrel
    obtain ⟨S, don, x, y, ox, oy, rfl, hS, rfl, rfl, hox, hoy, hd, hcn, hck⟩ := hL.out
    have hsize := hb.size
    have hSl := loop_len hS hd
    by_cases hin : k < FB.size
    · have hin' : (k : Int) < FB.size := by omega
      obtain ⟨c, cs, hc, hcb⟩ : ∃ c cs, (goesOn x0).drop k = c :: cs ∧ FB[k] = c := by
        have hkl : k < (goesOn x0).length := by omega
        refine ⟨(goesOn x0)[k], (goesOn x0).drop (k + 1), List.drop_eq_getElem_cons hkl, ?_⟩
        have : FB.data[k]? = some (goesOn x0)[k] := by
          rw [← HFB.out]
          simp [List.getElem?_eq_getElem hkl]
        rw [ByteArray.getElem_eq_getElem_data]
        have h2 : FB.data[k]? = some FB.data[k] := Array.getElem?_eq_getElem _
        rw [h2] at this
        exact Option.some.inj this
      by_cases h110 : c = 110
      · obtain ⟨hx2, hN⟩ := loop_name (gn := w2.heap.size) (gk := GK) (ox := min (x + 1) 1) (oy := oy) (fun h => by omega) hoy hc h110 hS hd hcn hck
        obtain rfl : x = ox := (hox hx2).symm
        have HN : Hid (LoopS _ _ _ _ _ _ _ _) := hN
        obtain ⟨S2, don2, x', y', _, _, hS2, hS3, -, -, -, -, hd2, -, -⟩ := hN
        have hl2 := loop_len hS3 hd2
        obtain rfl : _ = S2 := by injection hS2
        have hq : (FB[k].toNat : Int) = 110 := by rw [hcb, h110]; rfl
        obtain ⟨hn0, hn1⟩ := cells2_at ((hb.block _ (by omega)).trans N4.out)
        have hz2 : (⟨#[32]⟩ : ByteArray).size = 1 := rfl
        have hj := ByteArray.size_append (a := S) (b := ⟨#[32]⟩)
        have hB1 : Hid (Below w4.heap.size w4 wr) := hb
        have HL : Hid (S.size ≤ 100000) := by show S.size ≤ 100000; omega
        clear hS hd hcn hck hL hSl hS2 hS3 hd2 hc hcb h110 hb
        have hx : x = 0 ∨ x = 1 := by omega
        rcases hx with rfl | rfl
        · have hj2 := ByteArray.size_append (a := S ++ ⟨#[32]⟩) (b := x5)
          have hl3 : (S ++ ⟨#[32]⟩ ++ x5).size ≤ 100000 := by
            have := hl2
            simp only [List.getD_cons_zero] at this
            omega
          clear hl2
          go_wp2
          go_roundw
          case rel => exact ⟨k + 1, by omega, by go_num, HN, hB1.out⟩
          case measure => simp [intOf]; omega
        · have hj2 := ByteArray.size_append (a := S ++ ⟨#[32]⟩) (b := x6)
          have hl3 : (S ++ ⟨#[32]⟩ ++ x6).size ≤ 100000 := by
            have := hl2
            simp only [List.getD_cons_succ, List.getD_cons_zero] at this
            omega
          clear hl2
          go_wp2
          go_roundw
          case rel => exact ⟨k + 1, by omega, by go_num, HN, hB1.out⟩
          case measure => simp [intOf]; omega
      · obtain ⟨hy2, hN⟩ := loop_kid (gn := w2.heap.size) (gk := GK) (ox := ox) (oy := min (y + 1) 2) hox (fun h => by omega) hc h110 hS hd hcn hck
        obtain rfl : y = oy := (hoy (by simp only at hy2; omega)).symm
        have HN : Hid (LoopS _ _ _ _ _ _ _ _) := hN
        obtain ⟨S2, don2, x', y', _, _, hS2, hS3, -, -, -, -, hd2, -, -⟩ := hN
        have hl2 := loop_len hS3 hd2
        obtain rfl : _ = S2 := by injection hS2
        have hq : ((FB[k].toNat : Int) == 110) = false := by
          rw [hcb, beq_eq_false_iff_ne]
          intro e
          apply h110
          apply UInt8.toNat_inj.1
          have : (110 : UInt8).toNat = 110 := rfl
          omega
        obtain ⟨hk0, hk1, hk2⟩ := cells3_at ((hb.block _ (by omega)).trans K4.out)
        have hz2 : (⟨#[32]⟩ : ByteArray).size = 1 := rfl
        have hj := ByteArray.size_append (a := S) (b := ⟨#[32]⟩)
        have hB1 : Hid (Below w4.heap.size w4 wr) := hb
        have HL : Hid (S.size ≤ 100000) := by show S.size ≤ 100000; omega
        obtain ⟨n1, hn1⟩ : ∃ n1, arN x0 - y = n1 + 1 := ⟨arN x0 - y - 1, by simp only at hy2; omega⟩
        have hn2 : arN x0 - (y + 1) = n1 := by omega
        simp only at HN hl2 hy2
        rw [hn2] at HN
        rw [hn1]
        obtain ⟨Q, hQ, hSh⟩ := HI.out y hy2
        have HQ : Hid (∀ w : World, NodAt w g ts → Calls Tryz.prog 102 #[.slice (some ⟨g, 0, none⟩) ts.length cap, .int .i64 Q] w fun e w' => e = .returned (.string ⟨(textN ts f Q).toArray⟩) ∧ Below w.heap.size w w') := hSh
        rw [hQ, Int.toNat_natCast] at HN hl2
        have AW : Hid (NodAt wr g ts) := HA.out.below (B4.out.trans (hb.mono (by omega))) (fun _ => hg)
        have hn3 : n1 ≤ 2 := by omega
        obtain ⟨TX, hTX⟩ : ∃ TX : ByteArray, ⟨(textN ts f Q).toArray⟩ = TX := ⟨_, rfl⟩
        rw [hTX] at HN hl2 HQ
        have hj2 := ByteArray.size_append (a := S ++ ⟨#[32]⟩) (b := TX)
        have hl3 : (S ++ ⟨#[32]⟩ ++ TX).size ≤ 100000 := by omega
        clear hS hd hcn hck hL hSl hS2 hS3 hd2 hc hcb h110 hb hn1 hn2 hl2 hTX hSh
        have hy : y = 0 ∨ y = 1 ∨ y = 2 := by omega
        clear har hy2
        rcases hy with rfl | rfl | rfl
        · rw [show x1 = (Q : Int) from hQ] at hk0
          clear hQ
          go_wp2_with fail
          refine (HQ.out wr AW.out).mono ?_
          rintro e w5 ⟨rfl, b5⟩
          have B5 : Hid (Below w4.heap.size w4 w5) := hB1.out.trans (b5.mono hsize)
          clear b5 hB1 hk0 hk1 hk2 AW
          go_wp2
          go_roundw
          case rel => exact ⟨k + 1, by omega, by go_num, HN, B5.out⟩
          case measure => simp [intOf]; omega
        · rw [show x2 = (Q : Int) from hQ] at hk1
          clear hQ
          go_wp2_with fail
          refine (HQ.out wr AW.out).mono ?_
          rintro e w5 ⟨rfl, b5⟩
          have B5 : Hid (Below w4.heap.size w4 w5) := hB1.out.trans (b5.mono hsize)
          clear b5 hB1 hk0 hk1 hk2 AW
          go_wp2
          go_roundw
          case rel => exact ⟨k + 1, by omega, by go_num, HN, B5.out⟩
          case measure => simp [intOf]; omega
        · rw [show x3 = (Q : Int) from hQ] at hk2
          clear hQ
          go_wp2_with fail
          refine (HQ.out wr AW.out).mono ?_
          rintro e w5 ⟨rfl, b5⟩
          have B5 : Hid (Below w4.heap.size w4 w5) := hB1.out.trans (b5.mono hsize)
          clear b5 hB1 hk0 hk1 hk2 AW
          go_wp2
          go_roundw
          case rel => exact ⟨k + 1, by omega, by go_num, HN, B5.out⟩
          case measure => simp [intOf]; omega
    · obtain rfl : k = FB.size := by omega
      have HE : Hid (S ++ ⟨#[41]⟩ = ⟨(formT (textN ts f) ⟨x0, x1, x2, x3, x4, x5, x6⟩).toArray⟩) := loop_end (by show (goesOn x0).length ≤ _; omega) hS hd
      have hz2 : (⟨#[41]⟩ : ByteArray).size = 1 := rfl
      have hsz : S.size ≤ 100000 := by omega
      clear hS hd hcn hck hL hin hSl
      go_wp2
      go_ret
      exact ⟨by rw [HX.out, nodeT_form HF.out, ← HE.out]; rfl, B4.out.trans (hb.mono (by omega))⟩

/-- The text of every node of a right program. -/
theorem spec_show {ts : List Nod} {st : List Nat} (hR : Right ts st) (g cap : Nat) : ∀ (f i : Nat), i < f → i < ts.length → ShowAt ts g cap f i
  | 0, i, h, _ => absurd h (by omega)
  | f + 1, i, h, hi => by
    obtain ⟨hF, _⟩ := hR.2 i hi
    have hl := hR.1
    by_cases h1 : (ts.getD i noNod).kind = 1
    · exact show_leaf hi hl (Or.inl h1)
    by_cases h2 : (ts.getD i noNod).kind = 2
    · have hn := hF.2.2.2.1 h2
      exact show_leaf hi hl (Or.inr (Or.inl ⟨h2, hn.1, hn.2⟩))
    by_cases h12 : (ts.getD i noNod).kind = 12
    · exact show_leaf hi hl (Or.inr (Or.inr h12))
    have hfm := fields_form hF h1 h2 h12
    refine show_form hi hl hfm ?_ (fun j hj => ?_)
    · have := textN_len hR (f + 1) i h hi
      have e : textN ts (f + 1) i = formT (textN ts f) (ts.getD i noNod) := nodeT_form hfm
      rw [e] at this
      omega
    · obtain ⟨q, hq, hlt, _⟩ := kid_ahead hR hi hj
      exact ⟨q, hq, spec_show hR g cap f q (by omega) (by omega)⟩
end

section
open Go.ChangeShapes Go.WideShapes Go.ChangeAt Go.RowKit

/-- What a call of l3Starts ends with. -/
def StEnd (ts : List Nod) (B : Nat) (e : Ending) (w : World) : Prop :=
  (∃ st v, startsF ts ts.length = some st ∧ ownI w B v st ∧ e = .returned (.tuple #[v, .bool true])) ∨
  (∃ v, startsF ts ts.length = none ∧ e = .returned (.tuple #[v, .bool false]))

/-- The state of the loop over the nodes. -/
def SAt (ts : List Nod) (w : World) (g : Nat) (out pl : Value) (wr : World) : Prop :=
  ∃ (i : Nat) (st : List Int), pl = .int .i64 i ∧ i + g = ts.length ∧ startsF ts i = some st ∧ ownI wr w.heap.size out st ∧ Below w.heap.size w wr

theorem take_last (t : Nod) (k : Nat) (h : k < (kidL t).length) : ((kidL t).take (k + 1)).reverse = (kidL t).getD k 0 :: ((kidL t).take k).reverse := by
  rw [List.take_succ_eq_append_getElem h, List.reverse_append]
  simp [List.getD, List.getElem?_eq_getElem h]

theorem kidL_length (t : Nod) : (kidL t).length = arN t.kind := by
  have := arN_le t.kind
  simp [kidL]
  omega

theorem kid_cell {w : World} {g : Nat} {t : Nod} {e : TypeId} (h : w.heap[g]? = some (.cells #[.int .i64 t.a, .int .i64 t.b, .int .i64 t.c] e (0, 0))) (k : Nat) (hk : k < (kidL t).length) : w.cell? ⟨g, k, none⟩ = some (.int .i64 ((kidL t).getD k 0)) := by
  have h3 := arN_le t.kind
  have hl := kidL_length t
  rw [cell_of_row w _ _ _ _ _ h]
  have e1 : (kidL t).getD k 0 = [t.a, t.b, t.c].getD k 0 := by
    simp only [kidL, List.getD]
    rw [List.getElem?_take_of_lt (by omega)]
  rw [e1]
  rcases (by omega : k = 0 ∨ k = 1 ∨ k = 2) with rfl | rfl | rfl <;> rfl

set_option maxHeartbeats 4000000 in
set_option maxRecDepth 20000 in
theorem spec_starts (a : Option Addr) (g cap : Nat) (ts : List Nod) (hne : 0 < ts.length → a = some ⟨g, 0, none⟩) (hl : ts.length ≤ 1000)
    (hst : ∀ i, i < ts.length → (ts.getD i noNod).name.size ≤ maxLen ∧ (ts.getD i noNod).other.size ≤ maxLen) (w : World) (hA : NodAt w g ts) :
    Calls Tryz.prog 30 #[.slice a ts.length cap] w fun e w' => StEnd ts w.heap.size e w' ∧ Below w.heap.size w w' := by
  have HA : Hid (NodAt w g ts) := hA
  have HT : Hid (∀ i, i < ts.length → (ts.getD i noNod).name.size ≤ maxLen ∧ (ts.getD i noNod).other.size ≤ maxLen) := hst
  clear hA hst
  go_enter Tryz.func30, Tryz.ntmps30
  go_wp2
  go_loopg [4, 5] ts.length (fun g out i wr => SAt ts w g out i wr)
  case atStart => exact ⟨0, [], rfl, by omega, rfl, ownI_empty (Nat.le_refl _), (Below.refl _ w).alloc (Nat.le_refl _) _⟩
  case round =>
    obtain ⟨i, st, rfl, hig, hS, hown, hbel⟩ := hrel
    have HS : Hid (startsF ts i = some st) := hS
    have HO : Hid (ownI wr w.heap.size u4 st) := hown
    obtain ⟨hsl, hsr⟩ := startsF_range ts i st hS
    have HSR : Hid (∀ j, j < i → 0 ≤ st.getD j 0 ∧ st.getD j 0 ≤ j) := hsr
    have hsz := hbel.size
    clear hS hown hsr
    by_cases hin : i < ts.length
    · have e1 : (i : Int) < ts.length := by omega
      obtain rfl := hne (by omega)
      have hlt : g < w.heap.size := HA.out.lt (by omega)
      have t := (HA.out.below hbel (fun _ => hlt)) i hin
      have hsm := HT.out i hin
      have HN : Hid (startsF ts (i + 1) = (startsF ts i).bind fun st => (stepS (ts.getD i noNod) i st).map fun a => st ++ [a]) := rfl
      obtain ⟨⟨x0, x1, x2, x3, x4, x5, x6⟩, hx⟩ : ∃ y, ts.getD i noNod = y := ⟨_, rfl⟩
      rw [hx] at t hsm HN
      simp only at hsm
      have HSM : Hid (x5.size ≤ maxLen ∧ x6.size ≤ maxLen) := hsm
      have q0 : wr.cell? ⟨g, i * 7, none⟩ = some (.int .i64 x0) := t.c0
      have q1 : wr.cell? ⟨g, i * 7 + 1, none⟩ = some (.int .i64 x1) := t.c1
      have q2 : wr.cell? ⟨g, i * 7 + 2, none⟩ = some (.int .i64 x2) := t.c2
      have q3 : wr.cell? ⟨g, i * 7 + 3, none⟩ = some (.int .i64 x3) := t.c3
      have q4 : wr.cell? ⟨g, i * 7 + 4, none⟩ = some (.int .i64 x4) := t.c4
      have q5 : wr.cell? ⟨g, i * 7 + 5, none⟩ = some (.string x5) := t.c5
      have q6 : wr.cell? ⟨g, i * 7 + 6, none⟩ = some (.string x6) := t.c6
      have HTI : Hid (NodIn wr g i ⟨x0, x1, x2, x3, x4, x5, x6⟩) := t
      clear t hx hsm
      go_wp2_with fail
      refine (spec_fields x0 x1 x2 x3 x4 x5 x6 HSM.out.1 HSM.out.2 wr).mono ?_
      rintro e w1 ⟨rfl, hb1⟩
      have t1 := HTI.out.below hb1 (by omega)
      have HO1 : Hid (ownI w1 w.heap.size u4 st) := ownI_kept HO.out hb1 (Nat.le_refl _)
      have hs1 := hb1.size
      have hbel1 : Below w.heap.size w w1 := hbel.trans (hb1.mono hsz)
      clear q0 q1 q2 q3 q4 q5 q6 HTI HO hbel hb1
      by_cases hf : fieldsB ⟨x0, x1, x2, x3, x4, x5, x6⟩ = true
      · have q0 : w1.cell? ⟨g, i * 7, none⟩ = some (.int .i64 x0) := t1.c0
        have q1 : w1.cell? ⟨g, i * 7 + 1, none⟩ = some (.int .i64 x1) := t1.c1
        have q2 : w1.cell? ⟨g, i * 7 + 2, none⟩ = some (.int .i64 x2) := t1.c2
        have q3 : w1.cell? ⟨g, i * 7 + 3, none⟩ = some (.int .i64 x3) := t1.c3
        have q4 : w1.cell? ⟨g, i * 7 + 4, none⟩ = some (.int .i64 x4) := t1.c4
        have q5 : w1.cell? ⟨g, i * 7 + 5, none⟩ = some (.string x5) := t1.c5
        have q6 : w1.cell? ⟨g, i * 7 + 6, none⟩ = some (.string x6) := t1.c6
        have HE : Hid (startsF ts (i + 1) = (down st (kidL ⟨x0, x1, x2, x3, x4, x5, x6⟩).reverse i).map fun a => st ++ [a]) := by
          show startsF ts (i + 1) = _
          rw [HN.out, HS.out]
          simp only [Option.bind_some, stepS, if_pos hf]
        rw [hf]
        clear t1 hf HN
        go_wp2_with fail
        refine (spec_kids x0 x1 x2 x3 x4 x5 x6 w1).mono ?_
        rintro e w2 ⟨rfl, hk2, hb2⟩
        have hs2 := hb2.size
        have HKC : Hid (∀ j, j < (kidL ⟨x0, x1, x2, x3, x4, x5, x6⟩).length → w2.cell? ⟨w1.heap.size + 1, j, none⟩ = some (.int .i64 ((kidL ⟨x0, x1, x2, x3, x4, x5, x6⟩).getD j 0))) := fun j hj => kid_cell hk2 j hj
        have HKL : Hid ((kidL ⟨x0, x1, x2, x3, x4, x5, x6⟩).length = arN x0) := kidL_length _
        have har := arN_le x0
        have HO2 : Hid (ownI w2 w.heap.size u4 st) := ownI_kept HO1.out hb2 (Nat.le_refl _)
        have hbel2 : Below w.heap.size w w2 := hbel1.trans (hb2.mono (by omega))
        clear q0 q1 q2 q3 q4 q5 q6 hk2 hb2 hbel1 HO1
        have HTK : Hid (∀ k, k < arN x0 → ((kidL ⟨x0, x1, x2, x3, x4, x5, x6⟩).take (k + 1)).reverse = (kidL ⟨x0, x1, x2, x3, x4, x5, x6⟩).getD k 0 :: ((kidL ⟨x0, x1, x2, x3, x4, x5, x6⟩).take k).reverse) := fun k hk => take_last _ k (by rw [HKL.out]; exact hk)
        have HTA : Hid ((kidL ⟨x0, x1, x2, x3, x4, x5, x6⟩).take (arN x0) = kidL ⟨x0, x1, x2, x3, x4, x5, x6⟩) := List.take_of_length_le (by rw [HKL.out]; exact Nat.le_refl _)
        generalize kidL ⟨x0, x1, x2, x3, x4, x5, x6⟩ = ks at *
        generalize arN x0 = ar at *
        go_wp2
        go_loopg [6, 8] (ar + 1) (fun gg p k wx => wx = w2 ∧ ∃ (m : Nat) (P : Int), m ≤ ar ∧ gg = m + 1 ∧ k = .int .i64 ((m : Int) - 1) ∧ p = .int .i64 P ∧ 0 ≤ P ∧ P ≤ i ∧ down st (ks.take m).reverse P = down st ks.reverse i)
        case atStart => exact ⟨rfl, ar, i, Nat.le_refl _, rfl, rfl, rfl, by omega, by omega, by rw [HTA.out]⟩
        case round =>
          obtain ⟨rfl, m, P, hm, rfl, rfl, rfl, hP0, hP1, hd⟩ := hrel
          have HD : Hid (down st (ks.take m).reverse P = down st ks.reverse i) := hd
          clear hd
          by_cases hm0 : m = 0
          · subst hm0
            have HQ : Hid (startsF ts (i + 1) = some (st ++ [P])) := by
              show startsF ts (i + 1) = _
              rw [HE.out, ← HD.out]
              rfl
            obtain ⟨i0, hi, hz0, hz1, hz2⟩ := info_parts info_int
            clear HE HD HTK HTA HKC HKL
            go_wp2_with (at_builtin; refine wpList_append_own _ rfl _ _ 41 rfl w.heap.size 3 i0 _ 1 8 Tryz.underlying41 hi hz0 hz1 hz2 rfl (by decide) _ _ _ rfl (HO2.out.alloc _) ⟨wr.heap.size, 0, none⟩ 1 1 [.int .i64 P] rfl rfl ?a1 ?a2 ?a3 ?a4 ?a5 ?_)
            case a1 =>
              intro j u hj
              match j, hj with
              | 0, hj => simp at hj; subst hj; simp [Addr.add]
            case a2 => intro u hu; simp at hu; subst hu; rfl
            case a3 => unfold maxLen; omega
            case a4 => omega
            case a5 => simp; omega
            intro v' W3 hown' hgrow _
            have HM : Hid (SAt ts w (ts.length - (i + 1)) v' (.int .i64 ((i + 1 : Nat) : Int)) W3) :=
              ⟨i + 1, st ++ [P], rfl, by omega, HQ.out, ownI_next P hown' (by omega) rfl, (hbel2.alloc (by omega) _).grown hgrow (by simp; omega) (fun q hq => (HO2.out.lt q hq).1)⟩
            clear hown' hgrow HQ HO2 hbel2 hi hz0 hz1 hz2
            go_wp2
            go_roundg (ts.length - (i + 1))
            case rel => exact HM.out
            case measure => omega
          · obtain ⟨q, rfl⟩ : ∃ q, m = q + 1 := ⟨m - 1, by omega⟩
            have hqa : (q : Int) < ar := by omega
            have hc := HKC.out q (by rw [HKL.out]; omega)
            have HDD : Hid (down st ((ks.take (q + 1)).reverse) P = if ks.getD q 0 = P - 1 ∧ 0 ≤ ks.getD q 0 then down st (ks.take q).reverse (st.getD (ks.getD q 0).toNat 0) else none) := by
              show down st ((ks.take (q + 1)).reverse) P = _
              rw [HTK.out q (by omega)]
              rfl
            have eq1 : ((q + 1 : Nat) : Int) - 1 = q := by omega
            rw [eq1]
            generalize ks.getD q 0 = c at *
            by_cases hcc : c = P - 1 ∧ 0 ≤ c
            · obtain ⟨hc1, hc0⟩ := hcc
              obtain ⟨cn, rfl⟩ := Int.eq_ofNat_of_zero_le hc0
              have hcn : cn < i := by omega
              obtain ⟨go, co, hu, hBg, hgl, hcells⟩ := ownI_form HO2.out (by omega)
              have hr := HSR.out cn hcn
              have hcell := hcells cn (by omega)
              have HDN : Hid (down st (ks.take q).reverse (st.getD cn 0) = down st ks.reverse i) := by
                show down st (ks.take q).reverse (st.getD cn 0) = _
                rw [← HD.out, HDD.out, if_pos ⟨hc1, hc0⟩]
                rfl
              have nq : ((cn : Int) != P - 1) = false := by simpa using hc1
              have nn : decide ((cn : Int) < 0) = false := decide_eq_false (by omega)
              have hcn' : (cn : Int) < st.length := by omega
              subst hu
              generalize st.getD cn 0 = P2 at *
              have HC1 : Hid ((cn : Int) = P - 1) := hc1
              clear hc1 hcells HDD HD HE
              go_wp2
              go_roundg (q + 1)
              case rel => exact ⟨rfl, q, P2, by omega, rfl, by go_num, rfl, hr.1, by omega, HDN.out⟩
              case measure => omega
            · have HZ : Hid (startsF ts ts.length = none) := by
                show startsF ts ts.length = none
                refine startsF_none ts (i + 1) ts.length (by omega) ?_
                rw [HE.out, ← HD.out, HDD.out, if_neg hcc]
                rfl
              clear HE HD HDD HTK HTA HKC HKL HO2
              by_cases hc1 : c = P - 1
              · have nq : (c != P - 1) = false := by simpa using hc1
                have hneg : c < 0 := by omega
                have HC1 : Hid (c = P - 1) := hc1
                clear hc1 hcc
                go_wp2
                go_ret2
                exact ⟨Or.inr ⟨_, HZ.out, rfl⟩, hbel2.alloc (by omega) _⟩
              · have nq : (c != P - 1) = true := by simpa using hc1
                clear hc1 hcc
                go_wp2
                go_ret2
                exact ⟨Or.inr ⟨_, HZ.out, rfl⟩, hbel2.alloc (by omega) _⟩
      · have hf' : fieldsB ⟨x0, x1, x2, x3, x4, x5, x6⟩ = false := by simpa using hf
        have HZ : Hid (startsF ts ts.length = none) := by
          show startsF ts ts.length = none
          refine startsF_none ts (i + 1) ts.length (by omega) ?_
          rw [HN.out, HS.out]
          simp only [Option.bind_some, stepS, if_neg hf]
          rfl
        rw [hf']
        clear hf hf' HN t1 HO1
        go_wp2
        go_ret2
        exact ⟨Or.inr ⟨_, HZ.out, rfl⟩, hbel1.alloc (by omega) _⟩
    · have e1 : (ts.length : Int) ≤ i := by omega
      obtain rfl : i = ts.length := by omega
      go_wp2
      go_ret2
      exact ⟨Or.inl ⟨st, _, HS.out, HO.out, rfl⟩, hbel⟩

/-- Is it a program? -/
def nodesB (ts : List Nod) : Bool := decide (1 ≤ ts.length ∧ ts.length ≤ 150) && (match startsF ts ts.length with | some st => st.getD (ts.length - 1) 0 == 0 | none => false)

theorem spec_nodes (a : Option Addr) (g cap : Nat) (ts : List Nod) (hne : 0 < ts.length → a = some ⟨g, 0, none⟩) (hl : ts.length ≤ 1048576)
    (hst : ∀ i, i < ts.length → (ts.getD i noNod).name.size ≤ maxLen ∧ (ts.getD i noNod).other.size ≤ maxLen) (w : World) (hA : NodAt w g ts) :
    Calls Tryz.prog 9 #[.slice a ts.length cap] w fun e w' => e = .returned (.bool (nodesB ts)) ∧ Below w.heap.size w w' := by
  have HA : Hid (NodAt w g ts) := hA
  have HT : Hid (∀ i, i < ts.length → (ts.getD i noNod).name.size ≤ maxLen ∧ (ts.getD i noNod).other.size ≤ maxLen) := hst
  have HN : Hid (nodesB ts = (decide (1 ≤ ts.length ∧ ts.length ≤ 150) && (match startsF ts ts.length with | some st => st.getD (ts.length - 1) 0 == 0 | none => false))) := rfl
  clear hA hst
  go_enter Tryz.func9, Tryz.ntmps9
  go_wp2_with fail
  refine (word_in _ _ _ _).mono ?_
  rintro e w1 ⟨rfl, rfl⟩
  by_cases hk : 1 ≤ ts.length ∧ ts.length ≤ 150
  · have d1 : (decide ((1 : Int) ≤ ts.length) && decide ((ts.length : Int) ≤ 150)) = true := by rw [decide_eq_true (by omega), decide_eq_true (by omega)]; rfl
    rw [d1]
    have HV : Hid (nodesB ts = (match startsF ts ts.length with | some st => st.getD (ts.length - 1) 0 == 0 | none => false)) := by
      show nodesB ts = _
      rw [HN.out, decide_eq_true hk, Bool.true_and]
    obtain ⟨hk1, hk2⟩ := hk
    clear d1 HN
    go_wp2_with fail
    refine (spec_starts a g cap ts hne (by omega) HT.out w1 HA.out).mono ?_
    rintro e w2 ⟨hend, hb2⟩
    rcases hend with ⟨st, v, hS, hown, rfl⟩ | ⟨v, hS, rfl⟩
    · obtain ⟨hsl, _⟩ := startsF_range ts _ st hS
      rw [hS] at HV
      simp only at HV
      obtain ⟨go, co, rfl, hBg, hgl, hcells⟩ := ownI_form hown (by omega)
      have hcell := hcells (ts.length - 1) (by omega)
      have e1 : (ts.length : Int) - 1 < st.length := by omega
      have e2 : (0 : Int) ≤ (ts.length : Int) - 1 := by omega
      generalize st.getD (ts.length - 1) 0 = P at *
      clear hS hown hcells
      go_wp2
      go_ret
      exact ⟨by rw [HV.out]; rfl, hb2⟩
    · rw [hS] at HV
      simp only at HV
      clear hS
      go_wp2
      go_ret
      exact ⟨by rw [HV.out]; rfl, hb2⟩
  · have d1 : (decide ((1 : Int) ≤ ts.length) && decide ((ts.length : Int) ≤ 150)) = false := by
      rw [← Bool.decide_and]
      exact decide_eq_false (by omega)
    rw [d1]
    have HV : Hid (nodesB ts = false) := by
      show nodesB ts = false
      rw [HN.out, decide_eq_false hk, Bool.false_and]
    clear HN d1 hk
    go_wp2
    go_ret
    exact ⟨by rw [HV.out]; rfl, Below.refl _ _⟩

/-- Where the part of node i begins; -1 where there is none. -/
def startB (ts : List Nod) (i : Int) : Int := if nodesB ts = true ∧ 0 ≤ i ∧ i ≤ (ts.length : Int) - 1 then (match startsF ts ts.length with | some st => st.getD i.toNat 0 | none => -1) else -1

theorem nodesB_starts {ts : List Nod} (h : nodesB ts = true) : 1 ≤ ts.length ∧ ts.length ≤ 150 ∧ ∃ st, startsF ts ts.length = some st := by
  unfold nodesB at h
  rw [Bool.and_eq_true, decide_eq_true_eq] at h
  obtain ⟨⟨h1, h2⟩, h3⟩ := h
  cases hs : startsF ts ts.length with
  | none => rw [hs] at h3; cases h3
  | some st => exact ⟨h1, h2, st, rfl⟩
end

section
open Go.ChangeShapes Go.WideShapes Go.ChangeAt Go.RowKit

/-- The text of nodes: that of the last one, where they are right. -/
def printB (ts : List Nod) : ByteArray := if nodesB ts = true then ⟨(textN ts ts.length (ts.length - 1)).toArray⟩ else ⟨#[]⟩

theorem nodesB_right {ts : List Nod} (h : nodesB ts = true) : 1 ≤ ts.length ∧ ts.length ≤ 150 ∧ ∃ st, Right ts st := by
  obtain ⟨h1, h2, st, hs⟩ := nodesB_starts h
  exact ⟨h1, h2, _, right_of (by omega) hs⟩

set_option maxRecDepth 20000 in
theorem spec_print (a : Option Addr) (g cap : Nat) (ts : List Nod) (hne : 0 < ts.length → a = some ⟨g, 0, none⟩) (hl : ts.length ≤ 1048576)
    (hst : ∀ i, i < ts.length → (ts.getD i noNod).name.size ≤ maxLen ∧ (ts.getD i noNod).other.size ≤ maxLen) (w : World) (hA : NodAt w g ts) :
    Calls Tryz.prog 59 #[.slice a ts.length cap] w fun e w' => e = .returned (.string (printB ts)) ∧ Below w.heap.size w w' := by
  have HA : Hid (NodAt w g ts) := hA
  have HC : Hid (Calls Tryz.prog 9 #[.slice a ts.length cap] w fun e w' => e = .returned (.bool (nodesB ts)) ∧ Below w.heap.size w w') := spec_nodes a g cap ts hne hl hst w hA
  clear hA hst
  cases hn : nodesB ts
  · have HN : Hid (printB ts = ⟨#[]⟩) := by
      show printB ts = _
      unfold printB
      rw [hn]
      rfl
    rw [hn] at HC
    clear hn
    go_enter Tryz.func59, Tryz.ntmps59
    go_wp2_with fail
    refine Calls.mono HC.out ?_
    rintro e w1 ⟨rfl, b1⟩
    go_wp2
    go_ret
    exact ⟨by rw [HN.out]; rfl, b1⟩
  · obtain ⟨l1, l2, st, hR⟩ := nodesB_right hn
    have HN : Hid (printB ts = ⟨(textN ts ts.length (ts.length - 1)).toArray⟩) := by
      show printB ts = _
      unfold printB
      rw [hn]
      rfl
    obtain rfl := hne (by omega)
    have HS : Hid (ShowAt ts g cap ts.length (ts.length - 1)) := spec_show hR g cap ts.length (ts.length - 1) (by omega) (by omega)
    rw [hn] at HC
    have hcast : ((ts.length - 1 : Nat) : Int) = (ts.length : Int) - 1 := by omega
    have hgl := HA.out.lt (by omega)
    clear hn hR
    go_enter Tryz.func59, Tryz.ntmps59
    go_wp2_with fail
    refine Calls.mono HC.out ?_
    rintro e w1 ⟨rfl, b1⟩
    have hS := HS.out w1 (HA.out.below b1 (fun _ => hgl))
    rw [hcast] at hS
    have HS2 : Hid (Calls Tryz.prog 102 #[.slice (some ⟨g, 0, none⟩) ts.length cap, .int .i64 ((ts.length : Int) - 1)] w1 _) := hS
    have s1 := b1.size
    clear hS hcast
    go_wp2_with fail
    refine Calls.mono HS2.out ?_
    rintro e w2 ⟨rfl, b2⟩
    have B2 : Hid (Below w.heap.size w w2) := b1.trans (b2.mono (by omega))
    clear b1 b2
    go_wp2
    go_ret
    exact ⟨by rw [HN.out]; rfl, B2.out⟩

theorem nodesB_zero {ts : List Nod} (h : nodesB ts = true) : 1 ≤ ts.length ∧ ts.length ≤ 150 ∧ ∃ st, Right ts st ∧ st.getD (ts.length - 1) 0 = 0 := by
  obtain ⟨h1, h2, st, hs⟩ := nodesB_starts h
  refine ⟨h1, h2, _, right_of (by omega) hs, ?_⟩
  unfold nodesB at h
  rw [hs, Bool.and_eq_true] at h
  have h3 : (st.getD (ts.length - 1) 0 == 0) = true := h.2
  rw [beq_iff_eq] at h3
  rw [getD_nat, h3]
  rfl
end

section
open Go.ChangeShapes Go.WideShapes Go.ChangeAt Go.RowKit

theorem wr_size : (Tryz.prog.info? 50).map (·.size) = some 2 := by kernel_rfl
theorem wr_lies : liesAt Tryz.prog Tryz.prog.depth 54 (4 / Tryz.prog.cellsOf 54) 0 50 1 = true := by kernel_rfl
theorem wr_u8 : (Tryz.prog.info? 5).map (fun i => (i.zero, i.size, i.bytes)) = some (some (.int .u8 0), 1, 1) := by kernel_rfl
theorem wr_cells8 : Tryz.prog.cellsOf 5 = 1 := by kernel_rfl

/-- A printer in block b: what its text is so far, whether a blank is due, its nodes; q tells what the builder's own address cell holds. -/
def PrA (q : Value) (B b : Nat) (bs : List UInt8) (ap : Bool) (nv : Value) (w : World) : Prop :=
  B ≤ b ∧ ∃ v, w.heap[b]? = some (.cells #[q, v, .bool ap, nv] 54 (0, 0)) ∧ w.ownsRowF B 5 1 v bs.length (Lib.byteCells bs)

def PrS (B b : Nat) (bs : List UInt8) (ap : Bool) (nv : Value) (w : World) : Prop := PrA (.pointer none) B b bs ap nv w ∨ PrA (.pointer (some ⟨b, 0, none⟩)) B b bs ap nv w

theorem PrA.ne {q : Value} {B b : Nat} {bs : List UInt8} {ap : Bool} {nv v : Value} {w : World} (hb : w.heap[b]? = some (.cells #[q, v, .bool ap, nv] 54 (0, 0))) (ho : w.ownsRowF B 5 1 v bs.length (Lib.byteCells bs)) : v.ownBlock ≠ some b := Lib.ownBlock_neF ho hb (by decide)

/-- What a writer leaves as it was: all below B, and every block but the printer's and rows of bytes. -/
structure Fr (B b : Nat) (w w' : World) : Prop where
  bel : Below B w w'
  oth : Lib.OthersKept 5 (some b) w w'

theorem Fr.refl (B b : Nat) (w : World) : Fr B b w w := ⟨Below.refl B w, Lib.OthersKept.refl _ _ w⟩
theorem Fr.trans {B b : Nat} {u v w : World} (h : Fr B b u v) (k : Fr B b v w) : Fr B b u w := ⟨h.bel.trans k.bel, h.oth.trans k.oth⟩

theorem oth_of_below {w w' : World} (h : Below w.heap.size w w') (e : TypeId) (b : Option Nat) : Lib.OthersKept e b w w' := by
  intro k o hk _ _
  rw [h.block k (Array.getElem?_eq_some_iff.1 hk).1]
  exact hk

theorem Fr.of_below {B b : Nat} {w w' : World} (hB : B ≤ w.heap.size) (h : Below w.heap.size w w') : Fr B b w w' := ⟨h.mono hB, oth_of_below h _ _⟩

/-- A block that is no printer's and no row of bytes stands. -/
theorem Fr.row {B b g : Nat} {w w' : World} (h : Fr B b w w') {cs : Array Value} {t : TypeId} {z : Nat × Nat} (hg : w.heap[g]? = some (.cells cs t z)) (hne : g ≠ b) (ht : t ≠ 5) : w'.heap[g]? = some (.cells cs t z) :=
  h.oth g _ hg (fun e => hne (Option.some.inj e)) (fun c fz e => ht (by injection e))

theorem own_below {w w' : World} {B : Nat} {e : TypeId} {v : Value} {n : Nat} {xs : List Value} (h : w.ownsRowF B e 1 v n xs) (hb : Below w.heap.size w w') : w'.ownsRowF B e 1 v n xs := by
  refine ⟨h.1, ?_⟩
  rcases h.2 with hn | ⟨g, cap, cur, fz, hv, hbg, hg, rest⟩
  · exact Or.inl hn
  · exact Or.inr ⟨g, cap, cur, fz, hv, hbg, (hb.block g (Array.getElem?_eq_some_iff.1 hg).1).trans hg, rest⟩

theorem PrA.below {q : Value} {B b : Nat} {bs : List UInt8} {ap : Bool} {nv : Value} {w w' : World} (h : PrA q B b bs ap nv w) (hb : Below w.heap.size w w') : PrA q B b bs ap nv w' := by
  obtain ⟨hB, v, hk, ho⟩ := h
  exact ⟨hB, v, (hb.block b (Array.getElem?_eq_some_iff.1 hk).1).trans hk, own_below ho hb⟩

theorem PrS.below {B b : Nat} {bs : List UInt8} {ap : Bool} {nv : Value} {w w' : World} (h : PrS B b bs ap nv w) (hb : Below w.heap.size w w') : PrS B b bs ap nv w' := h.elim (fun x => Or.inl (x.below hb)) (fun x => Or.inr (x.below hb))

theorem PrS.drew {B b : Nat} {bs : List UInt8} {ap : Bool} {nv : Value} {w : World} (h : PrS B b bs ap nv w) : PrS B b bs ap nv w.drew := h

theorem PrS.at {B b : Nat} {bs : List UInt8} {ap : Bool} {nv : Value} {w : World} (h : PrS B b bs ap nv w) : ∃ q, PrA q B b bs ap nv w := h.elim (fun x => ⟨_, x⟩) (fun x => ⟨_, x⟩)

theorem PrS.lt {B b : Nat} {bs : List UInt8} {ap : Bool} {nv : Value} {w : World} (h : PrS B b bs ap nv w) : B ≤ b ∧ b < w.heap.size := by
  obtain ⟨q, hB, v, hk, _⟩ := h.at
  exact ⟨hB, (Array.getElem?_eq_some_iff.1 hk).1⟩

theorem PrS.cells {B b : Nat} {bs : List UInt8} {ap : Bool} {nv : Value} {w : World} (h : PrS B b bs ap nv w) : w.cell? ⟨b, 2, none⟩ = some (.bool ap) ∧ w.cell? ⟨b, 3, none⟩ = some nv ∧ w.frozen? ⟨b, 2, none⟩ = false := by
  obtain ⟨q, hB, v, hk, _⟩ := h.at
  refine ⟨?_, ?_, Lib.frozen_of_heap hk 2⟩ <;> (rw [Lib.cell_of_heap hk]; rfl)

theorem pr_set {b i : Nat} {cs : Array Value} {t : TypeId} {w : World} (hk : w.heap[b]? = some (.cells cs t (0, 0))) (x : Value) : (w.setCell ⟨b, i, none⟩ x).heap[b]? = some (.cells (cs.setIfInBounds i x) t (0, 0)) := by
  have hlt := (Array.getElem?_eq_some_iff.1 hk).1
  have he := (Array.getElem?_eq_some_iff.1 hk).2
  simp only [World.setCell]
  rw [Array.getElem?_modify]
  simp [hk]

theorem own_set {w : World} {B b i : Nat} {e : TypeId} {v : Value} {n : Nat} {xs : List Value} (h : w.ownsRowF B e 1 v n xs) (hne : v.ownBlock ≠ some b) (x : Value) : (w.setCell ⟨b, i, none⟩ x).ownsRowF B e 1 v n xs := by
  refine ⟨h.1, ?_⟩
  rcases h.2 with hn | ⟨g, cap, cur, fz, hv, hbg, hg, rest⟩
  · exact Or.inl hn
  · refine Or.inr ⟨g, cap, cur, fz, hv, hbg, ?_, rest⟩
    rw [Below.heap_setCell]
    · exact hg
    · intro e1
      apply hne
      rw [hv]
      simp only [Value.ownBlock]
      congr 1

theorem PrS.apart {B b : Nat} {bs : List UInt8} {ap : Bool} {nv : Value} {w : World} (h : PrS B b bs ap nv w) (x : Bool) : PrS B b bs x nv (w.setCell ⟨b, 2, none⟩ (.bool x)) := by
  rcases h with ⟨hB, v, hk, ho⟩ | ⟨hB, v, hk, ho⟩
  · exact Or.inl ⟨hB, v, by rw [pr_set hk]; rfl, own_set ho (PrA.ne hk ho) _⟩
  · exact Or.inr ⟨hB, v, by rw [pr_set hk]; rfl, own_set ho (PrA.ne hk ho) _⟩

theorem Fr.set {B b i : Nat} {u w : World} (h : Fr B b u w) (hB : B ≤ b) (x : Value) : Fr B b u (w.setCell ⟨b, i, none⟩ x) := ⟨h.bel.setCell (p := ⟨b, i, none⟩) hB x, h.oth.setCell ⟨b, i, none⟩ rfl x⟩

set_option maxRecDepth 100000 in
theorem wr_used (b : Nat) (w : World) (h0 : w.cell? ⟨b, 0, none⟩ = some (.pointer (some ⟨b, 0, none⟩))) :
    Calls Tryz.prog 76 #[.pointer (some ⟨b, 0, none⟩)] w fun e w' => e = .returned (.tuple #[]) ∧ w' = w := by
  obtain ⟨j, hj, _⟩ := Option.map_eq_some_iff.1 wr_size
  go_enter Tryz.func76, Tryz.ntmps76
  go_wp2
  rw [Lib.run_neq_ptr_same w _ Tryz.underlying48 hj]
  go_wp2
  go_end0
  exact ⟨rfl, rfl⟩

set_option maxRecDepth 100000 in
theorem wr_fresh (b : Nat) (w : World) (h0 : w.cell? ⟨b, 0, none⟩ = some (.pointer none)) (hsh : w.shape? b = some (54, 4)) (hfz : w.frozen? ⟨b, 0, none⟩ = false) :
    Calls Tryz.prog 76 #[.pointer (some ⟨b, 0, none⟩)] w fun e w' => e = .returned (.tuple #[]) ∧ w' = w.setCell ⟨b, 0, none⟩ (.pointer (some ⟨b, 0, none⟩)) := by
  obtain ⟨j, hj, hjs⟩ := Option.map_eq_some_iff.1 wr_size
  go_enter Tryz.func76, Tryz.ntmps76
  go_wp2
  rw [Lib.run_to_unsafe w ⟨b, 0, none⟩ Tryz.underlying48 Tryz.underlying137 hj (by rw [hjs]; decide) hsh (Nat.zero_lt_succ 3)]
  simp only [Result.andThen]
  rw [Oper.upon_value]
  go_wp2
  rw [run_callFunc_extern Tryz.func108 (by kernel_rfl) (by kernel_rfl) (by kernel_rfl) (e := Extern.AbiNoEscape.same) (by kernel_rfl)]
  rw [Lib.run_noEscape]
  simp only [Result.andThen]
  rw [Oper.upon_value]
  go_wp2
  rw [Lib.run_from_unsafe w ⟨b, 0, none⟩ Tryz.underlying137 Tryz.underlying48 hj hsh wr_lies]
  simp only [Result.andThen]
  rw [Oper.upon_value]
  go_wp2
  go_end0
  exact ⟨rfl, rfl⟩

theorem wr_check (B b : Nat) (bs : List UInt8) (ap : Bool) (nv : Value) (w : World) (h : PrS B b bs ap nv w) :
    Calls Tryz.prog 76 #[.pointer (some ⟨b, 0, none⟩)] w fun e w' => e = .returned (.tuple #[]) ∧ PrA (.pointer (some ⟨b, 0, none⟩)) B b bs ap nv w' ∧ Fr B b w w' := by
  rcases h with ⟨hB, v, hk, ho⟩ | ⟨hB, v, hk, ho⟩
  · refine (wr_fresh b w (by rw [Lib.cell_of_heap hk]; rfl) (by simp [World.shape?, hk]) (Lib.frozen_of_heap hk 0)).mono ?_
    rintro e w' ⟨rfl, rfl⟩
    exact ⟨rfl, ⟨hB, v, by rw [pr_set hk]; rfl, own_set ho (PrA.ne hk ho) _⟩, (Fr.refl B b w).set hB _⟩
  · refine (wr_used b w (by rw [Lib.cell_of_heap hk]; rfl)).mono ?_
    rintro e w' ⟨rfl, rfl⟩
    exact ⟨rfl, ⟨hB, v, hk, ho⟩, Fr.refl B b _⟩

theorem pr_put {B b : Nat} {bs : List UInt8} {ap : Bool} {nv q v v' : Value} {w : World} (hB : B ≤ b) (hk : w.heap[b]? = some (.cells #[q, v, .bool ap, nv] 54 (0, 0))) (ho : w.ownsRowF B 5 1 v' bs.length (Lib.byteCells bs)) : PrA q B b bs ap nv (w.setCell ⟨b, 1, none⟩ v') :=
  ⟨hB, v', by rw [pr_set hk]; rfl, own_set ho (Lib.ownBlock_neF ho hk (by decide)) _⟩

set_option maxHeartbeats 2000000 in
set_option maxRecDepth 100000 in
theorem wr_byte (B b : Nat) (bs : List UInt8) (ap : Bool) (nv : Value) (c : UInt8) (w : World) (h : PrS B b bs ap nv w) (hlen : bs.length + 1 ≤ 140737488355328) (hBw : B ≤ w.heap.size) :
    Calls Tryz.prog 37 #[.pointer (some ⟨b, 0, none⟩), .int .u8 c.toNat] w fun e w' => e = .returned .nilIface ∧ PrS B b (bs ++ [c]) ap nv w' ∧ Fr B b w w' := by
  obtain ⟨i0, hi, hz0, hz1, hz2⟩ := info_parts wr_u8
  go_enter Tryz.func37, Tryz.ntmps37
  go_wp2_with fail
  refine (wr_check B b bs ap nv _ h).mono ?_
  rintro e w1 ⟨rfl, h1, hb1⟩
  obtain ⟨hB, v, hbk, hown⟩ := h1
  have hne := PrA.ne hbk hown
  have c0 : w1.cell? ⟨b, 0, none⟩ = some (.pointer (some ⟨b, 0, none⟩)) := by rw [Lib.cell_of_heap hbk]; rfl
  have c1 : w1.cell? ⟨b, 1, none⟩ = some v := by rw [Lib.cell_of_heap hbk]; rfl
  have hbl := Lib.byteCells_length bs
  go_wp2_with (at_builtin; refine wpList_append_ownF _ rfl _ _ 22 rfl B 5 i0 (.int .u8 0) 1 1 Tryz.underlying22 hi hz0 hz1 hz2 rfl (by decide) _ _ _ rfl (hown.alloc _) ⟨w1.heap.size, 0, none⟩ 1 1 [.int .u8 c.toNat] rfl rfl ?c1 ?c2 ?c3 ?c4 ?c5 ?_)
  case c1 =>
    intro j u hj
    match j, hj with
    | 0, hj => simp at hj; subst hj; simp [Addr.add]
  case c2 => intro u hu; simp at hu; subst hu; rfl
  case c3 => unfold maxLen; omega
  case c4 => omega
  case c5 => have := hb1.bel.size; simp; omega
  intro v' w2 hown' hgrow _
  have hlt : b < w1.heap.size := (Array.getElem?_eq_some_iff.1 hbk).1
  have hb2 : w2.heap[b]? = some (.cells #[.pointer (some ⟨b, 0, none⟩), v, .bool ap, nv] 54 (0, 0)) := by
    rw [hgrow.block b (by simp; omega) (fun e => hne e.symm), Lib.alloc_old w1 _ b hlt]
    exact hbk
  have d0 : w2.cell? ⟨b, 0, none⟩ = some (.pointer (some ⟨b, 0, none⟩)) := by rw [Lib.cell_of_heap hb2]; rfl
  have d1 : w2.cell? ⟨b, 1, none⟩ = some v := by rw [Lib.cell_of_heap hb2]; rfl
  have f1 : w2.frozen? ⟨b, 1, none⟩ = false := Lib.frozen_of_heap hb2 1
  obtain ⟨g, cap, rfl⟩ : ∃ g cap, v' = .slice (some ⟨g, 0, none⟩) (bs.length + 1) cap := by
    rcases hown'.2 with ⟨_, h0⟩ | ⟨g, cap, cur, fz, hv, _⟩
    · omega
    · exact ⟨g, cap, hv⟩
  go_wp2
  go_ret
  refine ⟨rfl, Or.inr (pr_put hB hb2 (by rw [Lib.byteCells_append, List.length_append]; exact hown')), hb1.trans ⟨?_, ?_⟩⟩
  · exact (((Below.refl B w1).alloc (by have := hb1.bel.size; omega) _).grown hgrow (by have := hb1.bel.size; simp; omega) (fun k hk => (hown.lt k hk).1)).setCell (p := ⟨b, 1, none⟩) hB _
  · exact ((((Lib.OthersKept.refl _ _ w1).alloc _).grown hgrow (Lib.ownsRowF_kind (hown.alloc _)))).setCell ⟨b, 1, none⟩ rfl _

set_option maxHeartbeats 2000000 in
set_option maxRecDepth 100000 in
theorem wr_text (B b : Nat) (bs : List UInt8) (ap : Bool) (nv : Value) (s : ByteArray) (w : World) (h : PrS B b bs ap nv w) (hlen : bs.length + s.size ≤ 140737488355328) (hBw : B ≤ w.heap.size) :
    Calls Tryz.prog 38 #[.pointer (some ⟨b, 0, none⟩), .string s] w fun e w' => e = .returned (.tuple #[.int .i64 s.size, .nilIface]) ∧ PrS B b (bs ++ s.data.toList) ap nv w' ∧ Fr B b w w' := by
  obtain ⟨i0, hi, hz0, hz1, hz2⟩ := info_parts wr_u8
  go_enter Tryz.func38, Tryz.ntmps38
  go_wp2_with fail
  refine (wr_check B b bs ap nv _ h).mono ?_
  rintro e w1 ⟨rfl, h1, hb1⟩
  obtain ⟨hB, v, hbk, hown⟩ := h1
  have hne := PrA.ne hbk hown
  have c0 : w1.cell? ⟨b, 0, none⟩ = some (.pointer (some ⟨b, 0, none⟩)) := by rw [Lib.cell_of_heap hbk]; rfl
  have c1 : w1.cell? ⟨b, 1, none⟩ = some v := by rw [Lib.cell_of_heap hbk]; rfl
  have hbl := Lib.byteCells_length bs
  go_wp2_with (at_builtin; refine Lib.wpList_append_own_stringF _ rfl _ _ 22 9 rfl B 5 i0 Tryz.underlying22 Tryz.underlying9 hi hz0 hz1 hz2 _ _ _ rfl hown s rfl ?c3 ?c4 ?c5 ?_)
  case c3 => unfold maxLen; omega
  case c4 => omega
  case c5 => have := hb1.bel.size; omega
  intro v' w2 hown' hgrow _
  have hlt : b < w1.heap.size := (Array.getElem?_eq_some_iff.1 hbk).1
  have hb2 : w2.heap[b]? = some (.cells #[.pointer (some ⟨b, 0, none⟩), v, .bool ap, nv] 54 (0, 0)) := by
    rw [hgrow.block b hlt (fun e => hne e.symm)]
    exact hbk
  have d0 : w2.cell? ⟨b, 0, none⟩ = some (.pointer (some ⟨b, 0, none⟩)) := by rw [Lib.cell_of_heap hb2]; rfl
  have d1 : w2.cell? ⟨b, 1, none⟩ = some v := by rw [Lib.cell_of_heap hb2]; rfl
  have f1 : w2.frozen? ⟨b, 1, none⟩ = false := Lib.frozen_of_heap hb2 1
  obtain ⟨ao, n', cap, rfl⟩ : ∃ ao n' cap, v' = .slice ao n' cap := by
    rcases hown'.2 with ⟨hv, _⟩ | ⟨g, cap, cur, fz, hv, _⟩
    · exact ⟨_, _, _, hv⟩
    · exact ⟨_, _, _, hv⟩
  go_wp2
  go_ret2
  refine ⟨rfl, Or.inr (pr_put hB hb2 ?_), hb1.trans ⟨?_, ?_⟩⟩
  · rw [Lib.byteCells_append, List.length_append, Array.length_toList]
    simpa [Lib.strCells, Lib.byteCells] using hown'
  · exact ((Below.refl B w1).grown hgrow (by have := hb1.bel.size; omega) (fun k hk => (hown.lt k hk).1)).setCell (p := ⟨b, 1, none⟩) hB _
  · exact ((Lib.OthersKept.refl _ _ w1).grown hgrow (Lib.ownsRowF_kind hown)).setCell ⟨b, 1, none⟩ rfl _

/-- A blank where one is due. -/
def due (ap : Bool) : List UInt8 := if ap = true then [32] else []

set_option maxRecDepth 20000 in
theorem wr_word (B b : Nat) (bs : List UInt8) (ap : Bool) (nv : Value) (s : ByteArray) (w : World) (h : PrS B b bs ap nv w) (hlen : bs.length + s.size + 1 ≤ 140737488355328) (hBw : B ≤ w.heap.size) :
    Calls Tryz.prog 50 #[.pointer (some ⟨b, 0, none⟩), .string s] w fun e w' => e = .returned (.tuple #[]) ∧ PrS B b (bs ++ due ap ++ s.data.toList) true nv w' ∧ Fr B b w w' := by
  have hB := h.lt.1
  obtain ⟨q2, q3, q4⟩ := h.cells
  cases ap
  · go_enter Tryz.func50, Tryz.ntmps50
    go_wp2_with fail
    refine (wr_text B b bs false nv s w h (by omega) hBw).mono ?_
    rintro e w1 ⟨rfl, h1, f1⟩
    have A1 : Hid (PrS B b (bs ++ s.data.toList) true nv (w1.setCell ⟨b, 2, none⟩ (.bool true))) := h1.apart true
    have F1 : Hid (Fr B b w (w1.setCell ⟨b, 2, none⟩ (.bool true))) := f1.set hB _
    obtain ⟨r2, r3, r4⟩ := h1.cells
    clear q2 q3 q4 h1 f1 h
    go_wp2
    go_end0
    exact ⟨rfl, by simpa [due] using A1.out, F1.out⟩
  · go_enter Tryz.func50, Tryz.ntmps50
    go_wp2_with fail
    refine (wr_byte B b bs true nv 32 w h (by omega) hBw).mono ?_
    rintro e w1 ⟨rfl, h1, f1⟩
    clear q2 q3 q4 h
    have s1 := f1.bel.size
    go_wp2_with fail
    refine (wr_text B b (bs ++ [32]) true nv s w1 h1 (by simp; omega) (by omega)).mono ?_
    rintro e w2 ⟨rfl, h2, f2⟩
    have A1 : Hid (PrS B b (bs ++ [32] ++ s.data.toList) true nv (w2.setCell ⟨b, 2, none⟩ (.bool true))) := h2.apart true
    have F1 : Hid (Fr B b w (w2.setCell ⟨b, 2, none⟩ (.bool true))) := (f1.trans f2).set hB _
    obtain ⟨r2, r3, r4⟩ := h2.cells
    clear h1 f1 h2 f2
    go_wp2
    go_end0
    exact ⟨rfl, by simpa [due] using A1.out, F1.out⟩

set_option maxRecDepth 20000 in
theorem wr_open (B b : Nat) (bs : List UInt8) (ap : Bool) (nv : Value) (w : World) (h : PrS B b bs ap nv w) (hlen : bs.length + 2 ≤ 140737488355328) (hBw : B ≤ w.heap.size) :
    Calls Tryz.prog 88 #[.pointer (some ⟨b, 0, none⟩)] w fun e w' => e = .returned (.tuple #[]) ∧ PrS B b (bs ++ due ap ++ [40]) false nv w' ∧ Fr B b w w' := by
  have hB := h.lt.1
  go_enter Tryz.func88, Tryz.ntmps88
  go_wp2_with fail
  refine (wr_word B b bs ap nv _ w h (by show bs.length + 1 + 1 ≤ _; omega) hBw).mono ?_
  rintro e w1 ⟨rfl, h1, f1⟩
  have A1 : Hid (PrS B b (bs ++ due ap ++ [40]) false nv (w1.setCell ⟨b, 2, none⟩ (.bool false))) := h1.apart false
  have F1 : Hid (Fr B b w (w1.setCell ⟨b, 2, none⟩ (.bool false))) := f1.set hB _
  obtain ⟨r2, r3, r4⟩ := h1.cells
  clear h1 f1 h
  go_wp2
  go_end0
  exact ⟨rfl, A1.out, F1.out⟩

set_option maxRecDepth 20000 in
theorem wr_shut (B b : Nat) (bs : List UInt8) (ap : Bool) (nv : Value) (w : World) (h : PrS B b bs ap nv w) (hlen : bs.length + 1 ≤ 140737488355328) (hBw : B ≤ w.heap.size) :
    Calls Tryz.prog 91 #[.pointer (some ⟨b, 0, none⟩)] w fun e w' => e = .returned (.tuple #[]) ∧ PrS B b (bs ++ [41]) true nv w' ∧ Fr B b w w' := by
  have hB := h.lt.1
  go_enter Tryz.func91, Tryz.ntmps91
  go_wp2_with fail
  refine (wr_byte B b bs ap nv 41 w h hlen hBw).mono ?_
  rintro e w1 ⟨rfl, h1, f1⟩
  have A1 : Hid (PrS B b (bs ++ [41]) true nv (w1.setCell ⟨b, 2, none⟩ (.bool true))) := h1.apart true
  have F1 : Hid (Fr B b w (w1.setCell ⟨b, 2, none⟩ (.bool true))) := f1.set hB _
  obtain ⟨r2, r3, r4⟩ := h1.cells
  clear h1 f1 h
  go_wp2
  go_end0
  exact ⟨rfl, A1.out, F1.out⟩

set_option maxHeartbeats 1000000 in
set_option maxRecDepth 100000 in
theorem wr_string (B b : Nat) (l : List UInt8) (ap : Bool) (nv : Value) (w : World) (h : PrS B b l ap nv w) (h0 : l ≠ []) :
    Calls Tryz.prog 27 #[.pointer (some ⟨b, 0, none⟩)] w fun e w' => e = .returned (.string ⟨l.toArray⟩) ∧ Below B w w' := by
  obtain ⟨q, hB, v, hbk, hown⟩ := h.at
  have hl0 : l.length ≠ 0 := by simpa using h0
  obtain ⟨g, cap, cur, fz, rfl, hbg, hg, hfz, hnc, hcm, hcs, htake⟩ : ∃ g cap cur fz, v = .slice (some ⟨g, 0, none⟩) l.length cap ∧ B ≤ g ∧ w.heap[g]? = some (.cells cur 5 fz) ∧ fz.2 ≤ l.length * 1 ∧ l.length ≤ cap ∧ cap ≤ maxLen ∧ cur.size = cap * 1 ∧ cur.toList.take (l.length * 1) = Lib.byteCells l := by
    rcases hown.2 with ⟨_, hz⟩ | ⟨g, cap, cur, fz, hv, r⟩
    · exact absurd hz hl0
    · exact ⟨g, cap, cur, fz, hv, r⟩
  have c1 : w.drew.cell? ⟨b, 1, none⟩ = some (.slice (some ⟨g, 0, none⟩) l.length cap) := by
    have : w.drew.heap[b]? = some (.cells #[q, .slice (some ⟨g, 0, none⟩) l.length cap, .bool ap, nv] 54 (0, 0)) := hbk
    rw [Lib.cell_of_heap this]; rfl
  have hSD : (Builtin.unsafeSliceData_ #[22] 104 #[.slice (some ⟨g, 0, none⟩) l.length cap]).run Tryz.prog w.drew = .ok (.pointer (some ⟨g, 0, none⟩)) w.drew :=
    Lib.run_unsafeSliceData_row _ _ _ _ _ _ (by omega)
  have hUS : (Builtin.unsafeString_ #[104, 3] 9 #[.pointer (some ⟨g, 0, none⟩), .int .i64 l.length]).run Tryz.prog w.drew = .ok (.string ⟨l.toArray⟩) (w.drew.freeze ⟨g, 0, none⟩ l.length) := by
    refine Lib.run_unsafeString_row w.drew 104 3 9 5 Tryz.underlying104 wr_cells8 g cur.size (by have hg' : w.drew.heap[g]? = some (.cells cur 5 fz) := hg; simp [World.shape?, hg']) l h0 (by omega) (by unfold maxLen at hcm; omega) ?_
    intro j x hx
    have := hown.cells (g := g) rfl j (.int .u8 x.toNat) (by simp [Lib.byteCells, hx])
    exact this
  clear h hown hbk hg hfz hcs htake
  have mixed : Tryz.prog.follows Departure.mixedOrders = true := by kernel_rfl
  go_enter Tryz.func27, Tryz.ntmps27
  go_wp2
  go_region_o
  all_goals (go_wp2; go_ret; exact ⟨rfl, Lib.below_freeze (Below.drew (Below.refl B w)) (p := ⟨g, 0, none⟩) hbg _⟩)
end

section
open Go.ChangeShapes Go.WideShapes Go.ChangeAt Go.RowKit

theorem impl_keyPrim (n : Int) (w : World) : Calls Tryz.prog 86 #[.int .i64 n] w fun e w' => e = .returned (.string (keyN 8 n)) ∧ w' = w := by
  by_cases h0 : n = 0
  · subst h0
    go_enter Tryz.func86, Tryz.ntmps86
    go_wp2
    go_ret
    exact ⟨rfl, rfl⟩
  by_cases h1 : n = 1
  · subst h1
    go_enter Tryz.func86, Tryz.ntmps86
    go_wp2
    go_ret
    exact ⟨rfl, rfl⟩
  by_cases h2 : n = 2
  · subst h2
    go_enter Tryz.func86, Tryz.ntmps86
    go_wp2
    go_ret
    exact ⟨rfl, rfl⟩
  by_cases h3 : n = 3
  · subst h3
    go_enter Tryz.func86, Tryz.ntmps86
    go_wp2
    go_ret
    exact ⟨rfl, rfl⟩
  have hv : Hid (keyN 8 n = ⟨#[]⟩) := keyN_prim_no (by omega)
  have g0 : (n == 0) = false := by simpa using h0
  have g1 : (n == 1) = false := by simpa using h1
  have g2 : (n == 2) = false := by simpa using h2
  have g3 : (n == 3) = false := by simpa using h3
  clear h0 h1 h2 h3
  go_enter Tryz.func86, Tryz.ntmps86
  go_wp2
  go_ret
  exact ⟨by rw [hv.out]; rfl, rfl⟩

set_option maxHeartbeats 2000000 in
theorem impl_keyOf (k a b c n : Int) (s o : ByteArray) (w : World) : Calls Tryz.prog 52 #[.agg #[.int .i64 k, .int .i64 a, .int .i64 b, .int .i64 c, .int .i64 n, .string s, .string o]] w fun e w' => e = .returned (.string (keyN k n)) ∧ Below w.heap.size w w' := by
  have HB : Hid (Below w.heap.size w (w.alloc (.cells #[.int .i64 k, .int .i64 a, .int .i64 b, .int .i64 c, .int .i64 n, .string s, .string o] 44))) := (Below.refl _ w).alloc (Nat.le_refl _) _
  by_cases h8 : k = 8
  · subst h8
    go_enter Tryz.func52, Tryz.ntmps52
    go_wp2_with fail
    refine (impl_keyPrim n _).mono ?_
    rintro e w1 ⟨rfl, rfl⟩
    go_wp2
    go_ret
    exact ⟨rfl, HB.out⟩
  by_cases h3 : k = 3
  · subst h3
    go_enter Tryz.func52, Tryz.ntmps52
    go_wp2
    go_ret
    exact ⟨rfl, HB.out⟩
  by_cases h4 : k = 4
  · subst h4
    go_enter Tryz.func52, Tryz.ntmps52
    go_wp2
    go_ret
    exact ⟨rfl, HB.out⟩
  by_cases h5 : k = 5
  · subst h5
    go_enter Tryz.func52, Tryz.ntmps52
    go_wp2
    go_ret
    exact ⟨rfl, HB.out⟩
  by_cases h6 : k = 6
  · subst h6
    go_enter Tryz.func52, Tryz.ntmps52
    go_wp2
    go_ret
    exact ⟨rfl, HB.out⟩
  by_cases h7 : k = 7
  · subst h7
    go_enter Tryz.func52, Tryz.ntmps52
    go_wp2
    go_ret
    exact ⟨rfl, HB.out⟩
  by_cases h9 : k = 9
  · subst h9
    go_enter Tryz.func52, Tryz.ntmps52
    go_wp2
    go_ret
    exact ⟨rfl, HB.out⟩
  by_cases h10 : k = 10
  · subst h10
    go_enter Tryz.func52, Tryz.ntmps52
    go_wp2
    go_ret
    exact ⟨rfl, HB.out⟩
  by_cases h11 : k = 11
  · subst h11
    go_enter Tryz.func52, Tryz.ntmps52
    go_wp2
    go_ret
    exact ⟨rfl, HB.out⟩
  by_cases h12 : k = 12
  · subst h12
    go_enter Tryz.func52, Tryz.ntmps52
    go_wp2
    go_ret
    exact ⟨rfl, HB.out⟩
  by_cases h13 : k = 13
  · subst h13
    go_enter Tryz.func52, Tryz.ntmps52
    go_wp2
    go_ret
    exact ⟨rfl, HB.out⟩
  by_cases h14 : k = 14
  · subst h14
    go_enter Tryz.func52, Tryz.ntmps52
    go_wp2
    go_ret
    exact ⟨rfl, HB.out⟩
  by_cases h15 : k = 15
  · subst h15
    go_enter Tryz.func52, Tryz.ntmps52
    go_wp2
    go_ret
    exact ⟨rfl, HB.out⟩
  by_cases h16 : k = 16
  · subst h16
    go_enter Tryz.func52, Tryz.ntmps52
    go_wp2
    go_ret
    exact ⟨rfl, HB.out⟩
  by_cases h17 : k = 17
  · subst h17
    go_enter Tryz.func52, Tryz.ntmps52
    go_wp2
    go_ret
    exact ⟨rfl, HB.out⟩
  by_cases h18 : k = 18
  · subst h18
    go_enter Tryz.func52, Tryz.ntmps52
    go_wp2
    go_ret
    exact ⟨rfl, HB.out⟩
  by_cases h19 : k = 19
  · subst h19
    go_enter Tryz.func52, Tryz.ntmps52
    go_wp2
    go_ret
    exact ⟨rfl, HB.out⟩
  have hv : Hid (keyN k n = ⟨#[]⟩) := keyN_no n (by omega)
  have g3 : (k == 3) = false := by simpa using h3
  have g4 : (k == 4) = false := by simpa using h4
  have g5 : (k == 5) = false := by simpa using h5
  have g6 : (k == 6) = false := by simpa using h6
  have g7 : (k == 7) = false := by simpa using h7
  have g8 : (k == 8) = false := by simpa using h8
  have g9 : (k == 9) = false := by simpa using h9
  have g10 : (k == 10) = false := by simpa using h10
  have g11 : (k == 11) = false := by simpa using h11
  have g12 : (k == 12) = false := by simpa using h12
  have g13 : (k == 13) = false := by simpa using h13
  have g14 : (k == 14) = false := by simpa using h14
  have g15 : (k == 15) = false := by simpa using h15
  have g16 : (k == 16) = false := by simpa using h16
  have g17 : (k == 17) = false := by simpa using h17
  have g18 : (k == 18) = false := by simpa using h18
  have g19 : (k == 19) = false := by simpa using h19
  clear h3 h4 h5 h6 h7 h8 h9 h10 h11 h12 h13 h14 h15 h16 h17 h18 h19
  go_enter Tryz.func52, Tryz.ntmps52
  go_wp2
  go_ret
  exact ⟨by rw [hv.out]; rfl, HB.out⟩
end

section
open Go.ChangeShapes Go.WideShapes Go.ChangeAt Go.RowKit

theorem impl_let_yes (b : Int) (h1 : 97 ≤ b) (h2 : b ≤ 122) (w : World) :
    Calls Tryz.prog 70 #[.int .u8 b] w fun e w' => e = .returned (.bool true) ∧ w' = w := by
  go_enter Tryz.func70, Tryz.ntmps70
  go_wp2
  go_ret
  exact ⟨rfl, rfl⟩

theorem impl_let_no (b : Int) (h : b < 97 ∨ 122 < b) (w : World) :
    Calls Tryz.prog 70 #[.int .u8 b] w fun e w' => e = .returned (.bool false) ∧ w' = w := by
  by_cases h1 : b < 97
  · go_enter Tryz.func70, Tryz.ntmps70
    go_wp2
    go_ret
    exact ⟨rfl, rfl⟩
  · have h2 : 122 < b := by omega
    have e : Ending.returned (Value.bool (decide (b ≤ 122))) = Ending.returned (Value.bool false) := by rw [decide_eq_false (by omega)]
    go_enter Tryz.func70, Tryz.ntmps70
    go_wp2
    go_ret
    exact ⟨e, rfl⟩

theorem impl_front_let (s : ByteArray) (hs : s.size ≤ maxLen) (w : World) :
    Calls Tryz.prog 71 #[.string s, .func (.func 70) #[] #[]] w fun e w' => (∃ n : Nat, RunTo lowA s 0 n ∧ e = .returned (.int .i64 n)) ∧ w' = w := by
  unfold maxLen at hs
  go_enter Tryz.func71, Tryz.ntmps71
  go_wp2
  go_loop [5] (fun n => ∃ k : Nat, k ≤ s.size ∧ (∀ j, j < k → lowA (bAt s j)) ∧ n = .int .i64 k) (fun n => s.size - (intOf n).toNat)
  case atStart => exact ⟨0, by omega, by intro j h; omega, rfl⟩
  case round =>
    obtain ⟨k, hk, hall, rfl⟩ := hrel
    by_cases hin : k < s.size
    · have hin' : (k : Int) < s.size := by omega
      have hb := bAt_in hin
      by_cases hl : lowA (bAt s k)
      · have h1 : 97 ≤ (s[k].toNat : Int) := by omega
        have h2 : (s[k].toNat : Int) ≤ 122 := by omega
        clear hb
        go_wp2_with fail
        refine (impl_let_yes _ h1 h2 w).mono ?_
        rintro e w1 ⟨rfl, rfl⟩
        go_wp2
        go_round
        case rel =>
          refine ⟨k + 1, by omega, fun j hj => ?_, by go_num⟩
          rcases Nat.lt_or_eq_of_le (Nat.le_of_lt_succ hj) with h | rfl
          · exact hall j h
          · exact hl
        case measure => simp [intOf]; omega
      · have h1 : (s[k].toNat : Int) < 97 ∨ 122 < (s[k].toNat : Int) := by omega
        clear hb
        go_wp2_with fail
        refine (impl_let_no _ h1 w).mono ?_
        rintro e w1 ⟨rfl, rfl⟩
        go_wp2
        go_ret
        exact ⟨⟨k, ⟨by omega, hk, fun j _ h => hall j h, fun _ => hl⟩, rfl⟩, rfl⟩
    · go_wp2
      go_ret
      exact ⟨⟨k, ⟨by omega, hk, fun j _ h => hall j h, fun h => absurd h hin⟩, rfl⟩, rfl⟩

theorem impl_word (s : ByteArray) (hs : s.size ≤ maxLen) (w : World) :
    Calls Tryz.prog 73 #[.string s] w fun e w' => e = .returned (.bool (isWordB s)) ∧ w' = w := by
  by_cases h1 : 1 ≤ s.size
  · by_cases h8 : s.size ≤ 8
    · have h1' : (1 : Int) ≤ s.size := by omega
      have h8' : (s.size : Int) ≤ 8 := by omega
      go_enter Tryz.func73, Tryz.ntmps73
      go_wp2_with fail
      refine (impl_front_let s hs w).mono ?_
      rintro e w1 ⟨⟨n, hn, rfl⟩, rfl⟩
      have hv : Hid (isWordB s = ((n : Int) == (s.size : Int))) := by
        show isWordB s = ((n : Int) == (s.size : Int))
        obtain ⟨_, h2, h3, h4⟩ := hn
        by_cases he : n = s.size
        · subst he
          rw [isWordB, decide_eq_true ⟨h1, h8, fun j hj => h3 j (Nat.zero_le _) hj⟩]
          simp
        · rw [isWordB, decide_eq_false (fun h => h4 (by omega) (h.2.2 n (by omega)))]
          symm
          simp
          omega
      clear hn
      go_wp2
      go_ret
      exact ⟨by rw [hv.out]; rfl, rfl⟩
    · have hv : Ending.returned (.bool false) = Ending.returned (.bool (isWordB s)) := by rw [isWordB, decide_eq_false (fun h => h8 h.2.1)]
      have h1' : (1 : Int) ≤ s.size := by omega
      have h8' : (8 : Int) < s.size := by omega
      go_enter Tryz.func73, Tryz.ntmps73
      go_wp2
      go_ret
      exact ⟨hv, rfl⟩
  · have hv : Ending.returned (.bool false) = Ending.returned (.bool (isWordB s)) := by rw [isWordB, decide_eq_false (fun h => h1 h.1)]
    have h1' : (s.size : Int) < 1 := by omega
    go_enter Tryz.func73, Tryz.ntmps73
    go_wp2
    go_ret
    exact ⟨hv, rfl⟩
end

section
open Go.ChangeShapes Go.WideShapes Go.ChangeAt Go.RowKit

theorem key_is (s : ByteArray) (j : Nat) (hj : j < 20) (h : keysL.getD j ByteArray.empty = s) : isKeyB s = true := decide_eq_true ((key_mem s).2 ⟨j, hj, h⟩)

theorem text_no {s : ByteArray} (l : List UInt8) (h : ¬ s = ⟨l.toArray⟩) : (s.toList == l) = false := by
  rw [beq_eq_false_iff_ne]
  intro e
  rw [Lib.toList_data] at e
  exact h (data_ext e)

set_option maxHeartbeats 2000000 in
theorem impl_key (s : ByteArray) (w : World) : Calls Tryz.prog 137 #[.string s] w fun e w' => e = .returned (.bool (isKeyB s)) ∧ w' = w := by
  by_cases h0 : s = ⟨#[102, 117, 110]⟩
  · have hv : Ending.returned (.bool true) = Ending.returned (.bool (isKeyB s)) := by rw [key_is s 0 (by omega) h0.symm]
    subst h0
    go_enter Tryz.func137, Tryz.ntmps137
    go_wp2
    go_ret
    exact ⟨hv, rfl⟩
  by_cases h1 : s = ⟨#[97, 112, 112]⟩
  · have hv : Ending.returned (.bool true) = Ending.returned (.bool (isKeyB s)) := by rw [key_is s 1 (by omega) h1.symm]
    subst h1
    go_enter Tryz.func137, Tryz.ntmps137
    go_wp2
    go_ret
    exact ⟨hv, rfl⟩
  by_cases h2 : s = ⟨#[108, 101, 116]⟩
  · have hv : Ending.returned (.bool true) = Ending.returned (.bool (isKeyB s)) := by rw [key_is s 2 (by omega) h2.symm]
    subst h2
    go_enter Tryz.func137, Tryz.ntmps137
    go_wp2
    go_ret
    exact ⟨hv, rfl⟩
  by_cases h3 : s = ⟨#[114, 101, 99]⟩
  · have hv : Ending.returned (.bool true) = Ending.returned (.bool (isKeyB s)) := by rw [key_is s 3 (by omega) h3.symm]
    subst h3
    go_enter Tryz.func137, Tryz.ntmps137
    go_wp2
    go_ret
    exact ⟨hv, rfl⟩
  by_cases h4 : s = ⟨#[105, 102]⟩
  · have hv : Ending.returned (.bool true) = Ending.returned (.bool (isKeyB s)) := by rw [key_is s 4 (by omega) h4.symm]
    subst h4
    go_enter Tryz.func137, Tryz.ntmps137
    go_wp2
    go_ret
    exact ⟨hv, rfl⟩
  by_cases h5 : s = ⟨#[97, 100, 100]⟩
  · have hv : Ending.returned (.bool true) = Ending.returned (.bool (isKeyB s)) := by rw [key_is s 5 (by omega) h5.symm]
    subst h5
    go_enter Tryz.func137, Tryz.ntmps137
    go_wp2
    go_ret
    exact ⟨hv, rfl⟩
  by_cases h6 : s = ⟨#[115, 117, 98]⟩
  · have hv : Ending.returned (.bool true) = Ending.returned (.bool (isKeyB s)) := by rw [key_is s 6 (by omega) h6.symm]
    subst h6
    go_enter Tryz.func137, Tryz.ntmps137
    go_wp2
    go_ret
    exact ⟨hv, rfl⟩
  by_cases h7 : s = ⟨#[108, 101, 115, 115]⟩
  · have hv : Ending.returned (.bool true) = Ending.returned (.bool (isKeyB s)) := by rw [key_is s 7 (by omega) h7.symm]
    subst h7
    go_enter Tryz.func137, Tryz.ntmps137
    go_wp2
    go_ret
    exact ⟨hv, rfl⟩
  by_cases h8 : s = ⟨#[115, 97, 109, 101]⟩
  · have hv : Ending.returned (.bool true) = Ending.returned (.bool (isKeyB s)) := by rw [key_is s 8 (by omega) h8.symm]
    subst h8
    go_enter Tryz.func137, Tryz.ntmps137
    go_wp2
    go_ret
    exact ⟨hv, rfl⟩
  by_cases h9 : s = ⟨#[112, 97, 105, 114]⟩
  · have hv : Ending.returned (.bool true) = Ending.returned (.bool (isKeyB s)) := by rw [key_is s 9 (by omega) h9.symm]
    subst h9
    go_enter Tryz.func137, Tryz.ntmps137
    go_wp2
    go_ret
    exact ⟨hv, rfl⟩
  by_cases h10 : s = ⟨#[102, 115, 116]⟩
  · have hv : Ending.returned (.bool true) = Ending.returned (.bool (isKeyB s)) := by rw [key_is s 10 (by omega) h10.symm]
    subst h10
    go_enter Tryz.func137, Tryz.ntmps137
    go_wp2
    go_ret
    exact ⟨hv, rfl⟩
  by_cases h11 : s = ⟨#[115, 110, 100]⟩
  · have hv : Ending.returned (.bool true) = Ending.returned (.bool (isKeyB s)) := by rw [key_is s 11 (by omega) h11.symm]
    subst h11
    go_enter Tryz.func137, Tryz.ntmps137
    go_wp2
    go_ret
    exact ⟨hv, rfl⟩
  by_cases h12 : s = ⟨#[110, 105, 108]⟩
  · have hv : Ending.returned (.bool true) = Ending.returned (.bool (isKeyB s)) := by rw [key_is s 12 (by omega) h12.symm]
    subst h12
    go_enter Tryz.func137, Tryz.ntmps137
    go_wp2
    go_ret
    exact ⟨hv, rfl⟩
  by_cases h13 : s = ⟨#[99, 111, 110, 115]⟩
  · have hv : Ending.returned (.bool true) = Ending.returned (.bool (isKeyB s)) := by rw [key_is s 13 (by omega) h13.symm]
    subst h13
    go_enter Tryz.func137, Tryz.ntmps137
    go_wp2
    go_ret
    exact ⟨hv, rfl⟩
  by_cases h14 : s = ⟨#[109, 97, 116, 99, 104]⟩
  · have hv : Ending.returned (.bool true) = Ending.returned (.bool (isKeyB s)) := by rw [key_is s 14 (by omega) h14.symm]
    subst h14
    go_enter Tryz.func137, Tryz.ntmps137
    go_wp2
    go_ret
    exact ⟨hv, rfl⟩
  by_cases h15 : s = ⟨#[114, 101, 102]⟩
  · have hv : Ending.returned (.bool true) = Ending.returned (.bool (isKeyB s)) := by rw [key_is s 15 (by omega) h15.symm]
    subst h15
    go_enter Tryz.func137, Tryz.ntmps137
    go_wp2
    go_ret
    exact ⟨hv, rfl⟩
  by_cases h16 : s = ⟨#[103, 101, 116]⟩
  · have hv : Ending.returned (.bool true) = Ending.returned (.bool (isKeyB s)) := by rw [key_is s 16 (by omega) h16.symm]
    subst h16
    go_enter Tryz.func137, Tryz.ntmps137
    go_wp2
    go_ret
    exact ⟨hv, rfl⟩
  by_cases h17 : s = ⟨#[115, 101, 116]⟩
  · have hv : Ending.returned (.bool true) = Ending.returned (.bool (isKeyB s)) := by rw [key_is s 17 (by omega) h17.symm]
    subst h17
    go_enter Tryz.func137, Tryz.ntmps137
    go_wp2
    go_ret
    exact ⟨hv, rfl⟩
  by_cases h18 : s = ⟨#[114, 97, 105, 115, 101]⟩
  · have hv : Ending.returned (.bool true) = Ending.returned (.bool (isKeyB s)) := by rw [key_is s 18 (by omega) h18.symm]
    subst h18
    go_enter Tryz.func137, Tryz.ntmps137
    go_wp2
    go_ret
    exact ⟨hv, rfl⟩
  by_cases h19 : s = ⟨#[116, 114, 121]⟩
  · have hv : Ending.returned (.bool true) = Ending.returned (.bool (isKeyB s)) := by rw [key_is s 19 (by omega) h19.symm]
    subst h19
    go_enter Tryz.func137, Tryz.ntmps137
    go_wp2
    go_ret
    exact ⟨hv, rfl⟩
  have hv : Ending.returned (.bool false) = Ending.returned (.bool (isKeyB s)) := by
    rw [isKeyB, decide_eq_false (fun h => ?_)]
    obtain ⟨j, hj, h⟩ := (key_mem s).1 h
    rcases (by omega : j = 0 ∨ j = 1 ∨ j = 2 ∨ j = 3 ∨ j = 4 ∨ j = 5 ∨ j = 6 ∨ j = 7 ∨ j = 8 ∨ j = 9 ∨ j = 10 ∨ j = 11 ∨ j = 12 ∨ j = 13 ∨ j = 14 ∨ j = 15 ∨ j = 16 ∨ j = 17 ∨ j = 18 ∨ j = 19) with rfl | rfl | rfl | rfl | rfl | rfl | rfl | rfl | rfl | rfl | rfl | rfl | rfl | rfl | rfl | rfl | rfl | rfl | rfl | rfl
    · exact h0 h.symm
    · exact h1 h.symm
    · exact h2 h.symm
    · exact h3 h.symm
    · exact h4 h.symm
    · exact h5 h.symm
    · exact h6 h.symm
    · exact h7 h.symm
    · exact h8 h.symm
    · exact h9 h.symm
    · exact h10 h.symm
    · exact h11 h.symm
    · exact h12 h.symm
    · exact h13 h.symm
    · exact h14 h.symm
    · exact h15 h.symm
    · exact h16 h.symm
    · exact h17 h.symm
    · exact h18 h.symm
    · exact h19 h.symm
  have n0 : (s.toList == [102, 117, 110]) = false := text_no [102, 117, 110] h0
  have n1 : (s.toList == [97, 112, 112]) = false := text_no [97, 112, 112] h1
  have n2 : (s.toList == [108, 101, 116]) = false := text_no [108, 101, 116] h2
  have n3 : (s.toList == [114, 101, 99]) = false := text_no [114, 101, 99] h3
  have n4 : (s.toList == [105, 102]) = false := text_no [105, 102] h4
  have n5 : (s.toList == [97, 100, 100]) = false := text_no [97, 100, 100] h5
  have n6 : (s.toList == [115, 117, 98]) = false := text_no [115, 117, 98] h6
  have n7 : (s.toList == [108, 101, 115, 115]) = false := text_no [108, 101, 115, 115] h7
  have n8 : (s.toList == [115, 97, 109, 101]) = false := text_no [115, 97, 109, 101] h8
  have n9 : (s.toList == [112, 97, 105, 114]) = false := text_no [112, 97, 105, 114] h9
  have n10 : (s.toList == [102, 115, 116]) = false := text_no [102, 115, 116] h10
  have n11 : (s.toList == [115, 110, 100]) = false := text_no [115, 110, 100] h11
  have n12 : (s.toList == [110, 105, 108]) = false := text_no [110, 105, 108] h12
  have n13 : (s.toList == [99, 111, 110, 115]) = false := text_no [99, 111, 110, 115] h13
  have n14 : (s.toList == [109, 97, 116, 99, 104]) = false := text_no [109, 97, 116, 99, 104] h14
  have n15 : (s.toList == [114, 101, 102]) = false := text_no [114, 101, 102] h15
  have n16 : (s.toList == [103, 101, 116]) = false := text_no [103, 101, 116] h16
  have n17 : (s.toList == [115, 101, 116]) = false := text_no [115, 101, 116] h17
  have n18 : (s.toList == [114, 97, 105, 115, 101]) = false := text_no [114, 97, 105, 115, 101] h18
  have n19 : (s.toList == [116, 114, 121]) = false := text_no [116, 114, 121] h19
  clear h0 h1 h2 h3 h4 h5 h6 h7 h8 h9 h10 h11 h12 h13 h14 h15 h16 h17 h18 h19
  go_enter Tryz.func137, Tryz.ntmps137
  go_wp2
  go_ret
  exact ⟨hv, rfl⟩

theorem impl_arity (k : Int) (w : World) : Calls Tryz.prog 45 #[.int .i64 k] w fun e w' => e = .returned (.int .i64 (arN k : Nat)) ∧ w' = w := by
  by_cases h3 : k = 3
  · subst h3
    go_enter Tryz.func45, Tryz.ntmps45
    go_wp2
    go_ret
    exact ⟨rfl, rfl⟩
  by_cases h10 : k = 10
  · subst h10
    go_enter Tryz.func45, Tryz.ntmps45
    go_wp2
    go_ret
    exact ⟨rfl, rfl⟩
  by_cases h11 : k = 11
  · subst h11
    go_enter Tryz.func45, Tryz.ntmps45
    go_wp2
    go_ret
    exact ⟨rfl, rfl⟩
  by_cases h15 : k = 15
  · subst h15
    go_enter Tryz.func45, Tryz.ntmps45
    go_wp2
    go_ret
    exact ⟨rfl, rfl⟩
  by_cases h16 : k = 16
  · subst h16
    go_enter Tryz.func45, Tryz.ntmps45
    go_wp2
    go_ret
    exact ⟨rfl, rfl⟩
  by_cases h18 : k = 18
  · subst h18
    go_enter Tryz.func45, Tryz.ntmps45
    go_wp2
    go_ret
    exact ⟨rfl, rfl⟩
  by_cases h4 : k = 4
  · subst h4
    go_enter Tryz.func45, Tryz.ntmps45
    go_wp2
    go_ret
    exact ⟨rfl, rfl⟩
  by_cases h5 : k = 5
  · subst h5
    go_enter Tryz.func45, Tryz.ntmps45
    go_wp2
    go_ret
    exact ⟨rfl, rfl⟩
  by_cases h6 : k = 6
  · subst h6
    go_enter Tryz.func45, Tryz.ntmps45
    go_wp2
    go_ret
    exact ⟨rfl, rfl⟩
  by_cases h8 : k = 8
  · subst h8
    go_enter Tryz.func45, Tryz.ntmps45
    go_wp2
    go_ret
    exact ⟨rfl, rfl⟩
  by_cases h9 : k = 9
  · subst h9
    go_enter Tryz.func45, Tryz.ntmps45
    go_wp2
    go_ret
    exact ⟨rfl, rfl⟩
  by_cases h13 : k = 13
  · subst h13
    go_enter Tryz.func45, Tryz.ntmps45
    go_wp2
    go_ret
    exact ⟨rfl, rfl⟩
  by_cases h17 : k = 17
  · subst h17
    go_enter Tryz.func45, Tryz.ntmps45
    go_wp2
    go_ret
    exact ⟨rfl, rfl⟩
  by_cases h19 : k = 19
  · subst h19
    go_enter Tryz.func45, Tryz.ntmps45
    go_wp2
    go_ret
    exact ⟨rfl, rfl⟩
  by_cases h7 : k = 7
  · subst h7
    go_enter Tryz.func45, Tryz.ntmps45
    go_wp2
    go_ret
    exact ⟨rfl, rfl⟩
  by_cases h14 : k = 14
  · subst h14
    go_enter Tryz.func45, Tryz.ntmps45
    go_wp2
    go_ret
    exact ⟨rfl, rfl⟩
  have g3 : (k == 3) = false := by simpa using h3
  have g10 : (k == 10) = false := by simpa using h10
  have g11 : (k == 11) = false := by simpa using h11
  have g15 : (k == 15) = false := by simpa using h15
  have g16 : (k == 16) = false := by simpa using h16
  have g18 : (k == 18) = false := by simpa using h18
  have g4 : (k == 4) = false := by simpa using h4
  have g5 : (k == 5) = false := by simpa using h5
  have g6 : (k == 6) = false := by simpa using h6
  have g8 : (k == 8) = false := by simpa using h8
  have g9 : (k == 9) = false := by simpa using h9
  have g13 : (k == 13) = false := by simpa using h13
  have g17 : (k == 17) = false := by simpa using h17
  have g19 : (k == 19) = false := by simpa using h19
  have g7 : (k == 7) = false := by simpa using h7
  have g14 : (k == 14) = false := by simpa using h14
  have hz : Ending.returned (.int .i64 0) = Ending.returned (.int .i64 (arN k : Nat)) := by
    unfold arN
    rw [if_neg (by omega), if_neg (by omega), if_neg (by omega)]
    rfl
  clear h3 h10 h11 h15 h16 h18 h4 h5 h6 h8 h9 h13 h17 h19 h7 h14
  go_enter Tryz.func45, Tryz.ntmps45
  go_wp2
  go_ret
  exact ⟨hz, rfl⟩

theorem impl_names (k : Int) (w : World) : Calls Tryz.prog 109 #[.int .i64 k] w fun e w' => e = .returned (.int .i64 (nmN k : Nat)) ∧ w' = w := by
  by_cases h1 : k = 1
  · subst h1
    go_enter Tryz.func109, Tryz.ntmps109
    go_wp2
    go_ret
    exact ⟨rfl, rfl⟩
  by_cases h3 : k = 3
  · subst h3
    go_enter Tryz.func109, Tryz.ntmps109
    go_wp2
    go_ret
    exact ⟨rfl, rfl⟩
  by_cases h5 : k = 5
  · subst h5
    go_enter Tryz.func109, Tryz.ntmps109
    go_wp2
    go_ret
    exact ⟨rfl, rfl⟩
  by_cases h19 : k = 19
  · subst h19
    go_enter Tryz.func109, Tryz.ntmps109
    go_wp2
    go_ret
    exact ⟨rfl, rfl⟩
  by_cases h6 : k = 6
  · subst h6
    go_enter Tryz.func109, Tryz.ntmps109
    go_wp2
    go_ret
    exact ⟨rfl, rfl⟩
  by_cases h14 : k = 14
  · subst h14
    go_enter Tryz.func109, Tryz.ntmps109
    go_wp2
    go_ret
    exact ⟨rfl, rfl⟩
  have g1 : (k == 1) = false := by simpa using h1
  have g3 : (k == 3) = false := by simpa using h3
  have g5 : (k == 5) = false := by simpa using h5
  have g19 : (k == 19) = false := by simpa using h19
  have g6 : (k == 6) = false := by simpa using h6
  have g14 : (k == 14) = false := by simpa using h14
  have hz : Ending.returned (.int .i64 0) = Ending.returned (.int .i64 (nmN k : Nat)) := by
    unfold nmN
    rw [if_neg (by omega), if_neg (by omega)]
    rfl
  clear h1 h3 h5 h19 h6 h14
  go_enter Tryz.func109, Tryz.ntmps109
  go_wp2
  go_ret
  exact ⟨hz, rfl⟩

theorem impl_name (s : ByteArray) (hs : s.size ≤ maxLen) (w : World) : Calls Tryz.prog 124 #[.string s] w fun e w' => e = .returned (.bool (isNameB s)) ∧ w' = w := by
  have HN : Hid (isNameB s = (isWordB s && !isKeyB s)) := rfl
  go_enter Tryz.func124, Tryz.ntmps124
  go_wp2_with fail
  refine (impl_word s hs w).mono ?_
  rintro e w1 ⟨rfl, rfl⟩
  cases hw : isWordB s with
  | true =>
    go_wp2_with fail
    refine (impl_key s w1).mono ?_
    rintro e w2 ⟨rfl, rfl⟩
    have hv : Hid (isNameB s = !isKeyB s) := by show isNameB s = !isKeyB s; rw [HN.out, hw]; rfl
    clear HN hw
    generalize isKeyB s = b at *
    go_wp2
    go_ret
    exact ⟨by rw [hv.out]; rfl, rfl⟩
  | false =>
    have hv : Hid (isNameB s = false) := by show isNameB s = false; rw [HN.out, hw]; rfl
    clear HN hw
    go_wp2
    go_ret
    exact ⟨by rw [hv.out]; rfl, rfl⟩

/-- Is the text as it is wanted: a name, or none? -/
def wantB (s : ByteArray) (wanted : Bool) : Bool := if wanted then isNameB s else decide (s.size = 0)

theorem impl_want (s : ByteArray) (b : Bool) (hs : s.size ≤ maxLen) (w : World) : Calls Tryz.prog 111 #[.string s, .bool b] w fun e w' => e = .returned (.bool (wantB s b)) ∧ w' = w := by
  cases b with
  | true =>
    have HV : Hid (wantB s true = isNameB s) := rfl
    go_enter Tryz.func111, Tryz.ntmps111
    go_wp2_with fail
    refine (impl_name s hs w).mono ?_
    rintro e w1 ⟨rfl, rfl⟩
    generalize isNameB s = b at *
    go_wp2
    go_ret
    exact ⟨by rw [HV.out]; rfl, rfl⟩
  | false =>
    by_cases h0 : s.size = 0
    · have HV : Hid (wantB s false = true) := decide_eq_true h0
      obtain rfl := size_eq s h0
      clear h0 hs
      go_enter Tryz.func111, Tryz.ntmps111
      go_wp2
      go_ret
      exact ⟨by rw [HV.out]; rfl, rfl⟩
    · have HV : Hid (wantB s false = false) := decide_eq_false h0
      have hf := size_full s h0
      clear h0
      go_enter Tryz.func111, Tryz.ntmps111
      go_wp2
      go_ret
      exact ⟨by rw [HV.out]; rfl, rfl⟩
end

section
open Go.ChangeShapes Go.WideShapes Go.ChangeAt Go.RowKit

theorem impl_kidF (k a b c n : Int) (s o : ByteArray) (w : World) :
    Calls Tryz.prog 44 #[.agg #[.int .i64 k, .int .i64 a, .int .i64 b, .int .i64 c, .int .i64 n, .string s, .string o]] w fun e w' =>
      e = .returned (.agg #[.int .i64 a, .int .i64 b, .int .i64 c]) ∧ Below w.heap.size w w' ∧ w'.heap.size = w.heap.size + 2 := by
  go_enter Tryz.func44, Tryz.ntmps44
  go_wp2
  refine bodyPost_ret (v := .agg #[.int .i64 a, .int .i64 b, .int .i64 c]) (by simp [results, Tryz.results44, go_sem]) rfl ⟨rfl, ?_, ?_⟩
  · exact ((Below.refl _ w).alloc (Nat.le_refl _) _).alloc (by simp) _
  · simp

theorem impl_kids (k a b c n : Int) (s o : ByteArray) (w : World) :
    Calls Tryz.prog 23 #[.agg #[.int .i64 k, .int .i64 a, .int .i64 b, .int .i64 c, .int .i64 n, .string s, .string o]] w fun e w' =>
      e = .returned (.slice (some ⟨w.heap.size + 3, 0, none⟩) (arN k) 3) ∧ w'.heap[w.heap.size + 3]? = some (.cells #[.int .i64 a, .int .i64 b, .int .i64 c] 90 (0, 0)) ∧ Below w.heap.size w w' := by
  have har := arN_le k
  have har' : (arN k : Int) ≤ 3 := by omega
  have har0 : (0 : Int) ≤ (arN k : Int) := by omega
  go_enter Tryz.func23, Tryz.ntmps23
  go_wp2_with fail
  refine (impl_kidF k a b c n s o _).mono ?_
  rintro e w1 ⟨rfl, b1, s1⟩
  have q0 : w1.cell? ⟨w.heap.size, 0, none⟩ = some (.int .i64 k) := by
    rw [b1.cell (p := ⟨w.heap.size, 0, none⟩) (by simp)]
    simp
  go_wp2_with fail
  refine (impl_arity k _).mono ?_
  rintro e w2 ⟨rfl, rfl⟩
  have s1' : w1.heap.size = w.heap.size + 3 := by simpa using s1
  have HG : Hid ((w1.alloc (.cells #[.int .i64 a, .int .i64 b, .int .i64 c] 90)).heap[w.heap.size + 3]? = some (.cells #[.int .i64 a, .int .i64 b, .int .i64 c] 90 (0, 0))) := by
    have := (MapKept.heap_alloc w1 (.cells #[.int .i64 a, .int .i64 b, .int .i64 c] 90)).1
    rw [s1'] at this
    exact this
  have HB : Hid (Below w.heap.size w (w1.alloc (.cells #[.int .i64 a, .int .i64 b, .int .i64 c] 90))) := (((Below.refl _ w).alloc (Nat.le_refl _) _).trans (b1.mono (by simp))).alloc (by omega) _
  clear s1 b1
  go_wp2
  go_ret
  exact ⟨rfl, HG.out, HB.out⟩

/-- The number is one that the kind may have. -/
def numB (k n : Int) : Bool := decide (NumFits k n)

theorem impl_number (k a b c n : Int) (s o : ByteArray) (w : World) :
    Calls Tryz.prog 110 #[.agg #[.int .i64 k, .int .i64 a, .int .i64 b, .int .i64 c, .int .i64 n, .string s, .string o]] w fun e w' => e = .returned (.bool (numB k n)) ∧ Below w.heap.size w w' := by
  have HB : Hid (Below w.heap.size w (w.alloc (.cells #[.int .i64 k, .int .i64 a, .int .i64 b, .int .i64 c, .int .i64 n, .string s, .string o] 44))) := (Below.refl _ w).alloc (Nat.le_refl _) _
  by_cases h2 : k = 2
  · subst h2
    by_cases h0 : 0 ≤ n
    · have hv : Hid (Ending.returned (.bool (decide (n ≤ 65535))) = Ending.returned (.bool (numB 2 n))) := by
        show Ending.returned (.bool (decide (n ≤ 65535))) = Ending.returned (.bool (numB 2 n))
        unfold numB NumFits
        congr 2
        rw [decide_eq_decide]
        omega
      go_enter Tryz.func110, Tryz.ntmps110
      go_wp2
      go_ret
      exact ⟨hv.out, HB.out⟩
    · have hv : Hid (Ending.returned (.bool false) = Ending.returned (.bool (numB 2 n))) := by
        show Ending.returned (.bool false) = Ending.returned (.bool (numB 2 n))
        unfold numB NumFits
        rw [decide_eq_false (by omega)]
      go_enter Tryz.func110, Tryz.ntmps110
      go_wp2
      go_ret
      exact ⟨hv.out, HB.out⟩
  · by_cases h8 : k = 8
    · subst h8
      by_cases h0 : 0 ≤ n
      · have hv : Hid (Ending.returned (.bool (decide (n ≤ 3))) = Ending.returned (.bool (numB 8 n))) := by
          show Ending.returned (.bool (decide (n ≤ 3))) = Ending.returned (.bool (numB 8 n))
          unfold numB NumFits
          congr 2
          rw [decide_eq_decide]
          omega
        go_enter Tryz.func110, Tryz.ntmps110
        go_wp2
        go_ret
        exact ⟨hv.out, HB.out⟩
      · have hv : Hid (Ending.returned (.bool false) = Ending.returned (.bool (numB 8 n))) := by
          show Ending.returned (.bool false) = Ending.returned (.bool (numB 8 n))
          unfold numB NumFits
          rw [decide_eq_false (by omega)]
        go_enter Tryz.func110, Tryz.ntmps110
        go_wp2
        go_ret
        exact ⟨hv.out, HB.out⟩
    · have hv : Hid (Ending.returned (.bool (n == 0)) = Ending.returned (.bool (numB k n))) := by
        show Ending.returned (.bool (n == 0)) = Ending.returned (.bool (numB k n))
        have e : (n == 0) = decide (n = 0) := rfl
        unfold numB NumFits
        rw [e]
        congr 2
        rw [decide_eq_decide]
        exact ⟨fun h => ⟨fun h' => absurd h' h2, fun h' => absurd h' h8, fun _ _ => h⟩, fun h => h.2.2 h2 h8⟩
      have g2 : (k == 2) = false := by simpa using h2
      have g8 : (k == 8) = false := by simpa using h8
      clear h2 h8
      go_enter Tryz.func110, Tryz.ntmps110
      go_wp2
      go_ret
      exact ⟨hv.out, HB.out⟩

theorem cells7_of {w : World} {g : Nat} {k a b c n : Int} {s o : ByteArray} {t : TypeId} {z : Nat × Nat} (h : w.heap[g]? = some (.cells #[.int .i64 k, .int .i64 a, .int .i64 b, .int .i64 c, .int .i64 n, .string s, .string o] t z)) :
    w.cell? ⟨g, 0, none⟩ = some (.int .i64 k) ∧ w.cell? ⟨g, 1, none⟩ = some (.int .i64 a) ∧ w.cell? ⟨g, 2, none⟩ = some (.int .i64 b) ∧ w.cell? ⟨g, 3, none⟩ = some (.int .i64 c) ∧ w.cell? ⟨g, 4, none⟩ = some (.int .i64 n) ∧ w.cell? ⟨g, 5, none⟩ = some (.string s) ∧ w.cell? ⟨g, 6, none⟩ = some (.string o) := by
  refine ⟨?_, ?_, ?_, ?_, ?_, ?_, ?_⟩ <;> (rw [cell_of_row _ _ _ _ _ _ h]; rfl)

theorem cells3_of {w : World} {g : Nat} {a b c : Int} {t : TypeId} {z : Nat × Nat} (h : w.heap[g]? = some (.cells #[.int .i64 a, .int .i64 b, .int .i64 c] t z)) : ∀ m, m < 3 → w.cell? ⟨g, m, none⟩ = some (.int .i64 ([a, b, c].getD m 0)) := by
  intro m hm
  rw [cell_of_row _ _ _ _ _ _ h]
  rcases (by omega : m = 0 ∨ m = 1 ∨ m = 2) with rfl | rfl | rfl <;> rfl

theorem kids_null {ar : Nat} {a b c : Int} (har : ar ≤ 3) : KidsNull ar a b c ↔ ∀ m, ar ≤ m → m < 3 → [a, b, c].getD m 0 = 0 := by
  unfold KidsNull
  constructor
  · rintro ⟨h0, h1, h2⟩ m hm hm3
    rcases (by omega : m = 0 ∨ m = 1 ∨ m = 2) with rfl | rfl | rfl
    · exact h0 (by omega)
    · exact h1 (by omega)
    · exact h2 (by omega)
  · intro h
    exact ⟨fun h0 => h 0 (by omega) (by omega), fun h0 => h 1 (by omega) (by omega), fun h0 => h 2 (by omega) (by omega)⟩

/-- The fields of a node, once the kind is one and kids that it has not are 0. -/
theorem fields_rest {k a b c n : Int} {s o : ByteArray} (hk : 1 ≤ k ∧ k ≤ 19) (hz : KidsNull (arN k) a b c) :
    fieldsB ⟨k, a, b, c, n, s, o⟩ = (numB k n && wantB s (decide (1 ≤ (nmN k : Int))) && wantB o (decide (2 ≤ (nmN k : Int)))) := by
  have hn : wantB s (decide (1 ≤ (nmN k : Int))) = decide ((nmN k = 0 → s.size = 0) ∧ (0 < nmN k → isNameB s = true)) := by
    unfold wantB
    by_cases h : 1 ≤ (nmN k : Int)
    · rw [decide_eq_true h, if_pos rfl]
      cases hb : isNameB s with
      | true => rw [decide_eq_true ⟨fun h0 => by omega, fun _ => rfl⟩]
      | false => rw [decide_eq_false (fun h0 => by have := h0.2 (by omega); cases this)]
    · rw [decide_eq_false h, if_neg (by simp)]
      rw [decide_eq_decide]
      exact ⟨fun h0 => ⟨fun _ => h0, fun h1 => by omega⟩, fun h0 => h0.1 (by omega)⟩
  have ho : wantB o (decide (2 ≤ (nmN k : Int))) = decide ((nmN k ≤ 1 → o.size = 0) ∧ (1 < nmN k → isNameB o = true)) := by
    unfold wantB
    by_cases h : 2 ≤ (nmN k : Int)
    · rw [decide_eq_true h, if_pos rfl]
      cases hb : isNameB o with
      | true => rw [decide_eq_true ⟨fun h0 => by omega, fun _ => rfl⟩]
      | false => rw [decide_eq_false (fun h0 => by have := h0.2 (by omega); cases this)]
    · rw [decide_eq_false h, if_neg (by simp)]
      rw [decide_eq_decide]
      exact ⟨fun h0 => ⟨fun _ => h0, fun h1 => by omega⟩, fun h0 => h0.1 (by omega)⟩
  rw [hn, ho]
  unfold fieldsB numB
  rw [← Bool.decide_and, ← Bool.decide_and, decide_eq_decide]
  show ((1 ≤ k ∧ k ≤ 19) ∧ KidsNull (arN k) a b c ∧ NamesFit (nmN k) s o ∧ NumFits k n) ↔ _
  unfold NamesFit
  constructor
  · rintro ⟨_, _, ⟨h1, h2, h3, h4⟩, h5⟩
    exact ⟨⟨h5, h1, h2⟩, h3, h4⟩
  · rintro ⟨⟨h5, h1, h2⟩, h3, h4⟩
    exact ⟨hk, hz, ⟨h1, h2, h3, h4⟩, h5⟩

set_option maxHeartbeats 1000000 in
set_option maxRecDepth 20000 in
theorem impl_fields (k a b c n : Int) (s o : ByteArray) (hs : s.size ≤ maxLen) (ho : o.size ≤ maxLen) (w : World) :
    Calls Tryz.prog 77 #[.agg #[.int .i64 k, .int .i64 a, .int .i64 b, .int .i64 c, .int .i64 n, .string s, .string o]] w fun e w' =>
      e = .returned (.bool (fieldsB ⟨k, a, b, c, n, s, o⟩)) ∧ Below w.heap.size w w' := by
  have HS : Hid (s.size ≤ maxLen ∧ o.size ≤ maxLen) := ⟨hs, ho⟩
  have HB : Hid (Below w.heap.size w (w.alloc (.cells #[.int .i64 k, .int .i64 a, .int .i64 b, .int .i64 c, .int .i64 n, .string s, .string o] 44))) := (Below.refl _ w).alloc (Nat.le_refl _) _
  clear hs ho
  by_cases hk : 1 ≤ k ∧ k ≤ 19
  · have HK : Hid (1 ≤ k ∧ k ≤ 19) := hk
    obtain ⟨hk1, hk2⟩ := hk
    have har := arN_le k
    have har' : (arN k : Int) ≤ 3 := by omega
    have har0 : (0 : Int) ≤ (arN k : Int) := by omega
    go_enter Tryz.func77, Tryz.ntmps77
    go_wp2_with fail
    refine (impl_kidF k a b c n s o _).mono ?_
    rintro e w1 ⟨rfl, b1, s1⟩
    have s1' : w1.heap.size = w.heap.size + 3 := by simpa using s1
    have g1 : w1.heap[w.heap.size]? = some (.cells #[.int .i64 k, .int .i64 a, .int .i64 b, .int .i64 c, .int .i64 n, .string s, .string o] 44 (0, 0)) := by
      rw [b1.block _ (by simp)]
      exact (MapKept.heap_alloc w _).1
    obtain ⟨p0, p1, p2, p3, p4, p5, p6⟩ := cells7_of g1
    have B1 : Hid (Below w.heap.size w w1) := HB.out.trans (b1.mono (by simp))
    clear b1 s1 HB g1
    go_wp2_with fail
    refine (impl_arity k _).mono ?_
    rintro e w2 ⟨rfl, rfl⟩
    have HC : Hid (∀ m, m < 3 → (w1.alloc (.cells #[.int .i64 a, .int .i64 b, .int .i64 c] 90)).cell? ⟨w1.heap.size, m, none⟩ = some (.int .i64 ([a, b, c].getD m 0))) := cells3_of (MapKept.heap_alloc w1 _).1
    have HF : Hid (KidsNull (arN k) a b c → fieldsB ⟨k, a, b, c, n, s, o⟩ = (numB k n && wantB s (decide (1 ≤ (nmN k : Int))) && wantB o (decide (2 ≤ (nmN k : Int))))) := fun h => fields_rest HK.out h
    have HN : Hid (¬ KidsNull (arN k) a b c → fieldsB ⟨k, a, b, c, n, s, o⟩ = false) := fun h => decide_eq_false (fun h' => h h'.2.1)
    generalize arN k = ar at *
    rw [s1'] at HC
    rcases (by omega : ar = 0 ∨ ar = 1 ∨ ar = 2 ∨ ar = 3) with rfl | rfl | rfl | rfl
    · go_wp2
      go_loop [22] (fun i => ∃ j : Nat, j ≤ 3 ∧ i = .int .i64 j ∧ ∀ m, 0 ≤ m → m < 0 + j → [a, b, c].getD m 0 = 0) (fun i => 3 - (intOf i).toNat)
      case atStart => exact ⟨0, by omega, rfl, fun m h1 h2 => by omega⟩
      case round =>
        obtain ⟨j, hj, rfl, hall⟩ := hrel
        have HA : Hid (∀ m, 0 ≤ m → m < 0 + j → [a, b, c].getD m 0 = 0) := hall
        clear hall
        by_cases hin : j < 3
        · have hin' : (j : Int) < 3 := by omega
          have hc : (w1.alloc (.cells #[.int .i64 a, .int .i64 b, .int .i64 c] 90)).cell? ⟨w.heap.size + 3, j, none⟩ = some (.int .i64 ([a, b, c].getD (j) 0)) := HC.out (j) (by omega)
          have HX : Hid (∀ x, [a, b, c].getD (j) 0 = x → x = 0 → ∀ m, 0 ≤ m → m < 0 + (j + 1) → [a, b, c].getD m 0 = 0) := fun x hx h0 m h1 h2 => by
            by_cases e : m = j
            · subst e; rw [hx, h0]
            · exact HA.out m h1 (by omega)
          have HY : Hid (∀ x, [a, b, c].getD (j) 0 = x → ¬ x = 0 → fieldsB ⟨k, a, b, c, n, s, o⟩ = false) := fun x hx h0 => HN.out (fun h => h0 (by rw [← hx]; exact (kids_null (by omega)).1 h (j) (by omega) (by omega)))
          obtain ⟨x, hx⟩ : ∃ x, [a, b, c].getD (j) 0 = x := ⟨_, rfl⟩
          rw [hx] at hc
          by_cases h0 : x = 0
          · have HX1 : Hid (∀ m, 0 ≤ m → m < 0 + (j + 1) → [a, b, c].getD m 0 = 0) := HX.out x hx h0
            have hnz : (x != 0) = false := by simpa using h0
            clear h0 hx HX HY
            go_wp2
            go_round
            case rel => exact ⟨j + 1, by omega, by go_num, HX1.out⟩
            case measure => simp [intOf]; omega
          · have HV : Hid (fieldsB ⟨k, a, b, c, n, s, o⟩ = false) := HY.out x hx h0
            have hnz : (x != 0) = true := by simpa using h0
            clear h0 hx HX HY
            go_wp2
            go_ret
            exact ⟨by rw [HV.out]; rfl, B1.out.alloc (by omega) _⟩
        · obtain rfl : j = 3 := by omega
          have HV : Hid (fieldsB ⟨k, a, b, c, n, s, o⟩ = (numB k n && wantB s (decide (1 ≤ (nmN k : Int))) && wantB o (decide (2 ≤ (nmN k : Int))))) := HF.out ((kids_null (by omega)).2 (fun m h1 h2 => HA.out m h1 (by omega)))
          clear HA hin hj
          go_wp2_with fail
          refine (impl_names k _).mono ?_
          rintro e w2 ⟨rfl, rfl⟩
          generalize nmN k = nm at *
          go_wp2_with fail
          refine (impl_number k a b c n s o _).mono ?_
          rintro e w3 ⟨rfl, b3⟩
          have BX : Hid (Below w.heap.size w w3) := (B1.out.alloc (by omega) _).trans (b3.mono (by simp; omega))
          have q5 : w3.cell? ⟨w.heap.size, 5, none⟩ = some (.string s) := by
            rw [b3.cell (p := ⟨w.heap.size, 5, none⟩) (by simp; omega), World.cell?_alloc_lt _ _ _ (by simp; omega)]
            exact p5
          have q6 : w3.cell? ⟨w.heap.size, 6, none⟩ = some (.string o) := by
            rw [b3.cell (p := ⟨w.heap.size, 6, none⟩) (by simp; omega), World.cell?_alloc_lt _ _ _ (by simp; omega)]
            exact p6
          clear b3 p0 p1 p2 p3 p4 p5 p6
          obtain ⟨N1, hN1⟩ : ∃ b, numB k n = b := ⟨_, rfl⟩
          rw [hN1] at HV ⊢
          clear hN1
          cases N1 with
          | false =>
            go_wp2
            go_ret
            exact ⟨by rw [HV.out]; rfl, BX.out⟩
          | true =>
            go_wp2_with fail
            refine (impl_want s _ HS.out.1 _).mono ?_
            rintro e w4 ⟨rfl, rfl⟩
            obtain ⟨N2, hN2⟩ : ∃ b, wantB s (decide (1 ≤ (nm : Int))) = b := ⟨_, rfl⟩
            rw [hN2] at HV ⊢
            clear hN2
            cases N2 with
            | false =>
              go_wp2
              go_ret
              exact ⟨by rw [HV.out]; rfl, BX.out⟩
            | true =>
              go_wp2_with fail
              refine (impl_want o _ HS.out.2 _).mono ?_
              rintro e w5 ⟨rfl, rfl⟩
              obtain ⟨N3, hN3⟩ : ∃ b, wantB o (decide (2 ≤ (nm : Int))) = b := ⟨_, rfl⟩
              rw [hN3] at HV ⊢
              clear hN3
              go_wp2
              go_ret
              exact ⟨by rw [HV.out]; rfl, BX.out⟩
    · go_wp2
      go_loop [22] (fun i => ∃ j : Nat, j ≤ 2 ∧ i = .int .i64 j ∧ ∀ m, 1 ≤ m → m < 1 + j → [a, b, c].getD m 0 = 0) (fun i => 2 - (intOf i).toNat)
      case atStart => exact ⟨0, by omega, rfl, fun m h1 h2 => by omega⟩
      case round =>
        obtain ⟨j, hj, rfl, hall⟩ := hrel
        have HA : Hid (∀ m, 1 ≤ m → m < 1 + j → [a, b, c].getD m 0 = 0) := hall
        clear hall
        by_cases hin : j < 2
        · have hin' : (j : Int) < 2 := by omega
          have hc : (w1.alloc (.cells #[.int .i64 a, .int .i64 b, .int .i64 c] 90)).cell? ⟨w.heap.size + 3, 1 + j, none⟩ = some (.int .i64 ([a, b, c].getD (1 + j) 0)) := HC.out (1 + j) (by omega)
          have HX : Hid (∀ x, [a, b, c].getD (1 + j) 0 = x → x = 0 → ∀ m, 1 ≤ m → m < 1 + (j + 1) → [a, b, c].getD m 0 = 0) := fun x hx h0 m h1 h2 => by
            by_cases e : m = 1 + j
            · subst e; rw [hx, h0]
            · exact HA.out m h1 (by omega)
          have HY : Hid (∀ x, [a, b, c].getD (1 + j) 0 = x → ¬ x = 0 → fieldsB ⟨k, a, b, c, n, s, o⟩ = false) := fun x hx h0 => HN.out (fun h => h0 (by rw [← hx]; exact (kids_null (by omega)).1 h (1 + j) (by omega) (by omega)))
          obtain ⟨x, hx⟩ : ∃ x, [a, b, c].getD (1 + j) 0 = x := ⟨_, rfl⟩
          rw [hx] at hc
          by_cases h0 : x = 0
          · have HX1 : Hid (∀ m, 1 ≤ m → m < 1 + (j + 1) → [a, b, c].getD m 0 = 0) := HX.out x hx h0
            have hnz : (x != 0) = false := by simpa using h0
            clear h0 hx HX HY
            go_wp2
            go_round
            case rel => exact ⟨j + 1, by omega, by go_num, HX1.out⟩
            case measure => simp [intOf]; omega
          · have HV : Hid (fieldsB ⟨k, a, b, c, n, s, o⟩ = false) := HY.out x hx h0
            have hnz : (x != 0) = true := by simpa using h0
            clear h0 hx HX HY
            go_wp2
            go_ret
            exact ⟨by rw [HV.out]; rfl, B1.out.alloc (by omega) _⟩
        · obtain rfl : j = 2 := by omega
          have HV : Hid (fieldsB ⟨k, a, b, c, n, s, o⟩ = (numB k n && wantB s (decide (1 ≤ (nmN k : Int))) && wantB o (decide (2 ≤ (nmN k : Int))))) := HF.out ((kids_null (by omega)).2 (fun m h1 h2 => HA.out m h1 (by omega)))
          clear HA hin hj
          go_wp2_with fail
          refine (impl_names k _).mono ?_
          rintro e w2 ⟨rfl, rfl⟩
          generalize nmN k = nm at *
          go_wp2_with fail
          refine (impl_number k a b c n s o _).mono ?_
          rintro e w3 ⟨rfl, b3⟩
          have BX : Hid (Below w.heap.size w w3) := (B1.out.alloc (by omega) _).trans (b3.mono (by simp; omega))
          have q5 : w3.cell? ⟨w.heap.size, 5, none⟩ = some (.string s) := by
            rw [b3.cell (p := ⟨w.heap.size, 5, none⟩) (by simp; omega), World.cell?_alloc_lt _ _ _ (by simp; omega)]
            exact p5
          have q6 : w3.cell? ⟨w.heap.size, 6, none⟩ = some (.string o) := by
            rw [b3.cell (p := ⟨w.heap.size, 6, none⟩) (by simp; omega), World.cell?_alloc_lt _ _ _ (by simp; omega)]
            exact p6
          clear b3 p0 p1 p2 p3 p4 p5 p6
          obtain ⟨N1, hN1⟩ : ∃ b, numB k n = b := ⟨_, rfl⟩
          rw [hN1] at HV ⊢
          clear hN1
          cases N1 with
          | false =>
            go_wp2
            go_ret
            exact ⟨by rw [HV.out]; rfl, BX.out⟩
          | true =>
            go_wp2_with fail
            refine (impl_want s _ HS.out.1 _).mono ?_
            rintro e w4 ⟨rfl, rfl⟩
            obtain ⟨N2, hN2⟩ : ∃ b, wantB s (decide (1 ≤ (nm : Int))) = b := ⟨_, rfl⟩
            rw [hN2] at HV ⊢
            clear hN2
            cases N2 with
            | false =>
              go_wp2
              go_ret
              exact ⟨by rw [HV.out]; rfl, BX.out⟩
            | true =>
              go_wp2_with fail
              refine (impl_want o _ HS.out.2 _).mono ?_
              rintro e w5 ⟨rfl, rfl⟩
              obtain ⟨N3, hN3⟩ : ∃ b, wantB o (decide (2 ≤ (nm : Int))) = b := ⟨_, rfl⟩
              rw [hN3] at HV ⊢
              clear hN3
              go_wp2
              go_ret
              exact ⟨by rw [HV.out]; rfl, BX.out⟩
    · go_wp2
      go_loop [22] (fun i => ∃ j : Nat, j ≤ 1 ∧ i = .int .i64 j ∧ ∀ m, 2 ≤ m → m < 2 + j → [a, b, c].getD m 0 = 0) (fun i => 1 - (intOf i).toNat)
      case atStart => exact ⟨0, by omega, rfl, fun m h1 h2 => by omega⟩
      case round =>
        obtain ⟨j, hj, rfl, hall⟩ := hrel
        have HA : Hid (∀ m, 2 ≤ m → m < 2 + j → [a, b, c].getD m 0 = 0) := hall
        clear hall
        by_cases hin : j < 1
        · have hin' : (j : Int) < 1 := by omega
          have hc : (w1.alloc (.cells #[.int .i64 a, .int .i64 b, .int .i64 c] 90)).cell? ⟨w.heap.size + 3, 2 + j, none⟩ = some (.int .i64 ([a, b, c].getD (2 + j) 0)) := HC.out (2 + j) (by omega)
          have HX : Hid (∀ x, [a, b, c].getD (2 + j) 0 = x → x = 0 → ∀ m, 2 ≤ m → m < 2 + (j + 1) → [a, b, c].getD m 0 = 0) := fun x hx h0 m h1 h2 => by
            by_cases e : m = 2 + j
            · subst e; rw [hx, h0]
            · exact HA.out m h1 (by omega)
          have HY : Hid (∀ x, [a, b, c].getD (2 + j) 0 = x → ¬ x = 0 → fieldsB ⟨k, a, b, c, n, s, o⟩ = false) := fun x hx h0 => HN.out (fun h => h0 (by rw [← hx]; exact (kids_null (by omega)).1 h (2 + j) (by omega) (by omega)))
          obtain ⟨x, hx⟩ : ∃ x, [a, b, c].getD (2 + j) 0 = x := ⟨_, rfl⟩
          rw [hx] at hc
          by_cases h0 : x = 0
          · have HX1 : Hid (∀ m, 2 ≤ m → m < 2 + (j + 1) → [a, b, c].getD m 0 = 0) := HX.out x hx h0
            have hnz : (x != 0) = false := by simpa using h0
            clear h0 hx HX HY
            go_wp2
            go_round
            case rel => exact ⟨j + 1, by omega, by go_num, HX1.out⟩
            case measure => simp [intOf]; omega
          · have HV : Hid (fieldsB ⟨k, a, b, c, n, s, o⟩ = false) := HY.out x hx h0
            have hnz : (x != 0) = true := by simpa using h0
            clear h0 hx HX HY
            go_wp2
            go_ret
            exact ⟨by rw [HV.out]; rfl, B1.out.alloc (by omega) _⟩
        · obtain rfl : j = 1 := by omega
          have HV : Hid (fieldsB ⟨k, a, b, c, n, s, o⟩ = (numB k n && wantB s (decide (1 ≤ (nmN k : Int))) && wantB o (decide (2 ≤ (nmN k : Int))))) := HF.out ((kids_null (by omega)).2 (fun m h1 h2 => HA.out m h1 (by omega)))
          clear HA hin hj
          go_wp2_with fail
          refine (impl_names k _).mono ?_
          rintro e w2 ⟨rfl, rfl⟩
          generalize nmN k = nm at *
          go_wp2_with fail
          refine (impl_number k a b c n s o _).mono ?_
          rintro e w3 ⟨rfl, b3⟩
          have BX : Hid (Below w.heap.size w w3) := (B1.out.alloc (by omega) _).trans (b3.mono (by simp; omega))
          have q5 : w3.cell? ⟨w.heap.size, 5, none⟩ = some (.string s) := by
            rw [b3.cell (p := ⟨w.heap.size, 5, none⟩) (by simp; omega), World.cell?_alloc_lt _ _ _ (by simp; omega)]
            exact p5
          have q6 : w3.cell? ⟨w.heap.size, 6, none⟩ = some (.string o) := by
            rw [b3.cell (p := ⟨w.heap.size, 6, none⟩) (by simp; omega), World.cell?_alloc_lt _ _ _ (by simp; omega)]
            exact p6
          clear b3 p0 p1 p2 p3 p4 p5 p6
          obtain ⟨N1, hN1⟩ : ∃ b, numB k n = b := ⟨_, rfl⟩
          rw [hN1] at HV ⊢
          clear hN1
          cases N1 with
          | false =>
            go_wp2
            go_ret
            exact ⟨by rw [HV.out]; rfl, BX.out⟩
          | true =>
            go_wp2_with fail
            refine (impl_want s _ HS.out.1 _).mono ?_
            rintro e w4 ⟨rfl, rfl⟩
            obtain ⟨N2, hN2⟩ : ∃ b, wantB s (decide (1 ≤ (nm : Int))) = b := ⟨_, rfl⟩
            rw [hN2] at HV ⊢
            clear hN2
            cases N2 with
            | false =>
              go_wp2
              go_ret
              exact ⟨by rw [HV.out]; rfl, BX.out⟩
            | true =>
              go_wp2_with fail
              refine (impl_want o _ HS.out.2 _).mono ?_
              rintro e w5 ⟨rfl, rfl⟩
              obtain ⟨N3, hN3⟩ : ∃ b, wantB o (decide (2 ≤ (nm : Int))) = b := ⟨_, rfl⟩
              rw [hN3] at HV ⊢
              clear hN3
              go_wp2
              go_ret
              exact ⟨by rw [HV.out]; rfl, BX.out⟩
    · go_wp2
      go_loop [22] (fun i => ∃ j : Nat, j ≤ 0 ∧ i = .int .i64 j ∧ ∀ m, 3 ≤ m → m < 3 + j → [a, b, c].getD m 0 = 0) (fun i => 0 - (intOf i).toNat)
      case atStart => exact ⟨0, by omega, rfl, fun m h1 h2 => by omega⟩
      case round =>
        obtain ⟨j, hj, rfl, hall⟩ := hrel
        have HA : Hid (∀ m, 3 ≤ m → m < 3 + j → [a, b, c].getD m 0 = 0) := hall
        clear hall
        by_cases hin : j < 0
        · exact absurd hin (by omega)
        · obtain rfl : j = 0 := by omega
          have HV : Hid (fieldsB ⟨k, a, b, c, n, s, o⟩ = (numB k n && wantB s (decide (1 ≤ (nmN k : Int))) && wantB o (decide (2 ≤ (nmN k : Int))))) := HF.out ((kids_null (by omega)).2 (fun m h1 h2 => HA.out m h1 (by omega)))
          clear HA hin hj
          go_wp2_with fail
          refine (impl_names k _).mono ?_
          rintro e w2 ⟨rfl, rfl⟩
          generalize nmN k = nm at *
          go_wp2_with fail
          refine (impl_number k a b c n s o _).mono ?_
          rintro e w3 ⟨rfl, b3⟩
          have BX : Hid (Below w.heap.size w w3) := (B1.out.alloc (by omega) _).trans (b3.mono (by simp; omega))
          have q5 : w3.cell? ⟨w.heap.size, 5, none⟩ = some (.string s) := by
            rw [b3.cell (p := ⟨w.heap.size, 5, none⟩) (by simp; omega), World.cell?_alloc_lt _ _ _ (by simp; omega)]
            exact p5
          have q6 : w3.cell? ⟨w.heap.size, 6, none⟩ = some (.string o) := by
            rw [b3.cell (p := ⟨w.heap.size, 6, none⟩) (by simp; omega), World.cell?_alloc_lt _ _ _ (by simp; omega)]
            exact p6
          clear b3 p0 p1 p2 p3 p4 p5 p6
          obtain ⟨N1, hN1⟩ : ∃ b, numB k n = b := ⟨_, rfl⟩
          rw [hN1] at HV ⊢
          clear hN1
          cases N1 with
          | false =>
            go_wp2
            go_ret
            exact ⟨by rw [HV.out]; rfl, BX.out⟩
          | true =>
            go_wp2_with fail
            refine (impl_want s _ HS.out.1 _).mono ?_
            rintro e w4 ⟨rfl, rfl⟩
            obtain ⟨N2, hN2⟩ : ∃ b, wantB s (decide (1 ≤ (nm : Int))) = b := ⟨_, rfl⟩
            rw [hN2] at HV ⊢
            clear hN2
            cases N2 with
            | false =>
              go_wp2
              go_ret
              exact ⟨by rw [HV.out]; rfl, BX.out⟩
            | true =>
              go_wp2_with fail
              refine (impl_want o _ HS.out.2 _).mono ?_
              rintro e w5 ⟨rfl, rfl⟩
              obtain ⟨N3, hN3⟩ : ∃ b, wantB o (decide (2 ≤ (nm : Int))) = b := ⟨_, rfl⟩
              rw [hN3] at HV ⊢
              clear hN3
              go_wp2
              go_ret
              exact ⟨by rw [HV.out]; rfl, BX.out⟩
  · have HV : Hid (fieldsB ⟨k, a, b, c, n, s, o⟩ = false) := decide_eq_false (fun h => hk h.1)
    by_cases h1 : k < 1
    · clear hk
      go_enter Tryz.func77, Tryz.ntmps77
      go_wp2
      go_ret
      exact ⟨by rw [HV.out]; rfl, HB.out⟩
    · have h2 : 19 < k := by omega
      clear hk
      go_enter Tryz.func77, Tryz.ntmps77
      go_wp2
      go_ret
      exact ⟨by rw [HV.out]; rfl, HB.out⟩
end
end Go.Proofs.YtlooccddflpmnaaGreatDoor
