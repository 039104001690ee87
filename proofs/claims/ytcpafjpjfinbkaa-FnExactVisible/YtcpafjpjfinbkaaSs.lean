/-
  Rows of texts of the call's own; a text is put into its place, the specification's. Conditions: written at each theorem.
-/
import Derived.Test.YtcpafjpjfinbkaaSu
import Derived.Test.YtcpafjpjfinbkaaNy
import Derived.Test.YtcpafjpjfinbkaaNk
import Derived.Test.YtcpafjpjfinbkaaSt
import Derived.Sort.OwnSorted
import Derived.Sort.Walk0
import Derived.Laws.Cover1
namespace Go.Proofs.Ytcpafjpjfinbkaa
open Go.ChangeShapes Go.WideShapes Go.ChangeAt Go.RowKit Go.Sort
set_option linter.unusedVariables false

/-- A slice of texts of the call's own. -/
abbrev ownS (w : World) (base : Nat) (v : Value) (l : List (List UInt8)) : Prop := w.ownsRow base 9 1 v l.length (l.map encStr)

theorem ownS_kept {w w' : World} {B N : Nat} {v : Value} {l : List (List UInt8)} (h : ownS w B v l) (hb : Below N w w') (hN : w.heap.size ≤ N) : ownS w' B v l := by
  rcases h.2 with ⟨rfl, h0⟩ | ⟨g, cap, cur, rfl, hB, hg, hn, hm, hs, ht⟩
  · exact ⟨h.1, Or.inl ⟨rfl, h0⟩⟩
  · exact ⟨h.1, Or.inr ⟨g, cap, cur, rfl, hB, (hb.block g (by have := (Array.getElem?_eq_some_iff.1 hg).1; omega)).trans hg, hn, hm, hs, ht⟩⟩

theorem ownS_base {w : World} {B B' : Nat} {v : Value} {l : List (List UInt8)} (h : ownS w B v l) (hB : B' ≤ B) : ownS w B' v l := by
  rcases h.2 with ⟨rfl, h0⟩ | ⟨g, cap, cur, rfl, hb, hg, hn, hm, hs, ht⟩
  · exact ⟨h.1, Or.inl ⟨rfl, h0⟩⟩
  · exact ⟨h.1, Or.inr ⟨g, cap, cur, rfl, by omega, hg, hn, hm, hs, ht⟩⟩

theorem ownS_empty {w : World} {B : Nat} (hB : B ≤ w.heap.size) : ownS (w.alloc (.cells #[] 9)) B (.slice (some ⟨w.heap.size, 0, none⟩) 0 0) [] :=
  ⟨rfl, Or.inr ⟨w.heap.size, 0, #[], rfl, hB, (MapKept.heap_alloc w _).1, Nat.le_refl _, by unfold maxLen; omega, rfl, rfl⟩⟩

theorem ownS_nil {w : World} {B : Nat} : ownS w B (.slice none 0 0) [] := ⟨rfl, Or.inl ⟨rfl, rfl⟩⟩

theorem ownS_next {w : World} {B : Nat} {v : Value} {l : List (List UInt8)} {m : Nat} {xs : List Value} (s : List UInt8) (h : w.ownsRow B 9 1 v m xs) (hn : m = l.length + 1) (hx : xs = l.map encStr ++ [encStr s]) : ownS w B v (l ++ [s]) := by
  unfold ownS
  rw [hn, hx] at h
  rw [List.length_append, List.map_append]
  exact h

/-- Where the texts of a row of its own lie. -/
theorem ownS_form {w : World} {B : Nat} {v : Value} {l : List (List UInt8)} (h : ownS w B v l) :
    ∃ (a : Option Addr) (g cap : Nat), v = .slice a l.length cap ∧ (0 < l.length → a = some ⟨g, 0, none⟩ ∧ B ≤ g ∧ g < w.heap.size) ∧ (∀ j, j < l.length → w.cell? ⟨g, j, none⟩ = some (.string ⟨(l.getD j []).toArray⟩) ∧ w.frozen? ⟨g, j, none⟩ = false) := by
  rcases h.2 with ⟨rfl, h0⟩ | ⟨g, cap, cur, rfl, hb, hg, hn, hm, hs, ht⟩
  · rw [h0]
    exact ⟨none, 0, 0, rfl, fun h => absurd h (by omega), fun j hj => absurd hj (by omega)⟩
  · refine ⟨some ⟨g, 0, none⟩, g, cap, rfl, fun _ => ⟨rfl, hb, (Array.getElem?_eq_some_iff.1 hg).1⟩, fun j hj => ⟨?_, frozen_of_row w g j _ _ hg⟩⟩
    rw [cell_of_row _ _ _ _ _ _ hg, ← Array.getElem?_toList]
    rw [Nat.mul_one] at ht
    have h1 : (cur.toList.take l.length)[j]? = (l.map encStr)[j]? := by rw [ht]
    rw [List.getElem?_take_of_lt hj] at h1
    rw [h1]
    simp [List.getD, hj]

theorem info_str : (Try.prog.info? 9).map (fun i => (i.zero, i.size, i.bytes)) = some (some (.string ⟨#[]⟩), 1, 16) := by kernel_rfl

theorem bytes_list (s : ByteArray) : (⟨s.data.toList.toArray⟩ : ByteArray) = s := by
  cases s
  simp

theorem tx_ne {x : List UInt8} {s : ByteArray} (h : ¬ x = s.data.toList) : ((⟨x.toArray⟩ : ByteArray).toList == s.toList) = false := by
  rw [beq_eq_false_iff_ne]
  intro e
  rw [Lib.toList_data, Lib.toList_data] at e
  exact h (by simpa using e)

theorem str_new {w : World} {s : ByteArray} {t : TypeId} : ∀ (j : Nat) (u : Value), ([Value.string s] : List Value)[j]? = some u → (w.alloc (.cells #[.string s] t)).cell? ((⟨w.heap.size, 0, none⟩ : Addr).add j) = some u := by
  intro j u hj
  match j, hj with
  | 0, hj => simp at hj; subst hj; simp [Addr.add]

set_option maxHeartbeats 4000000 in
set_option maxRecDepth 20000 in
theorem spec_sort (B : Nat) (v : Value) (l : List (List UInt8)) (s : ByteArray) (hup : Up l) (hl : l.length ≤ 1000) (w : World) (hB : B ≤ w.heap.size) (ho : ownS w B v l) :
    Calls Try.prog 48 #[v, .string s] w fun e w' => ∃ v', e = .returned v' ∧ ownS w' B v' (insU l s.data.toList) ∧ Below w.heap.size w w' := by
  obtain ⟨a, g, cap, rfl, ha, hcell⟩ := ownS_form ho
  have HO : Hid (ownS w B (.slice a l.length cap) l) := ho
  have HC : Hid (∀ j, j < l.length → w.cell? ⟨g, j, none⟩ = some (.string ⟨(l.getD j []).toArray⟩) ∧ w.frozen? ⟨g, j, none⟩ = false) := hcell
  have HU : Hid (Up l) := hup
  obtain ⟨i0, hi, hz0, hz1, hz2⟩ := info_parts info_str
  clear ho hcell hup
  go_enter Try.func48, Try.ntmps48
  go_wp2
  go_loopw [5, 6, 7] (fun out dn iv wr => ∃ (k : Nat) (d : Bool) (j : Nat), k ≤ l.length ∧ iv = .int .i64 k ∧ dn = .bool d ∧ Hid (∀ x ∈ l.take j, x < s.data.toList) ∧ Hid ((d = false → j = k ∧ ownS wr w.heap.size out (l.take k)) ∧ (d = true → j < k ∧ s.data.toList < l.getD j [] ∧ ownS wr w.heap.size out (l.take j ++ [s.data.toList] ++ (l.drop j).take (k - j)))) ∧ Below w.heap.size w wr) (fun _ _ iv _ => l.length - (intOf iv).toNat)
  case atStart => exact ⟨0, false, 0, by omega, rfl, rfl, fun x hx => by simp at hx, ⟨fun _ => ⟨rfl, ownS_empty (Nat.le_refl _)⟩, fun h => by cases h⟩, (Below.refl _ w).alloc (Nat.le_refl _) _⟩
  case round =>
    obtain ⟨k, d, j, hk, rfl, rfl, HJ, HD, hb⟩ := hrel
    have hs := hb.size
    by_cases hin : k < l.length
    · have hin' : (k : Int) < l.length := by omega
      obtain ⟨rfl, hBg, hgl⟩ := ha (by omega)
      obtain ⟨ck, fk⟩ := HC.out k hin
      have ck' := (World.cell?_of_block (hb.block g hgl)).trans ck
      obtain ⟨x, hx⟩ : ∃ x, l.getD k [] = x := ⟨_, rfl⟩
      rw [hx] at ck'
      have HX : Hid (l.getD k [] = x) := hx
      clear ck fk hx
      have hdrop : l.drop k = x :: l.drop (k + 1) := by
        rw [List.drop_eq_getElem_cons hin]
        congr 1
        rw [← HX.out]
        simp [List.getD, hin]
      have HDR : Hid (l.drop k = x :: l.drop (k + 1)) := hdrop
      have htk : l.take (k + 1) = l.take k ++ [x] := by
        rw [List.take_succ_eq_append_getElem hin]
        congr 2
        rw [← HX.out]
        simp [List.getD, hin]
      have HTK : Hid (l.take (k + 1) = l.take k ++ [x]) := htk
      clear hdrop htk
      by_cases hxs : x = s.data.toList
      · have HR : Hid (insU l s.data.toList = l) := by
          show insU l s.data.toList = l
          cases d with
          | false =>
            obtain ⟨rfl, _⟩ := HD.out.1 rfl
            conv => lhs; rw [← List.take_append_drop j l]
            rw [insU_app _ _ _ HJ.out, HDR.out, insU, if_pos hxs, ← HDR.out, List.take_append_drop]
          | true =>
            obtain ⟨h1, h2, _⟩ := HD.out.2 rfl
            exfalso
            have hp := List.pairwise_iff_getElem.1 HU.out j k (by omega) hin h1
            have e1 : l.getD j [] = l[j] := by simp [List.getD, show j < l.length by omega]
            have e2 : x = l[k] := by rw [← HX.out]; simp [List.getD, hin]
            rw [e1] at h2
            rw [← e2, hxs] at hp
            exact tx_irr _ (tx_trans h2 hp)
        have hsub : (⟨x.toArray⟩ : ByteArray) = s := (congrArg (fun y : List UInt8 => (⟨y.toArray⟩ : ByteArray)) hxs).trans (bytes_list s)
        rw [hsub] at ck'
        clear hsub hxs
        go_wp2
        go_ret
        exact ⟨_, rfl, by rw [HR.out]; exact ownS_kept HO.out hb (Nat.le_refl _), hb⟩
      · have hne := tx_ne hxs
        have hxl : (⟨x.toArray⟩ : ByteArray).toList = x := by rw [Lib.toList_data]
        have hsl : s.toList = s.data.toList := Lib.toList_data s
        obtain ⟨X, hX⟩ : ∃ X : ByteArray, ⟨x.toArray⟩ = X := ⟨_, rfl⟩
        rw [hX] at ck' hne hxl
        have HXX : Hid (⟨x.toArray⟩ = X) := hX
        clear hX
        have HLN : Hid ((l.take k).length = k) := by show (l.take k).length = k; simp; omega
        cases d with
        | true =>
          obtain ⟨h1, h2, h3⟩ := HD.out.2 rfl
          have H3 : Hid (ownS wr w.heap.size u5 (l.take j ++ [s.data.toList] ++ (l.drop j).take (k - j))) := h3
          have HLL : Hid ((l.take j ++ [s.data.toList] ++ (l.drop j).take (k - j)).length = k + 1) := by show _ = _; simp; omega
          have HNX : Hid (l.take j ++ [s.data.toList] ++ (l.drop j).take (k + 1 - j) = (l.take j ++ [s.data.toList] ++ (l.drop j).take (k - j)) ++ [x]) := by
            show _ = _
            have e : k + 1 - j = (k - j) + 1 := by omega
            rw [e, List.take_succ_eq_append_getElem (by simp; omega), List.append_assoc, List.append_assoc, List.append_assoc]
            congr 4
            rw [List.getElem_drop, ← HX.out]
            simp [List.getD, hin, show j + (k - j) = k by omega]
          clear h3 HD hxl hsl
          generalize l.take j ++ [s.data.toList] ++ (l.drop j).take (k - j) = M at *
          go_wp2_with (at_builtin; refine wpList_append_own _ rfl _ _ 33 rfl w.heap.size 9 i0 (.string ⟨#[]⟩) 1 16 Try.underlying33 hi hz0 hz1 hz2 rfl (by decide) _ _ _ rfl (H3.out.alloc _) ⟨wr.heap.size, 0, none⟩ 1 1 [.string X] rfl rfl ?a1 ?a2 ?a3 ?a4 ?a5 ?_)
          try (case a1 => exact str_new)
          case a2 => first | rfl | (intro u hu; simp at hu; subst hu; rfl)
          case a3 => have := HLL.out; unfold maxLen; omega
          case a4 => have := HLL.out; omega
          case a5 => first | omega | (simp; omega)
          intro v' W3 hown' hgrow _
          have HM : Hid (ownS W3 w.heap.size v' (l.take j ++ [s.data.toList] ++ (l.drop j).take (k + 1 - j))) := by
            show ownS W3 w.heap.size v' _
            rw [HNX.out]
            exact ownS_next x hown' rfl (by show _ = _ ++ [Value.string ⟨x.toArray⟩]; rw [HXX.out])
          have HB3 : Hid (Below w.heap.size w W3) := (hb.alloc hs _).grown hgrow (by simp; omega) (fun q hq => (H3.out.lt q hq).1)
          have H2 : Hid (s.data.toList < l.getD j []) := h2
          clear hown' hgrow H3 hb h2
          go_wp2
          go_roundw
          case rel => exact ⟨k + 1, true, j, by omega, by go_num, rfl, HJ, ⟨(fun h => by cases h), fun _ => ⟨by omega, H2.out, HM.out⟩⟩, HB3.out⟩
          case measure => simp [intOf]; omega
        | false =>
          obtain ⟨rfl, h3⟩ := HD.out.1 rfl
          have H30 : Hid (ownS wr w.heap.size u5 (l.take j)) := h3
          clear h3 HD
          obtain ⟨T, hT⟩ : ∃ T, l.take j = T := ⟨_, rfl⟩
          rw [hT] at H30 HLN HTK
          have H3 : Hid (ownS wr w.heap.size u5 T) := H30
          have HTT : Hid (l.take j = T) := hT
          clear hT H30
          by_cases hlt : s.data.toList < x
          · have hbl : Op.bytesLess X.toList s.toList = false := by
              rw [bytesLess_eq, hxl, hsl]
              exact decide_eq_false (fun h => tx_irr _ (tx_trans h hlt))
            have HLT : Hid (s.data.toList < x) := hlt
            clear hxl hsl hlt
            go_wp2_with (at_builtin; refine wpList_append_own _ rfl _ _ 33 rfl w.heap.size 9 i0 (.string ⟨#[]⟩) 1 16 Try.underlying33 hi hz0 hz1 hz2 rfl (by decide) _ _ _ rfl (H3.out.alloc _) ⟨wr.heap.size, 0, none⟩ 1 1 [.string s] rfl rfl ?b1 ?b2 ?b3 ?b4 ?b5 ?_)
            try (case b1 => exact str_new)
            case b2 => first | rfl | (intro u hu; simp at hu; subst hu; rfl)
            case b3 => have := HLN.out; unfold maxLen; omega
            case b4 => have := HLN.out; omega
            case b5 => first | omega | (simp; omega)
            intro v' W3 hown' hgrow _
            have HM : Hid (ownS W3 w.heap.size v' (T ++ [s.data.toList])) := by
              refine ownS_next s.data.toList hown' rfl ?_
              show _ = _ ++ [Value.string ⟨s.data.toList.toArray⟩]
              rw [bytes_list]
            have HB3 : Hid (Below w.heap.size w W3) := (hb.alloc hs _).grown hgrow (by simp; omega) (fun q hq => (H3.out.lt q hq).1)
            have ck3 := (World.cell?_of_block (HB3.out.block g hgl)).trans (HC.out j hin).1
            rw [HX.out, HXX.out] at ck3
            have hs3 := HB3.out.size
            have HLM : Hid ((T ++ [s.data.toList]).length = j + 1) := by show _ = _; rw [List.length_append, HLN.out]; rfl
            clear hown' hgrow H3 hb ck' hbl
            generalize hMM : T ++ [s.data.toList] = M at *
            have HMQ : Hid (l.take j ++ [s.data.toList] = M) := by show _ = _; rw [HTT.out]; exact hMM
            clear hMM
            go_wp2_with (at_builtin; refine wpList_append_own _ rfl _ _ 33 rfl w.heap.size 9 i0 (.string ⟨#[]⟩) 1 16 Try.underlying33 hi hz0 hz1 hz2 rfl (by decide) _ _ _ rfl (HM.out.alloc _) ⟨W3.heap.size, 0, none⟩ 1 1 [.string X] rfl rfl ?c1 ?c2 ?c3 ?c4 ?c5 ?_)
            try (case c1 => exact str_new)
            case c2 => first | rfl | (intro u hu; simp at hu; subst hu; rfl)
            case c3 => have := HLM.out; unfold maxLen; omega
            case c4 => have := HLM.out; omega
            case c5 => first | omega | (simp; omega)
            intro v' W4 hown' hgrow _
            have HM4 : Hid (ownS W4 w.heap.size v' (l.take j ++ [s.data.toList] ++ (l.drop j).take (j + 1 - j))) := by
              show ownS W4 w.heap.size v' _
              rw [HMQ.out, show j + 1 - j = 1 by omega, HDR.out]
              exact ownS_next x hown' rfl (by show _ = _ ++ [Value.string ⟨x.toArray⟩]; rw [HXX.out])
            have HB4 : Hid (Below w.heap.size w W4) := (HB3.out.alloc hs3 _).grown hgrow (by simp; omega) (fun q hq => (HM.out.lt q hq).1)
            have HGT : Hid (s.data.toList < l.getD j []) := by show _ < _; rw [HX.out]; exact HLT.out
            clear hown' hgrow HM HB3 ck3
            go_wp2
            go_roundw
            case rel => exact ⟨j + 1, true, j, by omega, by go_num, rfl, HJ, ⟨(fun h => by cases h), fun _ => ⟨by omega, HGT.out, HM4.out⟩⟩, HB4.out⟩
            case measure => simp [intOf]; omega
          · have hbl : Op.bytesLess X.toList s.toList = true := by
              rw [bytesLess_eq, hxl, hsl]
              exact decide_eq_true (tx_tri hxs hlt)
            have HXL : Hid (x < s.data.toList) := tx_tri hxs hlt
            have HLM : Hid (T.length = j) := HLN
            clear hxl hsl hlt
            go_wp2_with (at_builtin; refine wpList_append_own _ rfl _ _ 33 rfl w.heap.size 9 i0 (.string ⟨#[]⟩) 1 16 Try.underlying33 hi hz0 hz1 hz2 rfl (by decide) _ _ _ rfl (H3.out.alloc _) ⟨wr.heap.size, 0, none⟩ 1 1 [.string X] rfl rfl ?d1 ?d2 ?d3 ?d4 ?d5 ?_)
            try (case d1 => exact str_new)
            case d2 => first | rfl | (intro u hu; simp at hu; subst hu; rfl)
            case d3 => have := HLM.out; unfold maxLen; omega
            case d4 => have := HLM.out; omega
            case d5 => first | omega | (simp; omega)
            intro v' W4 hown' hgrow _
            have HM4 : Hid (ownS W4 w.heap.size v' (l.take (j + 1))) := by
              show ownS W4 w.heap.size v' _
              rw [HTK.out]
              exact ownS_next x hown' rfl (by show _ = _ ++ [Value.string ⟨x.toArray⟩]; rw [HXX.out])
            have HB4 : Hid (Below w.heap.size w W4) := (hb.alloc hs _).grown hgrow (by simp; omega) (fun q hq => (H3.out.lt q hq).1)
            have HJ4 : Hid (∀ y ∈ l.take (j + 1), y < s.data.toList) := by
              intro y hy
              rw [HTK.out] at hy
              rcases List.mem_append.1 hy with h | h
              · exact HJ.out y (by rw [HTT.out]; exact h)
              · rw [List.mem_singleton] at h
                rw [h]
                exact HXL.out
            clear hown' hgrow H3 hb ck'
            go_wp2
            go_roundw
            case rel => exact ⟨j + 1, false, j + 1, by omega, by go_num, rfl, HJ4, ⟨fun _ => ⟨rfl, HM4.out⟩, (fun h => by cases h)⟩, HB4.out⟩
            case measure => simp [intOf]; omega
    · obtain rfl : k = l.length := by omega
      cases d with
      | true =>
        obtain ⟨h1, h2, h3⟩ := HD.out.2 rfl
        have HE : Hid (ownS wr B u5 (insU l s.data.toList)) := by
          show ownS wr B u5 _
          have e : insU l s.data.toList = l.take j ++ [s.data.toList] ++ (l.drop j).take (l.length - j) := by
            conv => lhs; rw [← List.take_append_drop j l]
            rw [insU_app _ _ _ HJ.out]
            have hd : l.drop j = l.getD j [] :: l.drop (j + 1) := by
              rw [List.drop_eq_getElem_cons h1]
              congr 1
              simp [List.getD, h1]
            rw [show (l.drop j).take (l.length - j) = l.drop j by rw [List.take_of_length_le]; simp, hd, insU, if_neg (fun e => by rw [e] at h2; exact tx_irr _ h2), if_pos h2]
            simp
          rw [e]
          exact ownS_base h3 hB
        clear HD h3 h2
        go_wp2
        go_ret
        exact ⟨_, rfl, HE.out, hb⟩
      | false =>
        obtain ⟨hj, h3⟩ := HD.out.1 rfl
        have H3 : Hid (ownS wr w.heap.size u5 l) := by
          show ownS wr w.heap.size u5 l
          have := h3
          rw [List.take_length] at this
          exact this
        have HE : Hid (insU l s.data.toList = l ++ [s.data.toList]) := by
          show insU l s.data.toList = _
          have h := insU_app l [] s.data.toList (fun x hx => HJ.out x (by rw [hj, List.take_length]; exact hx))
          rw [List.append_nil] at h
          exact h
        clear HD h3
        go_wp2_with (at_builtin; refine wpList_append_own _ rfl _ _ 33 rfl w.heap.size 9 i0 (.string ⟨#[]⟩) 1 16 Try.underlying33 hi hz0 hz1 hz2 rfl (by decide) _ _ _ rfl (H3.out.alloc _) ⟨wr.heap.size, 0, none⟩ 1 1 [.string s] rfl rfl ?e1 ?e2 ?e3 ?e4 ?e5 ?_)
        try (case e1 => exact str_new)
        case e2 => first | rfl | (intro u hu; simp at hu; subst hu; rfl)
        case e3 => unfold maxLen; omega
        case e4 => omega
        case e5 => first | omega | (simp; omega)
        intro v' W4 hown' hgrow _
        have HM4 : Hid (ownS W4 B v' (insU l s.data.toList)) := by
          show ownS W4 B v' _
          rw [HE.out]
          refine ownS_base (ownS_next s.data.toList hown' rfl ?_) hB
          show _ = _ ++ [Value.string ⟨s.data.toList.toArray⟩]
          rw [bytes_list]
        have HB4 : Hid (Below w.heap.size w W4) := (hb.alloc hs _).grown hgrow (by simp; omega) (fun q hq => (H3.out.lt q hq).1)
        clear hown' hgrow H3 hb
        go_wp2
        go_ret
        exact ⟨_, rfl, HM4.out, HB4.out⟩
end Go.Proofs.Ytcpafjpjfinbkaa
