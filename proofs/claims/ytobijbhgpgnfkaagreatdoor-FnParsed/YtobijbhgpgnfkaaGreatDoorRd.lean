/-
  ReadDec, the specification's. Conditions: written at each theorem.
-/
import Derived.Test.YtobijbhgpgnfkaaGreatDoorDi
import Derived.Lib.Strings
namespace Go.Proofs.YtobijbhgpgnfkaaGreatDoor
open Go.ChangeShapes Go.WideShapes Go.ChangeAt Go.RowKit
set_option linter.unusedVariables false

theorem take_next (s : ByteArray) (j : Nat) (h : j < s.size) : s.data.toList.take (j + 1) = s.data.toList.take j ++ [s[j]] := by
  have hj : j < s.data.toList.length := by simpa using h
  rw [List.take_succ_eq_append_getElem hj]
  congr 1

theorem num_one (a : Nat) (c : UInt8) : num a [c] = if 48 ≤ c.toNat ∧ c.toNat ≤ 57 then a * 10 + (c.toNat - 48) else a := by
  simp only [num]

theorem cnt_one (c : UInt8) : cnt [c] = if 48 ≤ c.toNat ∧ c.toNat ≤ 57 then 1 else 0 := by
  simp only [cnt]

theorem str_ne {n : Int} {s : ByteArray} (h : (!Lib.itoa n == s.toList) = true) : Lib.itoa n ≠ s.data.toList := by
  rw [Lib.toList_data] at h
  simpa using h

theorem str_eq {n : Int} {s : ByteArray} (h : (!Lib.itoa n == s.toList) = false) : Lib.itoa n = s.data.toList := by
  rw [Lib.toList_data] at h
  simpa using h

/-- A call of ReadDec that ends so has answered rightly. -/
def RdEnd (l : List UInt8) (e : Ending) : Prop := ∃ (n : Int) (ok : Bool), IsRd l n ok ∧ e = .returned (.tuple #[.int .i64 n, .bool ok])

theorem rdEnd_mk {l : List UInt8} {n : Int} {ok : Bool} (h : IsRd l n ok) : RdEnd l (.returned (.tuple #[.int .i64 n, .bool ok])) := ⟨n, ok, h, rfl⟩

set_option maxRecDepth 20000 in
theorem spec_rd (s : ByteArray) (hs : s.size ≤ 1048576) (w : World) :
    Calls Tryz.prog 52 #[.string s] w fun e w' => RdEnd s.data.toList e ∧ Below w.heap.size w w' := by
  have hlen : s.data.toList.length = s.size := by rw [Array.length_toList]; rfl
  have HL : Hid (s.data.toList.length = s.size) := hlen
  clear hlen
  go_enter Tryz.func52, Tryz.ntmps52
  go_wp2
  go_loop [4, 5, 6] (fun n k i => ∃ j : Nat, j ≤ s.size ∧ j ≤ 11 ∧ i = .int .i64 j ∧ n = .int .i64 (num 0 (s.data.toList.take j) : Nat) ∧ k = .int .i64 (cnt (s.data.toList.take j) : Nat)) (fun _ _ i => 12 - (intOf i).toNat)
  case atStart => exact ⟨0, by omega, by omega, rfl, rfl, rfl⟩
  case round =>
    obtain ⟨j, hj, h11, rfl, rfl, rfl⟩ := hrel
    have hc : cnt (s.data.toList.take j) ≤ j := Nat.le_trans (cnt_le _) (by simp; omega)
    have hn : num 0 (s.data.toList.take j) < 100000000000 := by
      have h := num_lt (s.data.toList.take j) 0 0 (by simp)
      have h2 : 10 ^ (0 + cnt (s.data.toList.take j)) ≤ 10 ^ 11 := Nat.pow_le_pow_right (by omega) (by omega)
      omega
    by_cases hin : j < s.size ∧ j < 11
    · obtain ⟨hjs, hj11⟩ := hin
      have hjs' : (j : Int) < s.size := by omega
      have hj11' : (j : Int) < 11 := by omega
      have T := take_next s j hjs
      obtain ⟨b, hb⟩ : ∃ b : Nat, s[j].toNat = b := ⟨_, rfl⟩
      have hbl : b < 256 := by rw [← hb]; exact UInt8.toNat_lt _
      have EN : Hid (num 0 (s.data.toList.take (j + 1)) = if 48 ≤ b ∧ b ≤ 57 then num 0 (s.data.toList.take j) * 10 + (b - 48) else num 0 (s.data.toList.take j)) := by
        show num 0 (s.data.toList.take (j + 1)) = _
        rw [T, num_append, num_one, hb]
      have EC : Hid (cnt (s.data.toList.take (j + 1)) = cnt (s.data.toList.take j) + if 48 ≤ b ∧ b ≤ 57 then 1 else 0) := by
        show cnt (s.data.toList.take (j + 1)) = _
        rw [T, cnt_append, cnt_one, hb]
      clear T
      generalize num 0 (s.data.toList.take j) = a at *
      generalize cnt (s.data.toList.take j) = c at *
      go_wp2
      · have h48 : (48 : Int) ≤ b := by assumption
        have h57 : (b : Int) ≤ 57 := by assumption
        have EN' := EN.out
        have EC' := EC.out
        rw [if_pos (by omega)] at EN' EC'
        go_round
        case rel => exact ⟨j + 1, by omega, by omega, by go_num, by rw [EN']; go_num, by rw [EC']; go_num⟩
        case measure => simp [intOf]; omega
      · have h57 : (57 : Int) < b := by assumption
        have EN' := EN.out
        have EC' := EC.out
        rw [if_neg (by omega)] at EN' EC'
        go_round
        case rel => exact ⟨j + 1, by omega, by omega, by go_num, by rw [EN'], by rw [EC']; go_num⟩
        case measure => simp [intOf]; omega
      · have h48 : ¬ (48 : Int) ≤ b := by assumption
        have EN' := EN.out
        have EC' := EC.out
        rw [if_neg (by omega)] at EN' EC'
        go_round
        case rel => exact ⟨j + 1, by omega, by omega, by go_num, by rw [EN'], by rw [EC']; go_num⟩
        case measure => simp [intOf]; omega
    · by_cases hbig : 10 < s.size
      · have hfin : Hid (IsRd s.data.toList 0 false) := rd_spec_no _ (Or.inr (Or.inl (by rw [HL.out]; exact hbig)))
        have hj' : ¬ ((j : Int) < 11) := by omega
        have h0 : 0 < s.size := by omega
        have hbig' : (10 : Int) < s.size := by omega
        obtain ⟨b, hb⟩ : ∃ b : Nat, s[0].toNat = b := ⟨_, rfl⟩
        have hbl : b < 256 := by rw [← hb]; exact UInt8.toNat_lt _
        generalize num 0 (s.data.toList.take j) = a at *
        generalize cnt (s.data.toList.take j) = c at *
        go_wp2
        all_goals go_ret2
        all_goals exact ⟨rdEnd_mk hfin.out, Below.refl _ _⟩
      · obtain rfl : j = s.size := by omega
        have T : s.data.toList.take s.size = s.data.toList := List.take_of_length_le (by rw [HL.out]; exact Nat.le_refl _)
        rw [T] at hc hn
        rw [T]
        have hjs : ¬ ((s.size : Int) < s.size) := by omega
        have hle : ¬ ((10 : Int) < s.size) := by omega
        obtain ⟨N, hN⟩ : ∃ N, N = sgn s.data.toList (num 0 s.data.toList) := ⟨_, rfl⟩
        have hy := rd_spec_yes s.data.toList
        have hno := rd_spec_no s.data.toList
        rw [← hN] at hy hno
        have HY : Hid (cnt s.data.toList ≤ 9 → Lib.itoa N = s.data.toList → IsRd s.data.toList N true) := hy
        have HNO : Hid (9 < cnt s.data.toList ∨ 10 < s.data.toList.length ∨ Lib.itoa N ≠ s.data.toList → IsRd s.data.toList 0 false) := hno
        clear hy hno T
        have HN : Hid (N = sgn s.data.toList (num 0 s.data.toList)) := hN
        clear hN
        have hsg : sgn s.data.toList (num 0 s.data.toList) = if s.data.toList.head? = some 45 then -((num 0 s.data.toList : Nat) : Int) else (num 0 s.data.toList : Nat) := rfl
        by_cases hneg : s.data.toList.head? = some 45
        · have h0 : 0 < s.size := by
            rw [← HL.out]
            exact List.length_pos_iff.2 (fun h => by rw [h] at hneg; simp at hneg)
          have hb : s[0].toNat = 45 := by
            have : s.data.toList.head? = some s[0] := by
              rw [List.head?_eq_getElem?, List.getElem?_eq_getElem (by rw [HL.out]; exact h0)]
              rfl
            rw [this] at hneg
            injection hneg with hneg
            rw [hneg]
            rfl
          have eN : N = -((num 0 s.data.toList : Nat) : Int) := by rw [HN.out, hsg, if_pos hneg]
          clear hneg hsg
          generalize num 0 s.data.toList = a at *
          generalize cnt s.data.toList = c at *
          have h0' : (0 : Int) < s.size := by omega
          by_cases hk : (9 : Int) < c
          · have hfin : Hid (IsRd s.data.toList 0 false) := HNO.out (Or.inl (by omega))
            go_wp2
            all_goals go_ret2
            all_goals exact ⟨rdEnd_mk hfin.out, Below.refl _ _⟩
          · subst eN
            go_wp2_with fail
            refine (spec_dec (-(a : Int)) (by omega) (by omega) w).mono ?_
            rintro e w1 ⟨rfl, hb1⟩
            go_wp2
            · have hne := str_ne (by assumption : (!Lib.itoa (-(a : Int)) == s.toList) = true)
              have hfin : IsRd s.data.toList 0 false := HNO.out (Or.inr (Or.inr hne))
              go_ret2
              exact ⟨rdEnd_mk hfin, hb1⟩
            · have he := str_eq (by assumption : (!Lib.itoa (-(a : Int)) == s.toList) = false)
              have hfin : IsRd s.data.toList (-(a : Int)) true := HY.out (by omega) he
              go_ret2
              exact ⟨rdEnd_mk hfin, hb1⟩
        · have eN : N = ((num 0 s.data.toList : Nat) : Int) := by rw [HN.out, hsg, if_neg hneg]
          have hb : 0 < s.size → ∀ h : 0 < s.size, ¬ (s[0]'h).toNat = 45 := by
            intro h0 h hb
            refine hneg ?_
            rw [List.head?_eq_getElem?, List.getElem?_eq_getElem (by rw [HL.out]; exact h0)]
            have : s.data.toList[0]'(by rw [HL.out]; exact h0) = s[0] := rfl
            rw [this]
            congr 1
            exact UInt8.toNat_inj.1 hb
          clear hneg hsg
          generalize num 0 s.data.toList = a at *
          generalize cnt s.data.toList = c at *
          by_cases hk : (9 : Int) < c
          · have hfin : Hid (IsRd s.data.toList 0 false) := HNO.out (Or.inl (by omega))
            by_cases h0 : 0 < s.size
            · obtain ⟨b, hbb⟩ : ∃ b : Nat, s[0].toNat = b := ⟨_, rfl⟩
              have hb45 : ((b : Int) == 45) = false := by
                have := hb h0 h0
                rw [hbb] at this
                simp; omega
              have h0' : (0 : Int) < s.size := by omega
              clear hb
              go_wp2
              all_goals go_ret2
              all_goals exact ⟨rdEnd_mk hfin.out, Below.refl _ _⟩
            · have h0' : ¬ ((0 : Int) < s.size) := by omega
              clear hb
              go_wp2
              all_goals go_ret2
              all_goals exact ⟨rdEnd_mk hfin.out, Below.refl _ _⟩
          · subst eN
            have fin : ∀ w1, Below w.heap.size w w1 → ((!Lib.itoa (a : Int) == s.toList) = true → RdEnd s.data.toList (.returned (.tuple #[.int .i64 0, .bool false])) ∧ Below w.heap.size w w1) ∧
                ((!Lib.itoa (a : Int) == s.toList) = false → RdEnd s.data.toList (.returned (.tuple #[.int .i64 (a : Int), .bool true])) ∧ Below w.heap.size w w1) :=
              fun w1 hb1 => ⟨fun h => ⟨rdEnd_mk (HNO.out (Or.inr (Or.inr (str_ne h)))), hb1⟩, fun h => ⟨rdEnd_mk (HY.out (by omega) (str_eq h)), hb1⟩⟩
            have FIN : Hid (∀ w1, Below w.heap.size w w1 → ((!Lib.itoa (a : Int) == s.toList) = true → RdEnd s.data.toList (.returned (.tuple #[.int .i64 0, .bool false])) ∧ Below w.heap.size w w1) ∧
                ((!Lib.itoa (a : Int) == s.toList) = false → RdEnd s.data.toList (.returned (.tuple #[.int .i64 (a : Int), .bool true])) ∧ Below w.heap.size w w1)) := fin
            clear fin
            by_cases h0 : 0 < s.size
            · obtain ⟨b, hbb⟩ : ∃ b : Nat, s[0].toNat = b := ⟨_, rfl⟩
              have hb45 : ((b : Int) == 45) = false := by
                have := hb h0 h0
                rw [hbb] at this
                simp; omega
              have h0' : (0 : Int) < s.size := by omega
              clear hb
              go_wp2_with fail
              refine (spec_dec (a : Int) (by omega) (by omega) w).mono ?_
              rintro e w1 ⟨rfl, hb1⟩
              go_wp2
              · have h := (FIN.out w1 hb1).1 (by assumption)
                go_ret2
                exact h
              · have h := (FIN.out w1 hb1).2 (by assumption)
                go_ret2
                exact h
            · have h0' : ¬ ((0 : Int) < s.size) := by omega
              clear hb
              go_wp2_with fail
              refine (spec_dec (a : Int) (by omega) (by omega) w).mono ?_
              rintro e w1 ⟨rfl, hb1⟩
              go_wp2
              · have h := (FIN.out w1 hb1).1 (by assumption)
                go_ret2
                exact h
              · have h := (FIN.out w1 hb1).2 (by assumption)
                go_ret2
                exact h
end Go.Proofs.YtobijbhgpgnfkaaGreatDoor
