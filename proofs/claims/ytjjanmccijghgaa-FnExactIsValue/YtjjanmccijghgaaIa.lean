/-
  Nodes as they landed: keys, how many kids and names a kind has, names, the number of a node. Conditions: written at each theorem.
-/
import Derived.Test.YtjjanmccijghgaaNq
import Derived.Test.YtjjanmccijghgaaWd
namespace Go.Proofs.Ytjjanmccijghgaa
open Go.ChangeShapes Go.WideShapes Go.ChangeAt Go.RowKit
set_option linter.unusedVariables false

theorem key_is (s : ByteArray) (j : Nat) (hj : j < 20) (h : keysL.getD j ByteArray.empty = s) : isKeyB s = true := decide_eq_true ((key_mem s).2 ⟨j, hj, h⟩)

theorem text_no {s : ByteArray} (l : List UInt8) (h : ¬ s = ⟨l.toArray⟩) : (s.toList == l) = false := by
  rw [beq_eq_false_iff_ne]
  intro e
  rw [Lib.toList_data] at e
  exact h (data_ext e)

set_option maxHeartbeats 2000000 in
theorem impl_key (s : ByteArray) (w : World) : Calls Try.prog 39 #[.string s] w fun e w' => e = .returned (.bool (isKeyB s)) ∧ w' = w := by
  by_cases h0 : s = ⟨#[102, 117, 110]⟩
  · have hv : Ending.returned (.bool true) = Ending.returned (.bool (isKeyB s)) := by rw [key_is s 0 (by omega) h0.symm]
    subst h0
    go_enter Try.func39, Try.ntmps39
    go_wp2
    go_ret
    exact ⟨hv, rfl⟩
  by_cases h1 : s = ⟨#[97, 112, 112]⟩
  · have hv : Ending.returned (.bool true) = Ending.returned (.bool (isKeyB s)) := by rw [key_is s 1 (by omega) h1.symm]
    subst h1
    go_enter Try.func39, Try.ntmps39
    go_wp2
    go_ret
    exact ⟨hv, rfl⟩
  by_cases h2 : s = ⟨#[108, 101, 116]⟩
  · have hv : Ending.returned (.bool true) = Ending.returned (.bool (isKeyB s)) := by rw [key_is s 2 (by omega) h2.symm]
    subst h2
    go_enter Try.func39, Try.ntmps39
    go_wp2
    go_ret
    exact ⟨hv, rfl⟩
  by_cases h3 : s = ⟨#[114, 101, 99]⟩
  · have hv : Ending.returned (.bool true) = Ending.returned (.bool (isKeyB s)) := by rw [key_is s 3 (by omega) h3.symm]
    subst h3
    go_enter Try.func39, Try.ntmps39
    go_wp2
    go_ret
    exact ⟨hv, rfl⟩
  by_cases h4 : s = ⟨#[105, 102]⟩
  · have hv : Ending.returned (.bool true) = Ending.returned (.bool (isKeyB s)) := by rw [key_is s 4 (by omega) h4.symm]
    subst h4
    go_enter Try.func39, Try.ntmps39
    go_wp2
    go_ret
    exact ⟨hv, rfl⟩
  by_cases h5 : s = ⟨#[97, 100, 100]⟩
  · have hv : Ending.returned (.bool true) = Ending.returned (.bool (isKeyB s)) := by rw [key_is s 5 (by omega) h5.symm]
    subst h5
    go_enter Try.func39, Try.ntmps39
    go_wp2
    go_ret
    exact ⟨hv, rfl⟩
  by_cases h6 : s = ⟨#[115, 117, 98]⟩
  · have hv : Ending.returned (.bool true) = Ending.returned (.bool (isKeyB s)) := by rw [key_is s 6 (by omega) h6.symm]
    subst h6
    go_enter Try.func39, Try.ntmps39
    go_wp2
    go_ret
    exact ⟨hv, rfl⟩
  by_cases h7 : s = ⟨#[108, 101, 115, 115]⟩
  · have hv : Ending.returned (.bool true) = Ending.returned (.bool (isKeyB s)) := by rw [key_is s 7 (by omega) h7.symm]
    subst h7
    go_enter Try.func39, Try.ntmps39
    go_wp2
    go_ret
    exact ⟨hv, rfl⟩
  by_cases h8 : s = ⟨#[115, 97, 109, 101]⟩
  · have hv : Ending.returned (.bool true) = Ending.returned (.bool (isKeyB s)) := by rw [key_is s 8 (by omega) h8.symm]
    subst h8
    go_enter Try.func39, Try.ntmps39
    go_wp2
    go_ret
    exact ⟨hv, rfl⟩
  by_cases h9 : s = ⟨#[112, 97, 105, 114]⟩
  · have hv : Ending.returned (.bool true) = Ending.returned (.bool (isKeyB s)) := by rw [key_is s 9 (by omega) h9.symm]
    subst h9
    go_enter Try.func39, Try.ntmps39
    go_wp2
    go_ret
    exact ⟨hv, rfl⟩
  by_cases h10 : s = ⟨#[102, 115, 116]⟩
  · have hv : Ending.returned (.bool true) = Ending.returned (.bool (isKeyB s)) := by rw [key_is s 10 (by omega) h10.symm]
    subst h10
    go_enter Try.func39, Try.ntmps39
    go_wp2
    go_ret
    exact ⟨hv, rfl⟩
  by_cases h11 : s = ⟨#[115, 110, 100]⟩
  · have hv : Ending.returned (.bool true) = Ending.returned (.bool (isKeyB s)) := by rw [key_is s 11 (by omega) h11.symm]
    subst h11
    go_enter Try.func39, Try.ntmps39
    go_wp2
    go_ret
    exact ⟨hv, rfl⟩
  by_cases h12 : s = ⟨#[110, 105, 108]⟩
  · have hv : Ending.returned (.bool true) = Ending.returned (.bool (isKeyB s)) := by rw [key_is s 12 (by omega) h12.symm]
    subst h12
    go_enter Try.func39, Try.ntmps39
    go_wp2
    go_ret
    exact ⟨hv, rfl⟩
  by_cases h13 : s = ⟨#[99, 111, 110, 115]⟩
  · have hv : Ending.returned (.bool true) = Ending.returned (.bool (isKeyB s)) := by rw [key_is s 13 (by omega) h13.symm]
    subst h13
    go_enter Try.func39, Try.ntmps39
    go_wp2
    go_ret
    exact ⟨hv, rfl⟩
  by_cases h14 : s = ⟨#[109, 97, 116, 99, 104]⟩
  · have hv : Ending.returned (.bool true) = Ending.returned (.bool (isKeyB s)) := by rw [key_is s 14 (by omega) h14.symm]
    subst h14
    go_enter Try.func39, Try.ntmps39
    go_wp2
    go_ret
    exact ⟨hv, rfl⟩
  by_cases h15 : s = ⟨#[114, 101, 102]⟩
  · have hv : Ending.returned (.bool true) = Ending.returned (.bool (isKeyB s)) := by rw [key_is s 15 (by omega) h15.symm]
    subst h15
    go_enter Try.func39, Try.ntmps39
    go_wp2
    go_ret
    exact ⟨hv, rfl⟩
  by_cases h16 : s = ⟨#[103, 101, 116]⟩
  · have hv : Ending.returned (.bool true) = Ending.returned (.bool (isKeyB s)) := by rw [key_is s 16 (by omega) h16.symm]
    subst h16
    go_enter Try.func39, Try.ntmps39
    go_wp2
    go_ret
    exact ⟨hv, rfl⟩
  by_cases h17 : s = ⟨#[115, 101, 116]⟩
  · have hv : Ending.returned (.bool true) = Ending.returned (.bool (isKeyB s)) := by rw [key_is s 17 (by omega) h17.symm]
    subst h17
    go_enter Try.func39, Try.ntmps39
    go_wp2
    go_ret
    exact ⟨hv, rfl⟩
  by_cases h18 : s = ⟨#[114, 97, 105, 115, 101]⟩
  · have hv : Ending.returned (.bool true) = Ending.returned (.bool (isKeyB s)) := by rw [key_is s 18 (by omega) h18.symm]
    subst h18
    go_enter Try.func39, Try.ntmps39
    go_wp2
    go_ret
    exact ⟨hv, rfl⟩
  by_cases h19 : s = ⟨#[116, 114, 121]⟩
  · have hv : Ending.returned (.bool true) = Ending.returned (.bool (isKeyB s)) := by rw [key_is s 19 (by omega) h19.symm]
    subst h19
    go_enter Try.func39, Try.ntmps39
    go_wp2
    go_ret
    exact ⟨hv, rfl⟩
  have hv : Ending.returned (.bool false) = Ending.returned (.bool (isKeyB s)) := by
    rw [isKeyB, decide_eq_false (fun h => ?_)]
    obtain ⟨j, hj, h⟩ := (key_mem s).1 h
    rcases (by omega : j = 0 ∨ j = 1 ∨ j = 2 ∨ j = 3 ∨ j = 4 ∨ j = 5 ∨ j = 6 ∨ j = 7 ∨ j = 8 ∨ j = 9 ∨ j = 10 ∨ j = 11 ∨ j = 12 ∨ j = 13 ∨ j = 14 ∨ j = 15 ∨ j = 16 ∨ j = 17 ∨ j = 18 ∨ j = 19) with rfl | rfl | rfl | rfl | rfl | rfl | rfl | rfl | rfl | rfl | rfl | rfl | rfl | rfl | rfl | rfl | rfl | rfl | rfl | rfl
    · exact h0 h.symm
    · exact h1 h.symm
    · exact h2 h.symm
    · exact h3 h.symm
    · exact h4 h.symm
    · exact h5 h.symm
    · exact h6 h.symm
    · exact h7 h.symm
    · exact h8 h.symm
    · exact h9 h.symm
    · exact h10 h.symm
    · exact h11 h.symm
    · exact h12 h.symm
    · exact h13 h.symm
    · exact h14 h.symm
    · exact h15 h.symm
    · exact h16 h.symm
    · exact h17 h.symm
    · exact h18 h.symm
    · exact h19 h.symm
  have n0 : (s.toList == [102, 117, 110]) = false := text_no [102, 117, 110] h0
  have n1 : (s.toList == [97, 112, 112]) = false := text_no [97, 112, 112] h1
  have n2 : (s.toList == [108, 101, 116]) = false := text_no [108, 101, 116] h2
  have n3 : (s.toList == [114, 101, 99]) = false := text_no [114, 101, 99] h3
  have n4 : (s.toList == [105, 102]) = false := text_no [105, 102] h4
  have n5 : (s.toList == [97, 100, 100]) = false := text_no [97, 100, 100] h5
  have n6 : (s.toList == [115, 117, 98]) = false := text_no [115, 117, 98] h6
  have n7 : (s.toList == [108, 101, 115, 115]) = false := text_no [108, 101, 115, 115] h7
  have n8 : (s.toList == [115, 97, 109, 101]) = false := text_no [115, 97, 109, 101] h8
  have n9 : (s.toList == [112, 97, 105, 114]) = false := text_no [112, 97, 105, 114] h9
  have n10 : (s.toList == [102, 115, 116]) = false := text_no [102, 115, 116] h10
  have n11 : (s.toList == [115, 110, 100]) = false := text_no [115, 110, 100] h11
  have n12 : (s.toList == [110, 105, 108]) = false := text_no [110, 105, 108] h12
  have n13 : (s.toList == [99, 111, 110, 115]) = false := text_no [99, 111, 110, 115] h13
  have n14 : (s.toList == [109, 97, 116, 99, 104]) = false := text_no [109, 97, 116, 99, 104] h14
  have n15 : (s.toList == [114, 101, 102]) = false := text_no [114, 101, 102] h15
  have n16 : (s.toList == [103, 101, 116]) = false := text_no [103, 101, 116] h16
  have n17 : (s.toList == [115, 101, 116]) = false := text_no [115, 101, 116] h17
  have n18 : (s.toList == [114, 97, 105, 115, 101]) = false := text_no [114, 97, 105, 115, 101] h18
  have n19 : (s.toList == [116, 114, 121]) = false := text_no [116, 114, 121] h19
  clear h0 h1 h2 h3 h4 h5 h6 h7 h8 h9 h10 h11 h12 h13 h14 h15 h16 h17 h18 h19
  go_enter Try.func39, Try.ntmps39
  go_wp2
  go_ret
  exact ⟨hv, rfl⟩

theorem impl_arity (k : Int) (w : World) : Calls Try.prog 28 #[.int .i64 k] w fun e w' => e = .returned (.int .i64 (arN k : Nat)) ∧ w' = w := by
  by_cases h3 : k = 3
  · subst h3
    go_enter Try.func28, Try.ntmps28
    go_wp2
    go_ret
    exact ⟨rfl, rfl⟩
  by_cases h10 : k = 10
  · subst h10
    go_enter Try.func28, Try.ntmps28
    go_wp2
    go_ret
    exact ⟨rfl, rfl⟩
  by_cases h11 : k = 11
  · subst h11
    go_enter Try.func28, Try.ntmps28
    go_wp2
    go_ret
    exact ⟨rfl, rfl⟩
  by_cases h15 : k = 15
  · subst h15
    go_enter Try.func28, Try.ntmps28
    go_wp2
    go_ret
    exact ⟨rfl, rfl⟩
  by_cases h16 : k = 16
  · subst h16
    go_enter Try.func28, Try.ntmps28
    go_wp2
    go_ret
    exact ⟨rfl, rfl⟩
  by_cases h18 : k = 18
  · subst h18
    go_enter Try.func28, Try.ntmps28
    go_wp2
    go_ret
    exact ⟨rfl, rfl⟩
  by_cases h4 : k = 4
  · subst h4
    go_enter Try.func28, Try.ntmps28
    go_wp2
    go_ret
    exact ⟨rfl, rfl⟩
  by_cases h5 : k = 5
  · subst h5
    go_enter Try.func28, Try.ntmps28
    go_wp2
    go_ret
    exact ⟨rfl, rfl⟩
  by_cases h6 : k = 6
  · subst h6
    go_enter Try.func28, Try.ntmps28
    go_wp2
    go_ret
    exact ⟨rfl, rfl⟩
  by_cases h8 : k = 8
  · subst h8
    go_enter Try.func28, Try.ntmps28
    go_wp2
    go_ret
    exact ⟨rfl, rfl⟩
  by_cases h9 : k = 9
  · subst h9
    go_enter Try.func28, Try.ntmps28
    go_wp2
    go_ret
    exact ⟨rfl, rfl⟩
  by_cases h13 : k = 13
  · subst h13
    go_enter Try.func28, Try.ntmps28
    go_wp2
    go_ret
    exact ⟨rfl, rfl⟩
  by_cases h17 : k = 17
  · subst h17
    go_enter Try.func28, Try.ntmps28
    go_wp2
    go_ret
    exact ⟨rfl, rfl⟩
  by_cases h19 : k = 19
  · subst h19
    go_enter Try.func28, Try.ntmps28
    go_wp2
    go_ret
    exact ⟨rfl, rfl⟩
  by_cases h7 : k = 7
  · subst h7
    go_enter Try.func28, Try.ntmps28
    go_wp2
    go_ret
    exact ⟨rfl, rfl⟩
  by_cases h14 : k = 14
  · subst h14
    go_enter Try.func28, Try.ntmps28
    go_wp2
    go_ret
    exact ⟨rfl, rfl⟩
  have g3 : (k == 3) = false := by simpa using h3
  have g10 : (k == 10) = false := by simpa using h10
  have g11 : (k == 11) = false := by simpa using h11
  have g15 : (k == 15) = false := by simpa using h15
  have g16 : (k == 16) = false := by simpa using h16
  have g18 : (k == 18) = false := by simpa using h18
  have g4 : (k == 4) = false := by simpa using h4
  have g5 : (k == 5) = false := by simpa using h5
  have g6 : (k == 6) = false := by simpa using h6
  have g8 : (k == 8) = false := by simpa using h8
  have g9 : (k == 9) = false := by simpa using h9
  have g13 : (k == 13) = false := by simpa using h13
  have g17 : (k == 17) = false := by simpa using h17
  have g19 : (k == 19) = false := by simpa using h19
  have g7 : (k == 7) = false := by simpa using h7
  have g14 : (k == 14) = false := by simpa using h14
  have hz : Ending.returned (.int .i64 0) = Ending.returned (.int .i64 (arN k : Nat)) := by
    unfold arN
    rw [if_neg (by omega), if_neg (by omega), if_neg (by omega)]
    rfl
  clear h3 h10 h11 h15 h16 h18 h4 h5 h6 h8 h9 h13 h17 h19 h7 h14
  go_enter Try.func28, Try.ntmps28
  go_wp2
  go_ret
  exact ⟨hz, rfl⟩

theorem impl_names (k : Int) (w : World) : Calls Try.prog 29 #[.int .i64 k] w fun e w' => e = .returned (.int .i64 (nmN k : Nat)) ∧ w' = w := by
  by_cases h1 : k = 1
  · subst h1
    go_enter Try.func29, Try.ntmps29
    go_wp2
    go_ret
    exact ⟨rfl, rfl⟩
  by_cases h3 : k = 3
  · subst h3
    go_enter Try.func29, Try.ntmps29
    go_wp2
    go_ret
    exact ⟨rfl, rfl⟩
  by_cases h5 : k = 5
  · subst h5
    go_enter Try.func29, Try.ntmps29
    go_wp2
    go_ret
    exact ⟨rfl, rfl⟩
  by_cases h19 : k = 19
  · subst h19
    go_enter Try.func29, Try.ntmps29
    go_wp2
    go_ret
    exact ⟨rfl, rfl⟩
  by_cases h6 : k = 6
  · subst h6
    go_enter Try.func29, Try.ntmps29
    go_wp2
    go_ret
    exact ⟨rfl, rfl⟩
  by_cases h14 : k = 14
  · subst h14
    go_enter Try.func29, Try.ntmps29
    go_wp2
    go_ret
    exact ⟨rfl, rfl⟩
  have g1 : (k == 1) = false := by simpa using h1
  have g3 : (k == 3) = false := by simpa using h3
  have g5 : (k == 5) = false := by simpa using h5
  have g19 : (k == 19) = false := by simpa using h19
  have g6 : (k == 6) = false := by simpa using h6
  have g14 : (k == 14) = false := by simpa using h14
  have hz : Ending.returned (.int .i64 0) = Ending.returned (.int .i64 (nmN k : Nat)) := by
    unfold nmN
    rw [if_neg (by omega), if_neg (by omega)]
    rfl
  clear h1 h3 h5 h19 h6 h14
  go_enter Try.func29, Try.ntmps29
  go_wp2
  go_ret
  exact ⟨hz, rfl⟩

theorem impl_name (s : ByteArray) (hs : s.size ≤ maxLen) (w : World) : Calls Try.prog 35 #[.string s] w fun e w' => e = .returned (.bool (isNameB s)) ∧ w' = w := by
  have HN : Hid (isNameB s = (isWordB s && !isKeyB s)) := rfl
  go_enter Try.func35, Try.ntmps35
  go_wp2_with fail
  refine (impl_word s hs w).mono ?_
  rintro e w1 ⟨rfl, rfl⟩
  cases hw : isWordB s with
  | true =>
    go_wp2_with fail
    refine (impl_key s w1).mono ?_
    rintro e w2 ⟨rfl, rfl⟩
    have hv : Hid (isNameB s = !isKeyB s) := by show isNameB s = !isKeyB s; rw [HN.out, hw]; rfl
    clear HN hw
    generalize isKeyB s = b at *
    go_wp2
    go_ret
    exact ⟨by rw [hv.out]; rfl, rfl⟩
  | false =>
    have hv : Hid (isNameB s = false) := by show isNameB s = false; rw [HN.out, hw]; rfl
    clear HN hw
    go_wp2
    go_ret
    exact ⟨by rw [hv.out]; rfl, rfl⟩

/-- Is the text as it is wanted: a name, or none? -/
def wantB (s : ByteArray) (wanted : Bool) : Bool := if wanted then isNameB s else decide (s.size = 0)

theorem impl_want (s : ByteArray) (b : Bool) (hs : s.size ≤ maxLen) (w : World) : Calls Try.prog 31 #[.string s, .bool b] w fun e w' => e = .returned (.bool (wantB s b)) ∧ w' = w := by
  cases b with
  | true =>
    have HV : Hid (wantB s true = isNameB s) := rfl
    go_enter Try.func31, Try.ntmps31
    go_wp2_with fail
    refine (impl_name s hs w).mono ?_
    rintro e w1 ⟨rfl, rfl⟩
    generalize isNameB s = b at *
    go_wp2
    go_ret
    exact ⟨by rw [HV.out]; rfl, rfl⟩
  | false =>
    by_cases h0 : s.size = 0
    · have HV : Hid (wantB s false = true) := decide_eq_true h0
      obtain rfl := size_eq s h0
      clear h0 hs
      go_enter Try.func31, Try.ntmps31
      go_wp2
      go_ret
      exact ⟨by rw [HV.out]; rfl, rfl⟩
    · have HV : Hid (wantB s false = false) := decide_eq_false h0
      have hf := size_full s h0
      clear h0
      go_enter Try.func31, Try.ntmps31
      go_wp2
      go_ret
      exact ⟨by rw [HV.out]; rfl, rfl⟩
end Go.Proofs.Ytjjanmccijghgaa
