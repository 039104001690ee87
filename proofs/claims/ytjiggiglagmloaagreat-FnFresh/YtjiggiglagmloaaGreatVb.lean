/-
  Several texts in one, in their order: each is told at its own place by its theorems. Conditions: written at each theorem.
-/
import Derived.Test.YtjiggiglagmloaaGreatVa
import Derived.Deep.RegionWith
import Derived.Deep.CutRange
import Derived.Deep.LoopGhost
import Derived.Laws.EntriesVeiled
import Derived.Lib.QuietBelow
namespace Go.Proofs.YtjiggiglagmloaaGreat
set_option linter.unusedVariables false

section
open Go.ChangeShapes Go.WideShapes Go.ChangeAt Go.RowKit

theorem impl_kidF (k a b c n : Int) (s o : ByteArray) (w : World) :
    Calls Tryz.prog 110 #[.agg #[.int .i64 k, .int .i64 a, .int .i64 b, .int .i64 c, .int .i64 n, .string s, .string o]] w fun e w' =>
      e = .returned (.agg #[.int .i64 a, .int .i64 b, .int .i64 c]) ∧ Below w.heap.size w w' ∧ w'.heap.size = w.heap.size + 2 := by
  go_enter Tryz.func110, Tryz.ntmps110
  go_wp2
  refine bodyPost_ret (v := .agg #[.int .i64 a, .int .i64 b, .int .i64 c]) (by simp [results, Tryz.results110, go_sem]) rfl ⟨rfl, ?_, ?_⟩
  · exact ((Below.refl _ w).alloc (Nat.le_refl _) _).alloc (by simp) _
  · simp

theorem impl_kids (k a b c n : Int) (s o : ByteArray) (w : World) :
    Calls Tryz.prog 91 #[.agg #[.int .i64 k, .int .i64 a, .int .i64 b, .int .i64 c, .int .i64 n, .string s, .string o]] w fun e w' =>
      e = .returned (.slice (some ⟨w.heap.size + 3, 0, none⟩) (arN k) 3) ∧ w'.heap[w.heap.size + 3]? = some (.cells #[.int .i64 a, .int .i64 b, .int .i64 c] 126 (0, 0)) ∧ Below w.heap.size w w' := by
  have har := arN_le k
  have har' : (arN k : Int) ≤ 3 := by omega
  have har0 : (0 : Int) ≤ (arN k : Int) := by omega
  go_enter Tryz.func91, Tryz.ntmps91
  go_wp2_with fail
  refine (impl_kidF k a b c n s o _).mono ?_
  rintro e w1 ⟨rfl, b1, s1⟩
  have q0 : w1.cell? ⟨w.heap.size, 0, none⟩ = some (.int .i64 k) := by
    rw [b1.cell (p := ⟨w.heap.size, 0, none⟩) (by simp)]
    simp
  go_wp2_with fail
  refine (impl_arity k _).mono ?_
  rintro e w2 ⟨rfl, rfl⟩
  have s1' : w1.heap.size = w.heap.size + 3 := by simpa using s1
  have HG : Hid ((w1.alloc (.cells #[.int .i64 a, .int .i64 b, .int .i64 c] 126)).heap[w.heap.size + 3]? = some (.cells #[.int .i64 a, .int .i64 b, .int .i64 c] 126 (0, 0))) := by
    have := (MapKept.heap_alloc w1 (.cells #[.int .i64 a, .int .i64 b, .int .i64 c] 126)).1
    rw [s1'] at this
    exact this
  have HB : Hid (Below w.heap.size w (w1.alloc (.cells #[.int .i64 a, .int .i64 b, .int .i64 c] 126))) := (((Below.refl _ w).alloc (Nat.le_refl _) _).trans (b1.mono (by simp))).alloc (by omega) _
  clear s1 b1
  go_wp2
  go_ret
  exact ⟨rfl, HG.out, HB.out⟩

/-- The number is one that the kind may have. -/
def numB (k n : Int) : Bool := decide (NumFits k n)

theorem impl_number (k a b c n : Int) (s o : ByteArray) (w : World) :
    Calls Tryz.prog 113 #[.agg #[.int .i64 k, .int .i64 a, .int .i64 b, .int .i64 c, .int .i64 n, .string s, .string o]] w fun e w' => e = .returned (.bool (numB k n)) ∧ Below w.heap.size w w' := by
  have HB : Hid (Below w.heap.size w (w.alloc (.cells #[.int .i64 k, .int .i64 a, .int .i64 b, .int .i64 c, .int .i64 n, .string s, .string o] 38))) := (Below.refl _ w).alloc (Nat.le_refl _) _
  by_cases h2 : k = 2
  · subst h2
    by_cases h0 : 0 ≤ n
    · have hv : Hid (Ending.returned (.bool (decide (n ≤ 65535))) = Ending.returned (.bool (numB 2 n))) := by
        show Ending.returned (.bool (decide (n ≤ 65535))) = Ending.returned (.bool (numB 2 n))
        unfold numB NumFits
        congr 2
        rw [decide_eq_decide]
        omega
      go_enter Tryz.func113, Tryz.ntmps113
      go_wp2
      go_ret
      exact ⟨hv.out, HB.out⟩
    · have hv : Hid (Ending.returned (.bool false) = Ending.returned (.bool (numB 2 n))) := by
        show Ending.returned (.bool false) = Ending.returned (.bool (numB 2 n))
        unfold numB NumFits
        rw [decide_eq_false (by omega)]
      go_enter Tryz.func113, Tryz.ntmps113
      go_wp2
      go_ret
      exact ⟨hv.out, HB.out⟩
  · by_cases h8 : k = 8
    · subst h8
      by_cases h0 : 0 ≤ n
      · have hv : Hid (Ending.returned (.bool (decide (n ≤ 3))) = Ending.returned (.bool (numB 8 n))) := by
          show Ending.returned (.bool (decide (n ≤ 3))) = Ending.returned (.bool (numB 8 n))
          unfold numB NumFits
          congr 2
          rw [decide_eq_decide]
          omega
        go_enter Tryz.func113, Tryz.ntmps113
        go_wp2
        go_ret
        exact ⟨hv.out, HB.out⟩
      · have hv : Hid (Ending.returned (.bool false) = Ending.returned (.bool (numB 8 n))) := by
          show Ending.returned (.bool false) = Ending.returned (.bool (numB 8 n))
          unfold numB NumFits
          rw [decide_eq_false (by omega)]
        go_enter Tryz.func113, Tryz.ntmps113
        go_wp2
        go_ret
        exact ⟨hv.out, HB.out⟩
    · have hv : Hid (Ending.returned (.bool (n == 0)) = Ending.returned (.bool (numB k n))) := by
        show Ending.returned (.bool (n == 0)) = Ending.returned (.bool (numB k n))
        have e : (n == 0) = decide (n = 0) := rfl
        unfold numB NumFits
        rw [e]
        congr 2
        rw [decide_eq_decide]
        exact ⟨fun h => ⟨fun h' => absurd h' h2, fun h' => absurd h' h8, fun _ _ => h⟩, fun h => h.2.2 h2 h8⟩
      have g2 : (k == 2) = false := by simpa using h2
      have g8 : (k == 8) = false := by simpa using h8
      clear h2 h8
      go_enter Tryz.func113, Tryz.ntmps113
      go_wp2
      go_ret
      exact ⟨hv.out, HB.out⟩

theorem cells7_of {w : World} {g : Nat} {k a b c n : Int} {s o : ByteArray} {t : TypeId} {z : Nat × Nat} (h : w.heap[g]? = some (.cells #[.int .i64 k, .int .i64 a, .int .i64 b, .int .i64 c, .int .i64 n, .string s, .string o] t z)) :
    w.cell? ⟨g, 0, none⟩ = some (.int .i64 k) ∧ w.cell? ⟨g, 1, none⟩ = some (.int .i64 a) ∧ w.cell? ⟨g, 2, none⟩ = some (.int .i64 b) ∧ w.cell? ⟨g, 3, none⟩ = some (.int .i64 c) ∧ w.cell? ⟨g, 4, none⟩ = some (.int .i64 n) ∧ w.cell? ⟨g, 5, none⟩ = some (.string s) ∧ w.cell? ⟨g, 6, none⟩ = some (.string o) := by
  refine ⟨?_, ?_, ?_, ?_, ?_, ?_, ?_⟩ <;> (rw [cell_of_row _ _ _ _ _ _ h]; rfl)

theorem cells3_of {w : World} {g : Nat} {a b c : Int} {t : TypeId} {z : Nat × Nat} (h : w.heap[g]? = some (.cells #[.int .i64 a, .int .i64 b, .int .i64 c] t z)) : ∀ m, m < 3 → w.cell? ⟨g, m, none⟩ = some (.int .i64 ([a, b, c].getD m 0)) := by
  intro m hm
  rw [cell_of_row _ _ _ _ _ _ h]
  rcases (by omega : m = 0 ∨ m = 1 ∨ m = 2) with rfl | rfl | rfl <;> rfl

theorem kids_null {ar : Nat} {a b c : Int} (har : ar ≤ 3) : KidsNull ar a b c ↔ ∀ m, ar ≤ m → m < 3 → [a, b, c].getD m 0 = 0 := by
  unfold KidsNull
  constructor
  · rintro ⟨h0, h1, h2⟩ m hm hm3
    rcases (by omega : m = 0 ∨ m = 1 ∨ m = 2) with rfl | rfl | rfl
    · exact h0 (by omega)
    · exact h1 (by omega)
    · exact h2 (by omega)
  · intro h
    exact ⟨fun h0 => h 0 (by omega) (by omega), fun h0 => h 1 (by omega) (by omega), fun h0 => h 2 (by omega) (by omega)⟩

/-- The fields of a node, once the kind is one and kids that it has not are 0. -/
theorem fields_rest {k a b c n : Int} {s o : ByteArray} (hk : 1 ≤ k ∧ k ≤ 19) (hz : KidsNull (arN k) a b c) :
    fieldsB ⟨k, a, b, c, n, s, o⟩ = (numB k n && wantB s (decide (1 ≤ (nmN k : Int))) && wantB o (decide (2 ≤ (nmN k : Int)))) := by
  have hn : wantB s (decide (1 ≤ (nmN k : Int))) = decide ((nmN k = 0 → s.size = 0) ∧ (0 < nmN k → isNameB s = true)) := by
    unfold wantB
    by_cases h : 1 ≤ (nmN k : Int)
    · rw [decide_eq_true h, if_pos rfl]
      cases hb : isNameB s with
      | true => rw [decide_eq_true ⟨fun h0 => by omega, fun _ => rfl⟩]
      | false => rw [decide_eq_false (fun h0 => by have := h0.2 (by omega); cases this)]
    · rw [decide_eq_false h, if_neg (by simp)]
      rw [decide_eq_decide]
      exact ⟨fun h0 => ⟨fun _ => h0, fun h1 => by omega⟩, fun h0 => h0.1 (by omega)⟩
  have ho : wantB o (decide (2 ≤ (nmN k : Int))) = decide ((nmN k ≤ 1 → o.size = 0) ∧ (1 < nmN k → isNameB o = true)) := by
    unfold wantB
    by_cases h : 2 ≤ (nmN k : Int)
    · rw [decide_eq_true h, if_pos rfl]
      cases hb : isNameB o with
      | true => rw [decide_eq_true ⟨fun h0 => by omega, fun _ => rfl⟩]
      | false => rw [decide_eq_false (fun h0 => by have := h0.2 (by omega); cases this)]
    · rw [decide_eq_false h, if_neg (by simp)]
      rw [decide_eq_decide]
      exact ⟨fun h0 => ⟨fun _ => h0, fun h1 => by omega⟩, fun h0 => h0.1 (by omega)⟩
  rw [hn, ho]
  unfold fieldsB numB
  rw [← Bool.decide_and, ← Bool.decide_and, decide_eq_decide]
  show ((1 ≤ k ∧ k ≤ 19) ∧ KidsNull (arN k) a b c ∧ NamesFit (nmN k) s o ∧ NumFits k n) ↔ _
  unfold NamesFit
  constructor
  · rintro ⟨_, _, ⟨h1, h2, h3, h4⟩, h5⟩
    exact ⟨⟨h5, h1, h2⟩, h3, h4⟩
  · rintro ⟨⟨h5, h1, h2⟩, h3, h4⟩
    exact ⟨hk, hz, ⟨h1, h2, h3, h4⟩, h5⟩

set_option maxHeartbeats 1000000 in
set_option maxRecDepth 20000 in
theorem impl_fields (k a b c n : Int) (s o : ByteArray) (hs : s.size ≤ maxLen) (ho : o.size ≤ maxLen) (w : World) :
    Calls Tryz.prog 93 #[.agg #[.int .i64 k, .int .i64 a, .int .i64 b, .int .i64 c, .int .i64 n, .string s, .string o]] w fun e w' =>
      e = .returned (.bool (fieldsB ⟨k, a, b, c, n, s, o⟩)) ∧ Below w.heap.size w w' := by
  have HS : Hid (s.size ≤ maxLen ∧ o.size ≤ maxLen) := ⟨hs, ho⟩
  have HB : Hid (Below w.heap.size w (w.alloc (.cells #[.int .i64 k, .int .i64 a, .int .i64 b, .int .i64 c, .int .i64 n, .string s, .string o] 38))) := (Below.refl _ w).alloc (Nat.le_refl _) _
  clear hs ho
  by_cases hk : 1 ≤ k ∧ k ≤ 19
  · have HK : Hid (1 ≤ k ∧ k ≤ 19) := hk
    obtain ⟨hk1, hk2⟩ := hk
    have har := arN_le k
    have har' : (arN k : Int) ≤ 3 := by omega
    have har0 : (0 : Int) ≤ (arN k : Int) := by omega
    go_enter Tryz.func93, Tryz.ntmps93
    go_wp2_with fail
    refine (impl_kidF k a b c n s o _).mono ?_
    rintro e w1 ⟨rfl, b1, s1⟩
    have s1' : w1.heap.size = w.heap.size + 3 := by simpa using s1
    have g1 : w1.heap[w.heap.size]? = some (.cells #[.int .i64 k, .int .i64 a, .int .i64 b, .int .i64 c, .int .i64 n, .string s, .string o] 38 (0, 0)) := by
      rw [b1.block _ (by simp)]
      exact (MapKept.heap_alloc w _).1
    obtain ⟨p0, p1, p2, p3, p4, p5, p6⟩ := cells7_of g1
    have B1 : Hid (Below w.heap.size w w1) := HB.out.trans (b1.mono (by simp))
    clear b1 s1 HB g1
    go_wp2_with fail
    refine (impl_arity k _).mono ?_
    rintro e w2 ⟨rfl, rfl⟩
    have HC : Hid (∀ m, m < 3 → (w1.alloc (.cells #[.int .i64 a, .int .i64 b, .int .i64 c] 126)).cell? ⟨w1.heap.size, m, none⟩ = some (.int .i64 ([a, b, c].getD m 0))) := cells3_of (MapKept.heap_alloc w1 _).1
    have HF : Hid (KidsNull (arN k) a b c → fieldsB ⟨k, a, b, c, n, s, o⟩ = (numB k n && wantB s (decide (1 ≤ (nmN k : Int))) && wantB o (decide (2 ≤ (nmN k : Int))))) := fun h => fields_rest HK.out h
    have HN : Hid (¬ KidsNull (arN k) a b c → fieldsB ⟨k, a, b, c, n, s, o⟩ = false) := fun h => decide_eq_false (fun h' => h h'.2.1)
    generalize arN k = ar at *
    rw [s1'] at HC
    rcases (by omega : ar = 0 ∨ ar = 1 ∨ ar = 2 ∨ ar = 3) with rfl | rfl | rfl | rfl
    · go_wp2
      go_loop [22] (fun i => ∃ j : Nat, j ≤ 3 ∧ i = .int .i64 j ∧ ∀ m, 0 ≤ m → m < 0 + j → [a, b, c].getD m 0 = 0) (fun i => 3 - (intOf i).toNat)
      case atStart => exact ⟨0, by omega, rfl, fun m h1 h2 => by omega⟩
      case round =>
        obtain ⟨j, hj, rfl, hall⟩ := hrel
        have HA : Hid (∀ m, 0 ≤ m → m < 0 + j → [a, b, c].getD m 0 = 0) := hall
        clear hall
        by_cases hin : j < 3
        · have hin' : (j : Int) < 3 := by omega
          have hc : (w1.alloc (.cells #[.int .i64 a, .int .i64 b, .int .i64 c] 126)).cell? ⟨w.heap.size + 3, j, none⟩ = some (.int .i64 ([a, b, c].getD (j) 0)) := HC.out (j) (by omega)
          have HX : Hid (∀ x, [a, b, c].getD (j) 0 = x → x = 0 → ∀ m, 0 ≤ m → m < 0 + (j + 1) → [a, b, c].getD m 0 = 0) := fun x hx h0 m h1 h2 => by
            by_cases e : m = j
            · subst e; rw [hx, h0]
            · exact HA.out m h1 (by omega)
          have HY : Hid (∀ x, [a, b, c].getD (j) 0 = x → ¬ x = 0 → fieldsB ⟨k, a, b, c, n, s, o⟩ = false) := fun x hx h0 => HN.out (fun h => h0 (by rw [← hx]; exact (kids_null (by omega)).1 h (j) (by omega) (by omega)))
          obtain ⟨x, hx⟩ : ∃ x, [a, b, c].getD (j) 0 = x := ⟨_, rfl⟩
          rw [hx] at hc
          by_cases h0 : x = 0
          · have HX1 : Hid (∀ m, 0 ≤ m → m < 0 + (j + 1) → [a, b, c].getD m 0 = 0) := HX.out x hx h0
            have hnz : (x != 0) = false := by simpa using h0
            clear h0 hx HX HY
            go_wp2
            go_round
            case rel => exact ⟨j + 1, by omega, by go_num, HX1.out⟩
            case measure => simp [intOf]; omega
          · have HV : Hid (fieldsB ⟨k, a, b, c, n, s, o⟩ = false) := HY.out x hx h0
            have hnz : (x != 0) = true := by simpa using h0
            clear h0 hx HX HY
            go_wp2
            go_ret
            exact ⟨by rw [HV.out]; rfl, B1.out.alloc (by omega) _⟩
        · obtain rfl : j = 3 := by omega
          have HV : Hid (fieldsB ⟨k, a, b, c, n, s, o⟩ = (numB k n && wantB s (decide (1 ≤ (nmN k : Int))) && wantB o (decide (2 ≤ (nmN k : Int))))) := HF.out ((kids_null (by omega)).2 (fun m h1 h2 => HA.out m h1 (by omega)))
          clear HA hin hj
          go_wp2_with fail
          refine (impl_names k _).mono ?_
          rintro e w2 ⟨rfl, rfl⟩
          generalize nmN k = nm at *
          go_wp2_with fail
          refine (impl_number k a b c n s o _).mono ?_
          rintro e w3 ⟨rfl, b3⟩
          have BX : Hid (Below w.heap.size w w3) := (B1.out.alloc (by omega) _).trans (b3.mono (by simp; omega))
          have q5 : w3.cell? ⟨w.heap.size, 5, none⟩ = some (.string s) := by
            rw [b3.cell (p := ⟨w.heap.size, 5, none⟩) (by simp; omega), World.cell?_alloc_lt _ _ _ (by simp; omega)]
            exact p5
          have q6 : w3.cell? ⟨w.heap.size, 6, none⟩ = some (.string o) := by
            rw [b3.cell (p := ⟨w.heap.size, 6, none⟩) (by simp; omega), World.cell?_alloc_lt _ _ _ (by simp; omega)]
            exact p6
          clear b3 p0 p1 p2 p3 p4 p5 p6
          obtain ⟨N1, hN1⟩ : ∃ b, numB k n = b := ⟨_, rfl⟩
          rw [hN1] at HV ⊢
          clear hN1
          cases N1 with
          | false =>
            go_wp2
            go_ret
            exact ⟨by rw [HV.out]; rfl, BX.out⟩
          | true =>
            go_wp2_with fail
            refine (impl_want s _ HS.out.1 _).mono ?_
            rintro e w4 ⟨rfl, rfl⟩
            obtain ⟨N2, hN2⟩ : ∃ b, wantB s (decide (1 ≤ (nm : Int))) = b := ⟨_, rfl⟩
            rw [hN2] at HV ⊢
            clear hN2
            cases N2 with
            | false =>
              go_wp2
              go_ret
              exact ⟨by rw [HV.out]; rfl, BX.out⟩
            | true =>
              go_wp2_with fail
              refine (impl_want o _ HS.out.2 _).mono ?_
              rintro e w5 ⟨rfl, rfl⟩
              obtain ⟨N3, hN3⟩ : ∃ b, wantB o (decide (2 ≤ (nm : Int))) = b := ⟨_, rfl⟩
              rw [hN3] at HV ⊢
              clear hN3
              go_wp2
              go_ret
              exact ⟨by rw [HV.out]; rfl, BX.out⟩
    · go_wp2
      go_loop [22] (fun i => ∃ j : Nat, j ≤ 2 ∧ i = .int .i64 j ∧ ∀ m, 1 ≤ m → m < 1 + j → [a, b, c].getD m 0 = 0) (fun i => 2 - (intOf i).toNat)
      case atStart => exact ⟨0, by omega, rfl, fun m h1 h2 => by omega⟩
      case round =>
        obtain ⟨j, hj, rfl, hall⟩ := hrel
        have HA : Hid (∀ m, 1 ≤ m → m < 1 + j → [a, b, c].getD m 0 = 0) := hall
        clear hall
        by_cases hin : j < 2
        · have hin' : (j : Int) < 2 := by omega
          have hc : (w1.alloc (.cells #[.int .i64 a, .int .i64 b, .int .i64 c] 126)).cell? ⟨w.heap.size + 3, 1 + j, none⟩ = some (.int .i64 ([a, b, c].getD (1 + j) 0)) := HC.out (1 + j) (by omega)
          have HX : Hid (∀ x, [a, b, c].getD (1 + j) 0 = x → x = 0 → ∀ m, 1 ≤ m → m < 1 + (j + 1) → [a, b, c].getD m 0 = 0) := fun x hx h0 m h1 h2 => by
            by_cases e : m = 1 + j
            · subst e; rw [hx, h0]
            · exact HA.out m h1 (by omega)
          have HY : Hid (∀ x, [a, b, c].getD (1 + j) 0 = x → ¬ x = 0 → fieldsB ⟨k, a, b, c, n, s, o⟩ = false) := fun x hx h0 => HN.out (fun h => h0 (by rw [← hx]; exact (kids_null (by omega)).1 h (1 + j) (by omega) (by omega)))
          obtain ⟨x, hx⟩ : ∃ x, [a, b, c].getD (1 + j) 0 = x := ⟨_, rfl⟩
          rw [hx] at hc
          by_cases h0 : x = 0
          · have HX1 : Hid (∀ m, 1 ≤ m → m < 1 + (j + 1) → [a, b, c].getD m 0 = 0) := HX.out x hx h0
            have hnz : (x != 0) = false := by simpa using h0
            clear h0 hx HX HY
            go_wp2
            go_round
            case rel => exact ⟨j + 1, by omega, by go_num, HX1.out⟩
            case measure => simp [intOf]; omega
          · have HV : Hid (fieldsB ⟨k, a, b, c, n, s, o⟩ = false) := HY.out x hx h0
            have hnz : (x != 0) = true := by simpa using h0
            clear h0 hx HX HY
            go_wp2
            go_ret
            exact ⟨by rw [HV.out]; rfl, B1.out.alloc (by omega) _⟩
        · obtain rfl : j = 2 := by omega
          have HV : Hid (fieldsB ⟨k, a, b, c, n, s, o⟩ = (numB k n && wantB s (decide (1 ≤ (nmN k : Int))) && wantB o (decide (2 ≤ (nmN k : Int))))) := HF.out ((kids_null (by omega)).2 (fun m h1 h2 => HA.out m h1 (by omega)))
          clear HA hin hj
          go_wp2_with fail
          refine (impl_names k _).mono ?_
          rintro e w2 ⟨rfl, rfl⟩
          generalize nmN k = nm at *
          go_wp2_with fail
          refine (impl_number k a b c n s o _).mono ?_
          rintro e w3 ⟨rfl, b3⟩
          have BX : Hid (Below w.heap.size w w3) := (B1.out.alloc (by omega) _).trans (b3.mono (by simp; omega))
          have q5 : w3.cell? ⟨w.heap.size, 5, none⟩ = some (.string s) := by
            rw [b3.cell (p := ⟨w.heap.size, 5, none⟩) (by simp; omega), World.cell?_alloc_lt _ _ _ (by simp; omega)]
            exact p5
          have q6 : w3.cell? ⟨w.heap.size, 6, none⟩ = some (.string o) := by
            rw [b3.cell (p := ⟨w.heap.size, 6, none⟩) (by simp; omega), World.cell?_alloc_lt _ _ _ (by simp; omega)]
            exact p6
          clear b3 p0 p1 p2 p3 p4 p5 p6
          obtain ⟨N1, hN1⟩ : ∃ b, numB k n = b := ⟨_, rfl⟩
          rw [hN1] at HV ⊢
          clear hN1
          cases N1 with
          | false =>
            go_wp2
            go_ret
            exact ⟨by rw [HV.out]; rfl, BX.out⟩
          | true =>
            go_wp2_with fail
            refine (impl_want s _ HS.out.1 _).mono ?_
            rintro e w4 ⟨rfl, rfl⟩
            obtain ⟨N2, hN2⟩ : ∃ b, wantB s (decide (1 ≤ (nm : Int))) = b := ⟨_, rfl⟩
            rw [hN2] at HV ⊢
            clear hN2
            cases N2 with
            | false =>
              go_wp2
              go_ret
              exact ⟨by rw [HV.out]; rfl, BX.out⟩
            | true =>
              go_wp2_with fail
              refine (impl_want o _ HS.out.2 _).mono ?_
              rintro e w5 ⟨rfl, rfl⟩
              obtain ⟨N3, hN3⟩ : ∃ b, wantB o (decide (2 ≤ (nm : Int))) = b := ⟨_, rfl⟩
              rw [hN3] at HV ⊢
              clear hN3
              go_wp2
              go_ret
              exact ⟨by rw [HV.out]; rfl, BX.out⟩
    · go_wp2
      go_loop [22] (fun i => ∃ j : Nat, j ≤ 1 ∧ i = .int .i64 j ∧ ∀ m, 2 ≤ m → m < 2 + j → [a, b, c].getD m 0 = 0) (fun i => 1 - (intOf i).toNat)
      case atStart => exact ⟨0, by omega, rfl, fun m h1 h2 => by omega⟩
      case round =>
        obtain ⟨j, hj, rfl, hall⟩ := hrel
        have HA : Hid (∀ m, 2 ≤ m → m < 2 + j → [a, b, c].getD m 0 = 0) := hall
        clear hall
        by_cases hin : j < 1
        · have hin' : (j : Int) < 1 := by omega
          have hc : (w1.alloc (.cells #[.int .i64 a, .int .i64 b, .int .i64 c] 126)).cell? ⟨w.heap.size + 3, 2 + j, none⟩ = some (.int .i64 ([a, b, c].getD (2 + j) 0)) := HC.out (2 + j) (by omega)
          have HX : Hid (∀ x, [a, b, c].getD (2 + j) 0 = x → x = 0 → ∀ m, 2 ≤ m → m < 2 + (j + 1) → [a, b, c].getD m 0 = 0) := fun x hx h0 m h1 h2 => by
            by_cases e : m = 2 + j
            · subst e; rw [hx, h0]
            · exact HA.out m h1 (by omega)
          have HY : Hid (∀ x, [a, b, c].getD (2 + j) 0 = x → ¬ x = 0 → fieldsB ⟨k, a, b, c, n, s, o⟩ = false) := fun x hx h0 => HN.out (fun h => h0 (by rw [← hx]; exact (kids_null (by omega)).1 h (2 + j) (by omega) (by omega)))
          obtain ⟨x, hx⟩ : ∃ x, [a, b, c].getD (2 + j) 0 = x := ⟨_, rfl⟩
          rw [hx] at hc
          by_cases h0 : x = 0
          · have HX1 : Hid (∀ m, 2 ≤ m → m < 2 + (j + 1) → [a, b, c].getD m 0 = 0) := HX.out x hx h0
            have hnz : (x != 0) = false := by simpa using h0
            clear h0 hx HX HY
            go_wp2
            go_round
            case rel => exact ⟨j + 1, by omega, by go_num, HX1.out⟩
            case measure => simp [intOf]; omega
          · have HV : Hid (fieldsB ⟨k, a, b, c, n, s, o⟩ = false) := HY.out x hx h0
            have hnz : (x != 0) = true := by simpa using h0
            clear h0 hx HX HY
            go_wp2
            go_ret
            exact ⟨by rw [HV.out]; rfl, B1.out.alloc (by omega) _⟩
        · obtain rfl : j = 1 := by omega
          have HV : Hid (fieldsB ⟨k, a, b, c, n, s, o⟩ = (numB k n && wantB s (decide (1 ≤ (nmN k : Int))) && wantB o (decide (2 ≤ (nmN k : Int))))) := HF.out ((kids_null (by omega)).2 (fun m h1 h2 => HA.out m h1 (by omega)))
          clear HA hin hj
          go_wp2_with fail
          refine (impl_names k _).mono ?_
          rintro e w2 ⟨rfl, rfl⟩
          generalize nmN k = nm at *
          go_wp2_with fail
          refine (impl_number k a b c n s o _).mono ?_
          rintro e w3 ⟨rfl, b3⟩
          have BX : Hid (Below w.heap.size w w3) := (B1.out.alloc (by omega) _).trans (b3.mono (by simp; omega))
          have q5 : w3.cell? ⟨w.heap.size, 5, none⟩ = some (.string s) := by
            rw [b3.cell (p := ⟨w.heap.size, 5, none⟩) (by simp; omega), World.cell?_alloc_lt _ _ _ (by simp; omega)]
            exact p5
          have q6 : w3.cell? ⟨w.heap.size, 6, none⟩ = some (.string o) := by
            rw [b3.cell (p := ⟨w.heap.size, 6, none⟩) (by simp; omega), World.cell?_alloc_lt _ _ _ (by simp; omega)]
            exact p6
          clear b3 p0 p1 p2 p3 p4 p5 p6
          obtain ⟨N1, hN1⟩ : ∃ b, numB k n = b := ⟨_, rfl⟩
          rw [hN1] at HV ⊢
          clear hN1
          cases N1 with
          | false =>
            go_wp2
            go_ret
            exact ⟨by rw [HV.out]; rfl, BX.out⟩
          | true =>
            go_wp2_with fail
            refine (impl_want s _ HS.out.1 _).mono ?_
            rintro e w4 ⟨rfl, rfl⟩
            obtain ⟨N2, hN2⟩ : ∃ b, wantB s (decide (1 ≤ (nm : Int))) = b := ⟨_, rfl⟩
            rw [hN2] at HV ⊢
            clear hN2
            cases N2 with
            | false =>
              go_wp2
              go_ret
              exact ⟨by rw [HV.out]; rfl, BX.out⟩
            | true =>
              go_wp2_with fail
              refine (impl_want o _ HS.out.2 _).mono ?_
              rintro e w5 ⟨rfl, rfl⟩
              obtain ⟨N3, hN3⟩ : ∃ b, wantB o (decide (2 ≤ (nm : Int))) = b := ⟨_, rfl⟩
              rw [hN3] at HV ⊢
              clear hN3
              go_wp2
              go_ret
              exact ⟨by rw [HV.out]; rfl, BX.out⟩
    · go_wp2
      go_loop [22] (fun i => ∃ j : Nat, j ≤ 0 ∧ i = .int .i64 j ∧ ∀ m, 3 ≤ m → m < 3 + j → [a, b, c].getD m 0 = 0) (fun i => 0 - (intOf i).toNat)
      case atStart => exact ⟨0, by omega, rfl, fun m h1 h2 => by omega⟩
      case round =>
        obtain ⟨j, hj, rfl, hall⟩ := hrel
        have HA : Hid (∀ m, 3 ≤ m → m < 3 + j → [a, b, c].getD m 0 = 0) := hall
        clear hall
        by_cases hin : j < 0
        · exact absurd hin (by omega)
        · obtain rfl : j = 0 := by omega
          have HV : Hid (fieldsB ⟨k, a, b, c, n, s, o⟩ = (numB k n && wantB s (decide (1 ≤ (nmN k : Int))) && wantB o (decide (2 ≤ (nmN k : Int))))) := HF.out ((kids_null (by omega)).2 (fun m h1 h2 => HA.out m h1 (by omega)))
          clear HA hin hj
          go_wp2_with fail
          refine (impl_names k _).mono ?_
          rintro e w2 ⟨rfl, rfl⟩
          generalize nmN k = nm at *
          go_wp2_with fail
          refine (impl_number k a b c n s o _).mono ?_
          rintro e w3 ⟨rfl, b3⟩
          have BX : Hid (Below w.heap.size w w3) := (B1.out.alloc (by omega) _).trans (b3.mono (by simp; omega))
          have q5 : w3.cell? ⟨w.heap.size, 5, none⟩ = some (.string s) := by
            rw [b3.cell (p := ⟨w.heap.size, 5, none⟩) (by simp; omega), World.cell?_alloc_lt _ _ _ (by simp; omega)]
            exact p5
          have q6 : w3.cell? ⟨w.heap.size, 6, none⟩ = some (.string o) := by
            rw [b3.cell (p := ⟨w.heap.size, 6, none⟩) (by simp; omega), World.cell?_alloc_lt _ _ _ (by simp; omega)]
            exact p6
          clear b3 p0 p1 p2 p3 p4 p5 p6
          obtain ⟨N1, hN1⟩ : ∃ b, numB k n = b := ⟨_, rfl⟩
          rw [hN1] at HV ⊢
          clear hN1
          cases N1 with
          | false =>
            go_wp2
            go_ret
            exact ⟨by rw [HV.out]; rfl, BX.out⟩
          | true =>
            go_wp2_with fail
            refine (impl_want s _ HS.out.1 _).mono ?_
            rintro e w4 ⟨rfl, rfl⟩
            obtain ⟨N2, hN2⟩ : ∃ b, wantB s (decide (1 ≤ (nm : Int))) = b := ⟨_, rfl⟩
            rw [hN2] at HV ⊢
            clear hN2
            cases N2 with
            | false =>
              go_wp2
              go_ret
              exact ⟨by rw [HV.out]; rfl, BX.out⟩
            | true =>
              go_wp2_with fail
              refine (impl_want o _ HS.out.2 _).mono ?_
              rintro e w5 ⟨rfl, rfl⟩
              obtain ⟨N3, hN3⟩ : ∃ b, wantB o (decide (2 ≤ (nm : Int))) = b := ⟨_, rfl⟩
              rw [hN3] at HV ⊢
              clear hN3
              go_wp2
              go_ret
              exact ⟨by rw [HV.out]; rfl, BX.out⟩
  · have HV : Hid (fieldsB ⟨k, a, b, c, n, s, o⟩ = false) := decide_eq_false (fun h => hk h.1)
    by_cases h1 : k < 1
    · clear hk
      go_enter Tryz.func93, Tryz.ntmps93
      go_wp2
      go_ret
      exact ⟨by rw [HV.out]; rfl, HB.out⟩
    · have h2 : 19 < k := by omega
      clear hk
      go_enter Tryz.func93, Tryz.ntmps93
      go_wp2
      go_ret
      exact ⟨by rw [HV.out]; rfl, HB.out⟩
end

section
open Go.ChangeShapes Go.WideShapes Go.ChangeAt Go.RowKit

/-- The type of a tree with so many kids. -/
def treeT (n : Nat) : TypeId := if n = 0 then 133 else if n = 1 then 135 else if n = 2 then 137 else 139

/-- What all trees have, as cells. -/
def spotL (t : Nod) (s : Int) : List Value := [.int .i64 t.kind, .int .i64 t.a, .int .i64 t.b, .int .i64 t.c, .int .i64 t.n, .string t.name, .string t.other, .int .i64 s]

/-- A tree as a value. -/
def treeV (t : Nod) (s : Int) (ks : List Value) : Value := .iface (treeT ks.length) (.agg (spotL t s ++ ks).toArray)

theorem begin_meth (t : Nod) (s : Int) (ks : List Value) (h : ks.length ≤ 3) (w : World) :
    (method 281 (treeT ks.length) (.agg (spotL t s ++ ks).toArray) "loop.example/g01292/impl.begin").run Tryz.prog w = .ok (155, .agg (spotL t s).toArray) w := by
  rcases ks with _ | ⟨a, _ | ⟨b, _ | ⟨c, _ | ⟨d, r⟩⟩⟩⟩
  · kernel_rfl
  · kernel_rfl
  · kernel_rfl
  · kernel_rfl
  · simp at h

theorem begin_ahead (t : Nod) (s : Int) (ks : List Value) (h : ks.length ≤ 3) (w : World) :
    (nilAhead 281 (treeT ks.length) (.agg (spotL t s ++ ks).toArray) "loop.example/g01292/impl.begin").run Tryz.prog w = .ok (some false) w := by
  rcases ks with _ | ⟨a, _ | ⟨b, _ | ⟨c, _ | ⟨d, r⟩⟩⟩⟩
  · kernel_rfl
  · kernel_rfl
  · kernel_rfl
  · kernel_rfl
  · simp at h

theorem impl_begin (t : Nod) (s : Int) (w : World) :
    Calls Tryz.prog 155 #[.agg (spotL t s).toArray] w fun e w' => e = .returned (.int .i64 s) ∧ w' = w.alloc (.cells (spotL t s).toArray 131) := by
  obtain ⟨k, a, b, c, n, x, o⟩ := t
  show Calls Tryz.prog 155 #[.agg #[.int .i64 k, .int .i64 a, .int .i64 b, .int .i64 c, .int .i64 n, .string x, .string o, .int .i64 s]] w fun e w' => e = .returned (.int .i64 s) ∧ w' = w.alloc (.cells #[.int .i64 k, .int .i64 a, .int .i64 b, .int .i64 c, .int .i64 n, .string x, .string o, .int .i64 s] 131)
  go_enter Tryz.func155, Tryz.ntmps155
  go_wp2
  go_ret
  exact ⟨rfl, rfl⟩

/-- A value whose part begins there. -/
def Begins (v : Value) (s : Int) : Prop := ∃ (T : TypeId) (u : Value) (t : Nod), v = .iface T u ∧
  (∀ w : World, (nilAhead 281 T u "loop.example/g01292/impl.begin").run Tryz.prog w = .ok (some false) w) ∧
  (∀ w : World, (method 281 T u "loop.example/g01292/impl.begin").run Tryz.prog w = .ok (155, .agg (spotL t s).toArray) w)

theorem treeV_begins (t : Nod) (s : Int) (ks : List Value) (h : ks.length ≤ 3) : Begins (treeV t s ks) s :=
  ⟨_, _, t, rfl, begin_ahead t s ks h, begin_meth t s ks h⟩

/-- A slice of trees lies there. -/
def TreeAt (w : World) (g : Nat) (vs : List Value) : Prop := ∀ i, i < vs.length → w.cell? ⟨g, i, none⟩ = some (vs.getD i .nilIface)

theorem TreeAt.below {w w' : World} {g B : Nat} {vs : List Value} (h : TreeAt w g vs) (hb : Below B w w') (hg : 0 < vs.length → g < B) : TreeAt w' g vs :=
  fun i hi => (World.cell?_of_block (hb.block g (hg (by omega)))).trans (h i hi)

theorem TreeAt.lt {w : World} {g : Nat} {vs : List Value} (h : TreeAt w g vs) (hl : 0 < vs.length) : g < w.heap.size := nod_lt (h 0 hl)

theorem bcell {W w1 : World} (hb : Below W.heap.size W w1) : (∀ b o, b < W.heap.size → w1.cell? ⟨b, o, none⟩ = W.cell? ⟨b, o, none⟩) ∧ (∀ b o, b < W.heap.size → w1.frozen? ⟨b, o, none⟩ = W.frozen? ⟨b, o, none⟩) :=
  ⟨fun b o h => hb.cell (p := ⟨b, o, none⟩) h, fun b o h => hb.frozen (p := ⟨b, o, none⟩) h⟩
end

section
open Go.ChangeShapes Go.WideShapes Go.ChangeAt Go.RowKit

/-- The trees of the first nodes, and where their parts begin. -/
structure TreesB (st : List Int) (vs : List Value) (i : Nat) : Prop where
  ls : st.length = i
  lv : vs.length = i
  b : ∀ j, j < i → Begins (vs.getD j .nilIface) (st.getD j 0)
  r : ∀ j, j < i → 0 ≤ st.getD j 0 ∧ st.getD j 0 ≤ j

/-- The trees of kids. -/
def kidV (vs : List Value) (ks : List Int) : List Value := ks.map fun c => vs.getD c.toNat .nilIface

/-- What a call of kidsAhead ends with. -/
def KEnd (st : List Int) (vs : List Value) (ks : List Int) (i B : Nat) (e : Ending) (w : World) : Prop :=
  (∃ (r : Int) (K : Nat), down st ks.reverse i = some r ∧ e = .returned (.tuple #[.slice (some ⟨K, 0, none⟩) ks.length ks.length, .bool true]) ∧ B ≤ K ∧ TreeAt w K (kidV vs ks) ∧
    (∀ j, j < ks.length → 0 ≤ ks.getD j 0 ∧ ks.getD j 0 < i) ∧ (0 < ks.length → r = st.getD (ks.getD 0 0).toNat 0) ∧ (ks.length = 0 → r = i)) ∨
  (down st ks.reverse i = none ∧ e = .returned (.tuple #[.slice none 0 0, .bool false]))

/-- The state of its loop. -/
def KAt (w W2 : World) (st : List Int) (vs : List Value) (ks : List Int) (i K : Nat) (gg : Nat) (due k : Value) (wx : World) : Prop :=
  ∃ (m : Nat) (P : Int) (C : List Value), m ≤ ks.length ∧ gg = m + 1 ∧ k = .int .i64 ((m : Int) - 1) ∧ due = .int .i64 (P - 1) ∧ 0 ≤ P ∧ P ≤ i ∧ down st (ks.take m).reverse P = down st ks.reverse i ∧
    wx.heap[K]? = some (.cells C.toArray 109 (0, 0)) ∧ C.length = ks.length ∧
    (∀ j, m ≤ j → j < ks.length → C.getD j .nilIface = vs.getD (ks.getD j 0).toNat .nilIface ∧ 0 ≤ ks.getD j 0 ∧ ks.getD j 0 < i) ∧
    (m < ks.length → P = st.getD (ks.getD m 0).toNat 0) ∧ (m = ks.length → P = i) ∧ But K W2 wx ∧ Below w.heap.size w wx

theorem info_tree : (Tryz.prog.info? 109).map (fun i => (i.zero, i.size, i.bytes)) = some (some .nilIface, 1, 16) := by kernel_rfl

theorem tree_of_row {w : World} {g : Nat} {C : List Value} {t : TypeId} {z : Nat × Nat} (h : w.heap[g]? = some (.cells C.toArray t z)) : TreeAt w g C := by
  intro i hi
  rw [cell_of_row _ _ _ _ _ _ h]
  simp [List.getD, hi]

theorem getD_set_same {C : List Value} {q : Nat} {v : Value} (h : q < C.length) : (C.set q v).getD q .nilIface = v := by simp [List.getD, h]
theorem getD_set_other {C : List Value} {q j : Nat} {v : Value} (h : j ≠ q) : (C.set q v).getD j .nilIface = C.getD j .nilIface := by
  simp only [List.getD]
  rw [List.getElem?_set_ne (fun e => h e.symm)]

set_option maxHeartbeats 4000000 in
set_option maxRecDepth 20000 in
theorem impl_ahead (a : Option Addr) (g cap i : Nat) (st : List Int) (vs : List Value) (t : Nod) (hT : TreesB st vs i) (hi : i ≤ 150) (hne : 0 < i → a = some ⟨g, 0, none⟩) (w : World) (hA : TreeAt w g vs) :
    Calls Tryz.prog 94 #[.slice a i cap, .agg (nodCells t).toArray] w fun e w' => KEnd st vs (kidL t) i w.heap.size e w' ∧ Below w.heap.size w w' := by
  have HT : Hid (TreesB st vs i) := hT
  have HA : Hid (TreeAt w g vs) := hA
  have HG : Hid (0 < i → g < w.heap.size) := fun h => hA.lt (by rw [hT.lv]; exact h)
  clear hT hA
  obtain ⟨x0, x1, x2, x3, x4, x5, x6⟩ := t
  obtain ⟨ks, hks⟩ : ∃ ks, kidL ⟨x0, x1, x2, x3, x4, x5, x6⟩ = ks := ⟨_, rfl⟩
  have HKS : Hid (kidL ⟨x0, x1, x2, x3, x4, x5, x6⟩ = ks) := hks
  have hkl : ks.length = arN x0 := by rw [← hks]; exact kidL_length _
  show Calls Tryz.prog 94 #[.slice a i cap, .agg #[.int .i64 x0, .int .i64 x1, .int .i64 x2, .int .i64 x3, .int .i64 x4, .string x5, .string x6]] w fun e w' => KEnd st vs (kidL ⟨x0, x1, x2, x3, x4, x5, x6⟩) i w.heap.size e w' ∧ Below w.heap.size w w'
  rw [hks]
  clear hks
  have har := arN_le x0
  have HB0 : Hid (Below w.heap.size w (w.alloc (.cells #[.int .i64 x0, .int .i64 x1, .int .i64 x2, .int .i64 x3, .int .i64 x4, .string x5, .string x6] 38))) := (Below.refl _ w).alloc (Nat.le_refl _) _
  obtain ⟨i0, hi0, hz0, hz1, hz2⟩ := info_parts info_tree
  obtain ⟨M, hM⟩ : ∃ M : List Value, M.toArray = madeCells (Value.nilIface).cells (((ks.length : Nat) : Int).toNat * i0.size) := ⟨(madeCells (Value.nilIface).cells (((ks.length : Nat) : Int).toNat * i0.size)).toList, by simp⟩
  have HML : Hid (M.length = ks.length) := by
    show M.length = ks.length
    have h := congrArg Array.size hM
    rw [size_madeCells, hz1] at h
    simpa using h
  have hmk : ∀ W : World, (Instr.makeSlice 88 (.int .i64 (ks.length : Int)) (.int .i64 (ks.length : Int))).run Tryz.prog W = .ok (.slice (some ⟨W.heap.size, 0, none⟩) ks.length ks.length) (W.alloc (.cells M.toArray 109)) := fun W => by
    have h := run_make (P := Tryz.prog) W 88 109 i0 .nilIface Tryz.underlying88 hi0 hz0 .i64 .i64 (ks.length : Int) (ks.length : Int) (by omega) (by omega) (by rw [hz2]; omega) (by omega)
    rw [← hM] at h
    simpa using h
  clear hM hi0 hz0 hz1 hz2
  have HKL : Hid (ks.length = arN x0) := hkl
  rw [← hkl] at har
  clear hkl
  have har3 : (ks.length : Int) ≤ 3 := by omega
  go_enter Tryz.func94, Tryz.ntmps94
  go_wp2_with fail
  refine (impl_kids x0 x1 x2 x3 x4 x5 x6 _).mono ?_
  rintro e w1 ⟨rfl, hk1, hb1⟩
  have hs1 := hb1.size
  simp only [World.size_alloc] at hk1 hs1
  have HB1 : Hid (Below w.heap.size w w1) := HB0.out.trans (hb1.mono (by simp))
  have HL1 : Hid (w.heap.size + 1 + 3 < w1.heap.size) := (Array.getElem?_eq_some_iff.1 hk1).1
  have HKC : Hid (∀ j, j < ks.length → w1.cell? ⟨w.heap.size + 1 + 3, j, none⟩ = some (.int .i64 (ks.getD j 0))) := fun j hj => by
    have h := kid_cell (t := ⟨x0, x1, x2, x3, x4, x5, x6⟩) hk1 j (by rw [HKS.out]; exact hj)
    rw [HKS.out] at h
    exact h
  rw [← HKL.out]
  clear hb1 hk1 HB0
  go_wp2
  obtain ⟨W2, hW2⟩ : ∃ W2, w1.alloc (.cells M.toArray 109) = W2 := ⟨_, rfl⟩
  have HB2 : Hid (Below w.heap.size w W2) := by rw [← hW2]; exact HB1.out.alloc (by omega) _
  have HR2 : Hid (W2.heap[w1.heap.size]? = some (.cells M.toArray 109 (0, 0))) := by rw [← hW2]; exact (MapKept.heap_alloc w1 _).1
  have HS2 : Hid (W2.heap.size = w1.heap.size + 1) := by
    show W2.heap.size = w1.heap.size + 1
    rw [← hW2]; simp
  have HKC2 : Hid (∀ j, j < ks.length → W2.cell? ⟨w.heap.size + 1 + 3, j, none⟩ = some (.int .i64 (ks.getD j 0))) := fun j hj => by
    rw [← hW2, ← HKC.out j hj]
    exact ((Below.refl w1.heap.size w1).alloc (Nat.le_refl _) _).cell (p := ⟨w.heap.size + 1 + 3, j, none⟩) HL1.out
  rw [hW2]
  clear hW2 HKC HB1 hmk
  go_loopg [8, 9] (ks.length + 1) (fun gg due k wx => KAt w W2 st vs ks i w1.heap.size gg due k wx)
  case atStart => exact ⟨ks.length, i, M, Nat.le_refl _, rfl, rfl, rfl, by omega, by omega, by rw [List.take_length], HR2.out, HML.out, fun j h1 h2 => by omega, fun h => by omega, fun _ => rfl, But.refl _ _, HB2.out⟩
  case round =>
    obtain ⟨m, P, C, hm, rfl, rfl, rfl, hP0, hP1, hd, hC, hCl, hCv, hPm, hPi, hbut, hbel⟩ := hrel
    have HD : Hid (down st (ks.take m).reverse P = down st ks.reverse i) := hd
    have HC : Hid (wr.heap[w1.heap.size]? = some (.cells C.toArray 109 (0, 0))) := hC
    have HCV : Hid (∀ j, m ≤ j → j < ks.length → C.getD j .nilIface = vs.getD (ks.getD j 0).toNat .nilIface ∧ 0 ≤ ks.getD j 0 ∧ ks.getD j 0 < i) := hCv
    have HPM : Hid (m < ks.length → P = st.getD (ks.getD m 0).toNat 0) := hPm
    have HPI : Hid (m = ks.length → P = i) := hPi
    have HCL : Hid (C.length = ks.length) := hCl
    have HU : Hid (But w1.heap.size W2 wr) := hbut
    clear hd hC hCv hPm hPi hCl hbut
    by_cases hm0 : m = 0
    · subst hm0
      have HE : Hid (KEnd st vs ks i w.heap.size (.returned (.tuple #[.slice (some ⟨w1.heap.size, 0, none⟩) ks.length ks.length, .bool true])) wr) := by
        refine Or.inl ⟨P, w1.heap.size, ?_, rfl, by omega, ?_, fun j hj => (HCV.out j (by omega) hj).2, fun h => HPM.out h, fun h => HPI.out h.symm⟩
        · rw [← HD.out]; rfl
        · have hrow := tree_of_row HC.out
          intro j hj
          have hj' : j < ks.length := by simpa [kidV] using hj
          rw [hrow j (by rw [HCL.out]; exact hj'), (HCV.out j (by omega) hj').1]
          simp [kidV, List.getD, hj']
      clear HD HC HCV HPM HPI HCL HU
      go_wp2
      go_ret2
      exact ⟨HE.out, hbel⟩
    · obtain ⟨q, rfl⟩ : ∃ q, m = q + 1 := ⟨m - 1, by omega⟩
      have hq0 : (q : Int) < ks.length := by omega
      have eq1 : ((q + 1 : Nat) : Int) - 1 = q := by omega
      rw [eq1]
      have hc : wr.cell? ⟨w.heap.size + 1 + 3, q, none⟩ = some (.int .i64 (ks.getD q 0)) := by
        rw [← HKC2.out q (by omega)]
        exact World.cell?_of_block (HU.out.2 (w.heap.size + 1 + 3) (by have := HS2.out; have := HL1.out; omega) (by have := HL1.out; omega))
      have HDD : Hid (down st ((ks.take (q + 1)).reverse) P = if ks.getD q 0 = P - 1 ∧ 0 ≤ ks.getD q 0 then down st (ks.take q).reverse (st.getD (ks.getD q 0).toNat 0) else none) := by
        show down st ((ks.take (q + 1)).reverse) P = _
        have hql : q < ks.length := by omega
        rw [List.take_succ_eq_append_getElem hql, List.reverse_append]
        simp [List.getD, List.getElem?_eq_getElem hql, down]
      have HCQ : Hid (ks.getD q 0 = ks.getD q 0) := rfl
      obtain ⟨c, hcc⟩ : ∃ c, ks.getD q 0 = c := ⟨_, rfl⟩
      have HCC : Hid (ks.getD q 0 = c) := hcc
      rw [hcc] at hc HDD
      clear hcc HCQ
      by_cases hcp : c = P - 1 ∧ 0 ≤ c
      · obtain ⟨hc1, hc0⟩ := hcp
        obtain ⟨cn, rfl⟩ := Int.eq_ofNat_of_zero_le hc0
        obtain rfl : P = (cn : Int) + 1 := by omega
        have hcn : cn < i := by omega
        have hcn' : (cn : Int) < i := by omega
        obtain rfl := hne (by omega)
        have hlt := HG.out (by omega)
        obtain ⟨T, u, t0, hv, hn, hmt⟩ := HT.out.b cn hcn
        have hcell : wr.cell? ⟨g, cn, none⟩ = some (.iface T u) := by
          rw [← hv]
          exact (HA.out.below hbel (fun _ => hlt)) cn (by rw [HT.out.lv]; exact hcn)
        have HV : Hid (vs.getD cn .nilIface = .iface T u) := hv
        have hrg := HT.out.r cn hcn
        have HDN : Hid (down st (ks.take q).reverse (st.getD cn 0) = down st ks.reverse i) := by
          show down st (ks.take q).reverse (st.getD cn 0) = _
          rw [← HD.out, HDD.out, if_pos ⟨hc1, hc0⟩]
          rfl
        have e5 : (cn : Int) + 1 - 1 = cn := by omega
        rw [e5]
        have f0 : wr.frozen? ⟨w1.heap.size, q, none⟩ = false := frozen_of_row wr _ _ _ _ HC.out
        have k0 : wr.cell? ⟨w1.heap.size, q, none⟩ = some (C.getD q .nilIface) := tree_of_row HC.out q (by rw [HCL.out]; omega)
        have HST : Hid (st.getD cn 0 = st.getD cn 0) := rfl
        obtain ⟨R, hR⟩ : ∃ R, (spotL t0 (st.getD cn 0)).toArray = R := ⟨_, rfl⟩
        have hI := impl_begin t0 (st.getD cn 0)
        rw [hR] at hmt hI
        obtain ⟨P2, hP2⟩ : ∃ P2, st.getD cn 0 = P2 := ⟨_, rfl⟩
        have HP2 : Hid (st.getD cn 0 = P2) := hP2
        rw [hP2] at hI hrg HDN
        have HI : Hid (∀ w : World, Calls Tryz.prog 155 #[.agg R] w fun e w' => e = .returned (.int .i64 P2) ∧ w' = w.alloc (.cells R 131)) := hI
        obtain ⟨z, hz⟩ : ∃ z, C.getD q .nilIface = z := ⟨_, rfl⟩
        rw [hz] at k0
        clear hR hI HST hP2 hz hv HDD HD hc1 e5 eq1
        have hne1 : ¬ g = w1.heap.size := by have := HL1.out; omega
        have hne2 : ¬ w1.heap.size = g := by have := HL1.out; omega
        have HW : Hid (KAt w W2 st vs ks i w1.heap.size (q + 1) (.int .i64 (P2 - 1)) (.int .i64 ((q : Int) - 1)) ((wr.setCell ⟨w1.heap.size, q, none⟩ (.iface T u)).alloc (.cells R 131))) := by
          have hb1 : Below w.heap.size w (wr.setCell ⟨w1.heap.size, q, none⟩ (.iface T u)) := hbel.setCell (p := ⟨w1.heap.size, q, none⟩) (by show w.heap.size ≤ w1.heap.size; omega) _
          have hrow := heap_setCell_same wr w1.heap.size q _ _ (.iface T u) HC.out
          rw [List.setIfInBounds_toArray] at hrow
          have hlk : w1.heap.size < (wr.setCell ⟨w1.heap.size, q, none⟩ (.iface T u)).heap.size := (Array.getElem?_eq_some_iff.1 hrow).1
          have hal := (Below.refl (wr.setCell ⟨w1.heap.size, q, none⟩ (.iface T u)).heap.size (wr.setCell ⟨w1.heap.size, q, none⟩ (.iface T u))).alloc (Nat.le_refl _) (.cells R 131)
          refine ⟨q, P2, C.set q (.iface T u), by omega, rfl, rfl, rfl, by omega, by omega, HDN.out, ?_, by rw [List.length_set]; exact HCL.out, ?_, ?_, fun h => by omega, (HU.out.setCell q _).call hal, hb1.alloc (by have := hb1.size; omega) _⟩
          · rw [hal.block _ hlk]; exact hrow
          · intro j hj hjl
            by_cases hjq : j = q
            · subst hjq
              rw [getD_set_same (by rw [HCL.out]; exact hjl), HCC.out]
              exact ⟨HV.out.symm, by omega, by omega⟩
            · rw [getD_set_other hjq]
              exact HCV.out j (by omega) hjl
          · intro _
            rw [HCC.out, ← HP2.out]
            rfl
        have hg1 : -9223372036854775808 ≤ P2 - 1 := by omega
        have hg2 : P2 ≤ 150 := by omega
        clear HC HCV HPM HPI HCL HU HDN HV HP2 HCC
        go_wp2_with fail
        refine (HI.out _).mono ?_
        rintro e w3 ⟨rfl, rfl⟩
        go_wp2
        go_roundg (q + 1)
        case rel => exact HW.out
        case measure => omega
      · have HZ : Hid (KEnd st vs ks i w.heap.size (.returned (.tuple #[.slice none 0 0, .bool false])) wr) := by
          refine Or.inr ⟨?_, rfl⟩
          rw [← HD.out, HDD.out, if_neg hcp]
        clear HD HDD HCC HC HCV HPM HPI HCL HU
        by_cases hP : P = 0
        · subst hP
          have d0 : decide ((0 : Int) - 1 < 0) = true := by decide
          clear hcp eq1
          go_wp2
          go_ret2
          exact ⟨HZ.out, hbel⟩
        · have hP' : ¬ P - 1 < 0 := by omega
          have nq : (c != P - 1) = true := by
            rw [bne_iff_ne]
            intro h
            exact hcp ⟨h, by omega⟩
          clear hcp eq1
          go_wp2
          go_ret2
          exact ⟨HZ.out, hbel⟩
end

section
open Go.ChangeShapes Go.WideShapes Go.ChangeAt Go.RowKit

theorem len_two {α : Type} {l : List α} (h : l.length = 2) : ∃ a b, l = [a, b] := by
  rcases l with _ | ⟨a, _ | ⟨b, _ | ⟨c, r⟩⟩⟩
  · simp at h
  · simp at h
  · exact ⟨a, b, rfl⟩
  · simp at h

theorem len_three {α : Type} {l : List α} (h : l.length = 3) : ∃ a b c, l = [a, b, c] := by
  rcases l with _ | ⟨a, _ | ⟨b, _ | ⟨c, _ | ⟨d, r⟩⟩⟩⟩
  · simp at h
  · simp at h
  · simp at h
  · exact ⟨a, b, c, rfl⟩
  · simp at h

theorem grow_leaf (t : Nod) (at0 : Int) (a : Option Addr) (cap : Nat) (w : World) :
    Calls Tryz.prog 95 #[.agg (nodCells t).toArray, .int .i64 at0, .slice a 0 cap] w fun e w' => e = .returned (treeV t at0 []) ∧ Below w.heap.size w w' := by
  obtain ⟨k, x1, b, c, n, x, o⟩ := t
  show Calls Tryz.prog 95 #[.agg #[.int .i64 k, .int .i64 x1, .int .i64 b, .int .i64 c, .int .i64 n, .string x, .string o], .int .i64 at0, .slice a 0 cap] w fun e w' => e = .returned (.iface 133 (.agg #[.int .i64 k, .int .i64 x1, .int .i64 b, .int .i64 c, .int .i64 n, .string x, .string o, .int .i64 at0])) ∧ Below w.heap.size w w'
  go_enter Tryz.func95, Tryz.ntmps95
  go_wp2
  go_ret
  exact ⟨rfl, (Below.refl _ w).alloc (Nat.le_refl _) _⟩

theorem spot_cells {w : World} {p : Nat} {k a b c n s : Int} {x o : ByteArray} {t : TypeId} {z : Nat × Nat} (h : w.heap[p]? = some (.cells #[.int .i64 k, .int .i64 a, .int .i64 b, .int .i64 c, .int .i64 n, .string x, .string o, .int .i64 s] t z)) :
    w.cell? ⟨p, 0, none⟩ = some (.int .i64 k) ∧ w.cell? ⟨p, 1, none⟩ = some (.int .i64 a) ∧ w.cell? ⟨p, 2, none⟩ = some (.int .i64 b) ∧ w.cell? ⟨p, 3, none⟩ = some (.int .i64 c) ∧ w.cell? ⟨p, 4, none⟩ = some (.int .i64 n) ∧ w.cell? ⟨p, 5, none⟩ = some (.string x) ∧ w.cell? ⟨p, 6, none⟩ = some (.string o) ∧ w.cell? ⟨p, 7, none⟩ = some (.int .i64 s) := by
  refine ⟨?_, ?_, ?_, ?_, ?_, ?_, ?_, ?_⟩ <;> (rw [cell_of_row _ _ _ _ _ _ h]; rfl)

/-- What lies there behind the statement that reads where the first kid begins. -/
def SpotIn (w wx : World) (p : Value) (k a b c n s : Int) (x o : ByteArray) : Prop :=
  ∃ q : Nat, p = .pointer (some ⟨q, 0, none⟩) ∧ wx.heap[q]? = some (.cells #[.int .i64 k, .int .i64 a, .int .i64 b, .int .i64 c, .int .i64 n, .string x, .string o, .int .i64 s] 131 (0, 0)) ∧ Below w.heap.size w wx

theorem spot_a (w : World) (A : Obj) (R : Array Value) (k a b c n s : Int) (x o : ByteArray) :
    SpotIn w (((w.alloc A).alloc (.cells R 131)).alloc (.cells #[.int .i64 k, .int .i64 a, .int .i64 b, .int .i64 c, .int .i64 n, .string x, .string o, .int .i64 s] 131)).drew
      (.pointer (some ⟨w.heap.size + 1 + 1, 0, none⟩)) k a b c n s x o := by
  refine ⟨w.heap.size + 1 + 1, rfl, ?_, ((((Below.refl _ w).alloc (Nat.le_refl _) _).alloc (by simp) _).alloc (by simp; omega) _).drew⟩
  have h := (MapKept.heap_alloc ((w.alloc A).alloc (.cells R 131)) (.cells #[.int .i64 k, .int .i64 a, .int .i64 b, .int .i64 c, .int .i64 n, .string x, .string o, .int .i64 s] 131)).1
  have e : ((w.alloc A).alloc (.cells R 131)).heap.size = w.heap.size + 1 + 1 := by simp
  rw [e] at h
  exact h

theorem spot_b (w : World) (A : Obj) (R : Array Value) (k a b c n s : Int) (x o : ByteArray) :
    SpotIn w (((w.alloc A).alloc (.cells #[.int .i64 k, .int .i64 a, .int .i64 b, .int .i64 c, .int .i64 n, .string x, .string o, .int .i64 s] 131)).alloc (.cells R 131)).drew
      (.pointer (some ⟨w.heap.size + 1, 0, none⟩)) k a b c n s x o := by
  refine ⟨w.heap.size + 1, rfl, ?_, ((((Below.refl _ w).alloc (Nat.le_refl _) _).alloc (by simp) _).alloc (by simp; omega) _).drew⟩
  have h := (MapKept.heap_alloc (w.alloc A) (.cells #[.int .i64 k, .int .i64 a, .int .i64 b, .int .i64 c, .int .i64 n, .string x, .string o, .int .i64 s] 131)).1
  have h2 := ((Below.refl _ ((w.alloc A).alloc (.cells #[.int .i64 k, .int .i64 a, .int .i64 b, .int .i64 c, .int .i64 n, .string x, .string o, .int .i64 s] 131))).alloc (Nat.le_refl _) (.cells R 131)).drew.block (w.heap.size + 1) (by simp)
  rw [h2]
  simpa using h

set_option maxHeartbeats 4000000 in
set_option maxRecDepth 20000 in
theorem grow_kids (t : Nod) (at0 s : Int) (g cap : Nat) (ks : List Value) (h1 : 1 ≤ ks.length) (h3 : ks.length ≤ 3) (hv : Begins (ks.getD 0 .nilIface) s) (hif : ∀ v ∈ ks, ∃ T u, v = .iface T u) (w : World) (hk : TreeAt w g ks) :
    Calls Tryz.prog 95 #[.agg (nodCells t).toArray, .int .i64 at0, .slice (some ⟨g, 0, none⟩) ks.length cap] w fun e w' => e = .returned (treeV t s ks) ∧ Below w.heap.size w w' := by
  have hg := hk.lt (by omega)
  have h0 := hk 0 (by omega)
  have HF : Hid (∀ v ∈ ks, ∃ T u, v = .iface T u) := hif
  have HV : Hid (treeV t s ks = .iface (treeT ks.length) (.agg (spotL t s ++ ks).toArray)) := rfl
  have HK : Hid (TreeAt w g ks) := hk
  obtain ⟨T, u, t0, he, hn, hm⟩ := hv
  rw [he] at h0
  obtain ⟨k, x1, b, c, n, x, o⟩ := t
  show Calls Tryz.prog 95 #[.agg #[.int .i64 k, .int .i64 x1, .int .i64 b, .int .i64 c, .int .i64 n, .string x, .string o], .int .i64 at0, .slice (some ⟨g, 0, none⟩) ks.length cap] w fun e w' => e = .returned (treeV ⟨k, x1, b, c, n, x, o⟩ s ks) ∧ Below w.heap.size w w'
  obtain ⟨R, hR⟩ : ∃ R, (spotL t0 s).toArray = R := ⟨_, rfl⟩
  have hI := impl_begin t0 s
  rw [hR] at hm hI
  have HI : Hid (∀ w : World, Calls Tryz.prog 155 #[.agg R] w fun e w' => e = .returned (.int .i64 s) ∧ w' = w.alloc (.cells R 131)) := hI
  clear hR hI he hk hif
  obtain ⟨m, hmm⟩ : ∃ m, ks.length = m := ⟨_, rfl⟩
  have HM : Hid (ks.length = m) := hmm
  rw [hmm] at h1 h3 ⊢
  clear hmm
  have e1 : (1 : Int) ≤ m := by omega
  have e3 : (m : Int) ≤ 3 := by omega
  go_enter Tryz.func95, Tryz.ntmps95
  go_upto_region 3 with fail
  go_cut [7] from 10 (fun p wx => SpotIn w wx p k x1 b c n s x o)
  case first =>
    go_region_with (go_at_call 155; refine (HI.out _).mono ?_; rintro e w1 ⟨rfl, rfl⟩)
    all_goals
      go_wp2_with fail
      go_meet
    all_goals first | exact spot_a _ _ _ _ _ _ _ _ _ _ _ | exact spot_b _ _ _ _ _ _ _ _ _ _ _
  case rest =>
    obtain ⟨q, rfl, hq, hb⟩ := hcut
    obtain ⟨q0, q1, q2, q3, q4, q5, q6, q7⟩ := spot_cells hq
    have HT : Hid (TreeAt wc g ks) := HK.out.below hb (fun _ => hg)
    clear HK h0 hn hm HI hq
    rcases (by omega : m = 1 ∨ m = 2 ∨ m = 3) with rfl | rfl | rfl
    · obtain ⟨v0, rfl⟩ := List.length_eq_one_iff.1 HM.out
      obtain ⟨T0, u0, rfl⟩ := HF.out v0 (by simp)
      have c0 : wc.cell? ⟨g, 0, none⟩ = some (.iface T0 u0) := HT.out 0 (by simp)
      clear HT HF
      go_wp2
      go_quiet (fail)
      go_wp2
      go_ret
      exact ⟨by rw [HV.out]; rfl, below_drew_n hb _⟩
    · obtain ⟨v0, v1, rfl⟩ := len_two HM.out
      obtain ⟨T0, u0, rfl⟩ := HF.out v0 (by simp)
      obtain ⟨T1, u1, rfl⟩ := HF.out v1 (by simp)
      have c0 : wc.cell? ⟨g, 0, none⟩ = some (.iface T0 u0) := HT.out 0 (by simp)
      have c1 : wc.cell? ⟨g, 1, none⟩ = some (.iface T1 u1) := HT.out 1 (by simp)
      clear HT HF
      go_wp2
      go_quiet (fail)
      go_wp2
      go_ret
      exact ⟨by rw [HV.out]; rfl, below_drew_n hb _⟩
    · obtain ⟨v0, v1, v2, rfl⟩ := len_three HM.out
      obtain ⟨T0, u0, rfl⟩ := HF.out v0 (by simp)
      obtain ⟨T1, u1, rfl⟩ := HF.out v1 (by simp)
      obtain ⟨T2, u2, rfl⟩ := HF.out v2 (by simp)
      have c0 : wc.cell? ⟨g, 0, none⟩ = some (.iface T0 u0) := HT.out 0 (by simp)
      have c1 : wc.cell? ⟨g, 1, none⟩ = some (.iface T1 u1) := HT.out 1 (by simp)
      have c2 : wc.cell? ⟨g, 2, none⟩ = some (.iface T2 u2) := HT.out 2 (by simp)
      clear HT HF
      go_wp2
      go_quiet (fail)
      go_wp2
      go_ret
      exact ⟨by rw [HV.out]; rfl, below_drew_n hb _⟩
end

section
open Go.ChangeShapes Go.WideShapes Go.ChangeAt Go.RowKit

/-- The trees of the first nodes, each over its kids. -/
structure TreesG (ts : List Nod) (st : List Int) (vs : List Value) (i : Nat) : Prop where
  ls : st.length = i
  lv : vs.length = i
  v : ∀ j, j < i → vs.getD j .nilIface = treeV (ts.getD j noNod) (st.getD j 0) (kidV vs (kidL (ts.getD j noNod)))
  k : ∀ j, j < i → ∀ c, c < (kidL (ts.getD j noNod)).length → 0 ≤ (kidL (ts.getD j noNod)).getD c 0 ∧ (kidL (ts.getD j noNod)).getD c 0 < j
  r : ∀ j, j < i → 0 ≤ st.getD j 0 ∧ st.getD j 0 ≤ j

theorem kidV_length (vs : List Value) (ks : List Int) : (kidV vs ks).length = ks.length := by simp [kidV]

theorem TreesG.b {ts : List Nod} {st : List Int} {vs : List Value} {i : Nat} (h : TreesG ts st vs i) : TreesB st vs i :=
  ⟨h.ls, h.lv, fun j hj => by rw [h.v j hj]; exact treeV_begins _ _ _ (by rw [kidV_length, kidL_length]; exact arN_le _), h.r⟩

theorem kidV_getD (vs : List Value) (ks : List Int) (j : Nat) (h : j < ks.length) : (kidV vs ks).getD j .nilIface = vs.getD (ks.getD j 0).toNat .nilIface := by
  simp [kidV, List.getD, h]

theorem kidV_app (vs : List Value) (v : Value) (ks : List Int) (h : ∀ c, c < ks.length → 0 ≤ ks.getD c 0 ∧ ks.getD c 0 < vs.length) : kidV (vs ++ [v]) ks = kidV vs ks := by
  unfold kidV
  apply List.map_congr_left
  intro c hc
  obtain ⟨m, hm, rfl⟩ := List.getElem_of_mem hc
  have hr := h m hm
  have e : ks.getD m 0 = ks[m] := by simp [List.getD, hm]
  rw [e] at hr
  simp only [List.getD]
  rw [List.getElem?_append_left (by omega)]

theorem getD_app_left {α : Type} (l : List α) (x d : α) (j : Nat) (h : j < l.length) : (l ++ [x]).getD j d = l.getD j d := by
  simp only [List.getD]
  rw [List.getElem?_append_left h]

theorem getD_app_lastT {α : Type} (l : List α) (x d : α) (j : Nat) (h : j = l.length) : (l ++ [x]).getD j d = x := by
  subst h
  simp [List.getD]

theorem TreesG.next {ts : List Nod} {st : List Int} {vs : List Value} {i : Nat} (h : TreesG ts st vs i) (r : Int)
    (hk : ∀ c, c < (kidL (ts.getD i noNod)).length → 0 ≤ (kidL (ts.getD i noNod)).getD c 0 ∧ (kidL (ts.getD i noNod)).getD c 0 < i) (hr : 0 ≤ r ∧ r ≤ i) :
    TreesG ts (st ++ [r]) (vs ++ [treeV (ts.getD i noNod) r (kidV vs (kidL (ts.getD i noNod)))]) (i + 1) := by
  have hls := h.ls
  have hlv := h.lv
  refine ⟨by simp [hls], by simp [hlv], fun j hj => ?_, fun j hj => ?_, fun j hj => ?_⟩
  · by_cases hji : j < i
    · rw [getD_app_left _ _ _ _ (by omega), getD_app_left _ _ _ _ (by omega), h.v j hji, kidV_app]
      intro c hc
      have := h.k j hji c hc
      omega
    · obtain rfl : j = i := by omega
      rw [getD_app_lastT _ _ _ _ hlv.symm, getD_app_lastT _ _ _ _ hls.symm, kidV_app]
      intro c hc
      have := hk c hc
      omega
  · by_cases hji : j < i
    · exact h.k j hji
    · obtain rfl : j = i := by omega
      exact hk
  · by_cases hji : j < i
    · rw [getD_app_left _ _ _ _ (by omega)]; exact h.r j hji
    · obtain rfl : j = i := by omega
      rw [getD_app_lastT _ _ _ _ hls.symm]; exact hr

/-- A slice of trees of the call's own. -/
abbrev ownT (w : World) (base : Nat) (v : Value) (vs : List Value) : Prop := w.ownsRow base 109 1 v vs.length vs

theorem ownT_kept {w w' : World} {B N : Nat} {v : Value} {vs : List Value} (h : ownT w B v vs) (hb : Below N w w') (hN : w.heap.size ≤ N) : ownT w' B v vs := by
  refine ⟨h.1, ?_⟩
  rcases h.2 with h0 | ⟨g, cap, cur, hv, hbg, hg, rest⟩
  · exact .inl h0
  · refine .inr ⟨g, cap, cur, hv, hbg, ?_, rest⟩
    have hlt : g < w.heap.size := (Array.getElem?_eq_some_iff.1 hg).1
    rw [hb.block g (by omega)]
    exact hg

theorem ownT_form {w : World} {B : Nat} {v : Value} {vs : List Value} (h : ownT w B v vs) :
    ∃ (a : Option Addr) (g cap : Nat), v = .slice a vs.length cap ∧ (0 < vs.length → a = some ⟨g, 0, none⟩) ∧ TreeAt w g vs ∧ B ≤ g ∧ (0 < vs.length → g < w.heap.size) := by
  rcases h.2 with ⟨rfl, h0⟩ | ⟨g, cap, cur, rfl, hb, hg, hn, hm, hs, ht⟩
  · rw [h0]
    have e : vs = [] := List.length_eq_zero_iff.1 h0
    subst e
    exact ⟨none, B, 0, rfl, fun h => absurd h (by omega), fun i hi => absurd hi (by simp), Nat.le_refl _, fun h => absurd h (by omega)⟩
  · refine ⟨some ⟨g, 0, none⟩, g, cap, rfl, fun _ => rfl, fun i hi => ?_, hb, fun _ => (Array.getElem?_eq_some_iff.1 hg).1⟩
    rw [cell_of_row _ _ _ _ _ _ hg]
    have e : cur[i]? = vs[i]? := by
      rw [← ht, List.getElem?_take_of_lt (by omega)]
      simp
    rw [e]
    simp [List.getD, hi]

theorem ownT_next {w : World} {B : Nat} {v : Value} {vs : List Value} {m : Nat} {xs : List Value} (x : Value) (h : w.ownsRow B 109 1 v m xs) (hn : m = vs.length + 1) (hx : xs = vs ++ [x]) : ownT w B v (vs ++ [x]) := by
  subst hn hx
  show w.ownsRow B 109 1 v (vs ++ [x]).length (vs ++ [x])
  rw [List.length_append]
  simpa using h

/-- A tree is grown over the kids that were found ahead of its node. -/
theorem impl_grow (t : Nod) (i : Nat) (r : Int) (K : Nat) (st : List Int) (vs : List Value) (hT : TreesB st vs i) (w : World) (hA : TreeAt w K (kidV vs (kidL t)))
    (hk : ∀ j, j < (kidL t).length → 0 ≤ (kidL t).getD j 0 ∧ (kidL t).getD j 0 < i) (h1 : 0 < (kidL t).length → r = st.getD ((kidL t).getD 0 0).toNat 0) (h0 : (kidL t).length = 0 → r = i) :
    Calls Tryz.prog 95 #[.agg (nodCells t).toArray, .int .i64 i, .slice (some ⟨K, 0, none⟩) (kidL t).length (kidL t).length] w fun e w' => e = .returned (treeV t r (kidV vs (kidL t))) ∧ Below w.heap.size w w' := by
  by_cases hz : (kidL t).length = 0
  · obtain rfl := h0 hz
    have e : kidL t = [] := List.length_eq_zero_iff.1 hz
    rw [e]
    exact grow_leaf t i _ 0 w
  · have hlt : 0 < (kidL t).length := by omega
    have hl := kidL_length t
    have ha := arN_le t.kind
    have g := grow_kids t i r K (kidL t).length (kidV vs (kidL t)) (by rw [kidV_length]; omega) (by rw [kidV_length]; omega) ?_ ?_ w hA
    · rw [kidV_length] at g
      exact g
    · have hh := hk 0 hlt
      rw [kidV_getD _ _ 0 hlt, h1 hlt]
      exact hT.b _ (by omega)
    · intro v hv
      simp only [kidV, List.mem_map] at hv
      obtain ⟨c, hc, rfl⟩ := hv
      obtain ⟨m, hm, rfl⟩ := List.getElem_of_mem hc
      have hh := hk m hm
      have e : (kidL t).getD m 0 = (kidL t)[m] := by simp [List.getD, hm]
      rw [e] at hh
      obtain ⟨T, u, t0, hv, _⟩ := hT.b (kidL t)[m].toNat (by omega)
      exact ⟨T, u, hv⟩

/-- What a call of treesOf ends with. -/
def TrEnd (ts : List Nod) (B : Nat) (e : Ending) (w : World) : Prop :=
  (∃ st vs v, 1 ≤ ts.length ∧ ts.length ≤ 150 ∧ startsF ts ts.length = some st ∧ TreesG ts st vs ts.length ∧ ownT w B v vs ∧ e = .returned (.tuple #[v, .bool (nodesB ts)])) ∨
  (nodesB ts = false ∧ e = .returned (.tuple #[.slice none 0 0, .bool false]))

/-- The state of its loop. -/
def TrAt (ts : List Nod) (w : World) (gg : Nat) (out pl : Value) (wr : World) : Prop :=
  ∃ (i : Nat) (st : List Int) (vs : List Value), pl = .int .i64 i ∧ i + gg = ts.length ∧ startsF ts i = some st ∧ TreesG ts st vs i ∧ ownT wr w.heap.size out vs ∧ Below w.heap.size w wr
end

section
open Go.ChangeShapes Go.WideShapes Go.ChangeAt Go.RowKit

set_option maxHeartbeats 4000000 in
set_option maxRecDepth 20000 in
theorem impl_trees (a : Option Addr) (g cap : Nat) (ts : List Nod) (hne : 0 < ts.length → a = some ⟨g, 0, none⟩) (hl : ts.length ≤ 1048576)
    (hst : ∀ i, i < ts.length → (ts.getD i noNod).name.size ≤ maxLen ∧ (ts.getD i noNod).other.size ≤ maxLen) (w : World) (hA : NodAt w g ts) :
    Calls Tryz.prog 68 #[.slice a ts.length cap] w fun e w' => TrEnd ts w.heap.size e w' ∧ Below w.heap.size w w' := by
  have HA : Hid (NodAt w g ts) := hA
  have HT : Hid (∀ i, i < ts.length → (ts.getD i noNod).name.size ≤ maxLen ∧ (ts.getD i noNod).other.size ≤ maxLen) := hst
  have HN : Hid (nodesB ts = (decide (1 ≤ ts.length ∧ ts.length ≤ 150) && (match startsF ts ts.length with | some st => st.getD (ts.length - 1) 0 == 0 | none => false))) := rfl
  clear hA hst
  by_cases hk : 1 ≤ ts.length ∧ ts.length ≤ 150
  · have HV : Hid (nodesB ts = (match startsF ts ts.length with | some st => st.getD (ts.length - 1) 0 == 0 | none => false)) := by
      show nodesB ts = _
      rw [HN.out, decide_eq_true hk, Bool.true_and]
    obtain ⟨hk1, hk2⟩ := hk
    have e1 : ¬ (ts.length : Int) < 1 := by omega
    have e2 : ¬ (150 : Int) < ts.length := by omega
    obtain ⟨i0, hi0, hz0, hz1, hz2⟩ := info_parts info_tree
    obtain ⟨M, hM⟩ : ∃ M, M = madeCells (Value.nilIface).cells (((ts.length : Nat) : Int).toNat * i0.size) := ⟨_, rfl⟩
    have HMS : Hid (M.size = ts.length * 1) := by
      show M.size = ts.length * 1
      rw [hM, size_madeCells, hz1]
      simp
    have hmk : ∀ W : World, (Instr.makeSlice 88 (.int .i64 0) (.int .i64 (ts.length : Int))).run Tryz.prog W = .ok (.slice (some ⟨W.heap.size, 0, none⟩) 0 ts.length) (W.alloc (.cells M 109)) := fun W => by
      have h := run_make (P := Tryz.prog) W 88 109 i0 .nilIface Tryz.underlying88 hi0 hz0 .i64 .i64 0 (ts.length : Int) (by omega) (by omega) (by rw [hz2]; omega) (by omega)
      rw [← hM] at h
      simpa using h
    have HI0 : Hid (Tryz.prog.info? 109 = some i0 ∧ i0.zero = some .nilIface ∧ i0.size = 1 ∧ i0.bytes = 16) := ⟨hi0, hz0, hz1, hz2⟩
    clear hM hi0 hz0 hz1 hz2 HN
    have HO0 : Hid (ownT (w.alloc (.cells M 109)) w.heap.size (.slice (some ⟨w.heap.size, 0, none⟩) 0 ts.length) []) :=
      World.ownsRow_made w M ts.length (Nat.le_refl _) (by unfold maxLen; omega) HMS.out
    go_enter Tryz.func68, Tryz.ntmps68
    go_wp2
    go_loopg [4, 22] ts.length (fun gg out i wr => TrAt ts w gg out i wr)
    case atStart => exact ⟨0, [], [], rfl, by omega, rfl, ⟨rfl, rfl, fun j hj => by omega, fun j hj => by omega, fun j hj => by omega⟩, HO0.out, (Below.refl _ w).alloc (Nat.le_refl _) _⟩
    case round =>
      obtain ⟨i, st, vs, rfl, hig, hS, hG, hown, hbel⟩ := hrel
      have HS : Hid (startsF ts i = some st) := hS
      have HG : Hid (TreesG ts st vs i) := hG
      have HO : Hid (ownT wr w.heap.size u4 vs) := hown
      have hlv := hG.lv
      have hsz := hbel.size
      clear hS hown hG HO0 hmk
      by_cases hin : i < ts.length
      · have e1 : (i : Int) < ts.length := by omega
        obtain rfl := hne (by omega)
        have hlt : g < w.heap.size := HA.out.lt (by omega)
        have t := (HA.out.below hbel (fun _ => hlt)) i hin
        have hsm := HT.out i hin
        have HN : Hid (startsF ts (i + 1) = (startsF ts i).bind fun st => (stepS (ts.getD i noNod) i st).map fun a => st ++ [a]) := rfl
        obtain ⟨⟨x0, x1, x2, x3, x4, x5, x6⟩, hx⟩ : ∃ y, ts.getD i noNod = y := ⟨_, rfl⟩
        have HX : Hid (ts.getD i noNod = ⟨x0, x1, x2, x3, x4, x5, x6⟩) := hx
        rw [hx] at t hsm HN
        simp only at hsm
        have HSM : Hid (x5.size ≤ maxLen ∧ x6.size ≤ maxLen) := hsm
        have q0 : wr.cell? ⟨g, i * 7, none⟩ = some (.int .i64 x0) := t.c0
        have q1 : wr.cell? ⟨g, i * 7 + 1, none⟩ = some (.int .i64 x1) := t.c1
        have q2 : wr.cell? ⟨g, i * 7 + 2, none⟩ = some (.int .i64 x2) := t.c2
        have q3 : wr.cell? ⟨g, i * 7 + 3, none⟩ = some (.int .i64 x3) := t.c3
        have q4 : wr.cell? ⟨g, i * 7 + 4, none⟩ = some (.int .i64 x4) := t.c4
        have q5 : wr.cell? ⟨g, i * 7 + 5, none⟩ = some (.string x5) := t.c5
        have q6 : wr.cell? ⟨g, i * 7 + 6, none⟩ = some (.string x6) := t.c6
        obtain ⟨wa, hwa⟩ : ∃ wa, wr.alloc (.cells #[.int .i64 x0, .int .i64 x1, .int .i64 x2, .int .i64 x3, .int .i64 x4, .string x5, .string x6] 38) = wa := ⟨_, rfl⟩
        have HWA : Hid (wr.alloc (.cells #[.int .i64 x0, .int .i64 x1, .int .i64 x2, .int .i64 x3, .int .i64 x4, .string x5, .string x6] 38) = wa) := hwa
        have Ra : Hid (wa.heap[wr.heap.size]? = some (.cells #[.int .i64 x0, .int .i64 x1, .int .i64 x2, .int .i64 x3, .int .i64 x4, .string x5, .string x6] 38 (0, 0))) := by rw [← hwa]; exact (MapKept.heap_alloc wr _).1
        have Sa : Hid (wa.heap.size = wr.heap.size + 1) := by
          show wa.heap.size = wr.heap.size + 1
          rw [← hwa]; simp
        have Ba : Hid (Below w.heap.size w wa) := by rw [← hwa]; exact hbel.alloc (by omega) _
        have Oa : Hid (ownT wa w.heap.size u4 vs) := by rw [← hwa]; exact HO.out.alloc _
        clear t hx hsm hwa
        go_wp2_with fail
        rw [HWA.out]
        refine (impl_fields x0 x1 x2 x3 x4 x5 x6 HSM.out.1 HSM.out.2 wa).mono ?_
        rintro e w1 ⟨rfl, hb1⟩
        have hs1 := hb1.size
        rw [Sa.out] at hs1
        have R1 := (hb1.block wr.heap.size (by rw [Sa.out]; omega)).trans Ra.out
        have HR1 : Hid (w1.heap[wr.heap.size]? = some (.cells #[.int .i64 x0, .int .i64 x1, .int .i64 x2, .int .i64 x3, .int .i64 x4, .string x5, .string x6] 38 (0, 0))) := R1
        have O1 : Hid (ownT w1 w.heap.size u4 vs) := ownT_kept Oa.out hb1 (Nat.le_refl _)
        have B1 : Hid (Below w.heap.size w w1) := Ba.out.trans (hb1.mono (by rw [Sa.out]; omega))
        clear q0 q1 q2 q3 q4 q5 q6 hb1 Ra HWA Ba Oa HO hbel
        have HNO : Hid (∀ W : World, startsF ts (i + 1) = none → TrEnd ts w.heap.size (.returned (.tuple #[.slice none 0 0, .bool false])) W) := by
          intro W h
          refine Or.inr ⟨?_, rfl⟩
          rw [HV.out, startsF_none ts (i + 1) ts.length (by omega) h]
        by_cases hf : fieldsB ⟨x0, x1, x2, x3, x4, x5, x6⟩ = true
        · have HE : Hid (startsF ts (i + 1) = (down st (kidL ⟨x0, x1, x2, x3, x4, x5, x6⟩).reverse i).map fun a => st ++ [a]) := by
            show startsF ts (i + 1) = _
            rw [HN.out, HS.out]
            simp only [Option.bind_some, stepS, if_pos hf]
          rw [hf]
          clear hf HN
          obtain ⟨p0, p1, p2, p3, p4, p5, p6⟩ := cells7_of R1
          clear R1
          obtain ⟨a4, g4, c4, rfl, ha4, hT4, hB4, hl4⟩ := ownT_form O1.out
          have T4 : Hid (TreeAt w1 g4 vs) := hT4
          have L4 : Hid (0 < vs.length → g4 < w1.heap.size) := hl4
          have A4 : Hid (0 < vs.length → a4 = some ⟨g4, 0, none⟩) := ha4
          clear hT4 hl4 ha4
          rw [hlv] at *
          go_wp2_with fail
          refine (impl_ahead a4 g4 c4 i st vs ⟨x0, x1, x2, x3, x4, x5, x6⟩ HG.out.b (by omega) A4.out w1 T4.out).mono ?_
          rintro e w2 ⟨hend, hb2⟩
          have hs2 := hb2.size
          have B2 : Hid (Below w.heap.size w w2) := B1.out.trans (hb2.mono (by omega))
          have R2 := (hb2.block wr.heap.size (by omega)).trans HR1.out
          have O2 : Hid (ownT w2 w.heap.size (.slice a4 i c4) vs) := ownT_kept O1.out hb2 (Nat.le_refl _)
          clear p0 p1 p2 p3 p4 p5 p6 HR1 O1 B1 T4 L4 hb2
          rcases hend with ⟨r, K, hr, rfl, hBK, hTK, hkk, hr1, hr0⟩ | ⟨hno, rfl⟩
          · have HQ : Hid (startsF ts (i + 1) = some (st ++ [r])) := by
              show startsF ts (i + 1) = _
              rw [HE.out, hr]
              rfl
            have hrr := down_range HG.out.ls HG.out.r _ _ r (by omega) (by omega) hr
            have HRR : Hid (0 ≤ r ∧ r ≤ i) := hrr
            have HKK : Hid (∀ j, j < (kidL ⟨x0, x1, x2, x3, x4, x5, x6⟩).length → 0 ≤ (kidL ⟨x0, x1, x2, x3, x4, x5, x6⟩).getD j 0 ∧ (kidL ⟨x0, x1, x2, x3, x4, x5, x6⟩).getD j 0 < i) := hkk
            have hgr := impl_grow ⟨x0, x1, x2, x3, x4, x5, x6⟩ i r K st vs HG.out.b w2 hTK hkk hr1 hr0
            have HGN : Hid (TreesG ts (st ++ [r]) (vs ++ [treeV ⟨x0, x1, x2, x3, x4, x5, x6⟩ r (kidV vs (kidL ⟨x0, x1, x2, x3, x4, x5, x6⟩))]) (i + 1)) := by
              have h := HG.out.next r (by rw [HX.out]; exact hkk) hrr
              rw [HX.out] at h
              exact h
            obtain ⟨p0, p1, p2, p3, p4, p5, p6⟩ := cells7_of R2
            obtain ⟨T, u, hTU⟩ : ∃ T u, treeV ⟨x0, x1, x2, x3, x4, x5, x6⟩ r (kidV vs (kidL ⟨x0, x1, x2, x3, x4, x5, x6⟩)) = .iface T u := ⟨_, _, rfl⟩
            rw [hTU] at hgr HGN
            have HGR : Hid (Calls Tryz.prog 95 #[.agg (nodCells ⟨x0, x1, x2, x3, x4, x5, x6⟩).toArray, .int .i64 i, .slice (some ⟨K, 0, none⟩) (kidL ⟨x0, x1, x2, x3, x4, x5, x6⟩).length (kidL ⟨x0, x1, x2, x3, x4, x5, x6⟩).length] w2 fun e w' => e = .returned (.iface T u) ∧ Below w2.heap.size w2 w') := hgr
            clear R2 hr hTK hkk hr1 hr0 HE HNO hTU hgr hrr
            generalize (kidL ⟨x0, x1, x2, x3, x4, x5, x6⟩).length = kl at *
            go_wp2_with fail
            refine HGR.out.mono ?_
            rintro e w3 ⟨rfl, hb3⟩
            have hs3 := hb3.size
            have B3 : Hid (Below w.heap.size w w3) := B2.out.trans (hb3.mono (by omega))
            have O3 : Hid (ownT w3 w.heap.size (.slice a4 i c4) vs) := ownT_kept O2.out hb3 (Nat.le_refl _)
            have HLV : Hid (vs.length = i) := HG.out.lv
            obtain ⟨hi0, hz0, hz1, hz2⟩ := HI0.out
            clear p0 p1 p2 p3 p4 p5 p6 O2 B2 hb3 HGR HKK HRR
            go_wp2_with (at_builtin; refine wpList_append_own _ rfl _ _ 88 rfl w.heap.size 109 i0 _ 1 16 Tryz.underlying88 hi0 hz0 hz1 hz2 rfl (by decide) _ _ _ rfl (O3.out.alloc _) ⟨w3.heap.size, 0, none⟩ 1 1 [.iface T u] rfl rfl ?a1 ?a2 ?a3 ?a4 ?a5 ?_)
            case a1 =>
              intro j u hj
              match j, hj with
              | 0, hj => simp at hj; subst hj; simp [Addr.add]
            case a2 => intro u hu; simp at hu; subst hu; rfl
            case a3 => have := HLV.out; unfold maxLen; omega
            case a4 => have := HLV.out; omega
            case a5 => simp; omega
            intro v' W4 hown' hgrow _
            have HM : Hid (TrAt ts w (ts.length - (i + 1)) v' (.int .i64 ((i + 1 : Nat) : Int)) W4) :=
              ⟨i + 1, st ++ [r], vs ++ [.iface T u], rfl, by omega, HQ.out, HGN.out, ownT_next (.iface T u) hown' rfl rfl, (B3.out.alloc (by omega) _).grown hgrow (by simp; omega) (fun q hq => (O3.out.lt q hq).1)⟩
            clear hown' hgrow HQ O3 B3 hi0 hz0 hz1 hz2 HGN
            go_wp2
            go_roundg (ts.length - (i + 1))
            case rel => exact HM.out
            case measure => omega
          · have HZ : Hid (TrEnd ts w.heap.size (.returned (.tuple #[.slice none 0 0, .bool false])) w2) := HNO.out w2 (by rw [HE.out, hno]; rfl)
            clear HE HNO hno O2 R2
            go_wp2
            go_ret2
            exact ⟨HZ.out, B2.out⟩
        · have hf' : fieldsB ⟨x0, x1, x2, x3, x4, x5, x6⟩ = false := by simpa using hf
          have HZ : Hid (TrEnd ts w.heap.size (.returned (.tuple #[.slice none 0 0, .bool false])) w1) := HNO.out w1 (by
            rw [HN.out, HS.out]
            simp only [Option.bind_some, stepS, if_neg hf]
            rfl)
          rw [hf']
          clear hf hf' HN HNO R1 HR1 O1
          go_wp2
          go_ret2
          exact ⟨HZ.out, B1.out⟩
      · have e1 : (ts.length : Int) ≤ i := by omega
        obtain rfl : i = ts.length := by omega
        obtain ⟨a4, g4, c4, rfl, ha4, hT4, hB4, hl4⟩ := ownT_form HO.out
        obtain rfl := ha4 (by omega)
        have hlast : ts.length - 1 < ts.length := by omega
        obtain ⟨T, u, t0, hv, hn, hmt⟩ := HG.out.b.b (ts.length - 1) hlast
        have hcell : wr.cell? ⟨g4, ts.length - 1, none⟩ = some (.iface T u) := by
          rw [← hv]
          exact hT4 (ts.length - 1) (by omega)
        obtain ⟨R, hR⟩ : ∃ R, (spotL t0 (st.getD (ts.length - 1) 0)).toArray = R := ⟨_, rfl⟩
        have hI := impl_begin t0 (st.getD (ts.length - 1) 0)
        rw [hR] at hmt hI
        have HZ : Hid (∀ W : World, ownT W w.heap.size (.slice (some ⟨g4, 0, none⟩) vs.length c4) vs → TrEnd ts w.heap.size (.returned (.tuple #[.slice (some ⟨g4, 0, none⟩) vs.length c4, .bool (st.getD (ts.length - 1) 0 == 0)])) W) := by
          intro W hW
          refine Or.inl ⟨st, vs, _, hk1, hk2, HS.out, HG.out, hW, ?_⟩
          rw [HV.out, HS.out]
        have HO1 : Hid (ownT (wr.alloc (.cells R 131)) w.heap.size (.slice (some ⟨g4, 0, none⟩) vs.length c4) vs) := HO.out.alloc _
        generalize st.getD (ts.length - 1) 0 = P2 at *
        have HI : Hid (∀ w : World, Calls Tryz.prog 155 #[.agg R] w fun e w' => e = .returned (.int .i64 P2) ∧ w' = w.alloc (.cells R 131)) := hI
        have HLV : Hid (vs.length = ts.length) := hlv
        rw [hlv] at *
        have e2 : (0 : Int) ≤ (ts.length : Int) - 1 := by omega
        have e3 : (ts.length : Int) - 1 < ts.length := by omega
        clear hR hI hv hT4 hl4 ha4 HO hlv
        go_wp2_with fail
        refine (HI.out _).mono ?_
        rintro e w3 ⟨rfl, rfl⟩
        go_wp2
        go_ret2
        exact ⟨HZ.out _ HO1.out, hbel.alloc (by omega) _⟩
  · have HZ : Hid (TrEnd ts w.heap.size (.returned (.tuple #[.slice none 0 0, .bool false])) w) := by
      refine Or.inr ⟨?_, rfl⟩
      rw [HN.out, decide_eq_false hk, Bool.false_and]
    clear HN
    by_cases h1 : ts.length < 1
    · have e1 : (ts.length : Int) < 1 := by omega
      clear hk
      go_enter Tryz.func68, Tryz.ntmps68
      go_wp2
      go_ret2
      exact ⟨HZ.out, Below.refl _ _⟩
    · have e1 : ¬ (ts.length : Int) < 1 := by omega
      have e2 : (150 : Int) < ts.length := by omega
      clear hk
      go_enter Tryz.func68, Tryz.ntmps68
      go_wp2
      go_ret2
      exact ⟨HZ.out, Below.refl _ _⟩
end

section
open Go.ChangeShapes Go.WideShapes Go.ChangeAt Go.RowKit

theorem impl_nodes (a : Option Addr) (g cap : Nat) (ts : List Nod) (hne : 0 < ts.length → a = some ⟨g, 0, none⟩) (hl : ts.length ≤ 1048576)
    (hst : ∀ i, i < ts.length → (ts.getD i noNod).name.size ≤ maxLen ∧ (ts.getD i noNod).other.size ≤ maxLen) (w : World) (hA : NodAt w g ts) :
    Calls Tryz.prog 40 #[.slice a ts.length cap] w fun e w' => e = .returned (.bool (nodesB ts)) ∧ Below w.heap.size w w' := by
  have HI : Hid (Calls Tryz.prog 68 #[.slice a ts.length cap] w fun e w' => TrEnd ts w.heap.size e w' ∧ Below w.heap.size w w') := impl_trees a g cap ts hne hl hst w hA
  clear hA hst
  go_enter Tryz.func40, Tryz.ntmps40
  go_wp2_with fail
  refine HI.out.mono ?_
  rintro e w1 ⟨hend, hb1⟩
  rcases hend with ⟨st, vs, v, h1, h2, hS, hG, hown, rfl⟩ | ⟨hno, rfl⟩
  · clear hS hG hown
    go_wp2
    go_ret
    exact ⟨rfl, hb1⟩
  · have HN : Hid (nodesB ts = false) := hno
    clear hno
    go_wp2
    go_ret
    exact ⟨by rw [HN.out]; rfl, hb1⟩

/-- What a call of treeAt ends with. -/
def TaEnd (ts : List Nod) (i : Int) (e : Ending) : Prop :=
  (∃ (st : List Int) (vs : List Value) (m : Nat), i = m ∧ m < ts.length ∧ ts.length ≤ 150 ∧ nodesB ts = true ∧ startsF ts ts.length = some st ∧ TreesG ts st vs ts.length ∧ e = .returned (.tuple #[vs.getD m .nilIface, .bool true])) ∨
  (startB ts i = -1 ∧ e = .returned (.tuple #[.nilIface, .bool false]))

theorem startB_no {ts : List Nod} {i : Int} (h : nodesB ts = false ∨ i < 0 ∨ (ts.length : Int) ≤ i) : startB ts i = -1 := by
  unfold startB
  rw [if_neg]
  rintro ⟨h1, h2, h3⟩
  rcases h with h | h | h
  · rw [h1] at h; cases h
  · omega
  · omega

theorem startB_yes {ts : List Nod} {m : Nat} {st : List Int} (hn : nodesB ts = true) (hm : m < ts.length) (hS : startsF ts ts.length = some st) : startB ts m = st.getD m 0 := by
  unfold startB
  rw [if_pos ⟨hn, by omega, by omega⟩, hS]
  rfl
end

section
open Go.ChangeShapes Go.WideShapes Go.ChangeAt Go.RowKit

theorem kd_name : (Tryz.f91.name == "runtime.NumGoroutine") = false := by kernel_rfl
theorem kd_body : Tryz.f91.body.isNone = false := by kernel_rfl
theorem cells7r {w : World} {g : Nat} {k a b c n : Int} {s o : ByteArray} {t : TypeId} {z : Nat × Nat} (h : w.heap[g]? = some (.cells #[.int .i64 k, .int .i64 a, .int .i64 b, .int .i64 c, .int .i64 n, .string s, .string o] t z)) :
    w.cell? ⟨g, 0, none⟩ = some (.int .i64 k) ∧ w.cell? ⟨g, 1, none⟩ = some (.int .i64 a) ∧ w.cell? ⟨g, 2, none⟩ = some (.int .i64 b) ∧ w.cell? ⟨g, 3, none⟩ = some (.int .i64 c) ∧ w.cell? ⟨g, 4, none⟩ = some (.int .i64 n) ∧ w.cell? ⟨g, 5, none⟩ = some (.string s) ∧ w.cell? ⟨g, 6, none⟩ = some (.string o) := by
  refine ⟨?_, ?_, ?_, ?_, ?_, ?_, ?_⟩ <;> (rw [cell_of_row _ _ _ _ _ _ h]; rfl)
end

section
open Go.ChangeShapes Go.WideShapes Go.ChangeAt Go.RowKit

theorem info_scope : (Tryz.prog.info? 94).map (fun i => (i.zero, i.size, i.bytes)) = some (some .nilFunc, 1, 8) := by kernel_rfl

/-- The scopes of some nodes stand in a row. -/
def ScG (g : Nat) (w : World) (C : Nat → Prop) (f : Nat → ByteArray → Int × Int) (vs : List Value) : Prop := ∀ m, m < vs.length → C m → ∃ l, ScL g w l (vs.getD m .nilFunc) ∧ ∀ s, lookL l s = f m s

theorem ScG.kept {g : Nat} {w w' : World} {C : Nat → Prop} {f : Nat → ByteArray → Int × Int} {vs : List Value} (h : ScG g w C f vs) (hk : Kept g w w') : ScG g w' C f vs := fun m hm hc => by
  obtain ⟨l, h1, h2⟩ := h m hm hc
  exact ⟨l, ScL.kept hk l _ h1, h2⟩

/-- While they are made: so many kids of a node are done. -/
def kidC (ts : List Nod) (k : Nat) (ks : List Int) (m : Nat) : Prop := m + 1 = ts.length ∨ 0 ≤ parU ts m k ∨ hasI ks m = true
def kidF (ts : List Nod) (k i : Nat) (ks : List Int) (m : Nat) (s : ByteArray) : Int × Int :=
  if hasI ks m = true then (match lookR s (bndL (ts.getD i noNod) m) with | some r => ((i : Int), r) | none => scB ts i s) else scU ts k m s

theorem hasI_take (ks : List Int) (q : Nat) (hq : q < ks.length) (m : Int) : hasI (ks.take (q + 1)) m = (hasI (ks.take q) m || (m == ks.getD q 0)) := by
  unfold hasI
  rw [List.take_succ_eq_append_getElem hq, List.contains_append]
  simp [List.getD, hq]
  rfl

theorem hasI_getD (ks : List Int) (q : Nat) (hq : q < ks.length) : hasI ks (ks.getD q 0) = true := by
  unfold hasI
  rw [List.contains_iff_mem]
  simp only [List.getD]
  rw [List.getElem?_eq_getElem hq]
  exact List.getElem_mem hq

theorem ScL.drew {g : Nat} {w : World} {l : List (ByteArray × Int × Int)} {v : Value} (h : ScL g w l v) : ScL g w.drew l v := ScL.kept (w := w) (w' := w.drew) ⟨Nat.le_refl _, fun _ _ _ => rfl⟩ l v h

theorem scRow_set {w : World} {g : Nat} {vs : List Value} {t : TypeId} (h : w.heap[g]? = some (.cells vs.toArray t (0, 0))) (k : Nat) (v : Value) : (w.setCell ⟨g, k, none⟩ v).heap[g]? = some (.cells (vs.set k v).toArray t (0, 0)) := by
  have := heap_setCell_same w g k _ _ v h
  rw [List.setIfInBounds_toArray] at this
  exact this

theorem Kept.set (g : Nat) (w : World) (k : Nat) (v : Value) : Kept g w (w.setCell ⟨g, k, none⟩ v) := by
  refine ⟨?_, fun j hj hne => heap_setCell_other w ⟨g, k, none⟩ j v hne⟩
  simp

theorem scRow_cell {w : World} {g : Nat} {vs : List Value} {t : TypeId} (h : w.heap[g]? = some (.cells vs.toArray t (0, 0))) (k : Nat) (hk : k < vs.length) : w.cell? ⟨g, k, none⟩ = some (vs.getD k .nilFunc) := by
  rw [cell_of_row _ _ _ _ _ _ h]
  simp [List.getD, hk]

/-- One scope more. -/
theorem ScG.step {g : Nat} {w : World} {ts : List Nod} {k i q : Nat} {ks : List Int} {vs : List Value} {c : Nat} {v : Value} {l : List (ByteArray × Int × Int)} (hq : q < ks.length) (hc : ks.getD q 0 = c) (hcl : c < vs.length)
    (h : ScG g w (kidC ts k (ks.take q)) (kidF ts k i (ks.take q)) vs) (hv : ScL g w l v) (hl : ∀ s, lookL l s = match lookR s (bndL (ts.getD i noNod) c) with | some r => ((i : Int), r) | none => scB ts i s) :
    ScG g (w.setCell ⟨g, c, none⟩ v) (kidC ts k (ks.take (q + 1))) (kidF ts k i (ks.take (q + 1))) (vs.set c v) := by
  intro m hm hC
  rw [List.length_set] at hm
  by_cases e : m = c
  · subst e
    refine ⟨l, ?_, fun s => ?_⟩
    · have : (vs.set m v).getD m .nilFunc = v := by simp [List.getD, hm]
      rw [this]
      exact ScL.kept (Kept.set g w m v) l v hv
    · rw [hl, kidF, if_pos]
      rw [hasI_take ks q hq, hc]
      simp
  · have e2 : hasI (ks.take (q + 1)) m = hasI (ks.take q) m := by
      rw [hasI_take ks q hq, hc]
      have : ((m : Int) == (c : Int)) = false := by rw [beq_eq_false_iff_ne]; omega
      rw [this, Bool.or_false]
    have e3 : (vs.set c v).getD m .nilFunc = vs.getD m .nilFunc := by
      simp only [List.getD]
      rw [List.getElem?_set_ne (fun h => e h.symm)]
    unfold kidC at hC
    rw [e2] at hC
    obtain ⟨l', h1, h2⟩ := h m hm hC
    rw [e3]
    refine ⟨l', ScL.kept (Kept.set g w c v) l' _ h1, fun s => ?_⟩
    rw [h2, kidF, kidF, e2]

/-- A node is done. -/
theorem kid_done {ts : List Nod} {i : Nat} (hi : i < ts.length) (m : Nat) : (kidC ts (ts.length - (i + 1)) (kidL (ts.getD i noNod)) m ↔ m + 1 = ts.length ∨ 0 ≤ parU ts m (ts.length - i)) ∧ ∀ s, kidF ts (ts.length - (i + 1)) i (kidL (ts.getD i noNod)) m s = scU ts (ts.length - i) m s := by
  have h := @parU_at ts m i hi
  unfold kidC kidF scU
  by_cases hh : hasI (kidL (ts.getD i noNod)) m = true
  · rw [if_pos hh] at h
    rw [h]
    refine ⟨⟨fun _ => Or.inr (by omega), fun _ => Or.inr (Or.inr hh)⟩, fun s => ?_⟩
    rw [if_pos hh, if_neg (by omega)]
    rfl
  · rw [if_neg hh] at h
    rw [h]
    refine ⟨⟨fun q => ?_, fun q => ?_⟩, fun s => ?_⟩
    · rcases q with q | q | q
      · exact Or.inl q
      · exact Or.inr q
      · exact absurd q hh
    · rcases q with q | q
      · exact Or.inl q
      · exact Or.inr (Or.inl q)
    · rw [if_neg hh]

theorem kid_start (ts : List Nod) (k i : Nat) (m : Nat) : (kidC ts k [] m ↔ m + 1 = ts.length ∨ 0 ≤ parU ts m k) ∧ ∀ s, kidF ts k i [] m s = scU ts k m s := by
  unfold kidC kidF
  have : hasI [] m = false := rfl
  rw [this]
  refine ⟨⟨fun q => ?_, fun q => ?_⟩, fun s => if_neg Bool.false_ne_true⟩
  · rcases q with q | q | q
    · exact Or.inl q
    · exact Or.inr q
    · cases q
  · rcases q with q | q
    · exact Or.inl q
    · exact Or.inr (Or.inl q)

theorem ScG.to {g : Nat} {w : World} {C C' : Nat → Prop} {f f' : Nat → ByteArray → Int × Int} {vs : List Value} (h : ScG g w C f vs) (hC : ∀ m, m < vs.length → C' m → C m) (hf : ∀ m, m < vs.length → C' m → ∀ s, f m s = f' m s) : ScG g w C' f' vs := fun m hm hc => by
  obtain ⟨l, h1, h2⟩ := h m hm (hC m hm hc)
  exact ⟨l, h1, fun s => (h2 s).trans (hf m hm hc s)⟩

/-- What scopesOf ends with: the scope of each node. -/
def ScEnd (ts : List Nod) (B : Nat) (e : Ending) (w : World) : Prop :=
  if nodesB ts = true then ∃ (G : Nat) (vs : List Value), e = .returned (.slice (some ⟨G, 0, none⟩) ts.length ts.length) ∧ B ≤ G ∧ vs.length = ts.length ∧ w.heap[G]? = some (.cells vs.toArray 94 (0, 0)) ∧ ScG G w (fun _ => True) (fun m s => scB ts m s) vs
  else e = .returned (.slice none 0 0)

theorem ik_name : (Tryz.f98.name == "runtime.NumGoroutine") = false := by kernel_rfl
theorem ik_body : Tryz.f98.body.isNone = false := by kernel_rfl

set_option maxHeartbeats 4000000 in
set_option maxRecDepth 20000 in
theorem impl_scopes (a : Option Addr) (g cap : Nat) (ts : List Nod) (hne : 0 < ts.length → a = some ⟨g, 0, none⟩) (hl : ts.length ≤ 1048576)
    (hst : ∀ i, i < ts.length → (ts.getD i noNod).name.size ≤ maxLen ∧ (ts.getD i noNod).other.size ≤ maxLen) (w : World) (hA : NodAt w g ts) :
    Calls Tryz.prog 70 #[.slice a ts.length cap] w fun e w' => ScEnd ts w.heap.size e w' ∧ Below w.heap.size w w' := by
  have HA : Hid (NodAt w g ts) := hA
  have HT : Hid (∀ i, i < ts.length → (ts.getD i noNod).name.size ≤ maxLen ∧ (ts.getD i noNod).other.size ≤ maxLen) := hst
  clear hA hst
  by_cases hok : nodesB ts = true
  · have HO : Hid (nodesB ts = true) := hok
    obtain ⟨hl2, hl1, ⟨st, hR⟩, hpar, hhas⟩ := right_par hok
    have HR : Hid (Right ts st) := hR
    have HH : Hid (∀ i : Nat, i + 1 < ts.length → ∃ p, i < p ∧ p < ts.length ∧ hasI (kidL (ts.getD p noNod)) (i : Int) = true) := hhas
    clear hok hR hpar hhas
    obtain rfl := hne (by omega)
    obtain ⟨n, hn⟩ : ∃ n : Nat, ts.length = n + 1 := ⟨ts.length - 1, by omega⟩
    have e1 : (ts.length : Int) - 1 = n := by omega
    have e2 : (n : Int) < ts.length := by omega
    have HN : Hid (ts.length = n + 1) := hn
    clear hn
    go_enter Tryz.func70, Tryz.ntmps70
    go_wp2_with fail
    refine (impl_nodes _ g cap ts (fun _ => rfl) hl HT.out w HA.out).mono ?_
    rintro e w1 ⟨rfl, hb1⟩
    rw [HO.out]
    obtain ⟨i0, hi, hz0, hz1, hz2⟩ := info_parts info_scope
    have hmk := run_make (P := Tryz.prog) w1 91 94 i0 _ Tryz.underlying91 hi hz0 .i64 .i64 (ts.length : Int) (ts.length : Int) (by omega) (by omega) (by rw [hz2]; omega) (by omega)
    have ez : ((ts.length : Nat) : Int).toNat = ts.length := by omega
    rw [hz1, ez] at hmk
    have em : madeCells (Value.nilFunc).cells (ts.length * 1) = (List.replicate ts.length Value.nilFunc).toArray := by
      rw [Nat.mul_one]
      refine Array.ext (by simp [madeCells]) (fun i h1 h2 => ?_)
      simp [madeCells, Value.cells, Nat.mod_one]
    rw [em] at hmk
    obtain ⟨wa, hwa⟩ : ∃ wa, w1.alloc (.cells (List.replicate ts.length Value.nilFunc).toArray 94) = wa := ⟨_, rfl⟩
    rw [hwa] at hmk
    have ra : wa.heap[w1.heap.size]? = some (.cells (List.replicate ts.length Value.nilFunc).toArray 94 (0, 0)) := by rw [← hwa]; exact (MapKept.heap_alloc w1 _).1
    have s1 := hb1.size
    have ba : Below w.heap.size w wa := by rw [← hwa]; exact hb1.alloc s1 _
    have ca : wa.cell? ⟨w1.heap.size, n, none⟩ = some .nilFunc := by rw [scRow_cell ra n (by simp; omega)]; simp [List.getD, show n < ts.length by omega]
    have fa : wa.frozen? ⟨w1.heap.size, n, none⟩ = false := frozen_of_row wa _ _ _ _ ra
    have HRA : Hid (_) := ra
    have HBA : Hid (_) := ba
    clear hi hz0 hz1 hz2 ez em hwa ra ba i0
    go_wp2
    have HS0 : Hid (∃ vs, vs.length = ts.length ∧ (wa.setCell ⟨w1.heap.size, n, none⟩ (.func (.func 97) #[] #[])).heap[w1.heap.size]? = some (.cells vs.toArray 94 (0, 0)) ∧ ScG w1.heap.size (wa.setCell ⟨w1.heap.size, n, none⟩ (.func (.func 97) #[] #[])) (fun m => m + 1 = ts.length ∨ 0 ≤ parU ts m 0) (fun m => scU ts 0 m) vs) := by
      refine ⟨(List.replicate ts.length Value.nilFunc).set n (.func (.func 97) #[] #[]), by simp, scRow_set HRA.out n _, ?_⟩
      intro m hm hC
      have hmn : m = n := by
        rcases hC with h | h
        · have := HN.out; omega
        · have : parU ts m 0 = -1 := rfl
          omega
      subst hmn
      have hv : ((List.replicate ts.length Value.nilFunc).set m (.func (.func 97) #[] #[])).getD m .nilFunc = .func (.func 97) #[] #[] := by
        simp [List.getD, show m < ts.length by omega]
      exact ⟨[], hv, fun s => rfl⟩
    have HB0 : Hid (Below w.heap.size w (wa.setCell ⟨w1.heap.size, n, none⟩ (.func (.func 97) #[] #[]))) := HBA.out.setCell (p := ⟨w1.heap.size, n, none⟩) s1 _
    have hz0 : (wa.setCell ⟨w1.heap.size, n, none⟩ (.func (.func 97) #[] #[])).heap.size = wa.heap.size := by simp
    have hz1 : w1.heap.size < wa.heap.size := (Array.getElem?_eq_some_iff.1 HRA.out).1
    generalize wa.setCell ⟨w1.heap.size, n, none⟩ (.func (.func 97) #[] #[]) = wb at *
    obtain ⟨G, hG⟩ : ∃ G, w1.heap.size = G := ⟨_, rfl⟩
    rw [hG] at HS0 s1 hz1 ⊢
    clear hmk ca fa HRA HBA hG hz0

    go_loopw [5] (fun iv wr => ∃ i : Nat, i ≤ ts.length ∧ iv = .int .i64 ((i : Int) - 1) ∧ Hid (∃ vs, vs.length = ts.length ∧ wr.heap[G]? = some (.cells vs.toArray 94 (0, 0)) ∧ ScG G wr (fun m => m + 1 = ts.length ∨ 0 ≤ parU ts m (ts.length - i)) (fun m => scU ts (ts.length - i) m) vs) ∧ Below w.heap.size w wr) (fun iv _ => (intOf iv + 1).toNat)
    case atStart => exact ⟨n + 1, by have := HN.out; omega, by congr 1; omega, by rw [show ts.length - (n + 1) = 0 by have := HN.out; omega]; exact HS0, HB0.out⟩
    case round =>
      obtain ⟨i1, hi1, rfl, HS, hb⟩ := hrel
      clear HS0 HB0
      rcases i1 with _ | i
      · have HE : Hid (ScEnd ts w.heap.size (.returned (.slice (some ⟨G, 0, none⟩) ts.length ts.length)) wr) := by
          show ScEnd ts w.heap.size _ wr
          unfold ScEnd
          rw [if_pos HO.out]
          obtain ⟨vs, h1, h2, h3⟩ := HS.out
          refine ⟨G, vs, rfl, s1, h1, h2, h3.to (fun m hm _ => ?_) (fun m hm _ s => ?_)⟩
          · rw [h1] at hm
            by_cases hml : m + 1 = ts.length
            · exact Or.inl hml
            · obtain ⟨p, p1, p2, p3⟩ := HH.out m (by omega)
              exact Or.inr (parU_some ts m p p2 p3 _ (by omega) (by omega))
          · exact scU_whole HO.out m _ (by omega) (by omega) (by omega) s
        have em1 : ((0 : Nat) : Int) - 1 = -1 := rfl
        rw [em1]
        clear HS em1
        go_wp2
        go_ret
        exact ⟨HE.out, hb⟩
      · have hin : i < ts.length := by omega
        have hin' : (i : Int) < ts.length := by omega
        have em1 : ((i + 1 : Nat) : Int) - 1 = i := by omega
        rw [em1]
        have t := (HA.out.below hb (fun h => HA.out.lt h)) i hin
        have sb := hb.size
        have HKL : Hid (∀ q, q < (kidL (ts.getD i noNod)).length → ∃ c : Nat, (kidL (ts.getD i noNod)).getD q 0 = c ∧ c < i) := fun q hq => by
          have hm := hasI_getD (kidL (ts.getD i noNod)) q hq
          obtain ⟨c, hc, hci, _⟩ := kids_low HR.out hin hm
          exact ⟨c, hc, hci⟩
        have HBL : Hid (∀ q, q < (kidL (ts.getD i noNod)).length → bndL (ts.getD i noNod) ((kidL (ts.getD i noNod)).getD q 0) = rolL (ts.getD i noNod) (rolN (ts.getD i noNod).kind q)) := fun q hq => bndL_rol HR.out hin hq
        have HTN : Hid (∀ m, (kidC ts (ts.length - (i + 1)) (kidL (ts.getD i noNod)) m ↔ m + 1 = ts.length ∨ 0 ≤ parU ts m (ts.length - i)) ∧ ∀ s, kidF ts (ts.length - (i + 1)) i (kidL (ts.getD i noNod)) m s = scU ts (ts.length - i) m s) := fun m => kid_done hin m
        have HST : Hid (∃ vs, vs.length = ts.length ∧ wr.heap[G]? = some (.cells vs.toArray 94 (0, 0)) ∧ ScG G wr (kidC ts (ts.length - (i + 1)) []) (kidF ts (ts.length - (i + 1)) i []) vs) := by
          obtain ⟨vs, h1, h2, h3⟩ := HS.out
          exact ⟨vs, h1, h2, h3.to (fun m hm hc => ((kid_start ts _ i m).1.1 hc)) (fun m hm hc s => ((kid_start ts _ i m).2 s).symm)⟩
        clear HS em1
        have HNODE : Hid (∃ y, ts.getD i noNod = y) := ⟨_, rfl⟩
        obtain ⟨⟨x0, x1, x2, x3, x4, x5, x6⟩, hx⟩ := HNODE.out
        have HX : Hid (ts.getD i noNod = ⟨x0, x1, x2, x3, x4, x5, x6⟩) := hx
        rw [hx] at t HKL HBL HTN
        have q0 : wr.cell? ⟨g, i * 7, none⟩ = some (.int .i64 x0) := t.c0
        have q1 : wr.cell? ⟨g, i * 7 + 1, none⟩ = some (.int .i64 x1) := t.c1
        have q2 : wr.cell? ⟨g, i * 7 + 2, none⟩ = some (.int .i64 x2) := t.c2
        have q3 : wr.cell? ⟨g, i * 7 + 3, none⟩ = some (.int .i64 x3) := t.c3
        have q4 : wr.cell? ⟨g, i * 7 + 4, none⟩ = some (.int .i64 x4) := t.c4
        have q5 : wr.cell? ⟨g, i * 7 + 5, none⟩ = some (.string x5) := t.c5
        have q6 : wr.cell? ⟨g, i * 7 + 6, none⟩ = some (.string x6) := t.c6
        have har := arN_le x0
        have HIK : Hid (∀ (w : World), Calls Tryz.prog 91 #[.agg #[.int .i64 x0, .int .i64 x1, .int .i64 x2, .int .i64 x3, .int .i64 x4, .string x5, .string x6]] w fun e w' =>
            ∃ K, e = .returned (.slice (some ⟨K, 0, none⟩) (kidL ⟨x0, x1, x2, x3, x4, x5, x6⟩).length 3) ∧ w.heap.size ≤ K ∧ IntAt w' K (kidL ⟨x0, x1, x2, x3, x4, x5, x6⟩) ∧ Below w.heap.size w w') := fun w => by
          refine (impl_kids x0 x1 x2 x3 x4 x5 x6 w).mono ?_
          rintro e w1 ⟨rfl, hg, hb⟩
          exact ⟨_, by rw [kidL_length], by omega, by rw [kidL_take]; exact kids_at hg, hb⟩
        have hkl3 : (kidL ⟨x0, x1, x2, x3, x4, x5, x6⟩).length ≤ 3 := by rw [kidL_length]; exact har
        generalize kidL ⟨x0, x1, x2, x3, x4, x5, x6⟩ = ks at *
        clear t hx HNODE har
        go_wp2_with fail
        refine (HIK.out wr).mono ?_
        rintro e w2 ⟨K, rfl, hK, hI2, b2⟩
        have HI2 : Hid (IntAt w2 K ks) := hI2
        have hGl : G < wr.heap.size := by
          obtain ⟨vs, _, h2, _⟩ := HST.out
          exact (Array.getElem?_eq_some_iff.1 h2).1
        have HS2 : Hid (∃ vs, vs.length = ts.length ∧ w2.heap[G]? = some (.cells vs.toArray 94 (0, 0)) ∧ ScG G w2 (kidC ts (ts.length - (i + 1)) (ks.take 0)) (kidF ts (ts.length - (i + 1)) i (ks.take 0)) vs) := by
          obtain ⟨vs, h1, h2, h3⟩ := HST.out
          exact ⟨vs, h1, (b2.block G hGl).trans h2, h3.kept (Kept.of_below b2)⟩
        have B2 : Below w.heap.size w w2 := hb.trans (b2.mono sb)
        have s2 := b2.size
        clear q0 q1 q2 q3 q4 q5 q6 hI2 b2 HST HIK
        go_wp2
        go_loopw [31] (fun r wq => ∃ q : Nat, q ≤ ks.length ∧ r = .int .i64 q ∧ Hid (IntAt wq K ks) ∧ Hid (∃ vs, vs.length = ts.length ∧ wq.heap[G]? = some (.cells vs.toArray 94 (0, 0)) ∧ ScG G wq (kidC ts (ts.length - (i + 1)) (ks.take q)) (kidF ts (ts.length - (i + 1)) i (ks.take q)) vs) ∧ Below w.heap.size w wq ∧ w2.heap.size ≤ wq.heap.size) (fun r _ => ks.length - (intOf r).toNat)
        case atStart => exact ⟨0, by omega, rfl, HI2, HS2, B2, Nat.le_refl _⟩
        case round =>
          obtain ⟨q, hq, rfl, HIq, HSq, hbq, hsq⟩ := hrel
          clear HI2 HS2 B2
          by_cases hqi : q < ks.length
          · have hqi' : (q : Int) < ks.length := by omega
            obtain ⟨c, hc, hci⟩ := HKL.out q hqi
            have kc : wr.cell? ⟨K, q, none⟩ = some (.int .i64 c) := by rw [HIq.out q hqi, hc]
            have hcl : (c : Int) < ts.length := by omega
            have HC : Hid (ks.getD q 0 = c) := hc
            have hq3 : q < 3 := by omega
            obtain ⟨vs, hvl, hvr, hvs⟩ := HSq.out
            have t := (HA.out.below hbq (fun h => HA.out.lt h)) i hin
            rw [HX.out] at t
            have q0 : wr.cell? ⟨g, i * 7, none⟩ = some (.int .i64 x0) := t.c0
            have q1 : wr.cell? ⟨g, i * 7 + 1, none⟩ = some (.int .i64 x1) := t.c1
            have q2 : wr.cell? ⟨g, i * 7 + 2, none⟩ = some (.int .i64 x2) := t.c2
            have q3 : wr.cell? ⟨g, i * 7 + 3, none⟩ = some (.int .i64 x3) := t.c3
            have q4 : wr.cell? ⟨g, i * 7 + 4, none⟩ = some (.int .i64 x4) := t.c4
            have q5 : wr.cell? ⟨g, i * 7 + 5, none⟩ = some (.string x5) := t.c5
            have q6 : wr.cell? ⟨g, i * 7 + 6, none⟩ = some (.string x6) := t.c6
            have hnot : hasI (ks.take q) i = false := by
              rw [← Bool.not_eq_true]
              intro hh
              unfold hasI at hh
              rw [List.contains_iff_mem] at hh
              obtain ⟨j, hj, hje⟩ := List.getElem_of_mem (List.mem_of_mem_take hh)
              obtain ⟨c', hc', hci'⟩ := HKL.out j hj
              have : ks.getD j 0 = (i : Int) := by simp [List.getD, hj, hje]
              omega
            obtain ⟨l, hsl, hll⟩ := hvs i (by omega) (by
              by_cases hml : i + 1 = ts.length
              · exact Or.inl hml
              · obtain ⟨p, p1, p2, p3⟩ := HH.out i (by omega)
                exact Or.inr (Or.inl (parU_some ts i p p2 p3 _ (by omega) (by omega))))
            have hlb : ∀ s, lookL l s = scB ts i s := fun s => by
              rw [hll, kidF, if_neg (by rw [hnot]; exact Bool.false_ne_true)]
              exact scU_whole HO.out i _ hin (by omega) (by omega) s
            have HLL : Hid (∀ s, lookL (kidS ⟨x0, x1, x2, x3, x4, x5, x6⟩ i l (rolN x0 q)) s = match lookR s (bndL (ts.getD i noNod) c) with | some r => ((i : Int), r) | none => scB ts i s) := fun s => by
              have h1 := HBL.out q hqi
              rw [hc] at h1
              rw [HX.out, h1, kidS_look _ _ _ _ (rolN_le x0 q) s]
              show (match lookR s (rolL ⟨x0, x1, x2, x3, x4, x5, x6⟩ (rolN x0 q)) with | some r => ((i : Int), r) | none => lookL l s) = _
              split
              · rfl
              · exact hlb s
            obtain ⟨F, cf, hv, _, _⟩ := sc_call G wr l _ hsl
            have gi := scRow_cell hvr i (by omega)
            rw [hv] at gi hsl
            have HSL : Hid (ScL G wr l (.func (.func F) #[] cf)) := hsl
            have HVL : Hid (vs.length = ts.length) := hvl
            have HVR : Hid (wr.heap[G]? = some (.cells vs.toArray 94 (0, 0))) := hvr
            have HVS : Hid (ScG G wr (kidC ts (ts.length - (i + 1)) (ks.take q)) (kidF ts (ts.length - (i + 1)) i (ks.take q)) vs) := hvs
            have HBQ : Hid (Below w.heap.size w wr) := hbq
            have sq := hbq.size
            clear t hll hlb hsl hv hvl hvr hvs hnot hc HSq hbq
            go_wp2
            go_region_law (refine step_call rfl 98 #[.tmp 41, .tmp 45, .tmp 46, .tmp 47] #[94, 38, 3, 3] rfl #[.func (.func F) #[] cf, .agg #[.int .i64 x0, .int .i64 x1, .int .i64 x2, .int .i64 x3, .int .i64 x4, .string x5, .string x6], .int .i64 i, .int .i64 q] (by simp [Act.eval]) Tryz.func98 ik_name ik_body _ (impl_inKid G _ l x0 x1 x2 x3 x4 x5 x6 i q hq3 _ HSL.out.drew (by show G < wr.heap.size; omega)) ?_; rintro e w3 ⟨v3, rfl, hs3, b3⟩; have b3' : Below wr.heap.size wr w3 := (Below.refl _ wr).drew.trans b3; obtain ⟨F3, cap3, rfl, _, _⟩ := sc_call G w3 _ _ hs3; have HS3 : Hid (ScL G w3 (kidS ⟨x0, x1, x2, x3, x4, x5, x6⟩ i l (rolN x0 q)) (.func (.func F3) #[] cap3)) := hs3; have HB3 : Hid (Below wr.heap.size wr w3) := b3'; have r3 : w3.heap[G]? = some (.cells vs.toArray 94 (0, 0)) := (b3'.block G (by omega)).trans HVR.out; have c3 := scRow_cell r3 c (by have := HVL.out; omega); have f3 : w3.frozen? ⟨G, c, none⟩ = false := frozen_of_row w3 _ _ _ _ r3; have HR3 : Hid (w3.heap[G]? = some (.cells vs.toArray 94 (0, 0))) := r3; clear b3 b3' hs3 r3; refine ⟨_, rfl, ?_⟩)
            all_goals
              have HF4 : Hid (∃ vs', vs'.length = ts.length ∧ (w3.setCell ⟨G, c, none⟩ (.func (.func F3) #[] cap3)).heap[G]? = some (.cells vs'.toArray 94 (0, 0)) ∧ ScG G (w3.setCell ⟨G, c, none⟩ (.func (.func F3) #[] cap3)) (kidC ts (ts.length - (i + 1)) (ks.take (q + 1))) (kidF ts (ts.length - (i + 1)) i (ks.take (q + 1))) vs') :=
                ⟨vs.set c (.func (.func F3) #[] cap3), by rw [List.length_set]; exact HVL.out, scRow_set HR3.out c _, ScG.step hqi HC.out (by have := HVL.out; omega) (HVS.out.kept (Kept.of_below HB3.out)) HS3.out HLL.out⟩
              have HB4 : Hid (Below w.heap.size w (w3.setCell ⟨G, c, none⟩ (.func (.func F3) #[] cap3))) := (HBQ.out.trans (HB3.out.mono sq)).setCell (p := ⟨G, c, none⟩) s1 _
              have HI4 : Hid (IntAt (w3.setCell ⟨G, c, none⟩ (.func (.func F3) #[] cap3)) K ks) := fun j hj => by
                rw [World.cell?_of_block ((heap_setCell_other w3 ⟨G, c, none⟩ K _ (by show K ≠ G; omega)).trans (HB3.out.block K (nod_lt (HIq.out j hj))))]
                exact HIq.out j hj
              have hs4 : (w3.setCell ⟨G, c, none⟩ (.func (.func F3) #[] cap3)).heap.size = w3.heap.size := by simp
              have s3 := HB3.out.size
              clear HS3 HB3 HR3 c3 f3 q0 q1 q2 q3 q4 q5 q6 gi kc
              generalize w3.setCell ⟨G, c, none⟩ (.func (.func F3) #[] cap3) = w4 at *
              go_wp2
              go_roundw
              case rel => exact ⟨q + 1, by omega, by go_num, HI4, HF4, HB4.out, by omega⟩
              case measure => simp [intOf]; omega
          · obtain rfl : q = ks.length := by omega
            have HNX : Hid (∃ vs, vs.length = ts.length ∧ wr.heap[G]? = some (.cells vs.toArray 94 (0, 0)) ∧ ScG G wr (fun m => m + 1 = ts.length ∨ 0 ≤ parU ts m (ts.length - i)) (fun m => scU ts (ts.length - i) m) vs) := by
              obtain ⟨vs, h1, h2, h3⟩ := HSq.out
              rw [List.take_length] at h3
              exact ⟨vs, h1, h2, h3.to (fun m hm hc => (HTN.out m).1.2 hc) (fun m hm hc s => (HTN.out m).2 s)⟩
            clear HSq HIq
            go_wp2
            go_roundw
            case rel => exact ⟨i, by omega, by go_num, HNX, hbq⟩
            case measure => simp [intOf]
  · have HV : Hid (nodesB ts = false) := by show nodesB ts = false; simpa using hok
    clear hok
    go_enter Tryz.func70, Tryz.ntmps70
    go_wp2_with fail
    refine (impl_nodes _ g cap ts hne hl HT.out w HA.out).mono ?_
    rintro e w1 ⟨rfl, hb1⟩
    rw [HV.out]
    go_wp2
    go_ret
    exact ⟨by unfold ScEnd; rw [HV.out]; rfl, hb1⟩
end

section
open Go.ChangeShapes Go.WideShapes Go.ChangeAt Go.RowKit

/-- The binder of a node. -/
def binN (ts : List Nod) (i : Nat) : Bnd := if (ts.getD i noNod).kind = 1 then ⟨(scB ts i (ts.getD i noNod).name).1, (scB ts i (ts.getD i noNod).name).2⟩ else ⟨-1, -1⟩

/-- The binders of the first k nodes. -/
def binF (ts : List Nod) : Nat → List Bnd
  | 0 => []
  | k + 1 => binF ts k ++ [binN ts k]

def binL (ts : List Nod) : List Bnd := if nodesB ts = true then binF ts ts.length else []

theorem binF_length (ts : List Nod) : ∀ k, (binF ts k).length = k
  | 0 => rfl
  | k + 1 => by rw [binF, List.length_append, binF_length ts k]; rfl

theorem binF_at (ts : List Nod) : ∀ k i, i < k → (binF ts k).getD i noBnd = binN ts i
  | 0, i, h => by omega
  | k + 1, i, h => by
    rw [binF]
    by_cases e : i = k
    · subst e
      simp [List.getD, binF_length]
    · have ih := binF_at ts k i (by omega)
      simp only [List.getD] at ih ⊢
      rw [List.getElem?_append_left (by rw [binF_length]; omega)]
      exact ih

theorem bnd_made (m : Nat) : madeCells (Value.agg #[.int .i64 0, .int .i64 0]).cells (m * 2) = ((List.replicate m noBnd).flatMap bndCells).toArray := by
  have hl : ((List.replicate m noBnd).flatMap bndCells).length = m * 2 := by rw [bnd_flat_length]; simp
  refine Array.ext (by simp [madeCells, hl]) (fun i h1 h2 => ?_)
  have hi : i < m * 2 := by simpa [madeCells] using h1
  have e : ((List.replicate m noBnd).flatMap bndCells)[i / 2 * 2 + i % 2]? = (bndCells ((List.replicate m noBnd).getD (i / 2) noBnd))[i % 2]? := bnd_flat_at _ (i / 2) (i % 2) (by simp; omega) (by omega)
  have e2 : i / 2 * 2 + i % 2 = i := by omega
  rw [e2] at e
  have e3 : (List.replicate m noBnd).getD (i / 2) noBnd = noBnd := by simp [List.getD, show i / 2 < m by omega]
  rw [e3] at e
  have hm : i % 2 = 0 ∨ i % 2 = 1 := by omega
  rcases hm with hm | hm <;> rw [hm] at e <;> simp [madeCells, Value.cells, hm, bndCells, noBnd] at e ⊢ <;> exact ((List.getElem?_eq_some_iff.1 e).2).symm

/-- A row of binders, the first k of them set. -/
def binMix (ts : List Nod) (k : Nat) : List Bnd := binF ts k ++ List.replicate (ts.length - k) noBnd

theorem binMix_length (ts : List Nod) (k : Nat) (h : k ≤ ts.length) : (binMix ts k).length = ts.length := by simp [binMix, binF_length]; omega

theorem binMix_set (ts : List Nod) (k : Nat) (h : k < ts.length) (b : Bnd) (hb : b = binN ts k) : (binMix ts k).set k b = binMix ts (k + 1) := by
  unfold binMix
  have e : ts.length - k = (ts.length - (k + 1)) + 1 := by omega
  rw [e, List.replicate_succ, List.set_append_right _ _ (by rw [binF_length]; omega), binF_length, Nat.sub_self, binF, hb]
  simp

theorem bnd_row_set (w : World) (g k : Nat) (l : List Bnd) (e : TypeId) (t : Bnd) (hg : w.heap[g]? = some (.cells (l.flatMap bndCells).toArray e (0, 0))) (hk : k < l.length) :
    ((w.setCell ⟨g, k * 2, none⟩ (.int .i64 t.node)).setCell ⟨g, k * 2 + 1, none⟩ (.int .i64 t.role)).heap[g]? = some (.cells ((l.set k t).flatMap bndCells).toArray e (0, 0)) := by
  have h1 := heap_setCell_same w g (k * 2) _ _ (.int .i64 t.node) hg
  have h2 := heap_setCell_same _ g (k * 2 + 1) _ _ (.int .i64 t.role) h1
  rw [h2]
  congr 2
  rw [List.setIfInBounds_toArray, List.setIfInBounds_toArray, bnd_flat_set t l k hk]

set_option maxHeartbeats 4000000 in
set_option maxRecDepth 20000 in
theorem impl_binders (a : Option Addr) (g cap : Nat) (ts : List Nod) (hne : 0 < ts.length → a = some ⟨g, 0, none⟩) (hl : ts.length ≤ 1048576)
    (hst : ∀ i, i < ts.length → (ts.getD i noNod).name.size ≤ maxLen ∧ (ts.getD i noNod).other.size ≤ maxLen) (w : World) (hA : NodAt w g ts) :
    Calls Tryz.prog 42 #[.slice a ts.length cap] w fun e w' => (∃ H, e = .returned (.slice (some ⟨H, 0, none⟩) (binL ts).length (binL ts).length) ∧ w.heap.size ≤ H ∧ w'.heap[H]? = some (.cells ((binL ts).flatMap bndCells).toArray 32 (0, 0))) ∧ Below w.heap.size w w' := by
  have HA : Hid (NodAt w g ts) := hA
  have HT : Hid (∀ i, i < ts.length → (ts.getD i noNod).name.size ≤ maxLen ∧ (ts.getD i noNod).other.size ≤ maxLen) := hst
  clear hA hst
  obtain ⟨i0, hi, hz0, hz1, hz2⟩ := info_parts info_bnd
  by_cases hok : nodesB ts = true
  · have HO : Hid (nodesB ts = true) := hok
    have HBL : Hid (binL ts = binF ts ts.length) := by show binL ts = _; rw [binL, if_pos hok]
    obtain ⟨hl1, hl2, _⟩ := nodesB_starts hok
    clear hok
    obtain rfl := hne (by omega)
    rw [HBL.out, binF_length]
    have HMK : Hid (∀ w : World, (Instr.makeSlice 27 (.int .i64 ts.length) (.int .i64 ts.length)).run Tryz.prog w = .ok (.slice (some ⟨w.heap.size, 0, none⟩) ts.length ts.length) (w.alloc (.cells ((binMix ts 0).flatMap bndCells).toArray 32))) := fun w => by
      have hmk := run_make (P := Tryz.prog) w 27 32 i0 _ Tryz.underlying27 hi hz0 .i64 .i64 (ts.length : Int) (ts.length : Int) (by omega) (by omega) (by rw [hz2]; omega) (by omega)
      have ez : ((ts.length : Nat) : Int).toNat = ts.length := by omega
      rw [hz1, ez, bnd_made] at hmk
      exact hmk
    clear hi hz0 hz1 hz2 i0
    go_enter Tryz.func42, Tryz.ntmps42
    go_wp2_with fail
    refine (impl_scopes _ g cap ts (fun _ => rfl) hl HT.out w HA.out).mono ?_
    rintro e w1 ⟨hend, hb1⟩
    unfold ScEnd at hend
    rw [if_pos HO.out] at hend
    obtain ⟨G, vs, rfl, hG, hvl, hvr, hvs⟩ := hend
    have hGl : G < w1.heap.size := (Array.getElem?_eq_some_iff.1 hvr).1
    have HVR : Hid (w1.heap[G]? = some (.cells vs.toArray 94 (0, 0))) := hvr
    have HVS : Hid (ScG G w1 (fun _ => True) (fun m s => scB ts m s) vs) := hvs
    have HVL : Hid (vs.length = ts.length) := hvl
    have s1 := hb1.size
    have hmk := HMK.out w1
    have r0 : (w1.alloc (.cells ((binMix ts 0).flatMap bndCells).toArray 32)).heap[w1.heap.size]? = some (.cells ((binMix ts 0).flatMap bndCells).toArray 32 (0, 0)) := (MapKept.heap_alloc w1 _).1
    have b0 : Below w1.heap.size w1 (w1.alloc (.cells ((binMix ts 0).flatMap bndCells).toArray 32)) := (Below.refl _ w1).alloc (Nat.le_refl _) _
    generalize w1.alloc (.cells ((binMix ts 0).flatMap bndCells).toArray 32) = wa at *
    have HR0 : Hid (wa.heap[w1.heap.size]? = some (.cells ((binMix ts 0).flatMap bndCells).toArray 32 (0, 0))) := r0
    clear hvl hvr hvs HMK r0
    go_wp2
    clear hmk
    go_loopw [14] (fun r wr => ∃ k : Nat, k ≤ ts.length ∧ r = .int .i64 k ∧ Hid (wr.heap[w1.heap.size]? = some (.cells ((binMix ts k).flatMap bndCells).toArray 32 (0, 0))) ∧ Below w1.heap.size w1 wr) (fun r _ => ts.length - (intOf r).toNat)
    case atStart => exact ⟨0, by omega, rfl, HR0, b0⟩
    case round =>
      obtain ⟨k, hk, rfl, HR, hb⟩ := hrel
      clear HR0 b0
      by_cases hin : k < ts.length
      · have hin' : (k : Int) < ts.length := by omega
        obtain ⟨l, hsl, hll⟩ := HVS.out k (by have := HVL.out; omega) trivial
        obtain ⟨F, cf, hv, hcf, hcl⟩ := sc_call G w1 l _ hsl
        have gk := scRow_cell ((hb.block G hGl).trans HVR.out) k (by have := HVL.out; omega)
        rw [hv] at gk
        have HCL : Hid (∀ (s : ByteArray) (w' : World), Kept G w1 w' → Calls Tryz.prog F (#[.string s] ++ cf) w' fun e w'' => e = .returned (.agg #[.int .i64 (scB ts k s).1, .int .i64 (scB ts k s).2]) ∧ Below w'.heap.size w' w'') := fun s w' hk => by
          have := hcl s w' hk
          rw [hll s] at this
          exact this
        clear hsl hll hv hcl
        have hs := hb.size
        have hlk : (binMix ts k).length = ts.length := binMix_length ts k hk
        go_wp2_with fail
        refine (impl_noBind wr).mono ?_
        rintro e w2 ⟨rfl, b2⟩
        have hrl : w1.heap.size < wr.heap.size := (Array.getElem?_eq_some_iff.1 HR.out).1
        have r2 : w2.heap[w1.heap.size]? = some (.cells ((binMix ts k).flatMap bndCells).toArray 32 (0, 0)) := (b2.block _ hrl).trans HR.out
        have HR2 : Hid (_) := r2
        have B2 : Hid (Below w1.heap.size w1 w2) := hb.trans (b2.mono hs)
        have m2 := bnd_of_room r2 k (by omega)
        generalize (binMix ts k).getD k noBnd = y at m2
        obtain ⟨y0, y1⟩ := y
        have c0 : w2.cell? ⟨w1.heap.size, k * 2, none⟩ = some (.int .i64 y0) := m2.c0
        have c1 : w2.cell? ⟨w1.heap.size, k * 2 + 1, none⟩ = some (.int .i64 y1) := m2.c1
        have f0 : w2.frozen? ⟨w1.heap.size, k * 2, none⟩ = false := frozen_of_row w2 _ _ _ _ r2
        have f1 : w2.frozen? ⟨w1.heap.size, k * 2 + 1, none⟩ = false := frozen_of_row w2 _ _ _ _ r2
        have r3 := bnd_row_set w2 w1.heap.size k (binMix ts k) 32 ⟨-1, -1⟩ r2 (by omega)
        have HB3 : Hid (Below w1.heap.size w1 ((w2.setCell ⟨w1.heap.size, k * 2, none⟩ (.int .i64 (-1))).setCell ⟨w1.heap.size, k * 2 + 1, none⟩ (.int .i64 (-1)))) := (B2.out.setCell (p := ⟨w1.heap.size, k * 2, none⟩) (Nat.le_refl _) _).setCell (p := ⟨w1.heap.size, k * 2 + 1, none⟩) (Nat.le_refl _) _
        have HR3 : Hid (((w2.setCell ⟨w1.heap.size, k * 2, none⟩ (.int .i64 (-1))).setCell ⟨w1.heap.size, k * 2 + 1, none⟩ (.int .i64 (-1))).heap[w1.heap.size]? = some (.cells (((binMix ts k).set k ⟨-1, -1⟩).flatMap bndCells).toArray 32 (0, 0))) := r3
        have t := (HA.out.below (hb1.trans (HB3.out.mono s1)) (fun h => HA.out.lt h)) k hin
        have HBN : Hid (binN ts k = if (ts.getD k noNod).kind = 1 then ⟨(scB ts k (ts.getD k noNod).name).1, (scB ts k (ts.getD k noNod).name).2⟩ else ⟨-1, -1⟩) := rfl
        obtain ⟨⟨x0, x1, x2, x3, x4, x5, x6⟩, hx⟩ : ∃ y, ts.getD k noNod = y := ⟨_, rfl⟩
        rw [hx] at t HBN
        have q0 : ((w2.setCell ⟨w1.heap.size, k * 2, none⟩ (.int .i64 (-1))).setCell ⟨w1.heap.size, k * 2 + 1, none⟩ (.int .i64 (-1))).cell? ⟨g, k * 7, none⟩ = some (.int .i64 x0) := t.c0
        have q5 : ((w2.setCell ⟨w1.heap.size, k * 2, none⟩ (.int .i64 (-1))).setCell ⟨w1.heap.size, k * 2 + 1, none⟩ (.int .i64 (-1))).cell? ⟨g, k * 7 + 5, none⟩ = some (.string x5) := t.c5
        have z3 := HB3.out.size
        clear t hx r2 r3 m2 b2 HR gk
        by_cases hk1 : x0 = 1
        · subst hk1
          have HB2 : Hid (binN ts k = ⟨(scB ts k x5).1, (scB ts k x5).2⟩) := by show binN ts k = _; rw [HBN.out]; rfl
          clear HBN
          go_wp2_with fail
          refine (HCL.out x5 _ (Kept.of_below HB3.out)).mono ?_
          rintro e w4 ⟨rfl, b4⟩
          generalize (w2.setCell ⟨w1.heap.size, k * 2, none⟩ (.int .i64 (-1))).setCell ⟨w1.heap.size, k * 2 + 1, none⟩ (.int .i64 (-1)) = w3 at *
          have r4 : w4.heap[w1.heap.size]? = some (.cells (((binMix ts k).set k ⟨-1, -1⟩).flatMap bndCells).toArray 32 (0, 0)) := (b4.block _ (Array.getElem?_eq_some_iff.1 HR3.out).1).trans HR3.out
          have B4 : Hid (Below w1.heap.size w1 w4) := HB3.out.trans (b4.mono z3)
          have hl4 : ((binMix ts k).set k ⟨-1, -1⟩).length = ts.length := by rw [List.length_set]; exact hlk
          have m4 := bnd_of_room r4 k (by omega)
          generalize ((binMix ts k).set k ⟨-1, -1⟩).getD k noBnd = y at m4
          obtain ⟨v0, v1⟩ := y
          clear c0 c1 f0 f1
          have c0 : w4.cell? ⟨w1.heap.size, k * 2, none⟩ = some (.int .i64 v0) := m4.c0
          have c1 : w4.cell? ⟨w1.heap.size, k * 2 + 1, none⟩ = some (.int .i64 v1) := m4.c1
          have f0 : w4.frozen? ⟨w1.heap.size, k * 2, none⟩ = false := frozen_of_row w4 _ _ _ _ r4
          have f1 : w4.frozen? ⟨w1.heap.size, k * 2 + 1, none⟩ = false := frozen_of_row w4 _ _ _ _ r4
          have r5 := bnd_row_set w4 w1.heap.size k _ 32 ⟨(scB ts k x5).1, (scB ts k x5).2⟩ r4 (by omega)
          rw [List.set_set, binMix_set ts k hin _ HB2.out.symm] at r5
          have HNX : Hid (((w4.setCell ⟨w1.heap.size, k * 2, none⟩ (.int .i64 (scB ts k x5).1)).setCell ⟨w1.heap.size, k * 2 + 1, none⟩ (.int .i64 (scB ts k x5).2)).heap[w1.heap.size]? = some (.cells ((binMix ts (k + 1)).flatMap bndCells).toArray 32 (0, 0))) := r5
          have HB5 : Hid (Below w1.heap.size w1 ((w4.setCell ⟨w1.heap.size, k * 2, none⟩ (.int .i64 (scB ts k x5).1)).setCell ⟨w1.heap.size, k * 2 + 1, none⟩ (.int .i64 (scB ts k x5).2))) := (B4.out.setCell (p := ⟨w1.heap.size, k * 2, none⟩) (Nat.le_refl _) _).setCell (p := ⟨w1.heap.size, k * 2 + 1, none⟩) (Nat.le_refl _) _
          clear r4 r5 b4 m4 HR3 HB2 HCL q0 q5 hl4
          generalize (scB ts k x5).1 = n0 at *
          generalize (scB ts k x5).2 = n1 at *
          go_wp2
          go_roundw
          case rel => exact ⟨k + 1, by omega, by go_num, HNX, HB5.out⟩
          case measure => simp [intOf]; omega
        · have HNX : Hid (((w2.setCell ⟨w1.heap.size, k * 2, none⟩ (.int .i64 (-1))).setCell ⟨w1.heap.size, k * 2 + 1, none⟩ (.int .i64 (-1))).heap[w1.heap.size]? = some (.cells ((binMix ts (k + 1)).flatMap bndCells).toArray 32 (0, 0))) := by
            have h := HR3.out
            rw [binMix_set ts k hin ⟨-1, -1⟩ (by rw [HBN.out]; exact (if_neg hk1).symm)] at h
            exact h
          clear HR3 HBN HCL
          go_wp2
          go_roundw
          case rel => exact ⟨k + 1, by omega, by go_num, HNX, HB3.out⟩
          case measure => simp [intOf]; omega
      · obtain rfl : k = ts.length := by omega
        have HE : Hid (wr.heap[w1.heap.size]? = some (.cells ((binF ts ts.length).flatMap bndCells).toArray 32 (0, 0))) := by
          have := HR.out
          rw [binMix, Nat.sub_self, List.replicate_zero, List.append_nil] at this
          exact this
        have HB : Hid (Below w.heap.size w wr) := hb1.trans (hb.mono s1)
        clear HR
        go_wp2
        go_ret
        exact ⟨⟨_, rfl, s1, HE.out⟩, HB.out⟩
  · have HO : Hid (nodesB ts = false) := by show nodesB ts = false; simpa using hok
    have HBL : Hid (binL ts = []) := by show binL ts = _; rw [binL, if_neg hok]
    clear hok
    rw [HBL.out]
    have HMK : Hid (∀ w : World, (Instr.makeSlice 27 (.int .i64 0) (.int .i64 0)).run Tryz.prog w = .ok (.slice (some ⟨w.heap.size, 0, none⟩) 0 0) (w.alloc (.cells #[] 32))) := fun w => by
      have hmk := run_make (P := Tryz.prog) w 27 32 i0 _ Tryz.underlying27 hi hz0 .i64 .i64 0 0 (by omega) (by omega) (by rw [hz2]; omega) (by omega)
      have em : madeCells (Value.agg #[.int .i64 0, .int .i64 0]).cells (Int.toNat 0 * 2) = #[] := by simp [madeCells]
      rw [hz1, em] at hmk
      exact hmk
    clear hi hz0 hz1 hz2 i0
    go_enter Tryz.func42, Tryz.ntmps42
    go_wp2_with fail
    refine (impl_scopes _ g cap ts hne hl HT.out w HA.out).mono ?_
    rintro e w1 ⟨hend, hb1⟩
    unfold ScEnd at hend
    rw [HO.out] at hend
    obtain rfl : e = .returned (.slice none 0 0) := hend
    have hmk := HMK.out w1
    have s1 := hb1.size
    go_wp2
    clear hmk
    go_loopw [14] (fun r wr => r = .int .i64 0 ∧ wr = w1.alloc (.cells #[] 32)) (fun r _ => 0)
    case atStart => exact ⟨rfl, rfl⟩
    case round =>
      obtain ⟨rfl, rfl⟩ := hrel
      have HE : Hid ((w1.alloc (.cells #[] 32)).heap[w1.heap.size]? = some (.cells #[] 32 (0, 0))) := (MapKept.heap_alloc w1 _).1
      go_wp2
      go_ret
      exact ⟨⟨_, rfl, s1, HE.out⟩, hb1.alloc s1 _⟩

/-- What BinderOf answers. -/
def bindB (ts : List Nod) (i : Int) : Bnd := if nodesB ts = true ∧ 0 ≤ i ∧ i < ts.length then binN ts i.toNat else ⟨-1, -1⟩

theorem binL_length (ts : List Nod) : (binL ts).length ≤ 150 := by
  unfold binL
  split
  · rename_i h
    obtain ⟨h1, h2, _⟩ := nodesB_starts h
    rw [binF_length]
    exact h2
  · simp

theorem bindB_yes (ts : List Nod) (i : Nat) (h : i < (binL ts).length) : bindB ts i = (binL ts).getD i noBnd := by
  unfold binL at h ⊢
  split at h
  · rename_i hok
    rw [if_pos hok]
    rw [binF_length] at h
    rw [binF_at ts _ i h, bindB, if_pos ⟨hok, by omega, by omega⟩]
    rfl
  · simp at h

theorem bindB_no (ts : List Nod) (i : Int) (h : i < 0 ∨ ((binL ts).length : Int) ≤ i) : bindB ts i = ⟨-1, -1⟩ := by
  unfold bindB
  refine if_neg ?_
  rintro ⟨h1, h2, h3⟩
  rw [binL, if_pos h1, binF_length] at h
  omega
end

section
open Go.ChangeShapes Go.WideShapes Go.ChangeAt Go.RowKit

theorem scB_step {ts : List Nod} (h : nodesB ts = true) (kid : Nat) (s : ByteArray) : scB ts kid s = if parP ts kid < 0 then (-1, -1) else match lookR s (bndL (ts.getD (parP ts kid).toNat noNod) kid) with
    | some r => (parP ts kid, r)
    | none => scB ts (parP ts kid) s := by
  obtain ⟨_, hl, _, hp, _⟩ := right_par h
  have h1 : scB ts kid s = scF ts s (ts.length - 1 + 1) kid := by rw [scB]; congr 1; omega
  rw [h1, scF_step]
  by_cases hn : parP ts kid < 0
  · rw [if_pos hn, if_pos hn]
  · rw [if_neg hn, if_neg hn]
    rcases hp kid with e0 | ⟨p, c, e0, g1, g2, g3, _⟩
    · omega
    · rw [e0, scB_at hp s p (ts.length - 1) (by omega)]
      rfl

theorem lookR_step (s : ByteArray) (L : List (ByteArray × Int)) (k : Nat) (hk : k < L.length) : lookR s (L.drop k) = if (L.getD k (⟨#[]⟩, 0)).1 = s then some (L.getD k (⟨#[]⟩, 0)).2 else lookR s (L.drop (k + 1)) := by
  rw [List.drop_eq_getElem_cons hk]
  simp [List.getD, hk, lookR]

theorem names_at {w : World} {P : Nat} {L : List (ByteArray × Int)} {t : TypeId} (h : w.heap[P]? = some (.cells (L.map (fun x => Value.string x.1)).toArray t (0, 0))) (k : Nat) (hk : k < L.length) : w.cell? ⟨P, k, none⟩ = some (.string (L.getD k (⟨#[]⟩, 0)).1) := by
  rw [cell_of_row _ _ _ _ _ _ h]
  simp [List.getD, hk]

theorem roles_at {w : World} {P : Nat} {L : List (ByteArray × Int)} {t : TypeId} (h : w.heap[P]? = some (.cells (L.map (fun x => Value.int .i64 x.2)).toArray t (0, 0))) (k : Nat) (hk : k < L.length) : w.cell? ⟨P, k, none⟩ = some (.int .i64 (L.getD k (⟨#[]⟩, 0)).2) := by
  rw [cell_of_row _ _ _ _ _ _ h]
  simp [List.getD, hk]

theorem bndL_len (t : Nod) (c : Int) : (bndL t c).length ≤ 2 := by
  unfold bndL
  repeat' split
  all_goals simp

theorem bindB_none {ts : List Nod} {i : Int} (h : nodesB ts = false ∨ i < 0 ∨ (ts.length : Int) ≤ i) : bindB ts i = ⟨-1, -1⟩ := by
  unfold bindB
  refine if_neg ?_
  rintro ⟨h1, h2, h3⟩
  rcases h with h | h | h
  · rw [h1] at h; cases h
  · omega
  · omega

set_option maxHeartbeats 4000000 in
set_option maxRecDepth 20000 in
theorem spec_binder (a : Option Addr) (g cap : Nat) (ts : List Nod) (i : Int) (hne : 0 < ts.length → a = some ⟨g, 0, none⟩) (hl : ts.length ≤ 1048576)
    (hst : ∀ i, i < ts.length → (ts.getD i noNod).name.size ≤ maxLen ∧ (ts.getD i noNod).other.size ≤ maxLen) (w : World) (hA : NodAt w g ts) :
    Calls Tryz.prog 76 #[.slice a ts.length cap, .int .i64 i] w fun e w' => e = .returned (.agg #[.int .i64 (bindB ts i).node, .int .i64 (bindB ts i).role]) ∧ Below w.heap.size w w' := by
  have HA : Hid (NodAt w g ts) := hA
  have HT : Hid (∀ i, i < ts.length → (ts.getD i noNod).name.size ≤ maxLen ∧ (ts.getD i noNod).other.size ≤ maxLen) := hst
  obtain ⟨wa, hwa⟩ : ∃ wa, (w.alloc (.cells #[.int .i64 0, .int .i64 0] 32)).alloc (.cells #[.int .i64 (-1), .int .i64 (-1)] 32) = wa := ⟨_, rfl⟩
  have HWA : Hid ((w.alloc (.cells #[.int .i64 0, .int .i64 0] 32)).alloc (.cells #[.int .i64 (-1), .int .i64 (-1)] 32) = wa) := hwa
  have RA : Hid (wa.heap[w.heap.size]? = some (.cells #[.int .i64 0, .int .i64 0] 32 (0, 0))) := by
    show wa.heap[w.heap.size]? = _
    rw [← hwa, Below.heap_alloc _ _ _ (by simp)]
    exact (MapKept.heap_alloc w _).1
  have NA : Hid (wa.heap[w.heap.size + 1]? = some (.cells #[.int .i64 (-1), .int .i64 (-1)] 32 (0, 0))) := by
    show wa.heap[w.heap.size + 1]? = _
    rw [← hwa]
    have := (MapKept.heap_alloc (w.alloc (.cells #[.int .i64 0, .int .i64 0] 32)) (.cells #[.int .i64 (-1), .int .i64 (-1)] 32)).1
    simpa using this
  have BA : Hid (Below w.heap.size w wa) := by show Below w.heap.size w wa; rw [← hwa]; exact ((Below.refl _ w).alloc (Nat.le_refl _) _).alloc (by simp) _
  have sa : wa.heap.size = w.heap.size + 2 := by rw [← hwa]; simp
  have AA : Hid (NodAt wa g ts) := hA.below BA.out (fun h => hA.lt h)
  clear hwa hA hst
  have HNO : Hid (∀ wr, Below wa.heap.size wa wr → wr.heap[w.heap.size]? = some (.cells #[.int .i64 0, .int .i64 0] 32 (0, 0)) ∧ wr.heap[w.heap.size + 1]? = some (.cells #[.int .i64 (-1), .int .i64 (-1)] 32 (0, 0)) ∧ Below w.heap.size w wr) := fun wr hb =>
    ⟨(hb.block _ (by omega)).trans RA.out, (hb.block _ (by omega)).trans NA.out, BA.out.trans (hb.mono (by omega))⟩
  clear RA NA
  go_enter Tryz.func76, Tryz.ntmps76
  go_wp2_with fail
  rw [HWA.out]
  refine (spec_nodes a g cap ts hne hl HT.out wa AA.out).mono ?_
  rintro e w1 ⟨rfl, b1⟩
  cases hok : nodesB ts
  · have HV : Hid (bindB ts i = ⟨-1, -1⟩) := bindB_none (Or.inl hok)
    obtain ⟨R1, N1, B1⟩ := HNO.out w1 b1
    obtain ⟨q0, q1, q2⟩ := row2_cells R1
    obtain ⟨p0, p1, p2⟩ := row2_cells N1
    have HR1 : Hid (_) := R1
    have HB1 : Hid (_) := B1
    clear hok R1 N1 B1
    go_wp2
    exact bodyPost_ret (results_cell_row rfl _ _ w.heap.size 32 _ (0, 0) _ rfl (row2_put _ _ HR1.out) Tryz.underlying32 rfl (by kernel_rfl)) rfl ⟨by rw [HV.out], row2_below HB1.out (Nat.le_refl _) _ _⟩
  · have HO : Hid (nodesB ts = true) := hok
    obtain ⟨hl2, hl1, _, hpar, _⟩ := right_par hok
    have HPAR : Hid (∀ (m : Int), parP ts m = -1 ∨ ∃ p c : Nat, parP ts m = p ∧ p < ts.length ∧ m = c ∧ c < p ∧ hasI (kidL (ts.getD p noNod)) m = true) := hpar
    clear hok hpar
    obtain rfl := hne (by omega)
    go_wp2_with fail
    refine (word_in _ _ _ _).mono ?_
    rintro e w2 ⟨rfl, hw⟩
    rw [hw]
    clear hw w2
    by_cases hr : 0 ≤ i ∧ i ≤ (ts.length : Int) - 1
    · obtain ⟨hr1, hr2⟩ := hr
      have d1 : (decide ((0 : Int) ≤ i) && decide (i ≤ (ts.length : Int) - 1)) = true := by rw [decide_eq_true hr1, decide_eq_true hr2]; rfl
      rw [d1]
      clear d1
      obtain ⟨m, rfl⟩ := Int.eq_ofNat_of_zero_le hr1
      have hm : m < ts.length := by omega
      have hm' : (m : Int) < ts.length := by omega
      have HBB : Hid (bindB ts m = binN ts m) := by
        show bindB ts m = _
        rw [bindB, if_pos ⟨HO.out, by omega, hm'⟩]
        rfl
      have HBN : Hid (binN ts m = if (ts.getD m noNod).kind = 1 then ⟨(scB ts m (ts.getD m noNod).name).1, (scB ts m (ts.getD m noNod).name).2⟩ else ⟨-1, -1⟩) := rfl
      obtain ⟨R1, N1, B1⟩ := HNO.out w1 b1
      have t := (HA.out.below B1 (fun h => HA.out.lt h)) m hm
      obtain ⟨⟨x0, x1, x2, x3, x4, x5, x6⟩, hx⟩ : ∃ y, ts.getD m noNod = y := ⟨_, rfl⟩
      have HX : Hid (ts.getD m noNod = ⟨x0, x1, x2, x3, x4, x5, x6⟩) := hx
      rw [hx] at t HBN
      have t0 : w1.cell? ⟨g, m * 7, none⟩ = some (.int .i64 x0) := t.c0
      clear t hx
      by_cases hk1 : x0 = 1
      · subst hk1
        have HV0 : Hid (bindB ts m = ⟨(scB ts m x5).1, (scB ts m x5).2⟩) := by show bindB ts m = _; rw [HBB.out, HBN.out]; rfl
        clear HBB HBN R1 N1 B1
        go_wp2_with fail
        refine (spec_parent _ g cap ts m (fun _ => rfl) hl HT.out w1 (HA.out.below (HNO.out w1 b1).2.2 (fun h => HA.out.lt h))).mono ?_
        rintro e w2 ⟨rfl, b2⟩
        have s1 := b1.size
        have B2 : Below wa.heap.size wa w2 := b1.trans (b2.mono (by omega))
        rw [parB, if_pos HO.out]
        clear b1 b2 t0
        go_wp2
        go_loopw [6, 7] (fun kv qv wr => ∃ kid : Nat, kid < ts.length ∧ kv = .int .i64 kid ∧ qv = .int .i64 (parP ts kid) ∧ Hid (scB ts m x5 = scB ts kid x5) ∧ Below wa.heap.size wa wr) (fun kv _ _ => ts.length - (intOf kv).toNat)
        case atStart => exact ⟨m, hm, rfl, rfl, rfl, B2⟩
        case round =>
          obtain ⟨kid, hkid, rfl, rfl, HSC, hb⟩ := hrel
          clear B2
          have hstep := scB_step HO.out kid x5
          rw [← HSC.out] at hstep
          clear HSC
          obtain ⟨R1, N1, B1⟩ := HNO.out wr hb
          rcases HPAR.out kid with e0 | ⟨p, c, e0, hp1, hp2, hp3, _⟩
          · rw [e0, if_pos (by omega)] at hstep
            have HV : Hid (bindB ts m = ⟨-1, -1⟩) := by show bindB ts m = _; rw [HV0.out, hstep]
            rw [e0]
            obtain ⟨q0, q1, q2⟩ := row2_cells R1
            obtain ⟨p0, p1, p2⟩ := row2_cells N1
            have HR1 : Hid (_) := R1
            have HB1 : Hid (_) := B1
            clear R1 N1 B1 hstep e0
            go_wp2
            exact bodyPost_ret (results_cell_row rfl _ _ w.heap.size 32 _ (0, 0) _ rfl (row2_put _ _ HR1.out) Tryz.underlying32 rfl (by kernel_rfl)) rfl ⟨by rw [HV.out], row2_below HB1.out (Nat.le_refl _) _ _⟩
          · rw [e0, if_neg (by omega)] at hstep
            have ep : ((p : Nat) : Int).toNat = p := by omega
            rw [ep] at hstep
            rw [e0]
            have hp1' : (p : Int) < ts.length := by omega
            have t := (HA.out.below B1 (fun h => HA.out.lt h)) p hp1
            have HSTP : Hid (scB ts m x5 = match lookR x5 (bndL (ts.getD p noNod) kid) with | some r => ((p : Int), r) | none => scB ts p x5) := hstep
            have HLEN := bndL_len (ts.getD p noNod) kid
            obtain ⟨⟨y0, y1, y2, y3, y4, y5, y6⟩, hy⟩ : ∃ y, ts.getD p noNod = y := ⟨_, rfl⟩
            rw [hy] at t HSTP HLEN
            have q0 : wr.cell? ⟨g, p * 7, none⟩ = some (.int .i64 y0) := t.c0
            have q1 : wr.cell? ⟨g, p * 7 + 1, none⟩ = some (.int .i64 y1) := t.c1
            have q2 : wr.cell? ⟨g, p * 7 + 2, none⟩ = some (.int .i64 y2) := t.c2
            have q3 : wr.cell? ⟨g, p * 7 + 3, none⟩ = some (.int .i64 y3) := t.c3
            have q4 : wr.cell? ⟨g, p * 7 + 4, none⟩ = some (.int .i64 y4) := t.c4
            have q5 : wr.cell? ⟨g, p * 7 + 5, none⟩ = some (.string y5) := t.c5
            have q6 : wr.cell? ⟨g, p * 7 + 6, none⟩ = some (.string y6) := t.c6
            have HSB : Hid (∀ w, Calls Tryz.prog 103 #[.agg #[.int .i64 y0, .int .i64 y1, .int .i64 y2, .int .i64 y3, .int .i64 y4, .string y5, .string y6], .int .i64 kid] w fun e w' => BdEnd (bndL ⟨y0, y1, y2, y3, y4, y5, y6⟩ kid) w.heap.size e w' ∧ Below w.heap.size w w') := fun w => spec_bound y0 y1 y2 y3 y4 y5 y6 kid w
            generalize bndL ⟨y0, y1, y2, y3, y4, y5, y6⟩ kid = L at *
            have hkp : kid < p := by omega
            clear t hy R1 N1 B1 hstep e0 ep hp2
            go_wp2_with fail
            refine (HSB.out wr).mono ?_
            rintro e w2 ⟨⟨P, R, rfl, hP, hR, hPr, hRr⟩, b2⟩
            have HP : Hid (w2.heap[P]? = some (.cells (L.map (fun x => Value.string x.1)).toArray 9 (0, 0))) := hPr
            have HRO : Hid (w2.heap[R]? = some (.cells (L.map (fun x => Value.int .i64 x.2)).toArray 3 (0, 0))) := hRr
            have sr := hb.size
            have B2 : Hid (Below wa.heap.size wa w2) := hb.trans (b2.mono sr)
            have s2 := b2.size
            have hPl : P < w2.heap.size := (Array.getElem?_eq_some_iff.1 hPr).1
            have hRl : R < w2.heap.size := (Array.getElem?_eq_some_iff.1 hRr).1
            clear q0 q1 q2 q3 q4 q5 q6 HSB hb b2 hPr hRr
            go_wp2
            go_loopw [10] (fun kv wq => ∃ k : Nat, k ≤ L.length ∧ kv = .int .i64 k ∧ Hid (lookR x5 L = lookR x5 (L.drop k)) ∧ Below w2.heap.size w2 wq) (fun kv _ => L.length - (intOf kv).toNat)
            case atStart => exact ⟨0, by omega, rfl, rfl, Below.refl _ _⟩
            case round =>
              obtain ⟨k, hk, rfl, HLK, hbq⟩ := hrel
              have sq := hbq.size
              have HBW : Hid (Below wa.heap.size wa wr) := B2.out.trans (hbq.mono (by omega))
              by_cases hin : k < L.length
              · have hin' : (k : Int) < L.length := by omega
                have hls := lookR_step x5 L k hin
                rw [← HLK.out] at hls
                have n1 := names_at ((hbq.block P hPl).trans HP.out) k hin
                have n2 := roles_at ((hbq.block R hRl).trans HRO.out) k hin
                obtain ⟨R1, N1, B1⟩ := HNO.out wr HBW.out
                have t := (HA.out.below B1 (fun h => HA.out.lt h)) m hm
                rw [HX.out] at t
                have t5 : wr.cell? ⟨g, m * 7 + 5, none⟩ = some (.string x5) := t.c5
                generalize L.getD k (⟨#[]⟩, 0) = z at n1 n2 hls
                obtain ⟨z1, z2⟩ := z
                simp only at n1 n2 hls
                by_cases hz : z1 = x5
                · rw [if_pos hz] at hls
                  have HV : Hid (bindB ts m = ⟨p, z2⟩) := by show bindB ts m = _; rw [HV0.out, HSTP.out, hls]
                  subst hz
                  obtain ⟨q0, q1, q2⟩ := row2_cells R1
                  have HR1 : Hid (_) := R1
                  have HB1 : Hid (_) := B1
                  clear R1 N1 B1 hls HLK t hbq HSTP
                  go_wp2
                  go_quiet (fail)
                  go_wp2
                  exact bodyPost_ret (results_cell_row rfl _ _ w.heap.size 32 _ (0, 0) _ rfl (row2_put (W := wr.drewN nq) _ _ HR1.out) Tryz.underlying32 rfl (by kernel_rfl)) rfl ⟨by rw [HV.out], row2_below (below_drew_n HB1.out _) (Nat.le_refl _) _ _⟩
                · rw [if_neg hz] at hls
                  have HLN : Hid (lookR x5 L = lookR x5 (L.drop (k + 1))) := hls
                  have hzn := text_ne hz
                  clear R1 N1 B1 hls HLK t hz
                  go_wp2
                  go_quiet (fail)
                  go_wp2
                  go_roundw
                  case rel => exact ⟨k + 1, by omega, by go_num, HLN, below_drew_n hbq _⟩
                  case measure => simp [intOf]; omega
              · have HNL : Hid (scB ts m x5 = scB ts p x5) := by
                  show scB ts m x5 = _
                  have h := HLK.out
                  rw [List.drop_eq_nil_of_le (by omega)] at h
                  rw [HSTP.out, h]
                  rfl
                clear HLK hbq HSTP
                go_wp2_with fail
                refine (spec_parent _ g cap ts p (fun _ => rfl) hl HT.out wr (HA.out.below (HNO.out wr HBW.out).2.2 (fun h => HA.out.lt h))).mono ?_
                rintro e w3 ⟨rfl, b3⟩
                have B3 : Hid (Below wa.heap.size wa w3) := HBW.out.trans (b3.mono (by omega))
                rw [parB, if_pos HO.out]
                clear b3
                go_wp2
                go_roundw
                case rel => exact ⟨p, hp1, rfl, rfl, HNL, B3.out⟩
                case measure => simp [intOf]; omega
      · have HV : Hid (bindB ts m = ⟨-1, -1⟩) := by show bindB ts m = _; rw [HBB.out, HBN.out]; exact if_neg hk1
        obtain ⟨q0, q1, q2⟩ := row2_cells R1
        obtain ⟨p0, p1, p2⟩ := row2_cells N1
        have HR1 : Hid (_) := R1
        have HB1 : Hid (_) := B1
        clear R1 N1 B1 HBB HBN
        go_wp2
        exact bodyPost_ret (results_cell_row rfl _ _ w.heap.size 32 _ (0, 0) _ rfl (row2_put _ _ HR1.out) Tryz.underlying32 rfl (by kernel_rfl)) rfl ⟨by rw [HV.out], row2_below HB1.out (Nat.le_refl _) _ _⟩
    · have d1 : (decide ((0 : Int) ≤ i) && decide (i ≤ (ts.length : Int) - 1)) = false := by
        rw [← Bool.decide_and]
        exact decide_eq_false hr
      rw [d1]
      have HV : Hid (bindB ts i = ⟨-1, -1⟩) := bindB_none (Or.inr (by omega))
      obtain ⟨R1, N1, B1⟩ := HNO.out w1 b1
      obtain ⟨q0, q1, q2⟩ := row2_cells R1
      obtain ⟨p0, p1, p2⟩ := row2_cells N1
      have HR1 : Hid (_) := R1
      have HB1 : Hid (_) := B1
      clear R1 N1 B1 d1 hr
      go_wp2
      exact bodyPost_ret (results_cell_row rfl _ _ w.heap.size 32 _ (0, 0) _ rfl (row2_put _ _ HR1.out) Tryz.underlying32 rfl (by kernel_rfl)) rfl ⟨by rw [HV.out], row2_below HB1.out (Nat.le_refl _) _ _⟩
end

section
open Go.ChangeShapes Go.WideShapes Go.ChangeAt Go.RowKit Go.Sort

/-- The names of the NVars without a binder among the first k nodes. -/
def freeF (ts : List Nod) : Nat → List (List UInt8)
  | 0 => []
  | k + 1 => freeF ts k ++ (if (ts.getD k noNod).kind = 1 ∧ (binN ts k).node < 0 then [(ts.getD k noNod).name.data.toList] else [])

/-- What FreeNames answers. -/
def freeB (ts : List Nod) : List (List UInt8) := if nodesB ts = true then insL [] (freeF ts ts.length) else []

theorem freeF_length (ts : List Nod) : ∀ k, (freeF ts k).length ≤ k
  | 0 => Nat.le_refl _
  | k + 1 => by
    rw [freeF, List.length_append]
    have := freeF_length ts k
    split <;> simp <;> omega

theorem ins_next (xs : List (List UInt8)) (s : List UInt8) : insL [] (xs ++ [s]) = insU (insL [] xs) s := by
  unfold insL
  rw [List.foldl_append]
  rfl

theorem name_small {ts : List Nod} (h : nodesB ts = true) (k : Nat) (hk : k < ts.length) : (ts.getD k noNod).name.size ≤ 8 ∧ (ts.getD k noNod).other.size ≤ 8 := by
  obtain ⟨_, _, ⟨st, hR⟩, _⟩ := right_par h
  exact fields_small (decide_eq_true (hR.2 k hk).1)

theorem freeF_small {ts : List Nod} (h : nodesB ts = true) : ∀ k, k ≤ ts.length → ∀ x ∈ freeF ts k, x.length ≤ 1000000
  | 0, _, x, hx => by simp [freeF] at hx
  | k + 1, hk, x, hx => by
    rw [freeF] at hx
    rcases List.mem_append.1 hx with hx | hx
    · exact freeF_small h k (by omega) x hx
    · split at hx
      · rw [List.mem_singleton] at hx
        subst hx
        have := (name_small h k (by omega)).1
        rw [Array.length_toList]
        have e : (ts.getD k noNod).name.size = (ts.getD k noNod).name.data.size := rfl
        omega
      · simp at hx

theorem freeB_length (ts : List Nod) : (freeB ts).length ≤ 150 := by
  unfold freeB
  split
  · rename_i h
    obtain ⟨h1, h2, _⟩ := nodesB_starts h
    have := insL_length (freeF ts ts.length) []
    have := freeF_length ts ts.length
    simp at *
    omega
  · simp

theorem freeB_small (ts : List Nod) : ∀ x ∈ freeB ts, x.length ≤ 1000000 := fun x hx => by
  unfold freeB at hx
  split at hx
  · rename_i h
    rcases (insL_mem x _ _).1 hx with h1 | h1
    · exact freeF_small h _ (Nat.le_refl _) x h1
    · simp at h1
  · simp at hx

theorem bnd_field (y0 y1 : Int) (w : World) : (Instr.field 32 (.agg #[.int .i64 y0, .int .i64 y1]) 0).run Tryz.prog w = .ok (.int .i64 y0) w := by
  simp [Instr.field, run_underlying Tryz.underlying32, asAgg, go_sem]

set_option maxHeartbeats 4000000 in
set_option maxRecDepth 20000 in
theorem spec_free (a : Option Addr) (g cap : Nat) (ts : List Nod) (hne : 0 < ts.length → a = some ⟨g, 0, none⟩) (hl : ts.length ≤ 1048576)
    (hst : ∀ i, i < ts.length → (ts.getD i noNod).name.size ≤ maxLen ∧ (ts.getD i noNod).other.size ≤ maxLen) (w : World) (hA : NodAt w g ts) :
    Calls Tryz.prog 48 #[.slice a ts.length cap] w fun e w' => ∃ v, e = .returned v ∧ ownS w' w.heap.size v (freeB ts) ∧ Below w.heap.size w w' := by
  have HA : Hid (NodAt w g ts) := hA
  have HT : Hid (∀ i, i < ts.length → (ts.getD i noNod).name.size ≤ maxLen ∧ (ts.getD i noNod).other.size ≤ maxLen) := hst
  clear hA hst
  go_enter Tryz.func48, Tryz.ntmps48
  go_wp2
  go_loopw [3, 4] (fun out iv wr => ∃ k : Nat, k ≤ ts.length ∧ iv = .int .i64 k ∧ (0 < k → nodesB ts = true) ∧ Hid (ownS wr w.heap.size out (insL [] (freeF ts k))) ∧ Below w.heap.size w wr) (fun _ iv _ => ts.length - (intOf iv).toNat)
  case atStart => exact ⟨0, by omega, rfl, fun h => absurd h (by omega), ownS_empty (Nat.le_refl _), (Below.refl _ w).alloc (Nat.le_refl _) _⟩
  case round =>
    obtain ⟨k, hk, rfl, hkb, HO, hb⟩ := hrel
    have HKB : Hid (0 < k → nodesB ts = true) := hkb
    clear hkb
    have hs := hb.size
    by_cases hin : k < ts.length
    · have e1 : (k : Int) < ts.length := by omega
      obtain rfl := hne (by omega)
      go_wp2_with fail
      refine (spec_nodes _ g cap ts (fun _ => rfl) hl HT.out wr (HA.out.below hb (fun h => HA.out.lt h))).mono ?_
      rintro e w1 ⟨rfl, b1⟩
      have hb1 : Below w.heap.size w w1 := hb.trans (b1.mono hs)
      have HO1 : Hid (ownS w1 w.heap.size u3 (insL [] (freeF ts k))) := ownS_kept HO.out b1 (Nat.le_refl _)
      have hs1 := hb1.size
      clear HO hb b1
      cases hok : nodesB ts
      · have hk0 : k = 0 := by
          rcases Nat.eq_zero_or_pos k with h | h
          · exact h
          · have := HKB.out h; rw [hok] at this; cases this
        have HV : Hid (freeB ts = insL [] (freeF ts k)) := by show freeB ts = _; rw [freeB, if_neg (by rw [hok]; exact Bool.false_ne_true), hk0]; rfl
        clear hok hk0 HKB
        go_wp2
        go_ret
        exact ⟨_, rfl, by rw [HV.out]; exact HO1.out, hb1⟩
      · have HOK : Hid (nodesB ts = true) := hok
        clear hok HKB
        obtain ⟨hl1, hl2, _⟩ := nodesB_starts HOK.out
        have t := (HA.out.below hb1 (fun h => HA.out.lt h)) k hin
        have hfl := insL_length (freeF ts k) []
        have hfl2 := freeF_length ts k
        have HUP : Hid (Up (insL [] (freeF ts k))) := insL_up _ _ (by simp [Up])
        have HFN : Hid (freeF ts (k + 1) = freeF ts k ++ (if (ts.getD k noNod).kind = 1 ∧ (binN ts k).node < 0 then [(ts.getD k noNod).name.data.toList] else [])) := rfl
        have HBB : Hid (bindB ts k = binN ts k) := by
          show bindB ts k = _
          rw [bindB, if_pos ⟨HOK.out, by omega, e1⟩]
          rfl
        obtain ⟨⟨x0, x1, x2, x3, x4, x5, x6⟩, hx⟩ : ∃ y, ts.getD k noNod = y := ⟨_, rfl⟩
        have HXN : Hid (ts.getD k noNod = ⟨x0, x1, x2, x3, x4, x5, x6⟩) := hx
        rw [hx] at t HFN
        have HL1 : Hid ((insL [] (freeF ts k)).length ≤ 1000) := by show _ ≤ _; simp at hfl; omega
        have c0 : w1.cell? ⟨g, k * 7, none⟩ = some (.int .i64 x0) := t.c0
        clear t hx hfl hfl2
        by_cases hk1 : x0 = 1
        · subst hk1
          go_wp2_with fail
          refine (spec_binder _ g cap ts k (fun _ => rfl) hl HT.out w1 (HA.out.below hb1 (fun h => HA.out.lt h))).mono ?_
          rintro e w2 ⟨rfl, b2⟩
          rw [HBB.out]
          have hb2 : Below w.heap.size w w2 := hb1.trans (b2.mono hs1)
          have hs2 := hb2.size
          have HO2 : Hid (ownS w2 w.heap.size u3 (insL [] (freeF ts k))) := ownS_kept HO1.out b2 (Nat.le_refl _)
          have t2 := (HA.out.below hb2 (fun h => HA.out.lt h)) k hin
          rw [HXN.out] at t2
          have c5 : w2.cell? ⟨g, k * 7 + 5, none⟩ = some (.string x5) := t2.c5
          have HIN : Hid (∀ s, insL [] (freeF ts k ++ [s]) = insU (insL [] (freeF ts k)) s) := fun s => ins_next _ s
          clear t2 HO1 b2 hb1 HBB c0 HXN
          generalize binN ts k = y at *
          obtain ⟨y0, y1⟩ := y
          have hfd := bnd_field y0 y1
          by_cases hy : y0 < 0
          · have HNX : Hid (insL [] (freeF ts (k + 1)) = insU (insL [] (freeF ts k)) x5.data.toList) := by
              show _ = _
              rw [HFN.out, if_pos (by first | exact ⟨rfl, hy⟩ | exact ⟨trivial, hy⟩)]
              exact HIN.out _
            generalize insL [] (freeF ts k) = F at *
            clear HFN HIN
            go_wp2_with fail
            refine (spec_sort w.heap.size u3 F x5 HUP.out HL1.out w2 hs2 HO2.out).mono ?_
            rintro e w3 ⟨v3, rfl, ho3, b3⟩
            have HO3 : Hid (ownS w3 w.heap.size v3 (insL [] (freeF ts (k + 1)))) := by show ownS w3 w.heap.size v3 _; rw [HNX.out]; exact ho3
            have hb3 : Below w.heap.size w w3 := hb2.trans (b3.mono hs2)
            clear ho3 b3 hb2 HO2 c5
            go_wp2
            go_roundw
            case rel => exact ⟨k + 1, by omega, by go_num, fun _ => HOK.out, HO3, hb3⟩
            case measure => simp [intOf]; omega
          · have HNX : Hid (ownS w2 w.heap.size u3 (insL [] (freeF ts (k + 1)))) := by
              show ownS w2 w.heap.size u3 _
              rw [HFN.out, if_neg (fun h => hy h.2), List.append_nil]
              exact HO2.out
            clear HFN HIN HO2
            go_wp2
            go_roundw
            case rel => exact ⟨k + 1, by omega, by go_num, fun _ => HOK.out, HNX, hb2⟩
            case measure => simp [intOf]; omega
        · have n1 : (x0 == 1) = false := by simpa using hk1
          have HNX : Hid (ownS w1 w.heap.size u3 (insL [] (freeF ts (k + 1)))) := by
            show ownS w1 w.heap.size u3 _
            rw [HFN.out, if_neg (fun h => hk1 h.1), List.append_nil]
            exact HO1.out
          clear HFN HO1 HBB hk1
          go_wp2
          go_roundw
          case rel => exact ⟨k + 1, by omega, by go_num, fun _ => HOK.out, HNX, hb1⟩
          case measure => simp [intOf]; omega
    · obtain rfl : k = ts.length := by omega
      have HV : Hid (freeB ts = insL [] (freeF ts ts.length)) := by
        show freeB ts = _
        unfold freeB
        split
        · rfl
        · rename_i hno
          have h0 : ts.length = 0 := by
            rcases Nat.eq_zero_or_pos ts.length with h | h
            · exact h
            · exact absurd (HKB.out h) hno
          rw [h0]; rfl
      clear HKB
      go_wp2
      go_ret
      exact ⟨_, rfl, by rw [HV.out]; exact HO.out, hb⟩

set_option maxHeartbeats 4000000 in
set_option maxRecDepth 20000 in
theorem impl_free (a : Option Addr) (g cap : Nat) (ts : List Nod) (hne : 0 < ts.length → a = some ⟨g, 0, none⟩) (hl : ts.length ≤ 1048576)
    (hst : ∀ i, i < ts.length → (ts.getD i noNod).name.size ≤ maxLen ∧ (ts.getD i noNod).other.size ≤ maxLen) (w : World) (hA : NodAt w g ts) :
    Calls Tryz.prog 14 #[.slice a ts.length cap] w fun e w' => ∃ v, e = .returned v ∧ ownS w' w.heap.size v (freeB ts) ∧ Below w.heap.size w w' := by
  have HA : Hid (NodAt w g ts) := hA
  have HT : Hid (∀ i, i < ts.length → (ts.getD i noNod).name.size ≤ maxLen ∧ (ts.getD i noNod).other.size ≤ maxLen) := hst
  have HV : Hid (freeB ts = risL (freeF ts (binL ts).length)) := by
    show freeB ts = _
    unfold freeB binL
    by_cases hok : nodesB ts = true
    · rw [if_pos hok, if_pos hok, binF_length, ris_ins _ _ (fun x => Iff.rfl)]
    · rw [if_neg hok, if_neg hok]
      show [] = risL []
      simp [risL, Lib.compact, Lib.compactUpTo]
  have HBN : Hid (∀ k, k < (binL ts).length → k < ts.length ∧ (binL ts).getD k noBnd = binN ts k) := fun k hk => by
    by_cases hok : nodesB ts = true
    · rw [binL, if_pos hok, binF_length] at hk
      rw [binL, if_pos hok, binF_at ts _ k hk]
      exact ⟨hk, rfl⟩
    · rw [binL, if_neg hok] at hk
      simp at hk
  have HSM : Hid (∀ x ∈ freeF ts (binL ts).length, x.length ≤ 1000000) := fun x hx => by
    by_cases hok : nodesB ts = true
    · rw [binL, if_pos hok, binF_length] at hx
      exact freeF_small hok _ (Nat.le_refl _) x hx
    · rw [binL, if_neg hok] at hx
      simp [freeF] at hx
  have hbl := binL_length ts
  obtain ⟨i0, hi, hz0, hz1, hz2⟩ := info_parts info_str
  clear hA hst
  go_enter Tryz.func14, Tryz.ntmps14
  go_wp2_with fail
  refine (impl_binders a g cap ts hne hl HT.out w HA.out).mono ?_
  rintro e w1 ⟨⟨H, rfl, hH, hr1⟩, b1⟩
  have HR1 : Hid (w1.heap[H]? = some (.cells ((binL ts).flatMap bndCells).toArray 32 (0, 0))) := hr1
  have s1 := b1.size
  have hHl : H < w1.heap.size := (Array.getElem?_eq_some_iff.1 hr1).1
  generalize binL ts = bl at *
  clear hr1
  go_wp2
  go_loopw [3, 9] (fun out iv wr => ∃ k : Nat, k ≤ bl.length ∧ iv = .int .i64 k ∧ Hid (ownS wr w1.heap.size out (freeF ts k)) ∧ Below w1.heap.size w1 wr) (fun _ iv _ => bl.length - (intOf iv).toNat)
  case atStart => exact ⟨0, by omega, rfl, ownS_nil, Below.refl _ _⟩
  case round =>
    obtain ⟨k, hk, rfl, HO, hb⟩ := hrel
    have hs := hb.size
    by_cases hin : k < bl.length
    · have hin' : (k : Int) < bl.length := by omega
      obtain ⟨hkt, hbk⟩ := HBN.out k hin
      have hkt' : (k : Int) < ts.length := by omega
      obtain rfl := hne (by omega)
      have t := bnd_of_room ((hb.block H hHl).trans HR1.out) k hin
      rw [hbk] at t
      have hfl := freeF_length ts k
      have HFN : Hid (freeF ts (k + 1) = freeF ts k ++ (if (ts.getD k noNod).kind = 1 ∧ (binN ts k).node < 0 then [(ts.getD k noNod).name.data.toList] else [])) := rfl
      generalize binN ts k = y at t HFN
      obtain ⟨y0, y1⟩ := y
      have c0 : wr.cell? ⟨H, k * 2, none⟩ = some (.int .i64 y0) := t.c0
      have c1 : wr.cell? ⟨H, k * 2 + 1, none⟩ = some (.int .i64 y1) := t.c1
      have ba : Below w1.heap.size w1 (wr.alloc (.cells #[.int .i64 y0, .int .i64 y1] 32)) := hb.alloc hs _
      have n := (HA.out.below (b1.trans (ba.mono s1)) (fun h => HA.out.lt h)) k hkt
      obtain ⟨⟨x0, x1, x2, x3, x4, x5, x6⟩, hx⟩ : ∃ y, ts.getD k noNod = y := ⟨_, rfl⟩
      rw [hx] at n HFN
      have q0 : (wr.alloc (.cells #[.int .i64 y0, .int .i64 y1] 32)).cell? ⟨g, k * 7, none⟩ = some (.int .i64 x0) := n.c0
      have q5 : (wr.alloc (.cells #[.int .i64 y0, .int .i64 y1] 32)).cell? ⟨g, k * 7 + 5, none⟩ = some (.string x5) := n.c5
      have HO2 : Hid (ownS (wr.alloc (.cells #[.int .i64 y0, .int .i64 y1] 32)) w1.heap.size u3 (freeF ts k)) := HO.out.alloc _
      have HBA : Hid (_) := ba
      clear t n hx hbk HO ba
      by_cases hk1 : x0 = 1
      · subst hk1
        by_cases hy : y0 < 0
        · have HNX : Hid (freeF ts (k + 1) = freeF ts k ++ [x5.data.toList]) := by show _ = _; rw [HFN.out, if_pos (by first | exact ⟨rfl, hy⟩ | exact ⟨trivial, hy⟩)]
          generalize freeF ts k = F at *
          clear HFN
          go_wp2_with (at_builtin; refine wpList_append_own _ rfl _ _ 35 rfl w1.heap.size 9 i0 (.string ⟨#[]⟩) 1 16 Tryz.underlying35 hi hz0 hz1 hz2 rfl (by decide) _ _ _ rfl (HO2.out.alloc _) ⟨wr.heap.size + 1, 0, none⟩ 1 1 [.string x5] rfl rfl ?a1 ?a2 ?a3 ?a4 ?a5 ?_)
          try (case a1 => intro j u hj; cases j with | zero => (simp at hj; subst hj; simp [Addr.add]) | succ j => simp at hj)
          case a2 => first | rfl | (intro u hu; simp at hu; subst hu; rfl)
          case a3 => unfold maxLen; omega
          case a4 => omega
          case a5 => first | omega | (simp; omega)
          intro v' W3 hown' hgrow _
          have HM : Hid (ownS W3 w1.heap.size v' (freeF ts (k + 1))) := by
            show ownS W3 w1.heap.size v' _
            rw [HNX.out]
            refine ownS_next x5.data.toList hown' rfl ?_
            show _ = _ ++ [Value.string ⟨x5.data.toList.toArray⟩]
            rw [bytes_list]
          have HB3 : Hid (Below w1.heap.size w1 W3) := (HBA.out.alloc (by simp; omega) _).grown hgrow (by simp; omega) (fun q hq => (HO2.out.lt q hq).1)
          clear hown' hgrow HO2 HBA
          go_wp2
          go_roundw
          case rel => exact ⟨k + 1, by omega, by go_num, HM, HB3.out⟩
          case measure => simp [intOf]; omega
        · have HM : Hid (ownS (wr.alloc (.cells #[.int .i64 y0, .int .i64 y1] 32)) w1.heap.size u3 (freeF ts (k + 1))) := by
            show ownS _ w1.heap.size u3 _
            rw [HFN.out, if_neg (fun h => hy h.2), List.append_nil]
            exact HO2.out
          clear HFN HO2
          go_wp2
          go_roundw
          case rel => exact ⟨k + 1, by omega, by go_num, HM, HBA.out⟩
          case measure => simp [intOf]; omega
      · have n1 : (x0 == 1) = false := by simpa using hk1
        have HM : Hid (ownS (wr.alloc (.cells #[.int .i64 y0, .int .i64 y1] 32)) w1.heap.size u3 (freeF ts (k + 1))) := by
          show ownS _ w1.heap.size u3 _
          rw [HFN.out, if_neg (fun h => hk1 h.1), List.append_nil]
          exact HO2.out
        clear HFN HO2 hk1
        go_wp2
        go_roundw
        case rel => exact ⟨k + 1, by omega, by go_num, HM, HBA.out⟩
        case measure => simp [intOf]; omega
    · obtain rfl : k = bl.length := by omega
      have hfl := freeF_length ts bl.length
      go_wp2_with fail
      refine (impl_rising w1.heap.size u3 (freeF ts bl.length) (by omega) HSM.out wr HO.out).mono ?_
      rintro e w2 ⟨v2, rfl, ho2, b2⟩
      have HE : Hid (ownS w2 w.heap.size v2 (freeB ts)) := by
        show ownS w2 w.heap.size v2 _
        rw [HV.out]
        exact ownS_base ho2 (by omega)
      have HB2 : Hid (Below w.heap.size w w2) := b1.trans ((hb.mono s1).trans (b2.mono (by omega)))
      clear ho2 b2 HO
      go_wp2
      go_ret
      exact ⟨_, rfl, HE.out, HB2.out⟩

/-- Is it right, and are there none? -/
def closedB (ts : List Nod) : Bool := nodesB ts && decide ((freeB ts).length = 0)

theorem ownS_len {w : World} {B : Nat} {v : Value} {l : List (List UInt8)} (h : ownS w B v l) : ∃ a cap, v = .slice a l.length cap := by
  obtain ⟨a, g, cap, rfl, _⟩ := ownS_form h
  exact ⟨a, cap, rfl⟩
end

section
open Go.ChangeShapes Go.WideShapes Go.ChangeAt Go.RowKit

/-- How many names a kind binds. -/
def rolK (k : Int) : Nat := if k = 1 then 0 else nmN k

theorem rolK_le (k : Int) : rolK k ≤ 2 := by
  unfold rolK nmN
  split
  · omega
  · split
    · omega
    · split <;> omega

/-- What a node binds. -/
def siteL (i : Nat) : Nat → List Bnd
  | 0 => []
  | r + 1 => siteL i r ++ [⟨i, r⟩]

/-- What the first k nodes bind. -/
def siteF (ts : List Nod) : Nat → List Bnd
  | 0 => []
  | k + 1 => siteF ts k ++ siteL k (rolK (ts.getD k noNod).kind)

def sitesB (ts : List Nod) : List Bnd := if nodesB ts = true then siteF ts ts.length else []

theorem siteL_length (i : Nat) : ∀ r, (siteL i r).length = r
  | 0 => rfl
  | r + 1 => by rw [siteL, List.length_append, siteL_length i r]; rfl

theorem siteF_length (ts : List Nod) : ∀ k, (siteF ts k).length ≤ 2 * k
  | 0 => Nat.le_refl _
  | k + 1 => by
    rw [siteF, List.length_append, siteL_length]
    have := siteF_length ts k
    have := rolK_le (ts.getD k noNod).kind
    omega

theorem sitesB_length (ts : List Nod) : (sitesB ts).length ≤ 300 := by
  unfold sitesB
  split
  · rename_i h
    obtain ⟨h1, h2, _⟩ := nodesB_starts h
    have := siteF_length ts ts.length
    omega
  · simp

theorem impl_roles (k : Int) (w : World) : Calls Tryz.prog 64 #[.int .i64 k] w fun e w' => e = .returned (.int .i64 (rolK k : Nat)) ∧ w' = w := by
  by_cases h : k = 1
  · subst h
    go_enter Tryz.func64, Tryz.ntmps64
    go_wp2
    go_ret
    exact ⟨rfl, rfl⟩
  · have HV : Hid (rolK k = nmN k) := by show rolK k = _; rw [rolK, if_neg h]
    go_enter Tryz.func64, Tryz.ntmps64
    go_wp2_with fail
    refine (impl_names k w).mono ?_
    rintro e w1 ⟨rfl, rfl⟩
    go_wp2
    go_ret
    exact ⟨by rw [HV.out] <;> rfl, rfl⟩

theorem siteL_one (i : Nat) (r : Nat) : siteL i (r + 1) = siteL i r ++ [⟨i, r⟩] := rfl

set_option maxHeartbeats 2000000 in
set_option maxRecDepth 20000 in
theorem impl_sites (a : Option Addr) (g cap : Nat) (ts : List Nod) (hne : 0 < ts.length → a = some ⟨g, 0, none⟩) (hl : ts.length ≤ 1048576)
    (hst : ∀ i, i < ts.length → (ts.getD i noNod).name.size ≤ maxLen ∧ (ts.getD i noNod).other.size ≤ maxLen) (w : World) (hA : NodAt w g ts) :
    Calls Tryz.prog 33 #[.slice a ts.length cap] w fun e w' => ∃ v, e = .returned v ∧ ownBnd w' w.heap.size v (sitesB ts) ∧ Below w.heap.size w w' := by
  have HA : Hid (NodAt w g ts) := hA
  have HT : Hid (∀ i, i < ts.length → (ts.getD i noNod).name.size ≤ maxLen ∧ (ts.getD i noNod).other.size ≤ maxLen) := hst
  clear hA hst
  by_cases hok : nodesB ts = true
  · have HB : Hid (sitesB ts = siteF ts ts.length) := by show sitesB ts = _; rw [sitesB, if_pos hok]
    have HO : Hid (nodesB ts = true) := hok
    obtain ⟨hl1, hl2, _⟩ := nodesB_starts hok
    clear hok
    obtain rfl := hne (by omega)
    obtain ⟨i0, hi, hz0, hz1, hz2⟩ := info_parts info_bnd
    go_enter Tryz.func33, Tryz.ntmps33
    go_wp2_with fail
    refine (impl_nodes _ g cap ts (fun _ => rfl) hl HT.out w HA.out).mono ?_
    rintro e w1 ⟨rfl, hb1⟩
    rw [HO.out]
    go_wp2
    go_loopw [3, 12] (fun out i wr => ∃ k : Nat, k ≤ ts.length ∧ i = .int .i64 k ∧ Hid (ownBnd wr w.heap.size out (siteF ts k)) ∧ Below w.heap.size w wr) (fun _ i _ => ts.length - (intOf i).toNat)
    case atStart => exact ⟨0, by omega, rfl, ⟨rfl, Or.inl ⟨rfl, rfl⟩⟩, hb1⟩
    case round =>
      obtain ⟨k, hk, rfl, HW, hbel⟩ := hrel
      have hsz := hbel.size
      by_cases hin : k < ts.length
      · have e1 : (k : Int) < ts.length := by omega
        have t := (HA.out.below hbel (fun h => HA.out.lt h)) k hin
        have HN : Hid (siteF ts (k + 1) = siteF ts k ++ siteL k (rolK (ts.getD k noNod).kind)) := rfl
        have HLK : Hid ((siteF ts k).length ≤ 2 * k) := siteF_length ts k
        obtain ⟨⟨x0, x1, x2, x3, x4, x5, x6⟩, hx⟩ : ∃ y, ts.getD k noNod = y := ⟨_, rfl⟩
        rw [hx] at t HN
        generalize siteF ts k = L at *
        have q0 : wr.cell? ⟨g, k * 7, none⟩ = some (.int .i64 x0) := t.c0
        have q1 : wr.cell? ⟨g, k * 7 + 1, none⟩ = some (.int .i64 x1) := t.c1
        have q2 : wr.cell? ⟨g, k * 7 + 2, none⟩ = some (.int .i64 x2) := t.c2
        have q3 : wr.cell? ⟨g, k * 7 + 3, none⟩ = some (.int .i64 x3) := t.c3
        have q4 : wr.cell? ⟨g, k * 7 + 4, none⟩ = some (.int .i64 x4) := t.c4
        have q5 : wr.cell? ⟨g, k * 7 + 5, none⟩ = some (.string x5) := t.c5
        have q6 : wr.cell? ⟨g, k * 7 + 6, none⟩ = some (.string x6) := t.c6
        clear t hx
        go_wp2_with fail
        refine (impl_roles x0 _).mono ?_
        rintro e w2 ⟨rfl, rfl⟩
        have hro := rolK_le x0
        clear q0 q1 q2 q3 q4 q5 q6
        have hbal : Below w.heap.size w (wr.alloc (.cells #[.int .i64 x0, .int .i64 x1, .int .i64 x2, .int .i64 x3, .int .i64 x4, .string x5, .string x6] 38)) := hbel.alloc (by omega) _
        have HW2 : Hid (ownBnd (wr.alloc (.cells #[.int .i64 x0, .int .i64 x1, .int .i64 x2, .int .i64 x3, .int .i64 x4, .string x5, .string x6] 38)) w.heap.size u3 L) := HW.out.alloc _
        generalize wr.alloc (.cells #[.int .i64 x0, .int .i64 x1, .int .i64 x2, .int .i64 x3, .int .i64 x4, .string x5, .string x6] 38) = wa at *
        generalize rolK x0 = ro at *
        clear HW hbel
        go_wp2
        go_loopw [3, 20] (fun out r wq => ∃ q : Nat, q ≤ ro ∧ r = .int .i64 q ∧ Hid (ownBnd wq w.heap.size out (L ++ siteL k q)) ∧ Below w.heap.size w wq) (fun _ r _ => ro - (intOf r).toNat)
        case atStart => exact ⟨0, by omega, rfl, by show ownBnd wa w.heap.size u3 (L ++ []); rw [List.append_nil]; exact HW2.out, hbal⟩
        case round =>
          obtain ⟨q, hq, rfl, HQ, hbq⟩ := hrel
          clear HW2 hbal
          have hsq := hbq.size
          have HLQ : Hid ((L ++ siteL k q).length ≤ 2 * k + 2) := by
            show (L ++ siteL k q).length ≤ _
            rw [List.length_append, siteL_length]
            have := HLK.out
            omega
          by_cases hqi : q < ro
          · have e2 : (q : Int) < ro := by omega
            have HNX : Hid (L ++ siteL k (q + 1) = (L ++ siteL k q) ++ [⟨k, q⟩]) := by show L ++ siteL k (q + 1) = _; rw [siteL_one, List.append_assoc]
            generalize L ++ siteL k q = M at *
            go_wp2_with (at_builtin; refine wpList_append_own _ rfl _ _ 27 rfl w.heap.size 32 i0 _ 2 16 Tryz.underlying27 hi hz0 hz1 hz2 rfl (by decide) _ _ _ rfl (HQ.out.alloc _) ⟨wr.heap.size, 0, none⟩ 1 1 (bndCells ⟨k, q⟩) rfl rfl ?a0 ?b0 ?c0 ?d0 ?e0 ?_)
            case a0 => exact bnd_new rfl _ _ _
            case b0 => exact bnd_one _
            case c0 => have := HLQ.out; unfold maxLen; omega
            case d0 => have := HLQ.out; omega
            case e0 => simp; omega
            intro v' W3 hown' hgrow _
            have HM : Hid (ownBnd W3 w.heap.size v' (L ++ siteL k (q + 1))) := by
              show ownBnd W3 w.heap.size v' (L ++ siteL k (q + 1))
              rw [HNX.out]
              exact ownBnd_next ⟨k, q⟩ hown' rfl rfl
            have hB3 : Below w.heap.size w W3 := (hbq.alloc (by omega) _).grown hgrow (by simp; omega) (fun q hq => (HQ.out.lt q hq).1)
            clear hown' hgrow HQ hbq
            go_wp2
            go_roundw
            case rel => exact ⟨q + 1, by omega, by go_num, HM, hB3⟩
            case measure => simp [intOf]; omega
          · obtain rfl : q = ro := by omega
            have HM : Hid (ownBnd wr w.heap.size u3 (siteF ts (k + 1))) := by
              show ownBnd wr w.heap.size u3 (siteF ts (k + 1))
              rw [HN.out]
              exact HQ.out
            clear HQ HN
            go_wp2
            go_roundw
            case rel => exact ⟨k + 1, by omega, by go_num, HM, hbq⟩
            case measure => simp [intOf]; omega
      · obtain rfl : k = ts.length := by omega
        go_wp2
        go_ret
        exact ⟨_, rfl, by rw [HB.out]; exact HW.out, hbel⟩
  · have HV : Hid (sitesB ts = []) := by show sitesB ts = []; rw [sitesB, if_neg hok]
    have HO : Hid (nodesB ts = false) := by show nodesB ts = false; simpa using hok
    clear hok
    go_enter Tryz.func33, Tryz.ntmps33
    go_wp2_with fail
    refine (impl_nodes _ g cap ts hne hl HT.out w HA.out).mono ?_
    rintro e w1 ⟨rfl, hb1⟩
    rw [HO.out]
    go_wp2
    go_ret
    exact ⟨_, rfl, by rw [HV.out]; exact ⟨rfl, Or.inl ⟨rfl, rfl⟩⟩, hb1⟩

theorem bnd_new2 {w : World} {x0 x1 y0 y1 : Int} {e : TypeId} :
    ∀ j u, (bndCells ⟨x0, x1⟩ ++ bndCells ⟨y0, y1⟩)[j]? = some u → (w.alloc (.cells #[.int .i64 x0, .int .i64 x1, .int .i64 y0, .int .i64 y1] e)).cell? ((⟨w.heap.size, 0, none⟩ : Addr).add j) = some u := by
  intro j u hu
  have h := (MapKept.heap_alloc w (.cells #[.int .i64 x0, .int .i64 x1, .int .i64 y0, .int .i64 y1] e)).1
  have hj : j < 4 := by
    have := (List.getElem?_eq_some_iff.1 hu).1
    simpa [bndCells] using this
  rw [show (⟨w.heap.size, 0, none⟩ : Addr).add j = ⟨w.heap.size, j, none⟩ by simp [Addr.add]; omega, cell_of_row _ _ _ _ _ _ h, ← hu]
  rcases (by omega : j = 0 ∨ j = 1 ∨ j = 2 ∨ j = 3) with rfl | rfl | rfl | rfl <;> rfl

theorem ownBnd_two {w : World} {B : Nat} {v : Value} {ts : List Bnd} {m : Nat} {xs : List Value} (s t : Bnd) (h : w.ownsRow B 32 2 v m xs) (hn : m = ts.length + 2) (hx : xs = ts.flatMap bndCells ++ (bndCells s ++ bndCells t)) : ownBnd w B v (ts ++ [s, t]) := by
  unfold ownBnd
  rw [hn, hx] at h
  have e1 : (ts ++ [s, t]).length = ts.length + 2 := by simp
  have e2 : (ts ++ [s, t]).flatMap bndCells = ts.flatMap bndCells ++ (bndCells s ++ bndCells t) := by simp
  rw [e1, e2]
  exact h

theorem rolK_no {k : Int} (h3 : ¬ k = 3) (h5 : ¬ k = 5) (h19 : ¬ k = 19) (h6 : ¬ k = 6) (h14 : ¬ k = 14) : rolK k = 0 := by
  unfold rolK nmN
  split
  · rfl
  · rename_i h1
    rw [if_neg (by omega), if_neg (by omega)]

set_option maxHeartbeats 2000000 in
set_option maxRecDepth 20000 in
theorem spec_sites (a : Option Addr) (g cap : Nat) (ts : List Nod) (hne : 0 < ts.length → a = some ⟨g, 0, none⟩) (hl : ts.length ≤ 1048576)
    (hst : ∀ i, i < ts.length → (ts.getD i noNod).name.size ≤ maxLen ∧ (ts.getD i noNod).other.size ≤ maxLen) (w : World) (hA : NodAt w g ts) :
    Calls Tryz.prog 10 #[.slice a ts.length cap] w fun e w' => ∃ v, e = .returned v ∧ ownBnd w' w.heap.size v (sitesB ts) ∧ Below w.heap.size w w' := by
  have HA : Hid (NodAt w g ts) := hA
  have HT : Hid (∀ i, i < ts.length → (ts.getD i noNod).name.size ≤ maxLen ∧ (ts.getD i noNod).other.size ≤ maxLen) := hst
  clear hA hst
  obtain ⟨i0, hi, hz0, hz1, hz2⟩ := info_parts info_bnd
  go_enter Tryz.func10, Tryz.ntmps10
  go_wp2
  go_loopw [3, 4] (fun out i wr => ∃ k : Nat, k ≤ ts.length ∧ i = .int .i64 k ∧ (0 < k → nodesB ts = true) ∧ Hid (ownBnd wr w.heap.size out (siteF ts k)) ∧ Below w.heap.size w wr) (fun _ i _ => ts.length - (intOf i).toNat)
  case atStart => exact ⟨0, by omega, rfl, fun h => absurd h (by omega), ownBnd_empty (Nat.le_refl _), (Below.refl _ w).alloc (Nat.le_refl _) _⟩
  case round =>
    obtain ⟨k, hk, rfl, hkb, HW, hbel⟩ := hrel
    have HKB : Hid (0 < k → nodesB ts = true) := hkb
    clear hkb
    have hsz := hbel.size
    by_cases hin : k < ts.length
    · have e1 : (k : Int) < ts.length := by omega
      obtain rfl := hne (by omega)
      go_wp2_with fail
      refine (spec_nodes _ g cap ts (fun _ => rfl) hl HT.out wr (HA.out.below hbel (fun h => HA.out.lt h))).mono ?_
      rintro e w1 ⟨rfl, hb1'⟩
      have hb1 : Below w.heap.size w w1 := hbel.trans (hb1'.mono (by omega))
      have HW1 : Hid (ownBnd w1 w.heap.size u3 (siteF ts k)) := ownBnd_kept HW.out hb1' (Nat.le_refl _)
      have hsz1 := hb1.size
      clear HW hbel hb1'
      cases hok : nodesB ts
      · have hk0 : k = 0 := by
          rcases Nat.eq_zero_or_pos k with h | h
          · exact h
          · have := HKB.out h; rw [hok] at this; cases this
        have HV : Hid (sitesB ts = siteF ts k) := by show sitesB ts = _; rw [sitesB, if_neg (by rw [hok]; exact Bool.false_ne_true), hk0]; rfl
        clear hok hk0
        go_wp2
        go_ret
        exact ⟨_, rfl, by rw [HV.out]; exact HW1.out, hb1⟩
      · have HOK : Hid (nodesB ts = true) := hok
        clear hok HKB
        obtain ⟨hl1, hl2, _⟩ := nodesB_starts HOK.out
        have t := (HA.out.below hb1 (fun h => HA.out.lt h)) k hin
        have HN : Hid (siteF ts (k + 1) = siteF ts k ++ siteL k (rolK (ts.getD k noNod).kind)) := rfl
        have HLK : Hid ((siteF ts k).length ≤ 2 * k) := siteF_length ts k
        obtain ⟨⟨x0, x1, x2, x3, x4, x5, x6⟩, hx⟩ : ∃ y, ts.getD k noNod = y := ⟨_, rfl⟩
        rw [hx] at t HN
        generalize siteF ts k = L at *
        have q0 : w1.cell? ⟨g, k * 7, none⟩ = some (.int .i64 x0) := t.c0
        clear t hx
        by_cases h3 : x0 = 3
        · subst h3
          have HNX : Hid (siteF ts (k + 1) = L ++ [⟨k, 0⟩]) := HN.out
          clear HN
          go_wp2_with (at_builtin; refine wpList_append_own _ rfl _ _ 27 rfl w.heap.size 32 i0 _ 2 16 Tryz.underlying27 hi hz0 hz1 hz2 rfl (by decide) _ _ _ rfl (HW1.out.alloc _) ⟨w1.heap.size, 0, none⟩ 1 1 (bndCells ⟨k, 0⟩) rfl rfl ?a0 ?b0 ?c0 ?d0 ?e0 ?_)
          case a0 => exact bnd_new rfl _ _ _
          case b0 => exact bnd_one _
          case c0 => have := HLK.out; unfold maxLen; omega
          case d0 => have := HLK.out; omega
          case e0 => simp; omega
          intro v' W3 hown' hgrow _
          have HM : Hid (ownBnd W3 w.heap.size v' (siteF ts (k + 1))) := by
            show ownBnd W3 w.heap.size v' (siteF ts (k + 1))
            rw [HNX.out]
            exact ownBnd_next ⟨k, 0⟩ hown' rfl rfl
          have hB3 : Below w.heap.size w W3 := (hb1.alloc (by omega) _).grown hgrow (by simp; omega) (fun q hq => (HW1.out.lt q hq).1)
          clear hown' hgrow HW1 hb1
          go_wp2
          go_roundw
          case rel => exact ⟨k + 1, by omega, by go_num, fun _ => HOK.out, HM, hB3⟩
          case measure => simp [intOf]; omega
        by_cases h5 : x0 = 5
        · subst h5
          have HNX : Hid (siteF ts (k + 1) = L ++ [⟨k, 0⟩]) := HN.out
          clear HN
          go_wp2_with (at_builtin; refine wpList_append_own _ rfl _ _ 27 rfl w.heap.size 32 i0 _ 2 16 Tryz.underlying27 hi hz0 hz1 hz2 rfl (by decide) _ _ _ rfl (HW1.out.alloc _) ⟨w1.heap.size, 0, none⟩ 1 1 (bndCells ⟨k, 0⟩) rfl rfl ?a1 ?b1 ?c1 ?d1 ?e1 ?_)
          case a1 => exact bnd_new rfl _ _ _
          case b1 => exact bnd_one _
          case c1 => have := HLK.out; unfold maxLen; omega
          case d1 => have := HLK.out; omega
          case e1 => simp; omega
          intro v' W3 hown' hgrow _
          have HM : Hid (ownBnd W3 w.heap.size v' (siteF ts (k + 1))) := by
            show ownBnd W3 w.heap.size v' (siteF ts (k + 1))
            rw [HNX.out]
            exact ownBnd_next ⟨k, 0⟩ hown' rfl rfl
          have hB3 : Below w.heap.size w W3 := (hb1.alloc (by omega) _).grown hgrow (by simp; omega) (fun q hq => (HW1.out.lt q hq).1)
          clear hown' hgrow HW1 hb1
          go_wp2
          go_roundw
          case rel => exact ⟨k + 1, by omega, by go_num, fun _ => HOK.out, HM, hB3⟩
          case measure => simp [intOf]; omega
        by_cases h19 : x0 = 19
        · subst h19
          have HNX : Hid (siteF ts (k + 1) = L ++ [⟨k, 0⟩]) := HN.out
          clear HN
          go_wp2_with (at_builtin; refine wpList_append_own _ rfl _ _ 27 rfl w.heap.size 32 i0 _ 2 16 Tryz.underlying27 hi hz0 hz1 hz2 rfl (by decide) _ _ _ rfl (HW1.out.alloc _) ⟨w1.heap.size, 0, none⟩ 1 1 (bndCells ⟨k, 0⟩) rfl rfl ?a2 ?b2 ?c2 ?d2 ?e2 ?_)
          case a2 => exact bnd_new rfl _ _ _
          case b2 => exact bnd_one _
          case c2 => have := HLK.out; unfold maxLen; omega
          case d2 => have := HLK.out; omega
          case e2 => simp; omega
          intro v' W3 hown' hgrow _
          have HM : Hid (ownBnd W3 w.heap.size v' (siteF ts (k + 1))) := by
            show ownBnd W3 w.heap.size v' (siteF ts (k + 1))
            rw [HNX.out]
            exact ownBnd_next ⟨k, 0⟩ hown' rfl rfl
          have hB3 : Below w.heap.size w W3 := (hb1.alloc (by omega) _).grown hgrow (by simp; omega) (fun q hq => (HW1.out.lt q hq).1)
          clear hown' hgrow HW1 hb1
          go_wp2
          go_roundw
          case rel => exact ⟨k + 1, by omega, by go_num, fun _ => HOK.out, HM, hB3⟩
          case measure => simp [intOf]; omega
        by_cases h6 : x0 = 6
        · subst h6
          have HNX : Hid (siteF ts (k + 1) = L ++ [⟨k, 0⟩, ⟨k, 1⟩]) := HN.out
          clear HN
          go_wp2_with (at_builtin; refine wpList_append_own _ rfl _ _ 27 rfl w.heap.size 32 i0 _ 2 16 Tryz.underlying27 hi hz0 hz1 hz2 rfl (by decide) _ _ _ rfl (HW1.out.alloc _) ⟨w1.heap.size, 0, none⟩ 2 2 (bndCells ⟨k, 0⟩ ++ bndCells ⟨k, 1⟩) rfl rfl ?a3 ?b3 ?c3 ?d3 ?e3 ?_)
          case a3 => exact bnd_new2
          case b3 => intro u hu; rcases List.mem_append.1 hu with h | h <;> exact bnd_one _ _ h
          case c3 => have := HLK.out; unfold maxLen; omega
          case d3 => have := HLK.out; omega
          case e3 => simp; omega
          intro v' W3 hown' hgrow _
          have HM : Hid (ownBnd W3 w.heap.size v' (siteF ts (k + 1))) := by
            show ownBnd W3 w.heap.size v' (siteF ts (k + 1))
            rw [HNX.out]
            exact ownBnd_two ⟨k, 0⟩ ⟨k, 1⟩ hown' rfl rfl
          have hB3 : Below w.heap.size w W3 := (hb1.alloc (by omega) _).grown hgrow (by simp; omega) (fun q hq => (HW1.out.lt q hq).1)
          clear hown' hgrow HW1 hb1
          go_wp2
          go_roundw
          case rel => exact ⟨k + 1, by omega, by go_num, fun _ => HOK.out, HM, hB3⟩
          case measure => simp [intOf]; omega
        by_cases h14 : x0 = 14
        · subst h14
          have HNX : Hid (siteF ts (k + 1) = L ++ [⟨k, 0⟩, ⟨k, 1⟩]) := HN.out
          clear HN
          go_wp2_with (at_builtin; refine wpList_append_own _ rfl _ _ 27 rfl w.heap.size 32 i0 _ 2 16 Tryz.underlying27 hi hz0 hz1 hz2 rfl (by decide) _ _ _ rfl (HW1.out.alloc _) ⟨w1.heap.size, 0, none⟩ 2 2 (bndCells ⟨k, 0⟩ ++ bndCells ⟨k, 1⟩) rfl rfl ?a4 ?b4 ?c4 ?d4 ?e4 ?_)
          case a4 => exact bnd_new2
          case b4 => intro u hu; rcases List.mem_append.1 hu with h | h <;> exact bnd_one _ _ h
          case c4 => have := HLK.out; unfold maxLen; omega
          case d4 => have := HLK.out; omega
          case e4 => simp; omega
          intro v' W3 hown' hgrow _
          have HM : Hid (ownBnd W3 w.heap.size v' (siteF ts (k + 1))) := by
            show ownBnd W3 w.heap.size v' (siteF ts (k + 1))
            rw [HNX.out]
            exact ownBnd_two ⟨k, 0⟩ ⟨k, 1⟩ hown' rfl rfl
          have hB3 : Below w.heap.size w W3 := (hb1.alloc (by omega) _).grown hgrow (by simp; omega) (fun q hq => (HW1.out.lt q hq).1)
          clear hown' hgrow HW1 hb1
          go_wp2
          go_roundw
          case rel => exact ⟨k + 1, by omega, by go_num, fun _ => HOK.out, HM, hB3⟩
          case measure => simp [intOf]; omega
        have HNX : Hid (siteF ts (k + 1) = L) := by
          show siteF ts (k + 1) = L
          rw [HN.out, rolK_no h3 h5 h19 h6 h14]
          exact List.append_nil _
        have HM : Hid (ownBnd w1 w.heap.size u3 (siteF ts (k + 1))) := by
          show ownBnd w1 w.heap.size u3 (siteF ts (k + 1))
          rw [HNX.out]
          exact HW1.out
        clear HN HNX HW1
        go_wp2
        go_roundw
        case rel => exact ⟨k + 1, by omega, by go_num, fun _ => HOK.out, HM, hb1⟩
        case measure => simp [intOf]; omega
    · obtain rfl : k = ts.length := by omega
      have HV : Hid (sitesB ts = siteF ts ts.length) := by
        show sitesB ts = _
        unfold sitesB
        split
        · rfl
        · rename_i hno
          have h0 : ts.length = 0 := by
            rcases Nat.eq_zero_or_pos ts.length with h | h
            · exact h
            · exact absurd (HKB.out h) hno
          rw [h0]; rfl
      clear HKB
      go_wp2
      go_ret
      exact ⟨_, rfl, by rw [HV.out]; exact HW.out, hbel⟩
end

section
open Go.ChangeShapes Go.WideShapes Go.ChangeAt Go.RowKit Go.Sort

/-- The names that are bound over a node, so many parents up. -/
def visF (ts : List Nod) : Nat → Int → List (List UInt8)
  | 0, _ => []
  | f + 1, kid => if parP ts kid < 0 then [] else (bndL (ts.getD (parP ts kid).toNat noNod) kid).map (fun x => x.1.data.toList) ++ visF ts f (parP ts kid)

/-- What Visible answers. -/
def visB (ts : List Nod) (i : Int) : List (List UInt8) := if nodesB ts = true ∧ 0 ≤ i ∧ i < ts.length then insL [] (visF ts ts.length i) else []

theorem visF_step (ts : List Nod) (f : Nat) (kid : Int) : visF ts (f + 1) kid = if parP ts kid < 0 then [] else (bndL (ts.getD (parP ts kid).toNat noNod) kid).map (fun x => x.1.data.toList) ++ visF ts f (parP ts kid) := rfl

theorem look_mem (s : ByteArray) : ∀ (L : List (ByteArray × Int)), (∃ r, lookR s L = some r) ↔ s.data.toList ∈ L.map (fun x => x.1.data.toList)
  | [] => by simp [lookR]
  | (n, r) :: L => by
    rw [lookR, List.map_cons, List.mem_cons, ← look_mem s L]
    by_cases h : n = s
    · rw [if_pos h, h]
      simp
    · rw [if_neg h]
      constructor
      · exact fun q => Or.inr q
      · rintro (q | q)
        · exact absurd (data_ext q.symm) h
        · exact q

theorem scF_vis (ts : List Nod) (s : ByteArray) : ∀ (f : Nat) (kid : Int), 0 ≤ (scF ts s f kid).1 ↔ s.data.toList ∈ visF ts f kid
  | 0, kid => by simp [scF, visF]
  | f + 1, kid => by
    rw [scF_step, visF_step]
    by_cases hp : parP ts kid < 0
    · rw [if_pos hp, if_pos hp]
      simp
    · rw [if_neg hp, if_neg hp, List.mem_append, ← look_mem]
      cases hl : lookR s (bndL (ts.getD (parP ts kid).toNat noNod) kid) with
      | some r =>
        simp only
        exact ⟨fun _ => Or.inl ⟨r, rfl⟩, fun _ => by omega⟩
      | none =>
        simp only
        rw [scF_vis ts s f]
        exact ⟨fun h => Or.inr h, fun h => by rcases h with ⟨r, hr⟩ | h; cases hr; exact h⟩

theorem bnd_site (t : Nod) (c : Int) (q : Nat) : ∀ x ∈ bndL t c, ∃ r : Nat, r < rolK t.kind ∧ roleS t r = x.1 := by
  intro x hx
  unfold bndL at hx
  split at hx
  · rename_i h
    rw [List.mem_singleton] at hx
    exact ⟨0, by rw [h]; decide, by rw [hx]; rfl⟩
  · split at hx
    · rename_i h
      split at hx
      · rw [List.mem_singleton] at hx
        exact ⟨0, by rcases h with h | h <;> rw [h] <;> decide, by rw [hx]; rfl⟩
      · simp at hx
    · split at hx
      · rename_i h
        have hk : rolK t.kind = 2 := by rw [h]; decide
        split at hx
        · simp only [List.mem_cons, List.not_mem_nil, or_false] at hx
          rcases hx with hx | hx
          · exact ⟨1, by omega, by rw [hx]; rfl⟩
          · exact ⟨0, by omega, by rw [hx]; rfl⟩
        · rw [List.mem_singleton] at hx
          exact ⟨0, by omega, by rw [hx]; rfl⟩
      · split at hx
        · rename_i h
          have hk : rolK t.kind = 2 := by rw [h]; decide
          split at hx
          · simp only [List.mem_cons, List.not_mem_nil, or_false] at hx
            rcases hx with hx | hx
            · exact ⟨1, by omega, by rw [hx]; rfl⟩
            · exact ⟨0, by omega, by rw [hx]; rfl⟩
          · simp at hx
        · simp at hx

theorem siteL_mem (i : Nat) : ∀ (n r : Nat), r < n → (⟨i, r⟩ : Bnd) ∈ siteL i n
  | 0, r, h => by omega
  | n + 1, r, h => by
    rw [siteL, List.mem_append]
    by_cases e : r = n
    · subst e; exact Or.inr (by simp)
    · exact Or.inl (siteL_mem i n r (by omega))

theorem siteL_from (i : Nat) : ∀ (n : Nat) (b : Bnd), b ∈ siteL i n → ∃ r : Nat, b = ⟨i, r⟩ ∧ r < n
  | 0, b, h => by simp [siteL] at h
  | n + 1, b, h => by
    rw [siteL, List.mem_append] at h
    rcases h with h | h
    · obtain ⟨r, e, hr⟩ := siteL_from i n b h
      exact ⟨r, e, by omega⟩
    · rw [List.mem_singleton] at h
      exact ⟨n, h, by omega⟩

theorem siteF_mem (ts : List Nod) (p r : Nat) (hr : r < rolK (ts.getD p noNod).kind) : ∀ n, p < n → (⟨p, r⟩ : Bnd) ∈ siteF ts n
  | 0, h => by omega
  | n + 1, h => by
    rw [siteF, List.mem_append]
    by_cases e : p = n
    · subst e; exact Or.inr (siteL_mem p _ r hr)
    · exact Or.inl (siteF_mem ts p r hr n (by omega))

theorem siteF_from (ts : List Nod) : ∀ (n : Nat) (b : Bnd), b ∈ siteF ts n → ∃ p r : Nat, b = ⟨p, r⟩ ∧ p < n ∧ r ≤ 1
  | 0, b, h => by simp [siteF] at h
  | n + 1, b, h => by
    rw [siteF, List.mem_append] at h
    rcases h with h | h
    · obtain ⟨p, r, e, hp, hr⟩ := siteF_from ts n b h
      exact ⟨p, r, e, by omega, hr⟩
    · obtain ⟨r, e, hr⟩ := siteL_from n _ b h
      have := rolK_le (ts.getD n noNod).kind
      exact ⟨n, r, e, by omega, by omega⟩

/-- The name of a site. -/
def siteS (ts : List Nod) (b : Bnd) : ByteArray := roleS (ts.getD b.node.toNat noNod) b.role

theorem vis_site {ts : List Nod} (hp : ∀ (m : Int), parP ts m = -1 ∨ ∃ p c : Nat, parP ts m = p ∧ p < ts.length ∧ m = c ∧ c < p ∧ hasI (kidL (ts.getD p noNod)) m = true) (x : List UInt8) : ∀ (f : Nat) (kid : Int), x ∈ visF ts f kid → ∃ b ∈ siteF ts ts.length, (siteS ts b).data.toList = x
  | 0, kid, h => by simp [visF] at h
  | f + 1, kid, h => by
    rw [visF_step] at h
    rcases hp kid with e | ⟨p, c, e, h1, _, _, _⟩
    · rw [if_pos (by omega)] at h
      simp at h
    · rw [e, if_neg (by omega), List.mem_append] at h
      rcases h with h | h
      · obtain ⟨y, hy, rfl⟩ := List.mem_map.1 h
        obtain ⟨r, hr, hs⟩ := bnd_site _ _ 0 y hy
        exact ⟨⟨p, r⟩, siteF_mem ts p r hr _ h1, by rw [← hs]; rfl⟩
      · exact vis_site hp x f p h

/-- The names of the first k sites that are bound at node i. -/
def visX (ts : List Nod) (i : Int) (bl : List Bnd) : Nat → List (List UInt8)
  | 0 => []
  | k + 1 => visX ts i bl k ++ (if 0 ≤ (scB ts i (siteS ts (bl.getD k noBnd))).1 then [(siteS ts (bl.getD k noBnd)).data.toList] else [])

theorem visX_mem (ts : List Nod) (i : Int) (bl : List Bnd) (x : List UInt8) : ∀ k, x ∈ visX ts i bl k ↔ ∃ j, j < k ∧ 0 ≤ (scB ts i (siteS ts (bl.getD j noBnd))).1 ∧ (siteS ts (bl.getD j noBnd)).data.toList = x
  | 0 => by simp [visX]
  | k + 1 => by
    rw [visX, List.mem_append, visX_mem ts i bl x k]
    constructor
    · rintro (⟨j, h1, h2, h3⟩ | h)
      · exact ⟨j, by omega, h2, h3⟩
      · split at h
        · rename_i hc
          rw [List.mem_singleton] at h
          exact ⟨k, by omega, hc, h.symm⟩
        · simp at h
    · rintro ⟨j, h1, h2, h3⟩
      by_cases e : j = k
      · subst e
        rw [if_pos h2]
        exact Or.inr (by rw [h3]; simp)
      · exact Or.inl ⟨j, by omega, h2, h3⟩

theorem visX_length (ts : List Nod) (i : Int) (bl : List Bnd) : ∀ k, (visX ts i bl k).length ≤ k
  | 0 => Nat.le_refl _
  | k + 1 => by
    rw [visX, List.length_append]
    have := visX_length ts i bl k
    split <;> simp <;> omega

/-- Asked of all sites, or gathered from the parents: the same names. -/
theorem vis_same {ts : List Nod} (h : nodesB ts = true) (i : Int) : risL (visX ts i (siteF ts ts.length) (siteF ts ts.length).length) = insL [] (visF ts ts.length i) := by
  obtain ⟨_, _, _, hp, _⟩ := right_par h
  refine ris_ins _ _ fun x => ?_
  rw [visX_mem]
  constructor
  · rintro ⟨j, _, h2, rfl⟩
    exact (scF_vis ts _ ts.length i).1 h2
  · intro hx
    obtain ⟨b, hb, rfl⟩ := vis_site hp x _ _ hx
    obtain ⟨j, hj, e⟩ := List.getElem_of_mem hb
    have e2 : (siteF ts ts.length).getD j noBnd = b := by simp [List.getD, hj, e]
    exact ⟨j, hj, by rw [e2]; exact (scF_vis ts _ ts.length i).2 hx, by rw [e2]⟩

theorem role_small {ts : List Nod} (h : nodesB ts = true) (b : Bnd) (hb : b ∈ siteF ts ts.length) : (siteS ts b).size ≤ 8 := by
  obtain ⟨p, r, rfl, hp, hr⟩ := siteF_from ts _ b hb
  have := name_small h p hp
  unfold siteS roleS
  simp only
  rw [show ((p : Nat) : Int).toNat = p by omega]
  split
  · exact this.2
  · exact this.1

theorem visX_small {ts : List Nod} (h : nodesB ts = true) (i : Int) : ∀ x ∈ visX ts i (siteF ts ts.length) (siteF ts ts.length).length, x.length ≤ 1000000 := fun x hx => by
  obtain ⟨j, hj, _, rfl⟩ := (visX_mem ts i _ x _).1 hx
  have hm : (siteF ts ts.length).getD j noBnd ∈ siteF ts ts.length := by simp [List.getD, hj]
  have := role_small h _ hm
  rw [Array.length_toList]
  have e : (siteS ts ((siteF ts ts.length).getD j noBnd)).size = (siteS ts ((siteF ts ts.length).getD j noBnd)).data.size := rfl
  omega

theorem visF_length (ts : List Nod) : ∀ (f : Nat) (kid : Int), (visF ts f kid).length ≤ 2 * f
  | 0, kid => by simp [visF]
  | f + 1, kid => by
    rw [visF_step]
    split
    · simp
    · have := visF_length ts f (parP ts kid)
      have := bndL_len (ts.getD (parP ts kid).toNat noNod) kid
      simp only [List.length_append, List.length_map]
      omega

theorem visB_length (ts : List Nod) (i : Int) : (visB ts i).length ≤ 300 := by
  unfold visB
  split
  · rename_i h
    obtain ⟨h1, h2, _⟩ := nodesB_starts h.1
    have a1 := insL_length (visF ts ts.length i) []
    have a2 := visF_length ts ts.length i
    simp only [List.length_nil] at a1
    omega
  · simp

theorem visF_more {ts : List Nod} (hp : ∀ (m : Int), parP ts m = -1 ∨ ∃ p c : Nat, parP ts m = p ∧ p < ts.length ∧ m = c ∧ c < p ∧ hasI (kidL (ts.getD p noNod)) m = true) : ∀ (f : Nat) (kid : Nat), ts.length ≤ kid + f → visF ts (f + 1) kid = visF ts f kid
  | 0, kid, h => by
    rw [visF_step]
    rcases hp kid with e | ⟨p, c, e, h1, h2, h3, _⟩
    · rw [if_pos (by omega)]; rfl
    · omega
  | f + 1, kid, h => by
    rw [visF_step ts (f + 1) kid, visF_step ts f kid]
    rcases hp kid with e | ⟨p, c, e, h1, h2, h3, _⟩
    · rw [if_pos (by omega), if_pos (by omega)]
    · rw [e, if_neg (by omega), if_neg (by omega), visF_more hp f p (by omega)]
end

section
open Go.ChangeShapes Go.WideShapes Go.ChangeAt Go.RowKit Go.Sort

/-- Are two binders the same? -/
def sameB (x : Bnd) (n r : Int) : Bool := x.node == n && x.role == r

/-- The uses among the first k nodes. -/
def useF (ts : List Nod) (n r : Int) : Nat → List Int
  | 0 => []
  | k + 1 => useF ts n r k ++ (if sameB (binN ts k) n r = true then [(k : Int)] else [])

def usesB (ts : List Nod) (n r : Int) : List Int := if nodesB ts = true ∧ 0 ≤ n then useF ts n r ts.length else []

theorem useF_length (ts : List Nod) (n r : Int) : ∀ k, (useF ts n r k).length ≤ k
  | 0 => Nat.le_refl _
  | k + 1 => by
    rw [useF, List.length_append]
    have := useF_length ts n r k
    split <;> simp <;> omega

theorem usesB_length (ts : List Nod) (n r : Int) : (usesB ts n r).length ≤ 150 := by
  unfold usesB
  split
  · rename_i h
    obtain ⟨h1, h2, _⟩ := nodesB_starts h.1
    have := useF_length ts n r ts.length
    omega
  · simp

theorem ownI_base {w : World} {B B' : Nat} {v : Value} {st : List Int} (h : ownI w B v st) (hB : B' ≤ B) : ownI w B' v st := by
  rcases h.2 with ⟨rfl, h0⟩ | ⟨g, cap, cur, rfl, hb, hg, hn, hm, hs, ht⟩
  · exact ⟨h.1, Or.inl ⟨rfl, h0⟩⟩
  · exact ⟨h.1, Or.inr ⟨g, cap, cur, rfl, by omega, hg, hn, hm, hs, ht⟩⟩

theorem bnd_eql (x0 x1 y0 y1 : Int) (w : World) : (binOp .eql 32 (.agg #[.int .i64 x0, .int .i64 x1]) (.agg #[.int .i64 y0, .int .i64 y1])).run Tryz.prog w = .ok (.bool (sameB ⟨x0, x1⟩ y0 y1)) w := by
  have hu : Tryz.prog.underlying 32 = some (.struct (Tryz.prog.fieldsOf 32)) := by kernel_rfl
  rw [run_eql_struct, run_equalIn_agg _ _ _ _ _ hu (by kernel_rfl)]
  simp only [Program.fieldsOf, Tryz.underlying32, sameB]
  simp [go_sem, Op.eqFields, Tryz.underlying3]
  repeat' split
  all_goals simp [*]

set_option maxHeartbeats 8000000 in
set_option maxRecDepth 100000 in
theorem spec_uses (a : Option Addr) (g cap : Nat) (ts : List Nod) (n r : Int) (hne : 0 < ts.length → a = some ⟨g, 0, none⟩) (hl : ts.length ≤ 1048576)
    (hst : ∀ i, i < ts.length → (ts.getD i noNod).name.size ≤ maxLen ∧ (ts.getD i noNod).other.size ≤ maxLen) (w : World) (hA : NodAt w g ts) :
    Calls Tryz.prog 52 #[.slice a ts.length cap, .agg #[.int .i64 n, .int .i64 r]] w fun e w' => ∃ v, e = .returned v ∧ ownI w' w.heap.size v (usesB ts n r) ∧ Below w.heap.size w w' := by
  have HA : Hid (NodAt w g ts) := hA
  have HT : Hid (∀ i, i < ts.length → (ts.getD i noNod).name.size ≤ maxLen ∧ (ts.getD i noNod).other.size ≤ maxLen) := hst
  obtain ⟨wa, hwa⟩ : ∃ wa, w.alloc (.cells #[.int .i64 n, .int .i64 r] 32) = wa := ⟨_, rfl⟩
  have HWA : Hid (w.alloc (.cells #[.int .i64 n, .int .i64 r] 32) = wa) := hwa
  have RA : Hid (wa.heap[w.heap.size]? = some (.cells #[.int .i64 n, .int .i64 r] 32 (0, 0))) := by show wa.heap[w.heap.size]? = _; rw [← hwa]; exact (MapKept.heap_alloc w _).1
  have BA : Hid (Below w.heap.size w wa) := by show Below w.heap.size w wa; rw [← hwa]; exact (Below.refl _ w).alloc (Nat.le_refl _) _
  have sa : wa.heap.size = w.heap.size + 1 := by rw [← hwa]; simp
  have H0 : Hid (ownI (wa.alloc (.cells #[] 3)) wa.heap.size (.slice (some ⟨w.heap.size + 1, 0, none⟩) 0 0) []) := by
    show ownI _ _ _ _
    rw [← sa]
    exact ownI_empty (Nat.le_refl _)
  have HSA : Hid (wa.heap.size = w.heap.size + 1) := sa
  have HNO : Hid (∀ wr, Below wa.heap.size wa wr → wr.heap[w.heap.size]? = some (.cells #[.int .i64 n, .int .i64 r] 32 (0, 0)) ∧ Below w.heap.size w wr) := fun wr hb => ⟨(hb.block _ (by omega)).trans RA.out, BA.out.trans (hb.mono (by omega))⟩
  clear hwa hA hst RA sa
  obtain ⟨i0, hi, hz0, hz1, hz2⟩ := info_parts info_int
  go_enter Tryz.func52, Tryz.ntmps52
  go_wp2
  rw [HWA.out]
  go_loopw [5, 6] (fun out iv wr => ∃ k : Nat, k ≤ ts.length ∧ iv = .int .i64 k ∧ (0 < k → nodesB ts = true ∧ 0 ≤ n) ∧ Hid (ownI wr wa.heap.size out (useF ts n r k)) ∧ Below wa.heap.size wa wr) (fun _ iv _ => ts.length - (intOf iv).toNat)
  case atStart => exact ⟨0, by omega, rfl, fun h => absurd h (by omega), H0, (Below.refl _ wa).alloc (Nat.le_refl _) _⟩
  case round =>
    obtain ⟨k, hk, rfl, hkb, HO, hb⟩ := hrel
    have HKB : Hid (0 < k → nodesB ts = true ∧ 0 ≤ n) := hkb
    clear hkb
    have hs := hb.size
    by_cases hin : k < ts.length
    · have e1 : (k : Int) < ts.length := by omega
      obtain rfl := hne (by omega)
      have HBR : Hid (Below w.heap.size w wr) := (HNO.out wr hb).2
      go_wp2_with fail
      refine (spec_nodes _ g cap ts (fun _ => rfl) hl HT.out wr (HA.out.below HBR.out (fun h => HA.out.lt h))).mono ?_
      rintro e w1 ⟨rfl, b1⟩
      have hb1 : Below wa.heap.size wa w1 := hb.trans (b1.mono hs)
      have HO1 : Hid (ownI w1 wa.heap.size u5 (useF ts n r k)) := ownI_kept HO.out b1 (Nat.le_refl _)
      have hs1 := hb1.size
      obtain ⟨r1, B1⟩ := HNO.out w1 hb1
      obtain ⟨q0, q1, q2⟩ := row2_cells r1
      have HB1 : Hid (_) := B1
      clear HO hb b1 r1 B1 q2 HBR
      cases hok : nodesB ts
      · have hk0 : k = 0 := by
          rcases Nat.eq_zero_or_pos k with h | h
          · exact h
          · have := (HKB.out h).1; rw [hok] at this; cases this
        have HV : Hid (usesB ts n r = useF ts n r k) := by show usesB ts n r = _; rw [usesB, if_neg (by rw [hok]; simp), hk0]; rfl
        clear hok hk0 HKB
        go_wp2
        go_ret
        exact ⟨_, rfl, by rw [HV.out]; exact ownI_base HO1.out (by have := HSA.out; omega), HB1.out⟩
      · have HOK : Hid (nodesB ts = true) := hok
        clear hok
        by_cases hn : n < 0
        · have hk0 : k = 0 := by
            rcases Nat.eq_zero_or_pos k with h | h
            · exact h
            · have := (HKB.out h).2; omega
          have HV : Hid (usesB ts n r = useF ts n r k) := by show usesB ts n r = _; rw [usesB, if_neg (by omega), hk0]; rfl
          clear hk0 HKB
          go_wp2
          go_ret
          exact ⟨_, rfl, by rw [HV.out]; exact ownI_base HO1.out (by have := HSA.out; omega), HB1.out⟩
        · have hn0 : 0 ≤ n := by omega
          clear HKB
          obtain ⟨hl1, hl2, _⟩ := nodesB_starts HOK.out
          have t := (HA.out.below HB1.out (fun h => HA.out.lt h)) k hin
          have hul := useF_length ts n r k
          have HUN : Hid (useF ts n r (k + 1) = useF ts n r k ++ (if sameB (binN ts k) n r = true then [(k : Int)] else [])) := rfl
          have HBB : Hid (bindB ts k = binN ts k) := by
            show bindB ts k = _
            rw [bindB, if_pos ⟨HOK.out, by omega, e1⟩]
            rfl
          have HBN : Hid (¬ (ts.getD k noNod).kind = 1 → binN ts k = ⟨-1, -1⟩) := fun h => if_neg h
          obtain ⟨⟨x0, x1, x2, x3, x4, x5, x6⟩, hx⟩ : ∃ y, ts.getD k noNod = y := ⟨_, rfl⟩
          rw [hx] at t HBN
          have c0 : w1.cell? ⟨g, k * 7, none⟩ = some (.int .i64 x0) := t.c0
          clear t hx
          by_cases hk1 : x0 = 1
          · subst hk1
            have HCB : Hid (∀ w', Below w1.heap.size w1 w' → Calls Tryz.prog 76 #[.slice (some ⟨g, 0, none⟩) ts.length cap, .int .i64 k] w' fun e w'' => e = .returned (.agg #[.int .i64 (binN ts k).node, .int .i64 (binN ts k).role]) ∧ Below w'.heap.size w' w'') := fun w' hb' => by
              rw [← HBB.out]
              exact spec_binder _ g cap ts k (fun _ => rfl) hl HT.out w' (HA.out.below (HB1.out.trans (hb'.mono (by have := HSA.out; omega))) (fun h => HA.out.lt h))
            clear HBB HBN
            generalize binN ts k = y at *
            obtain ⟨y0, y1⟩ := y
            have cD : ∀ d os, Calls Tryz.prog 76 #[.slice (some ⟨g, 0, none⟩) ts.length cap, .int .i64 k] (grow (redrawn w1 d) os) fun e w'' => e = .returned (.agg #[.int .i64 y0, .int .i64 y1]) ∧ ∃ q : Regrown, w'' = grow (redrawn w1 q.d) q.os := fun d os => Calls.regrown_of (HCB.out _ (below_regrown w1 d os))
            have d0 := cell_regrown c0
            have d1 := cell_regrown q0
            have d2 := cell_regrown q1
            have heq := bnd_eql y0 y1 n r
            clear HCB
            by_cases hsame : sameB ⟨y0, y1⟩ n r = true
            · rw [hsame] at heq
              have HUX : Hid (useF ts n r (k + 1) = useF ts n r k ++ [(k : Int)]) := by show useF ts n r (k + 1) = _; rw [HUN.out, if_pos hsame]
              generalize useF ts n r k = U at *
              clear HUN
              go_wp2
              refine wp_region_quiet_below (by kernel_rfl) (by kernel_rfl) ?_
              repeat (go_big_quiet_step (exact cD _ _))
              refine wpQuiet_nil ?_
              intro _ hw'
              obtain ⟨⟨dq, osq⟩, hw''⟩ := hw'
              subst hw''
              have HBQ : Hid (Below wa.heap.size wa (grow (redrawn w1 dq) osq)) := hb1.trans ((below_regrown w1 dq osq).mono hs1)
              have HO2 : Hid (ownI (grow (redrawn w1 dq) osq) wa.heap.size u5 U) := ownI_kept HO1.out (below_regrown w1 dq osq) (Nat.le_refl _)
              have sq := HBQ.out.size
              clear cD d0 d1 d2 heq c0 q0 q1 HO1
              generalize grow (redrawn w1 dq) osq = w2 at *
              go_wp2_with (at_builtin; refine wpList_append_own _ rfl _ _ 57 rfl wa.heap.size 3 i0 _ 1 8 Tryz.underlying57 hi hz0 hz1 hz2 rfl (by decide) _ _ _ rfl (HO2.out.alloc _) ⟨w2.heap.size, 0, none⟩ 1 1 [.int .i64 k] rfl rfl ?a1 ?a2 ?a3 ?a4 ?a5 ?_)
              case a1 =>
                intro j u hj
                match j, hj with
                | 0, hj => simp at hj; subst hj; simp [Addr.add]
              case a2 => intro u hu; simp at hu; subst hu; rfl
              case a3 => unfold maxLen; omega
              case a4 => omega
              case a5 => simp; omega
              intro v' W3 hown' hgrow _
              have HM : Hid (ownI W3 wa.heap.size v' (useF ts n r (k + 1))) := by
                show ownI W3 wa.heap.size v' _
                rw [HUX.out]
                exact ownI_next _ hown' (by omega) rfl
              have HB3 : Hid (Below wa.heap.size wa W3) := (HBQ.out.alloc sq _).grown hgrow (by simp; omega) (fun q hq => (HO2.out.lt q hq).1)
              clear hown' hgrow HO2 HBQ
              go_wp2
              go_roundw
              case rel => exact ⟨k + 1, by omega, by go_num, fun _ => ⟨HOK.out, hn0⟩, HM, HB3.out⟩
              case measure => simp [intOf]; omega
            · have hsf : sameB ⟨y0, y1⟩ n r = false := by simpa using hsame
              rw [hsf] at heq
              have HUX : Hid (useF ts n r (k + 1) = useF ts n r k) := by show useF ts n r (k + 1) = _; rw [HUN.out, if_neg hsame, List.append_nil]
              clear HUN
              go_wp2
              refine wp_region_quiet_below (by kernel_rfl) (by kernel_rfl) ?_
              repeat (go_big_quiet_step (exact cD _ _))
              refine wpQuiet_nil ?_
              intro _ hw'
              obtain ⟨⟨dq, osq⟩, hw''⟩ := hw'
              subst hw''
              have HBQ : Hid (Below wa.heap.size wa (grow (redrawn w1 dq) osq)) := hb1.trans ((below_regrown w1 dq osq).mono hs1)
              have HO2 : Hid (ownI (grow (redrawn w1 dq) osq) wa.heap.size u5 (useF ts n r (k + 1))) := by
                show ownI _ _ _ _
                rw [HUX.out]
                exact ownI_kept HO1.out (below_regrown w1 dq osq) (Nat.le_refl _)
              clear cD d0 d1 d2 heq c0 q0 q1 HO1
              go_wp2
              go_roundw
              case rel => exact ⟨k + 1, by omega, by go_num, fun _ => ⟨HOK.out, hn0⟩, HO2, HBQ.out⟩
              case measure => simp [intOf]; omega
          · have n1 : (x0 == 1) = false := by simpa using hk1
            have HM : Hid (ownI w1 wa.heap.size u5 (useF ts n r (k + 1))) := by
              show ownI w1 wa.heap.size u5 _
              rw [HUN.out, HBN.out hk1, if_neg (by simp [sameB]; omega), List.append_nil]
              exact HO1.out
            clear HUN HBN HBB hk1
            go_wp2
            go_quiet (fail)
            go_wp2
            go_roundw
            case rel => exact ⟨k + 1, by omega, by go_num, fun _ => ⟨HOK.out, hn0⟩, HM.out, below_drew_n hb1 _⟩
            case measure => simp [intOf]; omega
    · obtain rfl : k = ts.length := by omega
      have HV : Hid (usesB ts n r = useF ts n r ts.length) := by
        show usesB ts n r = _
        unfold usesB
        split
        · rfl
        · rename_i hno
          have h0 : ts.length = 0 := by
            rcases Nat.eq_zero_or_pos ts.length with h | h
            · exact h
            · exact absurd (HKB.out h) hno
          rw [h0]; rfl
      have HBW : Hid (Below w.heap.size w wr) := (HNO.out wr hb).2
      clear HKB
      go_wp2
      go_ret
      exact ⟨_, rfl, by rw [HV.out]; exact ownI_base HO.out (by have := HSA.out; omega), HBW.out⟩
end
end Go.Proofs.YtjiggiglagmloaaGreat
