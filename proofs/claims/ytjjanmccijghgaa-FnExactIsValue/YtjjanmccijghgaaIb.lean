/-
  Nodes as they landed: the kids of a node, its number, its fields. Conditions: written at each theorem.
-/
import Derived.Test.YtjjanmccijghgaaIa
import Derived.Test.YtjjanmccijghgaaNi
namespace Go.Proofs.Ytjjanmccijghgaa
open Go.ChangeShapes Go.WideShapes Go.ChangeAt Go.RowKit
set_option linter.unusedVariables false

theorem impl_kidF (k a b c n : Int) (s o : ByteArray) (w : World) :
    Calls Try.prog 27 #[.agg #[.int .i64 k, .int .i64 a, .int .i64 b, .int .i64 c, .int .i64 n, .string s, .string o]] w fun e w' =>
      e = .returned (.agg #[.int .i64 a, .int .i64 b, .int .i64 c]) ∧ Below w.heap.size w w' ∧ w'.heap.size = w.heap.size + 2 := by
  go_enter Try.func27, Try.ntmps27
  go_wp2
  refine bodyPost_ret (v := .agg #[.int .i64 a, .int .i64 b, .int .i64 c]) (by simp [results, Try.results27, go_sem]) rfl ⟨rfl, ?_, ?_⟩
  · exact ((Below.refl _ w).alloc (Nat.le_refl _) _).alloc (by simp) _
  · simp

theorem impl_kids (k a b c n : Int) (s o : ByteArray) (w : World) :
    Calls Try.prog 32 #[.agg #[.int .i64 k, .int .i64 a, .int .i64 b, .int .i64 c, .int .i64 n, .string s, .string o]] w fun e w' =>
      e = .returned (.slice (some ⟨w.heap.size + 3, 0, none⟩) (arN k) 3) ∧ w'.heap[w.heap.size + 3]? = some (.cells #[.int .i64 a, .int .i64 b, .int .i64 c] 52 (0, 0)) ∧ Below w.heap.size w w' := by
  have har := arN_le k
  have har' : (arN k : Int) ≤ 3 := by omega
  have har0 : (0 : Int) ≤ (arN k : Int) := by omega
  go_enter Try.func32, Try.ntmps32
  go_wp2_with fail
  refine (impl_kidF k a b c n s o _).mono ?_
  rintro e w1 ⟨rfl, b1, s1⟩
  have q0 : w1.cell? ⟨w.heap.size, 0, none⟩ = some (.int .i64 k) := by
    rw [b1.cell (p := ⟨w.heap.size, 0, none⟩) (by simp)]
    simp
  go_wp2_with fail
  refine (impl_arity k _).mono ?_
  rintro e w2 ⟨rfl, rfl⟩
  have s1' : w1.heap.size = w.heap.size + 3 := by simpa using s1
  have HG : Hid ((w1.alloc (.cells #[.int .i64 a, .int .i64 b, .int .i64 c] 52)).heap[w.heap.size + 3]? = some (.cells #[.int .i64 a, .int .i64 b, .int .i64 c] 52 (0, 0))) := by
    have := (MapKept.heap_alloc w1 (.cells #[.int .i64 a, .int .i64 b, .int .i64 c] 52)).1
    rw [s1'] at this
    exact this
  have HB : Hid (Below w.heap.size w (w1.alloc (.cells #[.int .i64 a, .int .i64 b, .int .i64 c] 52))) := (((Below.refl _ w).alloc (Nat.le_refl _) _).trans (b1.mono (by simp))).alloc (by omega) _
  clear s1 b1
  go_wp2
  go_ret
  exact ⟨rfl, HG.out, HB.out⟩

/-- The number is one that the kind may have. -/
def numB (k n : Int) : Bool := decide (NumFits k n)

theorem impl_number (k a b c n : Int) (s o : ByteArray) (w : World) :
    Calls Try.prog 30 #[.agg #[.int .i64 k, .int .i64 a, .int .i64 b, .int .i64 c, .int .i64 n, .string s, .string o]] w fun e w' => e = .returned (.bool (numB k n)) ∧ Below w.heap.size w w' := by
  have HB : Hid (Below w.heap.size w (w.alloc (.cells #[.int .i64 k, .int .i64 a, .int .i64 b, .int .i64 c, .int .i64 n, .string s, .string o] 34))) := (Below.refl _ w).alloc (Nat.le_refl _) _
  by_cases h2 : k = 2
  · subst h2
    by_cases h0 : 0 ≤ n
    · have hv : Hid (Ending.returned (.bool (decide (n ≤ 65535))) = Ending.returned (.bool (numB 2 n))) := by
        show Ending.returned (.bool (decide (n ≤ 65535))) = Ending.returned (.bool (numB 2 n))
        unfold numB NumFits
        congr 2
        rw [decide_eq_decide]
        omega
      go_enter Try.func30, Try.ntmps30
      go_wp2
      go_ret
      exact ⟨hv.out, HB.out⟩
    · have hv : Hid (Ending.returned (.bool false) = Ending.returned (.bool (numB 2 n))) := by
        show Ending.returned (.bool false) = Ending.returned (.bool (numB 2 n))
        unfold numB NumFits
        rw [decide_eq_false (by omega)]
      go_enter Try.func30, Try.ntmps30
      go_wp2
      go_ret
      exact ⟨hv.out, HB.out⟩
  · by_cases h8 : k = 8
    · subst h8
      by_cases h0 : 0 ≤ n
      · have hv : Hid (Ending.returned (.bool (decide (n ≤ 3))) = Ending.returned (.bool (numB 8 n))) := by
          show Ending.returned (.bool (decide (n ≤ 3))) = Ending.returned (.bool (numB 8 n))
          unfold numB NumFits
          congr 2
          rw [decide_eq_decide]
          omega
        go_enter Try.func30, Try.ntmps30
        go_wp2
        go_ret
        exact ⟨hv.out, HB.out⟩
      · have hv : Hid (Ending.returned (.bool false) = Ending.returned (.bool (numB 8 n))) := by
          show Ending.returned (.bool false) = Ending.returned (.bool (numB 8 n))
          unfold numB NumFits
          rw [decide_eq_false (by omega)]
        go_enter Try.func30, Try.ntmps30
        go_wp2
        go_ret
        exact ⟨hv.out, HB.out⟩
    · have hv : Hid (Ending.returned (.bool (n == 0)) = Ending.returned (.bool (numB k n))) := by
        show Ending.returned (.bool (n == 0)) = Ending.returned (.bool (numB k n))
        have e : (n == 0) = decide (n = 0) := rfl
        unfold numB NumFits
        rw [e]
        congr 2
        rw [decide_eq_decide]
        exact ⟨fun h => ⟨fun h' => absurd h' h2, fun h' => absurd h' h8, fun _ _ => h⟩, fun h => h.2.2 h2 h8⟩
      have g2 : (k == 2) = false := by simpa using h2
      have g8 : (k == 8) = false := by simpa using h8
      clear h2 h8
      go_enter Try.func30, Try.ntmps30
      go_wp2
      go_ret
      exact ⟨hv.out, HB.out⟩

theorem cells7_of {w : World} {g : Nat} {k a b c n : Int} {s o : ByteArray} {t : TypeId} {z : Nat × Nat} (h : w.heap[g]? = some (.cells #[.int .i64 k, .int .i64 a, .int .i64 b, .int .i64 c, .int .i64 n, .string s, .string o] t z)) :
    w.cell? ⟨g, 0, none⟩ = some (.int .i64 k) ∧ w.cell? ⟨g, 1, none⟩ = some (.int .i64 a) ∧ w.cell? ⟨g, 2, none⟩ = some (.int .i64 b) ∧ w.cell? ⟨g, 3, none⟩ = some (.int .i64 c) ∧ w.cell? ⟨g, 4, none⟩ = some (.int .i64 n) ∧ w.cell? ⟨g, 5, none⟩ = some (.string s) ∧ w.cell? ⟨g, 6, none⟩ = some (.string o) := by
  refine ⟨?_, ?_, ?_, ?_, ?_, ?_, ?_⟩ <;> (rw [cell_of_row _ _ _ _ _ _ h]; rfl)

theorem cells3_of {w : World} {g : Nat} {a b c : Int} {t : TypeId} {z : Nat × Nat} (h : w.heap[g]? = some (.cells #[.int .i64 a, .int .i64 b, .int .i64 c] t z)) : ∀ m, m < 3 → w.cell? ⟨g, m, none⟩ = some (.int .i64 ([a, b, c].getD m 0)) := by
  intro m hm
  rw [cell_of_row _ _ _ _ _ _ h]
  rcases (by omega : m = 0 ∨ m = 1 ∨ m = 2) with rfl | rfl | rfl <;> rfl

theorem kids_null {ar : Nat} {a b c : Int} (har : ar ≤ 3) : KidsNull ar a b c ↔ ∀ m, ar ≤ m → m < 3 → [a, b, c].getD m 0 = 0 := by
  unfold KidsNull
  constructor
  · rintro ⟨h0, h1, h2⟩ m hm hm3
    rcases (by omega : m = 0 ∨ m = 1 ∨ m = 2) with rfl | rfl | rfl
    · exact h0 (by omega)
    · exact h1 (by omega)
    · exact h2 (by omega)
  · intro h
    exact ⟨fun h0 => h 0 (by omega) (by omega), fun h0 => h 1 (by omega) (by omega), fun h0 => h 2 (by omega) (by omega)⟩

/-- The fields of a node, once the kind is one and kids that it has not are 0. -/
theorem fields_rest {k a b c n : Int} {s o : ByteArray} (hk : 1 ≤ k ∧ k ≤ 19) (hz : KidsNull (arN k) a b c) :
    fieldsB ⟨k, a, b, c, n, s, o⟩ = (numB k n && wantB s (decide (1 ≤ (nmN k : Int))) && wantB o (decide (2 ≤ (nmN k : Int)))) := by
  have hn : wantB s (decide (1 ≤ (nmN k : Int))) = decide ((nmN k = 0 → s.size = 0) ∧ (0 < nmN k → isNameB s = true)) := by
    unfold wantB
    by_cases h : 1 ≤ (nmN k : Int)
    · rw [decide_eq_true h, if_pos rfl]
      cases hb : isNameB s with
      | true => rw [decide_eq_true ⟨fun h0 => by omega, fun _ => rfl⟩]
      | false => rw [decide_eq_false (fun h0 => by have := h0.2 (by omega); cases this)]
    · rw [decide_eq_false h, if_neg (by simp)]
      rw [decide_eq_decide]
      exact ⟨fun h0 => ⟨fun _ => h0, fun h1 => by omega⟩, fun h0 => h0.1 (by omega)⟩
  have ho : wantB o (decide (2 ≤ (nmN k : Int))) = decide ((nmN k ≤ 1 → o.size = 0) ∧ (1 < nmN k → isNameB o = true)) := by
    unfold wantB
    by_cases h : 2 ≤ (nmN k : Int)
    · rw [decide_eq_true h, if_pos rfl]
      cases hb : isNameB o with
      | true => rw [decide_eq_true ⟨fun h0 => by omega, fun _ => rfl⟩]
      | false => rw [decide_eq_false (fun h0 => by have := h0.2 (by omega); cases this)]
    · rw [decide_eq_false h, if_neg (by simp)]
      rw [decide_eq_decide]
      exact ⟨fun h0 => ⟨fun _ => h0, fun h1 => by omega⟩, fun h0 => h0.1 (by omega)⟩
  rw [hn, ho]
  unfold fieldsB numB
  rw [← Bool.decide_and, ← Bool.decide_and, decide_eq_decide]
  show ((1 ≤ k ∧ k ≤ 19) ∧ KidsNull (arN k) a b c ∧ NamesFit (nmN k) s o ∧ NumFits k n) ↔ _
  unfold NamesFit
  constructor
  · rintro ⟨_, _, ⟨h1, h2, h3, h4⟩, h5⟩
    exact ⟨⟨h5, h1, h2⟩, h3, h4⟩
  · rintro ⟨⟨h5, h1, h2⟩, h3, h4⟩
    exact ⟨hk, hz, ⟨h1, h2, h3, h4⟩, h5⟩

set_option maxHeartbeats 1000000 in
set_option maxRecDepth 20000 in
theorem impl_fields (k a b c n : Int) (s o : ByteArray) (hs : s.size ≤ maxLen) (ho : o.size ≤ maxLen) (w : World) :
    Calls Try.prog 21 #[.agg #[.int .i64 k, .int .i64 a, .int .i64 b, .int .i64 c, .int .i64 n, .string s, .string o]] w fun e w' =>
      e = .returned (.bool (fieldsB ⟨k, a, b, c, n, s, o⟩)) ∧ Below w.heap.size w w' := by
  have HS : Hid (s.size ≤ maxLen ∧ o.size ≤ maxLen) := ⟨hs, ho⟩
  have HB : Hid (Below w.heap.size w (w.alloc (.cells #[.int .i64 k, .int .i64 a, .int .i64 b, .int .i64 c, .int .i64 n, .string s, .string o] 34))) := (Below.refl _ w).alloc (Nat.le_refl _) _
  clear hs ho
  by_cases hk : 1 ≤ k ∧ k ≤ 19
  · have HK : Hid (1 ≤ k ∧ k ≤ 19) := hk
    obtain ⟨hk1, hk2⟩ := hk
    have har := arN_le k
    have har' : (arN k : Int) ≤ 3 := by omega
    have har0 : (0 : Int) ≤ (arN k : Int) := by omega
    go_enter Try.func21, Try.ntmps21
    go_wp2_with fail
    refine (impl_kidF k a b c n s o _).mono ?_
    rintro e w1 ⟨rfl, b1, s1⟩
    have s1' : w1.heap.size = w.heap.size + 3 := by simpa using s1
    have g1 : w1.heap[w.heap.size]? = some (.cells #[.int .i64 k, .int .i64 a, .int .i64 b, .int .i64 c, .int .i64 n, .string s, .string o] 34 (0, 0)) := by
      rw [b1.block _ (by simp)]
      exact (MapKept.heap_alloc w _).1
    obtain ⟨p0, p1, p2, p3, p4, p5, p6⟩ := cells7_of g1
    have B1 : Hid (Below w.heap.size w w1) := HB.out.trans (b1.mono (by simp))
    clear b1 s1 HB g1
    go_wp2_with fail
    refine (impl_arity k _).mono ?_
    rintro e w2 ⟨rfl, rfl⟩
    have HC : Hid (∀ m, m < 3 → (w1.alloc (.cells #[.int .i64 a, .int .i64 b, .int .i64 c] 52)).cell? ⟨w1.heap.size, m, none⟩ = some (.int .i64 ([a, b, c].getD m 0))) := cells3_of (MapKept.heap_alloc w1 _).1
    have HF : Hid (KidsNull (arN k) a b c → fieldsB ⟨k, a, b, c, n, s, o⟩ = (numB k n && wantB s (decide (1 ≤ (nmN k : Int))) && wantB o (decide (2 ≤ (nmN k : Int))))) := fun h => fields_rest HK.out h
    have HN : Hid (¬ KidsNull (arN k) a b c → fieldsB ⟨k, a, b, c, n, s, o⟩ = false) := fun h => decide_eq_false (fun h' => h h'.2.1)
    generalize arN k = ar at *
    rw [s1'] at HC
    rcases (by omega : ar = 0 ∨ ar = 1 ∨ ar = 2 ∨ ar = 3) with rfl | rfl | rfl | rfl
    · go_wp2
      go_loop [22] (fun i => ∃ j : Nat, j ≤ 3 ∧ i = .int .i64 j ∧ ∀ m, 0 ≤ m → m < 0 + j → [a, b, c].getD m 0 = 0) (fun i => 3 - (intOf i).toNat)
      case atStart => exact ⟨0, by omega, rfl, fun m h1 h2 => by omega⟩
      case round =>
        obtain ⟨j, hj, rfl, hall⟩ := hrel
        have HA : Hid (∀ m, 0 ≤ m → m < 0 + j → [a, b, c].getD m 0 = 0) := hall
        clear hall
        by_cases hin : j < 3
        · have hin' : (j : Int) < 3 := by omega
          have hc : (w1.alloc (.cells #[.int .i64 a, .int .i64 b, .int .i64 c] 52)).cell? ⟨w.heap.size + 3, j, none⟩ = some (.int .i64 ([a, b, c].getD (j) 0)) := HC.out (j) (by omega)
          have HX : Hid (∀ x, [a, b, c].getD (j) 0 = x → x = 0 → ∀ m, 0 ≤ m → m < 0 + (j + 1) → [a, b, c].getD m 0 = 0) := fun x hx h0 m h1 h2 => by
            by_cases e : m = j
            · subst e; rw [hx, h0]
            · exact HA.out m h1 (by omega)
          have HY : Hid (∀ x, [a, b, c].getD (j) 0 = x → ¬ x = 0 → fieldsB ⟨k, a, b, c, n, s, o⟩ = false) := fun x hx h0 => HN.out (fun h => h0 (by rw [← hx]; exact (kids_null (by omega)).1 h (j) (by omega) (by omega)))
          obtain ⟨x, hx⟩ : ∃ x, [a, b, c].getD (j) 0 = x := ⟨_, rfl⟩
          rw [hx] at hc
          by_cases h0 : x = 0
          · have HX1 : Hid (∀ m, 0 ≤ m → m < 0 + (j + 1) → [a, b, c].getD m 0 = 0) := HX.out x hx h0
            have hnz : (x != 0) = false := by simpa using h0
            clear h0 hx HX HY
            go_wp2
            go_round
            case rel => exact ⟨j + 1, by omega, by go_num, HX1.out⟩
            case measure => simp [intOf]; omega
          · have HV : Hid (fieldsB ⟨k, a, b, c, n, s, o⟩ = false) := HY.out x hx h0
            have hnz : (x != 0) = true := by simpa using h0
            clear h0 hx HX HY
            go_wp2
            go_ret
            exact ⟨by rw [HV.out]; rfl, B1.out.alloc (by omega) _⟩
        · obtain rfl : j = 3 := by omega
          have HV : Hid (fieldsB ⟨k, a, b, c, n, s, o⟩ = (numB k n && wantB s (decide (1 ≤ (nmN k : Int))) && wantB o (decide (2 ≤ (nmN k : Int))))) := HF.out ((kids_null (by omega)).2 (fun m h1 h2 => HA.out m h1 (by omega)))
          clear HA hin hj
          go_wp2_with fail
          refine (impl_names k _).mono ?_
          rintro e w2 ⟨rfl, rfl⟩
          generalize nmN k = nm at *
          go_wp2_with fail
          refine (impl_number k a b c n s o _).mono ?_
          rintro e w3 ⟨rfl, b3⟩
          have BX : Hid (Below w.heap.size w w3) := (B1.out.alloc (by omega) _).trans (b3.mono (by simp; omega))
          have q5 : w3.cell? ⟨w.heap.size, 5, none⟩ = some (.string s) := by
            rw [b3.cell (p := ⟨w.heap.size, 5, none⟩) (by simp; omega), World.cell?_alloc_lt _ _ _ (by simp; omega)]
            exact p5
          have q6 : w3.cell? ⟨w.heap.size, 6, none⟩ = some (.string o) := by
            rw [b3.cell (p := ⟨w.heap.size, 6, none⟩) (by simp; omega), World.cell?_alloc_lt _ _ _ (by simp; omega)]
            exact p6
          clear b3 p0 p1 p2 p3 p4 p5 p6
          obtain ⟨N1, hN1⟩ : ∃ b, numB k n = b := ⟨_, rfl⟩
          rw [hN1] at HV ⊢
          clear hN1
          cases N1 with
          | false =>
            go_wp2
            go_ret
            exact ⟨by rw [HV.out]; rfl, BX.out⟩
          | true =>
            go_wp2_with fail
            refine (impl_want s _ HS.out.1 _).mono ?_
            rintro e w4 ⟨rfl, rfl⟩
            obtain ⟨N2, hN2⟩ : ∃ b, wantB s (decide (1 ≤ (nm : Int))) = b := ⟨_, rfl⟩
            rw [hN2] at HV ⊢
            clear hN2
            cases N2 with
            | false =>
              go_wp2
              go_ret
              exact ⟨by rw [HV.out]; rfl, BX.out⟩
            | true =>
              go_wp2_with fail
              refine (impl_want o _ HS.out.2 _).mono ?_
              rintro e w5 ⟨rfl, rfl⟩
              obtain ⟨N3, hN3⟩ : ∃ b, wantB o (decide (2 ≤ (nm : Int))) = b := ⟨_, rfl⟩
              rw [hN3] at HV ⊢
              clear hN3
              go_wp2
              go_ret
              exact ⟨by rw [HV.out]; rfl, BX.out⟩
    · go_wp2
      go_loop [22] (fun i => ∃ j : Nat, j ≤ 2 ∧ i = .int .i64 j ∧ ∀ m, 1 ≤ m → m < 1 + j → [a, b, c].getD m 0 = 0) (fun i => 2 - (intOf i).toNat)
      case atStart => exact ⟨0, by omega, rfl, fun m h1 h2 => by omega⟩
      case round =>
        obtain ⟨j, hj, rfl, hall⟩ := hrel
        have HA : Hid (∀ m, 1 ≤ m → m < 1 + j → [a, b, c].getD m 0 = 0) := hall
        clear hall
        by_cases hin : j < 2
        · have hin' : (j : Int) < 2 := by omega
          have hc : (w1.alloc (.cells #[.int .i64 a, .int .i64 b, .int .i64 c] 52)).cell? ⟨w.heap.size + 3, 1 + j, none⟩ = some (.int .i64 ([a, b, c].getD (1 + j) 0)) := HC.out (1 + j) (by omega)
          have HX : Hid (∀ x, [a, b, c].getD (1 + j) 0 = x → x = 0 → ∀ m, 1 ≤ m → m < 1 + (j + 1) → [a, b, c].getD m 0 = 0) := fun x hx h0 m h1 h2 => by
            by_cases e : m = 1 + j
            · subst e; rw [hx, h0]
            · exact HA.out m h1 (by omega)
          have HY : Hid (∀ x, [a, b, c].getD (1 + j) 0 = x → ¬ x = 0 → fieldsB ⟨k, a, b, c, n, s, o⟩ = false) := fun x hx h0 => HN.out (fun h => h0 (by rw [← hx]; exact (kids_null (by omega)).1 h (1 + j) (by omega) (by omega)))
          obtain ⟨x, hx⟩ : ∃ x, [a, b, c].getD (1 + j) 0 = x := ⟨_, rfl⟩
          rw [hx] at hc
          by_cases h0 : x = 0
          · have HX1 : Hid (∀ m, 1 ≤ m → m < 1 + (j + 1) → [a, b, c].getD m 0 = 0) := HX.out x hx h0
            have hnz : (x != 0) = false := by simpa using h0
            clear h0 hx HX HY
            go_wp2
            go_round
            case rel => exact ⟨j + 1, by omega, by go_num, HX1.out⟩
            case measure => simp [intOf]; omega
          · have HV : Hid (fieldsB ⟨k, a, b, c, n, s, o⟩ = false) := HY.out x hx h0
            have hnz : (x != 0) = true := by simpa using h0
            clear h0 hx HX HY
            go_wp2
            go_ret
            exact ⟨by rw [HV.out]; rfl, B1.out.alloc (by omega) _⟩
        · obtain rfl : j = 2 := by omega
          have HV : Hid (fieldsB ⟨k, a, b, c, n, s, o⟩ = (numB k n && wantB s (decide (1 ≤ (nmN k : Int))) && wantB o (decide (2 ≤ (nmN k : Int))))) := HF.out ((kids_null (by omega)).2 (fun m h1 h2 => HA.out m h1 (by omega)))
          clear HA hin hj
          go_wp2_with fail
          refine (impl_names k _).mono ?_
          rintro e w2 ⟨rfl, rfl⟩
          generalize nmN k = nm at *
          go_wp2_with fail
          refine (impl_number k a b c n s o _).mono ?_
          rintro e w3 ⟨rfl, b3⟩
          have BX : Hid (Below w.heap.size w w3) := (B1.out.alloc (by omega) _).trans (b3.mono (by simp; omega))
          have q5 : w3.cell? ⟨w.heap.size, 5, none⟩ = some (.string s) := by
            rw [b3.cell (p := ⟨w.heap.size, 5, none⟩) (by simp; omega), World.cell?_alloc_lt _ _ _ (by simp; omega)]
            exact p5
          have q6 : w3.cell? ⟨w.heap.size, 6, none⟩ = some (.string o) := by
            rw [b3.cell (p := ⟨w.heap.size, 6, none⟩) (by simp; omega), World.cell?_alloc_lt _ _ _ (by simp; omega)]
            exact p6
          clear b3 p0 p1 p2 p3 p4 p5 p6
          obtain ⟨N1, hN1⟩ : ∃ b, numB k n = b := ⟨_, rfl⟩
          rw [hN1] at HV ⊢
          clear hN1
          cases N1 with
          | false =>
            go_wp2
            go_ret
            exact ⟨by rw [HV.out]; rfl, BX.out⟩
          | true =>
            go_wp2_with fail
            refine (impl_want s _ HS.out.1 _).mono ?_
            rintro e w4 ⟨rfl, rfl⟩
            obtain ⟨N2, hN2⟩ : ∃ b, wantB s (decide (1 ≤ (nm : Int))) = b := ⟨_, rfl⟩
            rw [hN2] at HV ⊢
            clear hN2
            cases N2 with
            | false =>
              go_wp2
              go_ret
              exact ⟨by rw [HV.out]; rfl, BX.out⟩
            | true =>
              go_wp2_with fail
              refine (impl_want o _ HS.out.2 _).mono ?_
              rintro e w5 ⟨rfl, rfl⟩
              obtain ⟨N3, hN3⟩ : ∃ b, wantB o (decide (2 ≤ (nm : Int))) = b := ⟨_, rfl⟩
              rw [hN3] at HV ⊢
              clear hN3
              go_wp2
              go_ret
              exact ⟨by rw [HV.out]; rfl, BX.out⟩
    · go_wp2
      go_loop [22] (fun i => ∃ j : Nat, j ≤ 1 ∧ i = .int .i64 j ∧ ∀ m, 2 ≤ m → m < 2 + j → [a, b, c].getD m 0 = 0) (fun i => 1 - (intOf i).toNat)
      case atStart => exact ⟨0, by omega, rfl, fun m h1 h2 => by omega⟩
      case round =>
        obtain ⟨j, hj, rfl, hall⟩ := hrel
        have HA : Hid (∀ m, 2 ≤ m → m < 2 + j → [a, b, c].getD m 0 = 0) := hall
        clear hall
        by_cases hin : j < 1
        · have hin' : (j : Int) < 1 := by omega
          have hc : (w1.alloc (.cells #[.int .i64 a, .int .i64 b, .int .i64 c] 52)).cell? ⟨w.heap.size + 3, 2 + j, none⟩ = some (.int .i64 ([a, b, c].getD (2 + j) 0)) := HC.out (2 + j) (by omega)
          have HX : Hid (∀ x, [a, b, c].getD (2 + j) 0 = x → x = 0 → ∀ m, 2 ≤ m → m < 2 + (j + 1) → [a, b, c].getD m 0 = 0) := fun x hx h0 m h1 h2 => by
            by_cases e : m = 2 + j
            · subst e; rw [hx, h0]
            · exact HA.out m h1 (by omega)
          have HY : Hid (∀ x, [a, b, c].getD (2 + j) 0 = x → ¬ x = 0 → fieldsB ⟨k, a, b, c, n, s, o⟩ = false) := fun x hx h0 => HN.out (fun h => h0 (by rw [← hx]; exact (kids_null (by omega)).1 h (2 + j) (by omega) (by omega)))
          obtain ⟨x, hx⟩ : ∃ x, [a, b, c].getD (2 + j) 0 = x := ⟨_, rfl⟩
          rw [hx] at hc
          by_cases h0 : x = 0
          · have HX1 : Hid (∀ m, 2 ≤ m → m < 2 + (j + 1) → [a, b, c].getD m 0 = 0) := HX.out x hx h0
            have hnz : (x != 0) = false := by simpa using h0
            clear h0 hx HX HY
            go_wp2
            go_round
            case rel => exact ⟨j + 1, by omega, by go_num, HX1.out⟩
            case measure => simp [intOf]; omega
          · have HV : Hid (fieldsB ⟨k, a, b, c, n, s, o⟩ = false) := HY.out x hx h0
            have hnz : (x != 0) = true := by simpa using h0
            clear h0 hx HX HY
            go_wp2
            go_ret
            exact ⟨by rw [HV.out]; rfl, B1.out.alloc (by omega) _⟩
        · obtain rfl : j = 1 := by omega
          have HV : Hid (fieldsB ⟨k, a, b, c, n, s, o⟩ = (numB k n && wantB s (decide (1 ≤ (nmN k : Int))) && wantB o (decide (2 ≤ (nmN k : Int))))) := HF.out ((kids_null (by omega)).2 (fun m h1 h2 => HA.out m h1 (by omega)))
          clear HA hin hj
          go_wp2_with fail
          refine (impl_names k _).mono ?_
          rintro e w2 ⟨rfl, rfl⟩
          generalize nmN k = nm at *
          go_wp2_with fail
          refine (impl_number k a b c n s o _).mono ?_
          rintro e w3 ⟨rfl, b3⟩
          have BX : Hid (Below w.heap.size w w3) := (B1.out.alloc (by omega) _).trans (b3.mono (by simp; omega))
          have q5 : w3.cell? ⟨w.heap.size, 5, none⟩ = some (.string s) := by
            rw [b3.cell (p := ⟨w.heap.size, 5, none⟩) (by simp; omega), World.cell?_alloc_lt _ _ _ (by simp; omega)]
            exact p5
          have q6 : w3.cell? ⟨w.heap.size, 6, none⟩ = some (.string o) := by
            rw [b3.cell (p := ⟨w.heap.size, 6, none⟩) (by simp; omega), World.cell?_alloc_lt _ _ _ (by simp; omega)]
            exact p6
          clear b3 p0 p1 p2 p3 p4 p5 p6
          obtain ⟨N1, hN1⟩ : ∃ b, numB k n = b := ⟨_, rfl⟩
          rw [hN1] at HV ⊢
          clear hN1
          cases N1 with
          | false =>
            go_wp2
            go_ret
            exact ⟨by rw [HV.out]; rfl, BX.out⟩
          | true =>
            go_wp2_with fail
            refine (impl_want s _ HS.out.1 _).mono ?_
            rintro e w4 ⟨rfl, rfl⟩
            obtain ⟨N2, hN2⟩ : ∃ b, wantB s (decide (1 ≤ (nm : Int))) = b := ⟨_, rfl⟩
            rw [hN2] at HV ⊢
            clear hN2
            cases N2 with
            | false =>
              go_wp2
              go_ret
              exact ⟨by rw [HV.out]; rfl, BX.out⟩
            | true =>
              go_wp2_with fail
              refine (impl_want o _ HS.out.2 _).mono ?_
              rintro e w5 ⟨rfl, rfl⟩
              obtain ⟨N3, hN3⟩ : ∃ b, wantB o (decide (2 ≤ (nm : Int))) = b := ⟨_, rfl⟩
              rw [hN3] at HV ⊢
              clear hN3
              go_wp2
              go_ret
              exact ⟨by rw [HV.out]; rfl, BX.out⟩
    · go_wp2
      go_loop [22] (fun i => ∃ j : Nat, j ≤ 0 ∧ i = .int .i64 j ∧ ∀ m, 3 ≤ m → m < 3 + j → [a, b, c].getD m 0 = 0) (fun i => 0 - (intOf i).toNat)
      case atStart => exact ⟨0, by omega, rfl, fun m h1 h2 => by omega⟩
      case round =>
        obtain ⟨j, hj, rfl, hall⟩ := hrel
        have HA : Hid (∀ m, 3 ≤ m → m < 3 + j → [a, b, c].getD m 0 = 0) := hall
        clear hall
        by_cases hin : j < 0
        · exact absurd hin (by omega)
        · obtain rfl : j = 0 := by omega
          have HV : Hid (fieldsB ⟨k, a, b, c, n, s, o⟩ = (numB k n && wantB s (decide (1 ≤ (nmN k : Int))) && wantB o (decide (2 ≤ (nmN k : Int))))) := HF.out ((kids_null (by omega)).2 (fun m h1 h2 => HA.out m h1 (by omega)))
          clear HA hin hj
          go_wp2_with fail
          refine (impl_names k _).mono ?_
          rintro e w2 ⟨rfl, rfl⟩
          generalize nmN k = nm at *
          go_wp2_with fail
          refine (impl_number k a b c n s o _).mono ?_
          rintro e w3 ⟨rfl, b3⟩
          have BX : Hid (Below w.heap.size w w3) := (B1.out.alloc (by omega) _).trans (b3.mono (by simp; omega))
          have q5 : w3.cell? ⟨w.heap.size, 5, none⟩ = some (.string s) := by
            rw [b3.cell (p := ⟨w.heap.size, 5, none⟩) (by simp; omega), World.cell?_alloc_lt _ _ _ (by simp; omega)]
            exact p5
          have q6 : w3.cell? ⟨w.heap.size, 6, none⟩ = some (.string o) := by
            rw [b3.cell (p := ⟨w.heap.size, 6, none⟩) (by simp; omega), World.cell?_alloc_lt _ _ _ (by simp; omega)]
            exact p6
          clear b3 p0 p1 p2 p3 p4 p5 p6
          obtain ⟨N1, hN1⟩ : ∃ b, numB k n = b := ⟨_, rfl⟩
          rw [hN1] at HV ⊢
          clear hN1
          cases N1 with
          | false =>
            go_wp2
            go_ret
            exact ⟨by rw [HV.out]; rfl, BX.out⟩
          | true =>
            go_wp2_with fail
            refine (impl_want s _ HS.out.1 _).mono ?_
            rintro e w4 ⟨rfl, rfl⟩
            obtain ⟨N2, hN2⟩ : ∃ b, wantB s (decide (1 ≤ (nm : Int))) = b := ⟨_, rfl⟩
            rw [hN2] at HV ⊢
            clear hN2
            cases N2 with
            | false =>
              go_wp2
              go_ret
              exact ⟨by rw [HV.out]; rfl, BX.out⟩
            | true =>
              go_wp2_with fail
              refine (impl_want o _ HS.out.2 _).mono ?_
              rintro e w5 ⟨rfl, rfl⟩
              obtain ⟨N3, hN3⟩ : ∃ b, wantB o (decide (2 ≤ (nm : Int))) = b := ⟨_, rfl⟩
              rw [hN3] at HV ⊢
              clear hN3
              go_wp2
              go_ret
              exact ⟨by rw [HV.out]; rfl, BX.out⟩
  · have HV : Hid (fieldsB ⟨k, a, b, c, n, s, o⟩ = false) := decide_eq_false (fun h => hk h.1)
    by_cases h1 : k < 1
    · clear hk
      go_enter Try.func21, Try.ntmps21
      go_wp2
      go_ret
      exact ⟨by rw [HV.out]; rfl, HB.out⟩
    · have h2 : 19 < k := by omega
      clear hk
      go_enter Try.func21, Try.ntmps21
      go_wp2
      go_ret
      exact ⟨by rw [HV.out]; rfl, HB.out⟩
end Go.Proofs.Ytjjanmccijghgaa
