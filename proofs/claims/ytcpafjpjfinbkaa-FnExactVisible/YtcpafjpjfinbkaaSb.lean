/-
  Scopes, the specification's: what a node binds in a kid. Conditions: written at each theorem.
-/
import Derived.Test.YtcpafjpjfinbkaaSd
import Derived.Test.YtcpafjpjfinbkaaIn
namespace Go.Proofs.Ytcpafjpjfinbkaa
open Go.ChangeShapes Go.WideShapes Go.ChangeAt Go.RowKit
set_option linter.unusedVariables false

/-- What l6Bound ends with: names and roles in two rows. -/
def BdEnd (L : List (ByteArray × Int)) (B : Nat) (e : Ending) (w : World) : Prop :=
  ∃ (P R : Nat), e = .returned (.tuple #[.slice (some ⟨P, 0, none⟩) L.length L.length, .slice (some ⟨R, 0, none⟩) L.length L.length]) ∧ B ≤ P ∧ B ≤ R ∧
    w.heap[P]? = some (.cells (L.map (fun x => Value.string x.1)).toArray 9 (0, 0)) ∧ w.heap[R]? = some (.cells (L.map (fun x => Value.int .i64 x.2)).toArray 3 (0, 0))

theorem bd_end (w : World) (o : Obj) (L : List (ByteArray × Int)) :
    BdEnd L w.heap.size (.returned (.tuple #[.slice (some ⟨w.heap.size + 1, 0, none⟩) L.length L.length, .slice (some ⟨w.heap.size + 2, 0, none⟩) L.length L.length])) (((w.alloc o).alloc (.cells (L.map (fun x => Value.string x.1)).toArray 9)).alloc (.cells (L.map (fun x => Value.int .i64 x.2)).toArray 3)) ∧
    Below w.heap.size w (((w.alloc o).alloc (.cells (L.map (fun x => Value.string x.1)).toArray 9)).alloc (.cells (L.map (fun x => Value.int .i64 x.2)).toArray 3)) := by
  refine ⟨⟨_, _, rfl, by omega, by omega, ?_, ?_⟩, (((Below.refl _ w).alloc (Nat.le_refl _) _).alloc (by simp) _).alloc (by simp; omega) _⟩
  · rw [Below.heap_alloc _ _ _ (by simp)]
    have := (MapKept.heap_alloc (w.alloc o) (.cells (L.map (fun x => Value.string x.1)).toArray 9)).1
    simpa using this
  · have := (MapKept.heap_alloc ((w.alloc o).alloc (.cells (L.map (fun x => Value.string x.1)).toArray 9)) (.cells (L.map (fun x => Value.int .i64 x.2)).toArray 3)).1
    simpa using this

set_option maxHeartbeats 2000000 in
set_option maxRecDepth 20000 in
theorem spec_bound (k a b c n : Int) (s o : ByteArray) (kid : Int) (w : World) :
    Calls Try.prog 45 #[.agg #[.int .i64 k, .int .i64 a, .int .i64 b, .int .i64 c, .int .i64 n, .string s, .string o], .int .i64 kid] w fun e w' => BdEnd (bndL ⟨k, a, b, c, n, s, o⟩ kid) w.heap.size e w' ∧ Below w.heap.size w w' := by
  by_cases h3 : k = 3
  · have HV : Hid (bndL ⟨k, a, b, c, n, s, o⟩ kid = [(s, 0)]) := by show bndL _ kid = _; rw [bndL, if_pos h3]
    subst h3
    have HE : Hid (_) := bd_end w (.cells #[.int .i64 3, .int .i64 a, .int .i64 b, .int .i64 c, .int .i64 n, .string s, .string o] 52) [(s, 0)]
    go_enter Try.func45, Try.ntmps45
    go_wp2
    go_ret2
    rw [HV.out]
    exact HE.out
  by_cases h5 : k = 5
  · by_cases hc : kid = b
    · have HV : Hid (bndL ⟨k, a, b, c, n, s, o⟩ kid = [(s, 0)]) := by show bndL _ kid = _; rw [bndL, if_neg h3, if_pos (Or.inl h5), if_pos hc]
      subst h5
      subst hc
      have HE : Hid (_) := bd_end w (.cells #[.int .i64 5, .int .i64 a, .int .i64 kid, .int .i64 c, .int .i64 n, .string s, .string o] 52) [(s, 0)]
      go_enter Try.func45, Try.ntmps45
      go_wp2
      go_ret2
      rw [HV.out]
      exact HE.out
    · have HV : Hid (bndL ⟨k, a, b, c, n, s, o⟩ kid = []) := by show bndL _ kid = _; rw [bndL, if_neg h3, if_pos (Or.inl h5), if_neg hc]
      subst h5
      have HE : Hid (_) := bd_end w (.cells #[.int .i64 5, .int .i64 a, .int .i64 b, .int .i64 c, .int .i64 n, .string s, .string o] 52) []
      go_enter Try.func45, Try.ntmps45
      go_wp2
      go_ret2
      rw [HV.out]
      exact HE.out
  by_cases h19 : k = 19
  · by_cases hc : kid = b
    · have HV : Hid (bndL ⟨k, a, b, c, n, s, o⟩ kid = [(s, 0)]) := by show bndL _ kid = _; rw [bndL, if_neg h3, if_pos (Or.inr h19), if_pos hc]
      subst h19
      subst hc
      have HE : Hid (_) := bd_end w (.cells #[.int .i64 19, .int .i64 a, .int .i64 kid, .int .i64 c, .int .i64 n, .string s, .string o] 52) [(s, 0)]
      go_enter Try.func45, Try.ntmps45
      go_wp2
      go_ret2
      rw [HV.out]
      exact HE.out
    · have HV : Hid (bndL ⟨k, a, b, c, n, s, o⟩ kid = []) := by show bndL _ kid = _; rw [bndL, if_neg h3, if_pos (Or.inr h19), if_neg hc]
      subst h19
      have HE : Hid (_) := bd_end w (.cells #[.int .i64 19, .int .i64 a, .int .i64 b, .int .i64 c, .int .i64 n, .string s, .string o] 52) []
      go_enter Try.func45, Try.ntmps45
      go_wp2
      go_ret2
      rw [HV.out]
      exact HE.out
  by_cases h6 : k = 6
  · by_cases hc : kid = a
    · have HV : Hid (bndL ⟨k, a, b, c, n, s, o⟩ kid = [(o, 1), (s, 0)]) := by show bndL _ kid = _; rw [bndL, if_neg h3, if_neg (by show ¬ (k = 5 ∨ k = 19); omega), if_pos h6, if_pos hc]
      subst h6
      subst hc
      have HE : Hid (_) := bd_end w (.cells #[.int .i64 6, .int .i64 kid, .int .i64 b, .int .i64 c, .int .i64 n, .string s, .string o] 52) [(o, 1), (s, 0)]
      go_enter Try.func45, Try.ntmps45
      go_wp2
      go_ret2
      rw [HV.out]
      exact HE.out
    · have HV : Hid (bndL ⟨k, a, b, c, n, s, o⟩ kid = [(s, 0)]) := by show bndL _ kid = _; rw [bndL, if_neg h3, if_neg (by show ¬ (k = 5 ∨ k = 19); omega), if_pos h6, if_neg hc]
      subst h6
      have HE : Hid (_) := bd_end w (.cells #[.int .i64 6, .int .i64 a, .int .i64 b, .int .i64 c, .int .i64 n, .string s, .string o] 52) [(s, 0)]
      go_enter Try.func45, Try.ntmps45
      go_wp2
      go_ret2
      rw [HV.out]
      exact HE.out
  by_cases h14 : k = 14
  · by_cases hc : kid = c
    · have HV : Hid (bndL ⟨k, a, b, c, n, s, o⟩ kid = [(o, 1), (s, 0)]) := by show bndL _ kid = _; rw [bndL, if_neg h3, if_neg (by show ¬ (k = 5 ∨ k = 19); omega), if_neg h6, if_pos h14, if_pos hc]
      subst h14
      subst hc
      have HE : Hid (_) := bd_end w (.cells #[.int .i64 14, .int .i64 a, .int .i64 b, .int .i64 kid, .int .i64 n, .string s, .string o] 52) [(o, 1), (s, 0)]
      go_enter Try.func45, Try.ntmps45
      go_wp2
      go_ret2
      rw [HV.out]
      exact HE.out
    · have HV : Hid (bndL ⟨k, a, b, c, n, s, o⟩ kid = []) := by show bndL _ kid = _; rw [bndL, if_neg h3, if_neg (by show ¬ (k = 5 ∨ k = 19); omega), if_neg h6, if_pos h14, if_neg hc]
      subst h14
      have HE : Hid (_) := bd_end w (.cells #[.int .i64 14, .int .i64 a, .int .i64 b, .int .i64 c, .int .i64 n, .string s, .string o] 52) []
      go_enter Try.func45, Try.ntmps45
      go_wp2
      go_ret2
      rw [HV.out]
      exact HE.out
  have HV : Hid (bndL ⟨k, a, b, c, n, s, o⟩ kid = []) := by show bndL _ kid = _; rw [bndL, if_neg h3, if_neg (by show ¬ (k = 5 ∨ k = 19); omega), if_neg h6, if_neg h14]
  have HE : Hid (_) := bd_end w (.cells #[.int .i64 k, .int .i64 a, .int .i64 b, .int .i64 c, .int .i64 n, .string s, .string o] 52) []
  go_enter Try.func45, Try.ntmps45
  go_wp2
  go_ret2
  rw [HV.out]
  exact HE.out
end Go.Proofs.Ytcpafjpjfinbkaa
