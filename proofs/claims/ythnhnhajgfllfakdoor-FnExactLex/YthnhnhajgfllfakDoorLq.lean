/-
  What Lex leaves, as rows of tokens that can be held against each other and marked. Conditions: written at each theorem.
-/
import Derived.Test.YthnhnhajgfllfakDoorLs
import Derived.Test.YthnhnhajgfllfakDoorMk
import Derived.Test.YthnhnhajgfllfakDoorEq
namespace Go.Proofs.YthnhnhajgfllfakDoor
open Go.ChangeShapes Go.WideShapes Go.ChangeAt Go.RowKit
set_option linter.unusedVariables false

/-- The form of a slice that holds tokens of the call's own. -/
theorem own_form {w : World} {B : Nat} {v : Value} {ts : List Tok} (h : ownT w B v ts) :
    ∃ (a : Option Addr) (g cap : Nat) (sp : List Value), v = .slice a ts.length cap ∧ (0 < ts.length → a = some ⟨g, 0, none⟩) ∧ TokAt w g ts ∧ B ≤ g ∧ (0 < ts.length → g < w.heap.size) ∧
      (0 < ts.length → w.heap[g]? = some (.cells (ts.flatMap tcells ++ sp).toArray 29 (0, 0))) := by
  rcases h.2 with ⟨rfl, h0⟩ | ⟨g, cap, cur, rfl, hb, hg, hn, hm, hs, ht⟩
  · rw [h0]
    have e : ts = [] := List.length_eq_zero_iff.1 h0
    subst e
    exact ⟨none, B, 0, [], rfl, fun h => absurd h (by omega), fun i hi => absurd hi (by simp), Nat.le_refl _, fun h => absurd h (by omega), fun h => absurd h (by omega)⟩
  · have hc : cur = (ts.flatMap tcells ++ cur.toList.drop (ts.length * 4)).toArray := by
      apply Array.toList_inj.1
      rw [← ht]
      simp
    exact ⟨some ⟨g, 0, none⟩, g, cap, cur.toList.drop (ts.length * 4), rfl, fun _ => rfl, tokAt_own h rfl, hb, fun _ => (Array.getElem?_eq_some_iff.1 hg).1, fun _ => by rw [hg, ← hc]⟩

theorem held_at (a : Option Addr) (g cap n : Nat) (ms : List Tok) (hn : ms.length = n) (hl : n ≤ 4000) (ha : 0 < n → a = some ⟨g, 0, none⟩) (w : World)
    (hT : TokAt w g ms) (hm : ∀ i, i < ms.length → ms.getD i noTok = mtok (1 + 4 * i)) :
    Calls Tryd.prog 8 #[.slice a n cap, .int .i64 1] w fun e w' => e = .returned (.int .i64 ((1 + 4 * n : Nat) : Int)) ∧ Below w.heap.size w w' := by
  subst hn
  exact held_row a g cap ms hl ha w hT hm

theorem lexes_len {s : ByteArray} {ts : List Tok} {n : Int} (h : Lexes s ts n) : ts.length ≤ 4000 := by
  rcases h with ⟨_, rfl, _⟩ | ⟨hs, k, i, out, hr, hf⟩
  · simp
  · rcases hf with ⟨_, rfl, _⟩ | ⟨_, rfl, _⟩
    · have := reach_len hr
      have := reach_le hr
      omega
    · simp

theorem lex_impl (s : ByteArray) (w : World) (hv : Vars w) (hm : s.size ≤ maxLen) :
    Calls Tryd.prog 5 #[.string s] w fun e w' => LexEnd s w.heap.size e w' ∧ Below w.heap.size w w' := by
  by_cases h : s.size ≤ 4000
  · exact impl_lex s h w hv
  · exact impl_lex_long s (by omega) w

theorem lex_spec (s : ByteArray) (w : World) (hm : s.size ≤ maxLen) :
    Calls Tryd.prog 4 #[.string s] w fun e w' => LexEnd s w.heap.size e w' ∧ Below w.heap.size w w' := by
  by_cases h : s.size ≤ 4000
  · exact spec_lex s h w
  · exact spec_lex_long s (by omega) hm w
end Go.Proofs.YthnhnhajgfllfakDoor
