/-
  What Lex leaves: rows of tokens, and what is known of each. Conditions: written at each theorem.
-/
import Derived.Test.YtobijbhgpgnfkaaGreatDoorLs
namespace Go.Proofs.YtobijbhgpgnfkaaGreatDoor
open Go.ChangeShapes Go.WideShapes Go.ChangeAt Go.RowKit
set_option linter.unusedVariables false

/-- The form of a slice that holds tokens of the call's own. -/
theorem own_form {w : World} {B : Nat} {v : Value} {ts : List Tok} (h : ownT w B v ts) :
    ∃ (a : Option Addr) (g cap : Nat) (sp : List Value), v = .slice a ts.length cap ∧ (0 < ts.length → a = some ⟨g, 0, none⟩) ∧ TokAt w g ts ∧ B ≤ g ∧ (0 < ts.length → g < w.heap.size) ∧
      (0 < ts.length → w.heap[g]? = some (.cells (ts.flatMap tcells ++ sp).toArray 66 (0, 0))) := by
  rcases h.2 with ⟨rfl, h0⟩ | ⟨g, cap, cur, rfl, hb, hg, hn, hm, hs, ht⟩
  · rw [h0]
    have e : ts = [] := List.length_eq_zero_iff.1 h0
    subst e
    exact ⟨none, B, 0, [], rfl, fun h => absurd h (by omega), fun i hi => absurd hi (by simp), Nat.le_refl _, fun h => absurd h (by omega), fun h => absurd h (by omega)⟩
  · have hc : cur = (ts.flatMap tcells ++ cur.toList.drop (ts.length * 4)).toArray := by
      apply Array.toList_inj.1
      rw [← ht]
      simp
    exact ⟨some ⟨g, 0, none⟩, g, cap, cur.toList.drop (ts.length * 4), rfl, fun _ => rfl, tokAt_own h rfl, hb, fun _ => (Array.getElem?_eq_some_iff.1 hg).1, fun _ => by rw [hg, ← hc]⟩

theorem lexes_len {s : ByteArray} {ts : List Tok} {n : Int} (h : Lexes s ts n) : ts.length ≤ 4000 := by
  rcases h with ⟨_, rfl, _⟩ | ⟨hs, k, i, out, hr, hf⟩
  · simp
  · rcases hf with ⟨_, rfl, _⟩ | ⟨_, rfl, _⟩
    · have := reach_len hr
      have := reach_le hr
      omega
    · simp

theorem lex_impl (s : ByteArray) (w : World) (hv : Vars w) (hm : s.size ≤ maxLen) :
    Calls Tryz.prog 13 #[.string s] w fun e w' => LexEnd s w.heap.size e w' ∧ Below w.heap.size w w' := by
  by_cases h : s.size ≤ 4000
  · exact impl_lex s h w hv
  · exact impl_lex_long s (by omega) w

theorem lex_spec (s : ByteArray) (w : World) (hm : s.size ≤ maxLen) :
    Calls Tryz.prog 25 #[.string s] w fun e w' => LexEnd s w.heap.size e w' ∧ Below w.heap.size w w' := by
  by_cases h : s.size ≤ 4000
  · exact spec_lex s h w
  · exact spec_lex_long s (by omega) hm w

/-- What a token is. -/
def TokOk (s : ByteArray) (t : Tok) : Prop :=
  ((t.kind = 1 ∧ t.text = byteS 40) ∨ (t.kind = 2 ∧ t.text = byteS 41) ∨ (t.kind = 3 ∧ isWordB t.text = true) ∨ (t.kind = 4 ∧ 0 < t.text.size ∧ dig9 (bAt t.text 0))) ∧ 0 ≤ t.place ∧ t.place < s.size ∧ t.text.size ≤ s.size

theorem step_tok {s : ByteArray} {i j : Nat} {ts : List Tok} (h : Step s i j ts) : ∀ t ∈ ts, TokOk s t := by
  have hlt := step_lt h
  have hle := step_le h
  obtain ⟨hi, h⟩ := h
  rcases h with ⟨hb, rfl, rfl⟩ | ⟨hb, hr, rfl⟩ | ⟨hb, rfl, rfl⟩ | ⟨hb, rfl, rfl⟩ | ⟨hb, hr, h8', rfl⟩ | ⟨hb, hr, n', hn', hm', rfl⟩
  · simp
  · simp
  · intro t ht
    simp at ht
    subst ht
    exact ⟨Or.inl ⟨rfl, rfl⟩, by simp, by simpa using hi, by show 1 ≤ s.size; omega⟩
  · intro t ht
    simp at ht
    subst ht
    exact ⟨Or.inr (Or.inl ⟨rfl, rfl⟩), by simp, by simpa using hi, by show 1 ≤ s.size; omega⟩
  · intro t ht
    simp at ht
    subst ht
    have hs := run_size hr
    refine ⟨Or.inr (Or.inr (Or.inl ⟨rfl, ?_⟩)), by simp, by simpa using hi, by show (s.extract i j).size ≤ s.size; omega⟩
    refine decide_eq_true ⟨by show 1 ≤ (s.extract i j).size; omega, by show (s.extract i j).size ≤ 8; omega, fun k hk => ?_⟩
    have hk' : k < (s.extract i j).size := hk
    show lowA (bAt (s.extract i j) k)
    rw [bAt_extract s i j k hle (by omega)]
    exact hr.2.2.1 (i + k) (by omega) (by omega)
  · intro t ht
    simp at ht
    subst ht
    have hs := run_size hr
    refine ⟨Or.inr (Or.inr (Or.inr ⟨rfl, by show 0 < (s.extract i j).size; omega, ?_⟩)), by simp, by simpa using hi, by show (s.extract i j).size ≤ s.size; omega⟩
    show dig9 (bAt (s.extract i j) 0)
    rw [bAt_extract s i j 0 hle (by omega)]
    exact hb

theorem reach_tok {s : ByteArray} : ∀ {k i : Nat} {out : List Tok}, Reach s k i out → ∀ t ∈ out, TokOk s t
  | 0, i, out, h => by obtain ⟨_, rfl⟩ := h; simp
  | k + 1, i, out, h => by
    obtain ⟨j, o, ts, hr, hs, rfl⟩ := h
    intro t ht
    rcases List.mem_append.1 ht with h1 | h1
    · exact reach_tok hr t h1
    · exact step_tok hs t h1

theorem lexes_tok {s : ByteArray} {ts : List Tok} {n : Int} (h : Lexes s ts n) : ∀ t ∈ ts, TokOk s t := by
  rcases h with ⟨_, rfl, _⟩ | ⟨hs, k, i, out, hr, hf⟩
  · simp
  · rcases hf with ⟨_, rfl, _⟩ | ⟨_, rfl, _⟩
    · exact reach_tok hr
    · simp

theorem lexes_at {s : ByteArray} {ts : List Tok} {n : Int} (h : Lexes s ts n) (i : Nat) (hi : i < ts.length) : TokOk s (ts.getD i noTok) := by
  refine lexes_tok h _ ?_
  rw [List.getD, List.getElem?_eq_getElem hi]
  exact List.getElem_mem hi

theorem lexes_sign {s : ByteArray} {ts : List Tok} {n : Int} (h : Lexes s ts n) : n = -1 ∨ 0 ≤ n ∧ n ≤ 4000 := by
  rcases h with ⟨_, _, rfl⟩ | ⟨hs, k, i, out, hr, hf⟩
  · exact Or.inr (by omega)
  · rcases hf with ⟨_, _, rfl⟩ | ⟨_, _, rfl⟩
    · exact Or.inl rfl
    · have := reach_le hr
      exact Or.inr (by omega)
end Go.Proofs.YtobijbhgpgnfkaaGreatDoor
