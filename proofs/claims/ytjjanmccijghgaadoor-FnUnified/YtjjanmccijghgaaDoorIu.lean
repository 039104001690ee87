/-
  Types, the specification's: two types are made one, in a table of the call's own. Conditions: written at each theorem.
-/
import Derived.Test.YtjjanmccijghgaaDoorHu
import Derived.Deep.RegionHeld3
namespace Go.Proofs.YtjjanmccijghgaaDoor
open Go.ChangeShapes Go.WideShapes Go.ChangeAt Go.RowKit
set_option linter.unusedVariables false

theorem rhs_kids {t t' : Typ} (hk : t.kind = t'.kind) (h0 : t.kind ≠ 0) (τ : Nat → Tr) :
    (kidZ t).length = (kidZ t').length ∧ (rhsT t τ = rhsT t' τ ↔ ∀ q, q < (kidZ t).length → τ ((kidZ t).getD q 0).toNat = τ ((kidZ t').getD q 0).toNat) := by
  obtain ⟨k, x, y⟩ := t
  obtain ⟨k', x', y'⟩ := t'
  simp only at hk h0
  subst hk
  unfold rhsT kidZ
  simp only [if_neg h0]
  by_cases h2 : k = 2 ∨ k = 3
  · simp only [if_pos h2, List.length_cons, List.length_nil, true_and]
    constructor
    · intro e q hq
      simp only [Std.Format.nest.injEq, Std.Format.append.injEq, true_and] at e
      match q, hq with
      | 0, _ => exact e.1
      | 1, _ => exact e.2
    · intro e
      have e0 := e 0 (by omega)
      have e1 := e 1 (by omega)
      simp at e0 e1
      rw [e0, e1]
  · simp only [if_neg h2]
    by_cases h4 : k = 4 ∨ k = 5
    · simp only [if_pos h4, List.length_cons, List.length_nil, true_and]
      constructor
      · intro e q hq
        simp only [Std.Format.nest.injEq, true_and] at e
        match q, hq with
        | 0, _ => exact e
      · intro e
        have e0 := e 0 (by omega)
        simp at e0
        rw [e0]
    · simp [if_neg h4]

theorem rhs_kinds {t t' : Typ} {τ : Nat → Tr} (hk : ¬ t.kind = t'.kind) (h0 : t.kind ≠ 0) (h0' : t'.kind ≠ 0) (k5 : t.kind ≤ 5 ∧ 0 ≤ t.kind) (k5' : t'.kind ≤ 5 ∧ 0 ≤ t'.kind) (he : rhsT t τ = rhsT t' τ) : False := by
  have key : ∀ s : Typ, s.kind ≠ 0 → s.kind ≤ 5 ∧ 0 ≤ s.kind → (s.kind = 1 ∧ rhsT s τ = .line) ∨ (s.kind ≠ 1 ∧ ∃ f, rhsT s τ = .nest s.kind f) := fun s hs0 hs5 => by
    unfold rhsT
    by_cases h2 : s.kind = 2 ∨ s.kind = 3
    · exact Or.inr ⟨by omega, _, by rw [if_pos h2]⟩
    · by_cases h4 : s.kind = 4 ∨ s.kind = 5
      · exact Or.inr ⟨by omega, _, by rw [if_neg h2, if_pos h4]⟩
      · exact Or.inl ⟨by omega, by rw [if_neg h2, if_neg h4]⟩
  rcases key t h0 k5 with ⟨a1, e1⟩ | ⟨a1, f1, e1⟩ <;> rcases key t' h0' k5' with ⟨a2, e2⟩ | ⟨a2, f2, e2⟩ <;> rw [e1, e2] at he
  · omega
  · cases he
  · cases he
  · simp only [Std.Format.nest.injEq] at he
    exact hk he.1

theorem IntAt.gro {w w' : World} {G g : Nat} {st : List Int} (h : IntAt w G st) (hg : w.grownBy w' (some g)) (hne : 0 < st.length → G ≠ g) : IntAt w' G st := fun i hi => by
  have h1 := h i hi
  have h2 := typ_lt h1
  exact (World.cell?_of_block (hg.block G h2 (fun e => hne (by omega) (Option.some.inj e)))).trans h1

/-- What is known when the first q parts were made one. -/
def Part (u : List Typ) (ks ls : List Int) (q : Nat) (v : List Typ) : Prop :=
  v.length = u.length ∧ (∃ r ρ, Ok v r ρ) ∧ (∀ τ, Sat v τ ↔ Sat u τ ∧ ∀ p, p < q → τ (ks.getD p 0).toNat = τ (ls.getD p 0).toNat) ∧ (v = u ∨ nfT v < nfT u)

theorem Part.next {u v v' : List Typ} {ks ls : List Int} {q : Nat} (h : Part u ks ls q v) (hu : UniOk v (ks.getD q 0).toNat (ls.getD q 0).toNat true v') : Part u ks ls (q + 1) v' := by
  obtain ⟨h1, h2, h3, h4⟩ := h
  obtain ⟨y1, y2, y3⟩ := hu.yes rfl
  refine ⟨by rw [hu.len, h1], y1, fun τ => ?_, ?_⟩
  · rw [y2 τ, h3 τ]
    constructor
    · rintro ⟨⟨hs, hp⟩, he⟩
      refine ⟨hs, fun p hp' => ?_⟩
      by_cases e : p = q
      · subst e; exact he
      · exact hp p (by omega)
    · rintro ⟨hs, hp⟩
      exact ⟨⟨hs, fun p hp' => hp p (by omega)⟩, hp q (by omega)⟩
  · rcases y3 with e | e
    · rw [e]; exact h4
    · rcases h4 with e4 | e4
      · rw [e4] at e; exact Or.inr e
      · exact Or.inr (by omega)

theorem Part.fail {u v v' : List Typ} {ks ls : List Int} {q : Nat} (h : Part u ks ls q v) (hq : q < ks.length) (hu : UniOk v (ks.getD q 0).toNat (ls.getD q 0).toNat false v') (τ : Nat → Tr) (hs : Sat u τ) (hall : ∀ p, p < ks.length → τ (ks.getD p 0).toNat = τ (ls.getD p 0).toNat) : False :=
  hu.no rfl τ ((h.2.2.1 τ).2 ⟨hs, fun p hp => hall p (by omega)⟩) (hall q hq)

theorem TabAt.drewN {w : World} {g : Nat} {u : List Typ} (h : TabAt w g u) (n : Nat) : TabAt (w.drewN n) g u := h

end Go.Proofs.YtjjanmccijghgaaDoor
