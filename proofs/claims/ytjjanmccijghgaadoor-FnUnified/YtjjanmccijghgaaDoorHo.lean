/-
  Types, plain: how many parts an entry has by those of what it is made of; what is one with itself, and from either side. Conditions: written at each theorem.
-/
import Derived.Test.YtjjanmccijghgaaDoorHb
namespace Go.Proofs.YtjjanmccijghgaaDoor
open Go.ChangeShapes Go.WideShapes Go.ChangeAt Go.RowKit
set_option linter.unusedVariables false

def wantZ (ts : List Typ) (t : Typ) : Nat :=
  if t.kind = 0 then (if 0 ≤ t.a then sizB ts t.a else 1) else if t.kind = 2 ∨ t.kind = 3 then 1 + sizB ts t.a + sizB ts t.b else if t.kind = 4 ∨ t.kind = 5 then 1 + sizB ts t.a else 1

theorem siz_kid {ts : List Typ} (h : tabB ts = true) {k : Int} (h0 : 0 ≤ k) (h1 : k < ts.length) : sizB ts k = min (sizeT (solB ts k.toNat)) 61 := by
  unfold sizB
  rw [if_pos ⟨h, h0, h1⟩]

theorem siz_step {ts : List Typ} (h : tabB ts = true) {i : Nat} (hi : i < ts.length) : sizB ts i = min (wantZ ts (ts.getD i noTyp)) 61 := by
  obtain ⟨_, r, ho⟩ := tab_ok h
  have he := ho.ent i hi
  have hk : ∀ k ∈ kidZ (ts.getD i noTyp), sizB ts k = min (sizeT (solB ts k.toNat)) 61 := fun k hk => by
    have := he.kids k hk
    exact siz_kid h this.1 this.2
  rw [siz_kid h (by omega) (by omega)]
  rw [show (i : Int).toNat = i from rfl]
  by_cases h0 : (ts.getD i noTyp).kind = 0
  · by_cases ha : 0 ≤ (ts.getD i noTyp).a
    · have hb := ho.bound hi h0 ha
      have := hk _ (kid_bound h0 ha)
      unfold wantZ
      rw [if_pos h0, if_pos ha, this, hb]
      omega
    · have hf := ho.free i hi h0 (by omega)
      unfold wantZ
      rw [if_pos h0, if_neg ha, hf]
      rfl
  · have hc := ho.con hi h0
    unfold wantZ
    rw [if_neg h0, hc]
    generalize ts.getD i noTyp = t at *
    unfold rhsT
    by_cases h2 : t.kind = 2 ∨ t.kind = 3
    · have ka := hk t.a (by simp [kidZ, h0, h2])
      have kb := hk t.b (by simp [kidZ, h0, h2])
      rw [if_pos h2, if_pos h2, ka, kb]
      simp only [sizeT]
      omega
    · rw [if_neg h2, if_neg h2]
      by_cases h4 : t.kind = 4 ∨ t.kind = 5
      · have ka := hk t.a (by simp [kidZ, h0, h2, h4])
        rw [if_pos h4, if_pos h4, ka]
        simp only [sizeT]
        omega
      · rw [if_neg h4, if_neg h4]
        rfl

theorem siz_zero {ts : List Typ} {i : Int} (h : sizB ts i = 0) : ¬ (tabB ts = true ∧ 0 ≤ i ∧ i < ts.length) := by
  intro hq
  unfold sizB at h
  rw [if_pos hq] at h
  have := sizeT_pos (solB ts i.toNat)
  omega

theorem sho_nil (ts : List Typ) (i : Int) : shoB ts i = [] ↔ ¬ (1 ≤ sizB ts i ∧ sizB ts i ≤ 60) := by
  unfold shoB
  by_cases h : 1 ≤ sizB ts i ∧ sizB ts i ≤ 60
  · rw [if_pos h]
    exact ⟨fun q => absurd q (sho_ne _ _ _), fun q => absurd h q⟩
  · rw [if_neg h]
    exact ⟨fun _ => h, fun _ => rfl⟩

theorem uniE_sym {ts : List Typ} {a b : Int} {s : List UInt8} {v : Bool} (h : UniE ts a b s v) : UniE ts b a s v := by
  unfold UniE at h ⊢
  by_cases hc : (1 ≤ sizB ts a ∧ sizB ts a ≤ 60) ∧ (1 ≤ sizB ts b ∧ sizB ts b ≤ 60)
  · rw [if_pos hc] at h
    rw [if_pos ⟨hc.2, hc.1⟩]
    exact uni_sym h
  · rw [if_neg hc] at h
    rw [if_neg fun q => hc ⟨q.2, q.1⟩]
    exact h

theorem uniE_self {ts : List Typ} {a : Int} {s : List UInt8} {v : Bool} (h : UniE ts a a s v) : v = decide (1 ≤ sizB ts a ∧ sizB ts a ≤ 60) ∧ s = shoB ts a := by
  by_cases hc : 1 ≤ sizB ts a ∧ sizB ts a ≤ 60
  · obtain ⟨ht, h0, h1⟩ := siz_in hc.1
    obtain ⟨_, r, ho⟩ := tab_ok ht
    have hz : sizeT (solB ts a.toNat) ≤ 60 := by
      have := siz_kid ht h0 h1
      omega
    have h2 : UniE ts a a (shoT 0 (solB ts a.toNat) []).1 true := by
      unfold UniE
      rw [if_pos ⟨hc, hc⟩]
      exact uni_self ho hz
    obtain ⟨rfl, rfl⟩ := uniE_one h h2
    refine ⟨by rw [decide_eq_true hc], ?_⟩
    unfold shoB
    rw [if_pos hc]
  · unfold UniE at h
    rw [if_neg fun q => hc q.1] at h
    rw [h.1, h.2, decide_eq_false hc]
    exact ⟨rfl, ((sho_nil ts a).2 hc).symm⟩

theorem uniE_len {ts : List Typ} {a b : Int} {s : List UInt8} {v : Bool} (h : UniE ts a b s v) : v = decide (0 < s.length) := by
  unfold UniE at h
  split at h
  · rcases h with ⟨rfl, u, r, ρ, _, _, _, _, rfl⟩ | ⟨rfl, rfl, _⟩
    · have := sho_ne 0 (ρ a.toNat) []
      rw [decide_eq_true (List.length_pos_iff.2 this)]
    · rfl
  · rw [h.1, h.2]
    rfl

theorem no_table {ts : List Typ} (h : tabB ts = false) (i : Int) : sizB ts i = 0 ∧ shoB ts i = [] := by
  have e : sizB ts i = 0 := by
    unfold sizB
    rw [if_neg (by rw [h]; simp)]
  exact ⟨e, (sho_nil ts i).2 (by omega)⟩

theorem uniE_table {ts : List Typ} (h : tabB ts = false) {a b : Int} {s : List UInt8} {v : Bool} (hu : UniE ts a b s v) : v = false ∧ s = [] := by
  have := no_table h a
  unfold UniE at hu
  rw [if_neg (by omega)] at hu
  exact ⟨hu.2, hu.1⟩
end Go.Proofs.YtjjanmccijghgaaDoor
