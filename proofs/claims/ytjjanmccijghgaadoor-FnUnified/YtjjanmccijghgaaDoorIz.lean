/-
  Types as they landed: two shapes are made one. Conditions: written at each theorem.
-/
import Derived.Test.YtjjanmccijghgaaDoorIy
import Derived.Test.YtjjanmccijghgaaDoorIu
namespace Go.Proofs.YtjjanmccijghgaaDoor
open Go.ChangeShapes Go.WideShapes Go.ChangeAt Go.RowKit
set_option linter.unusedVariables false

theorem nf_le : ∀ (u u' : List Typ), u'.length = u.length → (∀ i, freeT (u.getD i noTyp) = false → freeT (u'.getD i noTyp) = false) → nfT u' ≤ nfT u
  | [], [], _, _ => Nat.le_refl _
  | [], _ :: _, h, _ => by simp at h
  | _ :: _, [], h, _ => by simp at h
  | t :: u, t' :: u', h, hf => by
    have ih := nf_le u u' (by simpa using h) (fun i hi => by simpa using hf (i + 1) (by simpa using hi))
    have h0 := hf 0
    simp only [List.getD_cons_zero] at h0
    unfold nfT at ih ⊢
    rw [List.countP_cons, List.countP_cons]
    cases ht : freeT t
    · rw [h0 ht]
      simpa using ih
    · cases freeT t'
      · simp; omega
      · simp; omega

theorem MkOk.roots {u : List Typ} {r : Nat → Nat} {ρ : Nat → Tr} (h : Ok u r ρ) {x y i j : Nat} {v : Bool} {u' : List Typ} (hx : x < u.length) (hy : y < u.length) (hi : i < u.length) (hj : j < u.length) (ex : ρ i = ρ x) (ey : ρ j = ρ y) (hu : MkOk u ρ i j v u') : MkOk u ρ x y v u' := by
  refine ⟨hu.len, hu.free, fun hv => ?_, fun hv τ hs he => ?_⟩
  · obtain ⟨h1, h2, h3⟩ := hu.yes hv
    refine ⟨h1, fun τ => ?_, fun z hz k1 k2 τ hs => ?_⟩
    · rw [h2 τ]
      constructor
      · rintro ⟨hs, he⟩
        exact ⟨hs, by rw [← h.same hs hi hx ex, ← h.same hs hj hy ey]; exact he⟩
      · rintro ⟨hs, he⟩
        exact ⟨hs, by rw [h.same hs hi hx ex, h.same hs hj hy ey]; exact he⟩
    · rw [← h.same ((h2 τ).1 hs).1 hi hx ex]
      exact h3 z hz k1 k2 τ hs
  · rw [← h.same hs hi hx ex]
    exact hu.no hv τ hs (by rw [h.same hs hi hx ex, h.same hs hj hy ey]; exact he)

theorem MkOk.turn {u : List Typ} {ρ : Nat → Tr} {x y : Nat} {v : Bool} {u' : List Typ} (hu : MkOk u ρ x y v u') : MkOk u ρ y x v u' :=
  ⟨hu.len, hu.free, fun hv => by
    obtain ⟨h1, h2, h3⟩ := hu.yes hv
    exact ⟨h1, fun τ => by rw [h2 τ]; exact ⟨fun h => ⟨h.1, h.2.symm⟩, fun h => ⟨h.1, h.2.symm⟩⟩, fun z hz k1 k2 τ hs => by rw [← ((h2 τ).1 hs).2]; exact h3 z hz k1 k2 τ hs⟩, fun hv τ hs he => by rw [he]; exact hu.no hv τ hs he.symm⟩

/-- What is known when the first q parts were made one. -/
structure PartM (u : List Typ) (ρ : Nat → Tr) (x : Nat) (ks ls : List Int) (q : Nat) (v : List Typ) (ρv : Nat → Tr) : Prop where
  len : v.length = u.length
  ok : ∃ r, Ok v r ρv
  same : nfT v < nfT u ∨ ∀ i, i < u.length → ρv i = ρ i
  sat : ∀ τ, Sat v τ ↔ Sat u τ ∧ ∀ p, p < q → τ (ks.getD p 0).toNat = τ (ls.getD p 0).toNat
  free : ∀ i, freeT (u.getD i noTyp) = false → freeT (v.getD i noTyp) = false
  less : ∀ z, z < u.length → (u.getD z noTyp).kind ≠ 0 → (v.getD z noTyp).kind = 0 → ∀ τ, Sat v τ → sizeT (τ z) < sizeT (τ x)

theorem PartM.next {u v v' : List Typ} {ρ ρv : Nat → Tr} {x : Nat} {ks ls : List Int} {q : Nat} (h : PartM u ρ x ks ls q v ρv) (hkx : ∀ τ, Sat u τ → sizeT (τ (ks.getD q 0).toNat) < sizeT (τ x)) (hu : MkOk v ρv (ks.getD q 0).toNat (ls.getD q 0).toNat true v') : ∃ ρv', PartM u ρ x ks ls (q + 1) v' ρv' := by
  obtain ⟨⟨r', ρv', y1, y4⟩, y2, y3⟩ := hu.yes rfl
  have hnf := nf_le v v' hu.len hu.free
  refine ⟨ρv', by rw [hu.len, h.len], ⟨r', y1⟩, ?_, fun τ => ?_, fun i hi => hu.free i (h.free i hi), fun z hz k1 k2 τ hs => ?_⟩
  · rcases y4 with e | e
    · rcases h.same with e1 | e1
      · exact Or.inl (by omega)
      · by_cases hlt : nfT v' < nfT u
        · exact Or.inl hlt
        · have := nf_le u v h.len h.free
          exact Or.inl (by omega)
    · rcases h.same with e1 | e1
      · exact Or.inl (by omega)
      · exact Or.inr (fun i hi => by rw [e i (by rw [h.len]; exact hi), e1 i hi])
  · rw [y2 τ, h.sat τ]
    constructor
    · rintro ⟨⟨hs, hp⟩, he⟩
      refine ⟨hs, fun p hp' => ?_⟩
      by_cases e : p = q
      · subst e; exact he
      · exact hp p (by omega)
    · rintro ⟨hs, hp⟩
      exact ⟨⟨hs, fun p hp' => hp p (by omega)⟩, hp q (by omega)⟩
  · have hsv := ((y2 τ).1 hs).1
    have hsu := ((h.sat τ).1 hsv).1
    by_cases hk : (v.getD z noTyp).kind = 0
    · exact h.less z hz k1 hk τ hsv
    · have h1 := y3 z (by rw [h.len]; exact hz) hk k2 τ hs
      have h2 := hkx τ hsu
      omega

/-- All parts are one: the whole is, and one shape stands for the other. -/
theorem PartM.done {u v : List Typ} {ρ ρv : Nat → Tr} {x y : Nat} {ks ls : List Int} {q : Nat} (h : PartM u ρ x ks ls q v ρv) (hx : x < u.length) (hy : y < u.length) (hxy : x ≠ y) (kx : (u.getD x noTyp).kind ≠ 0) (ky : (u.getD y noTyp).kind ≠ 0)
    (hall : ∀ τ, Sat u τ → (τ x = τ y ↔ ∀ p, p < q → τ (ks.getD p 0).toNat = τ (ls.getD p 0).toNat)) : MkOk u ρ x y true (v.set x (linkT y)) := by
  obtain ⟨r, ho⟩ := h.ok
  have hsv : ∀ τ, Sat v τ ↔ Sat u τ ∧ τ x = τ y := fun τ => by
    rw [h.sat τ]
    exact ⟨fun q => ⟨q.1, (hall τ q.1).2 q.2⟩, fun q => ⟨q.1, (hall τ q.1).1 q.2⟩⟩
  have hρ := ((hsv ρv).1 ho.sat).2
  have kyv : (v.getD y noTyp).kind ≠ 0 := fun e => by
    have := h.less y hy ky e ρv ho.sat
    rw [hρ] at this
    omega
  have fx : freeT (v.getD x noTyp) = false := h.free x (by unfold freeT; rw [decide_eq_false kx]; rfl)
  obtain ⟨⟨r', ho'⟩, hn⟩ := ho.point2 (by rw [h.len]; exact hx) (by rw [h.len]; exact hy) fx kyv hxy hρ
  have hl : (v.set x (linkT y)).length = v.length := by simp
  have hss : ∀ τ, Sat (v.set x (linkT y)) τ ↔ Sat v τ := fun τ => by rw [ho'.sat_iff τ, ho.sat_iff τ, hl]
  refine ⟨by rw [hl, h.len], fun i hi => ?_, fun _ => ⟨⟨r', ρv, ho', ?_⟩, fun τ => by rw [hss τ, hsv τ], fun z hz k1 k2 τ hs => ?_⟩, fun q => by cases q⟩
  · rw [set_at _ _ _ _ (by rw [h.len]; exact hx)]
    split
    · exact free_link y
    · exact h.free i hi
  · rw [hn]
    exact h.same
  · rw [set_at _ _ _ _ (by rw [h.len]; exact hx)] at k2
    split at k2
    · rename_i e
      rw [e]
      exact Nat.le_refl _
    · exact Nat.le_of_lt (h.less z hz k1 k2 τ ((hss τ).1 hs))

theorem PartM.fail {u v v' : List Typ} {ρ ρv : Nat → Tr} {x y : Nat} {ks ls : List Int} {q : Nat} (h : PartM u ρ x ks ls q v ρv) (hq : q < ks.length) (hkx : ∀ τ, Sat u τ → sizeT (τ (ks.getD q 0).toNat) < sizeT (τ x)) (hu : MkOk v ρv (ks.getD q 0).toNat (ls.getD q 0).toNat false v')
    (hall : ∀ τ, Sat u τ → (τ x = τ y ↔ ∀ p, p < ks.length → τ (ks.getD p 0).toNat = τ (ls.getD p 0).toNat)) : MkOk u ρ x y false v' :=
  ⟨by rw [hu.len, h.len], fun i hi => hu.free i (h.free i hi), fun e => (by cases e), fun _ τ hs he => by
    have ha := (hall τ hs).1 he
    have h1 := hu.no rfl τ ((h.sat τ).2 ⟨hs, fun p hp => ha p (by omega)⟩) (ha q hq)
    have h2 := hkx τ hs
    omega⟩
end Go.Proofs.YtjjanmccijghgaaDoor
