/-
  Scopes, plain: parents, and that each node but the last one has one. Conditions: written at each theorem.
-/
import Derived.Test.YtcpafjpjfinbkaaTv
import Derived.Test.YtcpafjpjfinbkaaNt
namespace Go.Proofs.Ytcpafjpjfinbkaa
open Go.ChangeShapes Go.WideShapes Go.ChangeAt Go.RowKit
set_option linter.unusedVariables false

/-- Is a number among these? -/
def hasI (st : List Int) (x : Int) : Bool := st.contains x

/-- The first of the last k nodes that has m among its kids. -/
def parU (ts : List Nod) (m : Int) : Nat → Int
  | 0 => -1
  | k + 1 => if hasI (kidL (ts.getD (ts.length - (k + 1)) noNod)) m = true then ((ts.length - (k + 1) : Nat) : Int) else parU ts m k

def parP (ts : List Nod) (m : Int) : Int := parU ts m ts.length

def parB (ts : List Nod) (m : Int) : Int := if nodesB ts = true then parP ts m else -1

theorem parU_at {ts : List Nod} {m : Int} {j : Nat} (h : j < ts.length) : parU ts m (ts.length - j) = if hasI (kidL (ts.getD j noNod)) m = true then (j : Int) else parU ts m (ts.length - (j + 1)) := by
  have e : ts.length - j = (ts.length - (j + 1)) + 1 := by omega
  rw [e, parU]
  have e2 : ts.length - (ts.length - (j + 1) + 1) = j := by omega
  rw [e2]

theorem parU_range (ts : List Nod) (m : Int) : ∀ k, k ≤ ts.length → parU ts m k = -1 ∨ ∃ p : Nat, parU ts m k = p ∧ ts.length - k ≤ p ∧ p < ts.length ∧ hasI (kidL (ts.getD p noNod)) m = true
  | 0, _ => Or.inl rfl
  | k + 1, h => by
    rw [parU]
    split
    · rename_i hc
      exact Or.inr ⟨_, rfl, by omega, by omega, hc⟩
    · rcases parU_range ts m k (by omega) with h1 | ⟨p, h1, h2, h3, h4⟩
      · exact Or.inl h1
      · exact Or.inr ⟨p, h1, by omega, h3, h4⟩

theorem parU_some (ts : List Nod) (m : Int) (p : Nat) (hp : p < ts.length) (hc : hasI (kidL (ts.getD p noNod)) m = true) : ∀ k, k ≤ ts.length → ts.length - k ≤ p → 0 ≤ parU ts m k
  | 0, _, h => by omega
  | k + 1, hk, h => by
    rw [parU]
    split
    · omega
    · rename_i hn
      by_cases e : ts.length - (k + 1) = p
      · rw [e] at hn
        exact absurd hc hn
      · exact parU_some ts m p hp hc k (by omega) (by omega)

/-- Kids stand ahead of their node. -/
theorem kids_low {ts : List Nod} {st : List Nat} (h : Right ts st) {j : Nat} (hj : j < ts.length) {m : Int} (hm : hasI (kidL (ts.getD j noNod)) m = true) : ∃ c : Nat, m = c ∧ c < j ∧ st.getD j 0 ≤ c := by
  obtain ⟨hF, h0, k0, k1, k2, k3⟩ := h.2 j hj
  have hs : ∀ c, c < j → st.getD c 0 ≤ c := fun c hc => (h.2 c (by omega)).2.1
  rcases (by have := arN_le (ts.getD j noNod).kind; omega : arN (ts.getD j noNod).kind = 0 ∨ arN (ts.getD j noNod).kind = 1 ∨ arN (ts.getD j noNod).kind = 2 ∨ arN (ts.getD j noNod).kind = 3) with e | e | e | e
  · rw [kidL_0 e] at hm
    simp [hasI] at hm
  · obtain ⟨a, ha, h1, h2⟩ := k1 e
    rw [kidL_1 e, ha] at hm
    simp [hasI] at hm
    have := hs a (by omega)
    exact ⟨a, hm, by omega, by omega⟩
  · obtain ⟨a, b, ha, hb, h1, h2, h3⟩ := k2 e
    rw [kidL_2 e, ha, hb] at hm
    simp [hasI] at hm
    have q1 := hs b (by omega)
    have q2 := hs a (by omega)
    rcases hm with rfl | rfl
    · exact ⟨a, rfl, by omega, by omega⟩
    · exact ⟨b, rfl, by omega, by omega⟩
  · obtain ⟨a, b, c, ha, hb, hc, h1, h2, h3, h4⟩ := k3 e
    rw [kidL_3 e, ha, hb, hc] at hm
    simp [hasI] at hm
    have q1 := hs c (by omega)
    have q2 := hs b (by omega)
    have q3 := hs a (by omega)
    rcases hm with rfl | rfl | rfl
    · exact ⟨a, rfl, by omega, by omega⟩
    · exact ⟨b, rfl, by omega, by omega⟩
    · exact ⟨c, rfl, by omega, by omega⟩

/-- Each node of a part but its last one has a parent in it. -/
theorem kid_has {ts : List Nod} {st : List Nat} (h : Right ts st) : ∀ (n j : Nat), j < n → j < ts.length → ∀ i : Nat, st.getD j 0 ≤ i → i < j → ∃ p, p ≤ j ∧ i < p ∧ hasI (kidL (ts.getD p noNod)) (i : Int) = true
  | 0, j, hn, _, _, _, _ => by omega
  | n + 1, j, hn, hj, i, h1, h2 => by
    obtain ⟨hF, h0, k0, k1, k2, k3⟩ := h.2 j hj
    have hs : ∀ c, c < j → st.getD c 0 ≤ c := fun c hc => (h.2 c (by omega)).2.1
    have deep : ∀ c : Nat, c < j → hasI (kidL (ts.getD j noNod)) (c : Int) = true → st.getD c 0 ≤ i → i ≤ c → ∃ p, p ≤ j ∧ i < p ∧ hasI (kidL (ts.getD p noNod)) (i : Int) = true := fun c hc hk q1 q2 => by
      by_cases e : i = c
      · exact ⟨j, by omega, by omega, by rw [e]; exact hk⟩
      · obtain ⟨p, p1, p2, p3⟩ := kid_has h n c (by omega) (by omega) i q1 (by omega)
        exact ⟨p, by omega, p2, p3⟩
    rcases (by have := arN_le (ts.getD j noNod).kind; omega : arN (ts.getD j noNod).kind = 0 ∨ arN (ts.getD j noNod).kind = 1 ∨ arN (ts.getD j noNod).kind = 2 ∨ arN (ts.getD j noNod).kind = 3) with e | e | e | e
    · have := k0 e
      omega
    · obtain ⟨a, ha, g1, g2⟩ := k1 e
      exact deep a (by omega) (by rw [kidL_1 e, ha]; simp [hasI]) (by omega) (by omega)
    · obtain ⟨a, b, ha, hb, g1, g2, g3⟩ := k2 e
      have q1 := hs b (by omega)
      by_cases hb' : st.getD b 0 ≤ i
      · exact deep b (by omega) (by rw [kidL_2 e, ha, hb]; simp [hasI]) hb' (by omega)
      · exact deep a (by omega) (by rw [kidL_2 e, ha, hb]; simp [hasI]) (by omega) (by omega)
    · obtain ⟨a, b, c, ha, hb, hc, g1, g2, g3, g4⟩ := k3 e
      have q1 := hs c (by omega)
      have q2 := hs b (by omega)
      by_cases hc' : st.getD c 0 ≤ i
      · exact deep c (by omega) (by rw [kidL_3 e, ha, hb, hc]; simp [hasI]) hc' (by omega)
      · by_cases hb' : st.getD b 0 ≤ i
        · exact deep b (by omega) (by rw [kidL_3 e, ha, hb, hc]; simp [hasI]) hb' (by omega)
        · exact deep a (by omega) (by rw [kidL_3 e, ha, hb, hc]; simp [hasI]) (by omega) (by omega)

/-- A right program: kids ahead, and parents behind. -/
theorem right_par {ts : List Nod} (h : nodesB ts = true) : ts.length ≤ 150 ∧ 1 ≤ ts.length ∧ (∃ st, Right ts st) ∧ (∀ (m : Int), parP ts m = -1 ∨ ∃ p c : Nat, parP ts m = p ∧ p < ts.length ∧ m = c ∧ c < p ∧ hasI (kidL (ts.getD p noNod)) m = true) ∧
    (∀ i : Nat, i + 1 < ts.length → ∃ p, i < p ∧ p < ts.length ∧ hasI (kidL (ts.getD p noNod)) (i : Int) = true) := by
  obtain ⟨h1, h2, st, hS⟩ := nodesB_starts h
  have hR := right_of (by omega) hS
  refine ⟨h2, h1, ⟨_, hR⟩, fun m => ?_, fun i hi => ?_⟩
  · rcases parU_range ts m ts.length (Nat.le_refl _) with e | ⟨p, e, _, hp, hc⟩
    · exact Or.inl e
    · obtain ⟨c, rfl, hc1, _⟩ := kids_low hR hp hc
      exact Or.inr ⟨p, c, e, hp, rfl, hc1, hc⟩
  · have h0 : st.getD (ts.length - 1) 0 = 0 := by
      have := (Bool.and_eq_true_iff.1 h).2
      rw [hS] at this
      simpa using this
    obtain ⟨p, p1, p2, p3⟩ := kid_has hR (ts.length) (ts.length - 1) (by omega) (by omega) i (by rw [getD_nat, h0]; simp) (by omega)
    exact ⟨p, p2, by omega, p3⟩

end Go.Proofs.Ytcpafjpjfinbkaa
