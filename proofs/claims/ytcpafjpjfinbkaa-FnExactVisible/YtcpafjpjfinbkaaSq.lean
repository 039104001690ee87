/-
  Scopes: the names that can be seen at a node: the specification's and as they landed. Conditions: written at each theorem.
-/
import Derived.Test.YtcpafjpjfinbkaaSf
import Derived.Test.YtcpafjpjfinbkaaSi
namespace Go.Proofs.Ytcpafjpjfinbkaa
open Go.ChangeShapes Go.WideShapes Go.ChangeAt Go.RowKit Go.Sort
set_option linter.unusedVariables false

/-- The names that are bound over a node, so many parents up. -/
def visF (ts : List Nod) : Nat → Int → List (List UInt8)
  | 0, _ => []
  | f + 1, kid => if parP ts kid < 0 then [] else (bndL (ts.getD (parP ts kid).toNat noNod) kid).map (fun x => x.1.data.toList) ++ visF ts f (parP ts kid)

/-- What Visible answers. -/
def visB (ts : List Nod) (i : Int) : List (List UInt8) := if nodesB ts = true ∧ 0 ≤ i ∧ i < ts.length then insL [] (visF ts ts.length i) else []

theorem visF_step (ts : List Nod) (f : Nat) (kid : Int) : visF ts (f + 1) kid = if parP ts kid < 0 then [] else (bndL (ts.getD (parP ts kid).toNat noNod) kid).map (fun x => x.1.data.toList) ++ visF ts f (parP ts kid) := rfl

theorem look_mem (s : ByteArray) : ∀ (L : List (ByteArray × Int)), (∃ r, lookR s L = some r) ↔ s.data.toList ∈ L.map (fun x => x.1.data.toList)
  | [] => by simp [lookR]
  | (n, r) :: L => by
    rw [lookR, List.map_cons, List.mem_cons, ← look_mem s L]
    by_cases h : n = s
    · rw [if_pos h, h]
      simp
    · rw [if_neg h]
      constructor
      · exact fun q => Or.inr q
      · rintro (q | q)
        · exact absurd (data_ext q.symm) h
        · exact q

theorem scF_vis (ts : List Nod) (s : ByteArray) : ∀ (f : Nat) (kid : Int), 0 ≤ (scF ts s f kid).1 ↔ s.data.toList ∈ visF ts f kid
  | 0, kid => by simp [scF, visF]
  | f + 1, kid => by
    rw [scF_step, visF_step]
    by_cases hp : parP ts kid < 0
    · rw [if_pos hp, if_pos hp]
      simp
    · rw [if_neg hp, if_neg hp, List.mem_append, ← look_mem]
      cases hl : lookR s (bndL (ts.getD (parP ts kid).toNat noNod) kid) with
      | some r =>
        simp only
        exact ⟨fun _ => Or.inl ⟨r, rfl⟩, fun _ => by omega⟩
      | none =>
        simp only
        rw [scF_vis ts s f]
        exact ⟨fun h => Or.inr h, fun h => by rcases h with ⟨r, hr⟩ | h; cases hr; exact h⟩

theorem bnd_site (t : Nod) (c : Int) (q : Nat) : ∀ x ∈ bndL t c, ∃ r : Nat, r < rolK t.kind ∧ roleS t r = x.1 := by
  intro x hx
  unfold bndL at hx
  split at hx
  · rename_i h
    rw [List.mem_singleton] at hx
    exact ⟨0, by rw [h]; decide, by rw [hx]; rfl⟩
  · split at hx
    · rename_i h
      split at hx
      · rw [List.mem_singleton] at hx
        exact ⟨0, by rcases h with h | h <;> rw [h] <;> decide, by rw [hx]; rfl⟩
      · simp at hx
    · split at hx
      · rename_i h
        have hk : rolK t.kind = 2 := by rw [h]; decide
        split at hx
        · simp only [List.mem_cons, List.not_mem_nil, or_false] at hx
          rcases hx with hx | hx
          · exact ⟨1, by omega, by rw [hx]; rfl⟩
          · exact ⟨0, by omega, by rw [hx]; rfl⟩
        · rw [List.mem_singleton] at hx
          exact ⟨0, by omega, by rw [hx]; rfl⟩
      · split at hx
        · rename_i h
          have hk : rolK t.kind = 2 := by rw [h]; decide
          split at hx
          · simp only [List.mem_cons, List.not_mem_nil, or_false] at hx
            rcases hx with hx | hx
            · exact ⟨1, by omega, by rw [hx]; rfl⟩
            · exact ⟨0, by omega, by rw [hx]; rfl⟩
          · simp at hx
        · simp at hx

theorem siteL_mem (i : Nat) : ∀ (n r : Nat), r < n → (⟨i, r⟩ : Bnd) ∈ siteL i n
  | 0, r, h => by omega
  | n + 1, r, h => by
    rw [siteL, List.mem_append]
    by_cases e : r = n
    · subst e; exact Or.inr (by simp)
    · exact Or.inl (siteL_mem i n r (by omega))

theorem siteL_from (i : Nat) : ∀ (n : Nat) (b : Bnd), b ∈ siteL i n → ∃ r : Nat, b = ⟨i, r⟩ ∧ r < n
  | 0, b, h => by simp [siteL] at h
  | n + 1, b, h => by
    rw [siteL, List.mem_append] at h
    rcases h with h | h
    · obtain ⟨r, e, hr⟩ := siteL_from i n b h
      exact ⟨r, e, by omega⟩
    · rw [List.mem_singleton] at h
      exact ⟨n, h, by omega⟩

theorem siteF_mem (ts : List Nod) (p r : Nat) (hr : r < rolK (ts.getD p noNod).kind) : ∀ n, p < n → (⟨p, r⟩ : Bnd) ∈ siteF ts n
  | 0, h => by omega
  | n + 1, h => by
    rw [siteF, List.mem_append]
    by_cases e : p = n
    · subst e; exact Or.inr (siteL_mem p _ r hr)
    · exact Or.inl (siteF_mem ts p r hr n (by omega))

theorem siteF_from (ts : List Nod) : ∀ (n : Nat) (b : Bnd), b ∈ siteF ts n → ∃ p r : Nat, b = ⟨p, r⟩ ∧ p < n ∧ r ≤ 1
  | 0, b, h => by simp [siteF] at h
  | n + 1, b, h => by
    rw [siteF, List.mem_append] at h
    rcases h with h | h
    · obtain ⟨p, r, e, hp, hr⟩ := siteF_from ts n b h
      exact ⟨p, r, e, by omega, hr⟩
    · obtain ⟨r, e, hr⟩ := siteL_from n _ b h
      have := rolK_le (ts.getD n noNod).kind
      exact ⟨n, r, e, by omega, by omega⟩

/-- The name of a site. -/
def siteS (ts : List Nod) (b : Bnd) : ByteArray := roleS (ts.getD b.node.toNat noNod) b.role

theorem vis_site {ts : List Nod} (hp : ∀ (m : Int), parP ts m = -1 ∨ ∃ p c : Nat, parP ts m = p ∧ p < ts.length ∧ m = c ∧ c < p ∧ hasI (kidL (ts.getD p noNod)) m = true) (x : List UInt8) : ∀ (f : Nat) (kid : Int), x ∈ visF ts f kid → ∃ b ∈ siteF ts ts.length, (siteS ts b).data.toList = x
  | 0, kid, h => by simp [visF] at h
  | f + 1, kid, h => by
    rw [visF_step] at h
    rcases hp kid with e | ⟨p, c, e, h1, _, _, _⟩
    · rw [if_pos (by omega)] at h
      simp at h
    · rw [e, if_neg (by omega), List.mem_append] at h
      rcases h with h | h
      · obtain ⟨y, hy, rfl⟩ := List.mem_map.1 h
        obtain ⟨r, hr, hs⟩ := bnd_site _ _ 0 y hy
        exact ⟨⟨p, r⟩, siteF_mem ts p r hr _ h1, by rw [← hs]; rfl⟩
      · exact vis_site hp x f p h

/-- The names of the first k sites that are bound at node i. -/
def visX (ts : List Nod) (i : Int) (bl : List Bnd) : Nat → List (List UInt8)
  | 0 => []
  | k + 1 => visX ts i bl k ++ (if 0 ≤ (scB ts i (siteS ts (bl.getD k noBnd))).1 then [(siteS ts (bl.getD k noBnd)).data.toList] else [])

theorem visX_mem (ts : List Nod) (i : Int) (bl : List Bnd) (x : List UInt8) : ∀ k, x ∈ visX ts i bl k ↔ ∃ j, j < k ∧ 0 ≤ (scB ts i (siteS ts (bl.getD j noBnd))).1 ∧ (siteS ts (bl.getD j noBnd)).data.toList = x
  | 0 => by simp [visX]
  | k + 1 => by
    rw [visX, List.mem_append, visX_mem ts i bl x k]
    constructor
    · rintro (⟨j, h1, h2, h3⟩ | h)
      · exact ⟨j, by omega, h2, h3⟩
      · split at h
        · rename_i hc
          rw [List.mem_singleton] at h
          exact ⟨k, by omega, hc, h.symm⟩
        · simp at h
    · rintro ⟨j, h1, h2, h3⟩
      by_cases e : j = k
      · subst e
        rw [if_pos h2]
        exact Or.inr (by rw [h3]; simp)
      · exact Or.inl ⟨j, by omega, h2, h3⟩

theorem visX_length (ts : List Nod) (i : Int) (bl : List Bnd) : ∀ k, (visX ts i bl k).length ≤ k
  | 0 => Nat.le_refl _
  | k + 1 => by
    rw [visX, List.length_append]
    have := visX_length ts i bl k
    split <;> simp <;> omega

/-- Asked of all sites, or gathered from the parents: the same names. -/
theorem vis_same {ts : List Nod} (h : nodesB ts = true) (i : Int) : risL (visX ts i (siteF ts ts.length) (siteF ts ts.length).length) = insL [] (visF ts ts.length i) := by
  obtain ⟨_, _, _, hp, _⟩ := right_par h
  refine ris_ins _ _ fun x => ?_
  rw [visX_mem]
  constructor
  · rintro ⟨j, _, h2, rfl⟩
    exact (scF_vis ts _ ts.length i).1 h2
  · intro hx
    obtain ⟨b, hb, rfl⟩ := vis_site hp x _ _ hx
    obtain ⟨j, hj, e⟩ := List.getElem_of_mem hb
    have e2 : (siteF ts ts.length).getD j noBnd = b := by simp [List.getD, hj, e]
    exact ⟨j, hj, by rw [e2]; exact (scF_vis ts _ ts.length i).2 hx, by rw [e2]⟩

theorem role_small {ts : List Nod} (h : nodesB ts = true) (b : Bnd) (hb : b ∈ siteF ts ts.length) : (siteS ts b).size ≤ 8 := by
  obtain ⟨p, r, rfl, hp, hr⟩ := siteF_from ts _ b hb
  have := name_small h p hp
  unfold siteS roleS
  simp only
  rw [show ((p : Nat) : Int).toNat = p by omega]
  split
  · exact this.2
  · exact this.1

theorem visX_small {ts : List Nod} (h : nodesB ts = true) (i : Int) : ∀ x ∈ visX ts i (siteF ts ts.length) (siteF ts ts.length).length, x.length ≤ 1000000 := fun x hx => by
  obtain ⟨j, hj, _, rfl⟩ := (visX_mem ts i _ x _).1 hx
  have hm : (siteF ts ts.length).getD j noBnd ∈ siteF ts ts.length := by simp [List.getD, hj]
  have := role_small h _ hm
  rw [Array.length_toList]
  have e : (siteS ts ((siteF ts ts.length).getD j noBnd)).size = (siteS ts ((siteF ts ts.length).getD j noBnd)).data.size := rfl
  omega

theorem visF_length (ts : List Nod) : ∀ (f : Nat) (kid : Int), (visF ts f kid).length ≤ 2 * f
  | 0, kid => by simp [visF]
  | f + 1, kid => by
    rw [visF_step]
    split
    · simp
    · have := visF_length ts f (parP ts kid)
      have := bndL_len (ts.getD (parP ts kid).toNat noNod) kid
      simp only [List.length_append, List.length_map]
      omega

theorem visB_length (ts : List Nod) (i : Int) : (visB ts i).length ≤ 300 := by
  unfold visB
  split
  · rename_i h
    obtain ⟨h1, h2, _⟩ := nodesB_starts h.1
    have a1 := insL_length (visF ts ts.length i) []
    have a2 := visF_length ts ts.length i
    simp only [List.length_nil] at a1
    omega
  · simp

theorem visF_more {ts : List Nod} (hp : ∀ (m : Int), parP ts m = -1 ∨ ∃ p c : Nat, parP ts m = p ∧ p < ts.length ∧ m = c ∧ c < p ∧ hasI (kidL (ts.getD p noNod)) m = true) : ∀ (f : Nat) (kid : Nat), ts.length ≤ kid + f → visF ts (f + 1) kid = visF ts f kid
  | 0, kid, h => by
    rw [visF_step]
    rcases hp kid with e | ⟨p, c, e, h1, h2, h3, _⟩
    · rw [if_pos (by omega)]; rfl
    · omega
  | f + 1, kid, h => by
    rw [visF_step ts (f + 1) kid, visF_step ts f kid]
    rcases hp kid with e | ⟨p, c, e, h1, h2, h3, _⟩
    · rw [if_pos (by omega), if_pos (by omega)]
    · rw [e, if_neg (by omega), if_neg (by omega), visF_more hp f p (by omega)]

end Go.Proofs.Ytcpafjpjfinbkaa
