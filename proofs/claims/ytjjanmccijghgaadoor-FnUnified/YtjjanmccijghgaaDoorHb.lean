/-
  Types, plain: a free variable comes to stand for another entry; an entry for one that is the same; texts; the one answer. Conditions: written at each theorem.
-/
import Derived.Test.YtjjanmccijghgaaDoorHa
import Derived.Test.YtjjanmccijghgaaDoorDm
namespace Go.Proofs.YtjjanmccijghgaaDoor
open Go.ChangeShapes Go.WideShapes Go.ChangeAt Go.RowKit
set_option linter.unusedVariables false

def freeT (t : Typ) : Bool := decide (t.kind = 0) && decide (t.a < 0)
def nfT (ts : List Typ) : Nat := ts.countP freeT
def linkT (b : Nat) : Typ := ⟨0, b, 0⟩

theorem kid_link (b : Nat) : kidZ (linkT b) = [(b : Int)] := by simp [kidZ, linkT]

theorem ent_link (n b : Nat) (hb : b < n) : EntOk n (linkT b) := by
  refine ⟨by simp [linkT], by simp [linkT], fun _ => by simp [linkT], fun h => by simp [linkT] at h, fun _ _ => by simp [linkT], fun k hk => ?_⟩
  rw [kid_link] at hk
  simp at hk
  omega

theorem free_link (b : Nat) : freeT (linkT b) = false := by
  have h : ¬ ((b : Int) < 0) := by omega
  unfold freeT linkT
  rw [decide_eq_false h, Bool.and_false]

theorem kid_var {t : Typ} (h0 : t.kind = 0) {k : Int} (hk : k ∈ kidZ t) : 0 ≤ t.a ∧ k = t.a := by
  unfold kidZ at hk
  rw [if_pos h0] at hk
  split at hk
  · rename_i h
    exact ⟨h, by simpa using hk⟩
  · simp at hk

theorem set_at (ts : List Typ) (a i : Nat) (t : Typ) (ha : a < ts.length) : (ts.set a t).getD i noTyp = if i = a then t else ts.getD i noTyp := by
  rw [getD_set_at]
  by_cases e : a = i
  · subst e; simp [ha]
  · rw [if_neg (fun x => e x.1), if_neg (fun x => e x.symm)]

/-- A free variable stands in an entry where it stands in a part. -/
theorem occ_kid {t : Typ} {ρ : Nat → Tr} {v : Nat} (h0 : t.kind ≠ 0) {k : Int} (hk : k ∈ kidZ t) (h : occT v (ρ k.toNat) = true) : occT v (rhsT t ρ) = true := by
  unfold rhsT
  unfold kidZ at hk
  rw [if_neg h0] at hk
  split
  · rename_i h2
    rw [if_pos h2] at hk
    simp at hk
    rw [occT, occT, Bool.or_eq_true]
    rcases hk with rfl | rfl
    · exact Or.inl h
    · exact Or.inr h
  · rename_i h2
    rw [if_neg h2] at hk
    split
    · rename_i h4
      rw [if_pos h4] at hk
      simp at hk
      subst hk
      rw [occT]
      exact h
    · rename_i h4
      rw [if_neg h4] at hk
      simp at hk

theorem nf_link {ts : List Typ} {a b : Nat} (ha : a < ts.length) (hf : freeT (ts.getD a noTyp) = true) : nfT (ts.set a (linkT b)) + 1 = nfT ts := by
  have hl : freeT (linkT b) = false := free_link b
  have e : ts.getD a noTyp = ts[a] := by simp [List.getD, ha]
  rw [e] at hf
  have hp : 0 < nfT ts := by
    unfold nfT
    rw [List.countP_pos_iff]
    exact ⟨_, List.getElem_mem ha, hf⟩
  unfold nfT at hp ⊢
  rw [List.countP_set ha, hl, hf]
  simp
  omega

theorem nf_link_con {ts : List Typ} {a b : Nat} (ha : a < ts.length) (hf : freeT (ts.getD a noTyp) = false) : nfT (ts.set a (linkT b)) = nfT ts := by
  have hl : freeT (linkT b) = false := free_link b
  have e : ts.getD a noTyp = ts[a] := by simp [List.getD, ha]
  rw [e] at hf
  unfold nfT
  rw [List.countP_set ha, hl, hf]
  simp

/-- A free variable comes to stand for an entry in which it does not stand. -/
theorem Ok.bind {ts : List Typ} {r : Nat → Nat} {ρ : Nat → Tr} (h : Ok ts r ρ) {a b : Nat} (ha : a < ts.length) (hb : b < ts.length) (h0 : (ts.getD a noTyp).kind = 0) (hf : (ts.getD a noTyp).a < 0) (ho : occT a (ρ b) = false) :
    (∃ r' ρ', Ok (ts.set a (linkT b)) r' ρ') ∧ ∀ τ, Sat (ts.set a (linkT b)) τ ↔ Sat ts τ ∧ τ a = τ b := by
  have hρa := h.free a ha h0 hf
  have hl : (ts.set a (linkT b)).length = ts.length := by simp
  refine ⟨?_, fun τ => ?_⟩
  · let r' : Nat → Nat := fun i => if occT a (ρ i) = true then r i + r b + 1 else r i
    have he : ∀ i, i < (ts.set a (linkT b)).length → EntOk (ts.set a (linkT b)).length ((ts.set a (linkT b)).getD i noTyp) := fun i hi => by
      rw [hl] at hi ⊢
      rw [set_at _ _ _ _ ha]
      split
      · exact ent_link _ _ hb
      · exact h.ent i hi
    have hr : ∀ i, i < (ts.set a (linkT b)).length → ∀ k ∈ kidZ ((ts.set a (linkT b)).getD i noTyp), r' k.toNat < r' i := fun i hi k hk => by
      rw [hl] at hi
      rw [set_at _ _ _ _ ha] at hk
      split at hk
      · rename_i e
        rw [kid_link] at hk
        simp at hk
        subst hk e
        have e1 : occT i (ρ i) = true := by rw [hρa]; simp [varT, occT]
        show (if occT i (ρ ((b : Int).toNat)) = true then _ else r ((b : Int).toNat)) < if occT i (ρ i) = true then r i + r b + 1 else r i
        rw [if_pos e1, if_neg (by simpa using ho)]
        simp
        omega
      · have h1 := h.rk i hi k hk
        show (if occT a (ρ k.toNat) = true then r k.toNat + r b + 1 else r k.toNat) < if occT a (ρ i) = true then r i + r b + 1 else r i
        by_cases ok : occT a (ρ k.toNat) = true
        · have oi : occT a (ρ i) = true := by
            by_cases hk0 : (ts.getD i noTyp).kind = 0
            · obtain ⟨hka, hk2⟩ := kid_var hk0 hk
              rw [h.bound hi hk0 hka, ← hk2]
              exact ok
            · rw [h.con hi hk0]
              exact occ_kid hk0 hk ok
          rw [if_pos ok, if_pos oi]
          omega
        · rw [if_neg ok]
          split <;> omega
    obtain ⟨ρ', h'⟩ := ok_ex he hr
    exact ⟨r', ρ', h'⟩
  · unfold Sat
    rw [hl]
    constructor
    · intro hs
      refine ⟨fun i hi => ?_, ?_⟩
      · have := hs i hi
        rw [set_at _ _ _ _ ha] at this
        split at this
        · rename_i e
          subst e
          unfold eqnT
          rw [if_pos h0, if_neg (by omega)]
          trivial
        · exact this
      · have := hs a ha
        rw [set_at _ _ _ _ ha, if_pos rfl] at this
        simpa [eqnT, linkT] using this
    · rintro ⟨hs, hab⟩ i hi
      rw [set_at _ _ _ _ ha]
      split
      · rename_i e
        subst e
        simpa [eqnT, linkT] using hab
      · exact hs i hi

/-- An entry that is no variable comes to stand for another one that is the same. -/
theorem Ok.point {ts : List Typ} {r : Nat → Nat} {ρ : Nat → Tr} (h : Ok ts r ρ) {x y : Nat} (hx : x < ts.length) (hy : y < ts.length) (kx : (ts.getD x noTyp).kind ≠ 0) (ky : (ts.getD y noTyp).kind ≠ 0) (hne : x ≠ y) (he : ρ x = ρ y) :
    (∃ r', Ok (ts.set x (linkT y)) r' ρ) ∧ nfT (ts.set x (linkT y)) = nfT ts := by
  have hl : (ts.set x (linkT y)).length = ts.length := by simp
  refine ⟨⟨fun i => if sizeT (ρ i) < sizeT (ρ x) ∨ i = y then r i else r i + r y + 1, ?_, ?_, ?_, ?_⟩, nf_link_con hx (by unfold freeT; rw [decide_eq_false kx]; rfl)⟩
  · intro i hi
    rw [hl] at hi ⊢
    rw [set_at _ _ _ _ hx]
    split
    · exact ent_link _ _ hy
    · exact h.ent i hi
  · intro i hi k hk
    rw [hl] at hi
    rw [set_at _ _ _ _ hx] at hk
    show (if sizeT (ρ k.toNat) < sizeT (ρ x) ∨ k.toNat = y then r k.toNat else r k.toNat + r y + 1) < if sizeT (ρ i) < sizeT (ρ x) ∨ i = y then r i else r i + r y + 1
    split at hk
    · rename_i e
      rw [kid_link] at hk
      simp at hk
      subst hk e
      rw [if_pos (Or.inr (by simp)), if_neg (fun q => q.elim (fun q => by omega) hne)]
      simp
      omega
    · have h1 := h.rk i hi k hk
      have hsz : (ts.getD i noTyp).kind ≠ 0 → sizeT (ρ k.toNat) < sizeT (ρ i) := fun h0 => by
        rw [h.con hi h0]
        exact rhs_kid_size h0 hk
      by_cases hk1 : sizeT (ρ k.toNat) < sizeT (ρ x) ∨ k.toNat = y
      · rw [if_pos hk1]
        split <;> omega
      · rw [if_neg hk1]
        have hki : ¬ (sizeT (ρ i) < sizeT (ρ x) ∨ i = y) := fun q => by
          rcases q with q | q
          · by_cases h0 : (ts.getD i noTyp).kind = 0
            · obtain ⟨hka, hk2⟩ := kid_var h0 hk
              rw [h.bound hi h0 hka, ← hk2] at q
              exact hk1 (Or.inl q)
            · have := hsz h0
              exact hk1 (Or.inl (by omega))
          · subst q
            have := hsz ky
            rw [← he] at this
            exact hk1 (Or.inl this)
        rw [if_neg hki]
        omega
  · intro i hi
    rw [hl] at hi
    rw [set_at _ _ _ _ hx]
    split
    · rename_i e
      subst e
      simpa [eqnT, linkT] using he
    · exact h.sat i hi
  · intro i hi
    rw [hl] at hi
    rw [set_at _ _ _ _ hx]
    split
    · intro _ q
      simp [linkT] at q
      omega
    · exact h.free i hi

/-- What stands between two parts, and ahead of the first. -/
def midT (k : Int) : List UInt8 := if k = 2 then [32, 45, 62, 32] else [32, 42, 32]
def preT (k : Int) : List UInt8 := if k = 4 then [108, 105, 115, 116, 32] else if k = 5 then [114, 101, 102, 32] else []
def idxT (v : Nat) : List Nat → Nat
  | [] => 0
  | x :: l => if x = v then 0 else idxT v l + 1
def addT (v : Nat) (l : List Nat) : List Nat := if v ∈ l then l else l ++ [v]

/-- The text of a tree, and the variables that came till then. -/
def shoT (k : Int) : Tr → List Nat → List UInt8 × List Nat
  | .nest q f, l => (40 :: (preT q ++ ((shoT q f l).1 ++ [41])), (shoT q f l).2)
  | .append a b, l => ((shoT k a l).1 ++ (midT k ++ (shoT k b (shoT k a l).2).1), (shoT k b (shoT k a l).2).2)
  | .nil, l => ([105, 110, 116], l)
  | .line, l => ([105, 110, 116], l)
  | .align _, l => ([105, 110, 116], l)
  | .text _, l => ([105, 110, 116], l)
  | .group _ _, l => ([105, 110, 116], l)
  | .tag i _, l => (39 :: Lib.itoa ((idxT i l : Nat) : Int), addT i l)

def tagOf : Tr → Nat
  | .tag i _ => i
  | _ => 0

theorem sho_mem (k : Int) : ∀ (t : Tr) (l : List Nat) (i : Nat), i ∈ (shoT k t l).2 → i ∈ l ∨ occT i t = true
  | .nest q f, l, i, h => sho_mem q f l i h
  | .append a b, l, i, h => by
    rcases sho_mem k b _ i h with h | h
    · rcases sho_mem k a l i h with h | h
      · exact Or.inl h
      · exact Or.inr (by rw [occT, h]; rfl)
    · exact Or.inr (by rw [occT, h, Bool.or_true])
  | .tag j _, l, i, h => by
    unfold shoT addT at h
    split at h
    · exact Or.inl h
    · rcases List.mem_append.1 h with h | h
      · exact Or.inl h
      · simp at h
        exact Or.inr (by rw [occT, h]; simp)
  | .nil, l, i, h => Or.inl h
  | .line, l, i, h => Or.inl h
  | .align _, l, i, h => Or.inl h
  | .text _, l, i, h => Or.inl h
  | .group _ _, l, i, h => Or.inl h

theorem idx_map {f : Nat → Nat} {v : Nat} : ∀ {l : List Nat}, (∀ i ∈ l, f i = f v → i = v) → idxT (f v) (l.map f) = idxT v l
  | [], _ => rfl
  | x :: l, h => by
    rw [List.map_cons, idxT, idxT]
    by_cases e : x = v
    · subst e; simp
    · rw [if_neg e, if_neg (fun q => e (h x (by simp) q)), idx_map (fun i hi => h i (by simp [hi]))]

theorem add_map {f : Nat → Nat} {v : Nat} {l : List Nat} (h : ∀ i ∈ l, f i = f v → i = v) : addT (f v) (l.map f) = (addT v l).map f := by
  unfold addT
  by_cases e : v ∈ l
  · rw [if_pos e, if_pos (List.mem_map_of_mem e)]
  · rw [if_neg e, if_neg (fun q => by
      obtain ⟨i, hi, q⟩ := List.mem_map.1 q
      exact e ((h i hi q) ▸ hi))]
    simp

/-- Other variables, no two the same: the same text. -/
theorem sho_sub (σ τ : Nat → Tr) : ∀ (k : Int) (t : Tr) (l : List Nat), (∀ i, occT i t = true ∨ i ∈ l → tagOf (τ (tagOf (σ i))) = i) → (∀ i, occT i t = true → ∃ j x, σ i = .tag j x) →
    (shoT k (subT σ t) (l.map (fun i => tagOf (σ i)))).1 = (shoT k t l).1 ∧ (shoT k (subT σ t) (l.map (fun i => tagOf (σ i)))).2 = (shoT k t l).2.map (fun i => tagOf (σ i))
  | k, .nest q f, l, h1, h2 => by
    obtain ⟨e1, e2⟩ := sho_sub σ τ q f l h1 h2
    rw [subT, shoT, shoT]
    exact ⟨by rw [e1], e2⟩
  | k, .append a b, l, h1, h2 => by
    obtain ⟨e1, e2⟩ := sho_sub σ τ k a l (fun i h => h1 i (h.elim (fun h => Or.inl (by rw [occT, h]; rfl)) Or.inr)) (fun i h => h2 i (by rw [occT, h]; rfl))
    obtain ⟨e3, e4⟩ := sho_sub σ τ k b (shoT k a l).2 (fun i h => h1 i (by
      rcases h with h | h
      · exact Or.inl (by rw [occT, h, Bool.or_true])
      · rcases sho_mem k a l i h with h | h
        · exact Or.inr h
        · exact Or.inl (by rw [occT, h]; rfl))) (fun i h => h2 i (by rw [occT, h, Bool.or_true]))
    rw [subT, shoT, shoT]
    simp only [e2]
    exact ⟨by rw [e1, e3], e4⟩
  | k, .tag i x, l, h1, h2 => by
    obtain ⟨j, y, e⟩ := h2 i (by simp [occT])
    have e' : tagOf (σ i) = j := by rw [e]; rfl
    have hi := h1 i (Or.inl (by simp [occT]))
    have hin : ∀ q ∈ l, (fun i => tagOf (σ i)) q = (fun i => tagOf (σ i)) i → q = i := fun q hq hh => by
      have h3 := h1 q (Or.inr hq)
      simp only at hh
      rw [hh, hi] at h3
      exact h3.symm
    have e1 := idx_map hin
    have e2 := add_map hin
    rw [subT, e, shoT, shoT, ← e', ← e2, ← e1]
    exact ⟨rfl, rfl⟩
  | k, .nil, l, _, _ => ⟨rfl, rfl⟩
  | k, .line, l, _, _ => ⟨rfl, rfl⟩
  | k, .align _, l, _, _ => ⟨rfl, rfl⟩
  | k, .text _, l, _, _ => ⟨rfl, rfl⟩
  | k, .group _ _, l, _, _ => ⟨rfl, rfl⟩

theorem back_tag (σ τ : Nat → Tr) : ∀ (t : Tr), subT τ (subT σ t) = t → ∀ i, occT i t = true → (∃ j x, σ i = .tag j x) ∧ tagOf (τ (tagOf (σ i))) = i
  | .nest q f, h, i, ho => by
    rw [subT, subT] at h
    simp only [Std.Format.nest.injEq, true_and] at h
    exact back_tag σ τ f h i ho
  | .append a b, h, i, ho => by
    rw [subT, subT] at h
    simp only [Std.Format.append.injEq] at h
    rw [occT, Bool.or_eq_true] at ho
    rcases ho with ho | ho
    · exact back_tag σ τ a h.1 i ho
    · exact back_tag σ τ b h.2 i ho
  | .tag j x, h, i, ho => by
    rw [occT, beq_iff_eq] at ho
    subst ho
    rw [subT] at h
    cases hs : σ j with
    | tag y z =>
      rw [hs, subT] at h
      refine ⟨⟨y, z, rfl⟩, ?_⟩
      rw [tagOf, h]
      rfl
    | nest _ _ => rw [hs, subT] at h; cases h
    | append _ _ => rw [hs, subT] at h; cases h
    | nil => rw [hs, subT] at h; cases h
    | line => rw [hs, subT] at h; cases h
    | align _ => rw [hs, subT] at h; cases h
    | text _ => rw [hs, subT] at h; cases h
    | group _ _ => rw [hs, subT] at h; cases h
  | .nil, _, i, ho => by simp [occT] at ho
  | .line, _, i, ho => by simp [occT] at ho
  | .align _, _, i, ho => by simp [occT] at ho
  | .text _, _, i, ho => by simp [occT] at ho
  | .group _ _, _, i, ho => by simp [occT] at ho

theorem sho_same {σ τ : Nat → Tr} {x y : Tr} (hx : x = subT σ y) (hy : y = subT τ x) (k : Int) : shoT k x [] = ((shoT k y []).1, (shoT k x []).2) ∧ sizeT x = sizeT y := by
  have hb : subT τ (subT σ y) = y := by rw [← hx, ← hy]
  have h := back_tag σ τ y hb
  obtain ⟨e, _⟩ := sho_sub σ τ k y [] (fun i hi => hi.elim (fun hi => (h i hi).2) (fun hi => absurd hi (by simp))) (fun i hi => (h i hi).1)
  refine ⟨?_, ?_⟩
  · rw [← e, hx]
    rfl
  · have h1 := size_sub σ y
    have h2 := size_sub τ x
    rw [← hx] at h1
    rw [← hy] at h2
    omega

/-- The one answer where a and b are made one. -/
def UniAns (ts : List Typ) (a b : Nat) (s : List UInt8) (v : Bool) : Prop :=
  (v = true ∧ ∃ u r ρ, Ok u r ρ ∧ u.length = ts.length ∧ (∀ τ, Sat u τ ↔ Sat ts τ ∧ τ a = τ b) ∧ sizeT (ρ a) ≤ 60 ∧ s = (shoT 0 (ρ a) []).1) ∨
  (v = false ∧ s = [] ∧ ∀ τ, Sat ts τ → τ a = τ b → 60 < sizeT (τ a))

theorem uni_one {ts : List Typ} {a b : Nat} {s s' : List UInt8} {v v' : Bool} (ha : a < ts.length) (h : UniAns ts a b s v) (h' : UniAns ts a b s' v') : s = s' ∧ v = v' := by
  rcases h with ⟨rfl, u, r, ρ, ho, hl, hs, hz, rfl⟩ | ⟨rfl, rfl, hn⟩
  · rcases h' with ⟨rfl, u', r', ρ', ho', hl', hs', hz', rfl⟩ | ⟨rfl, rfl, hn'⟩
    · have h1 : Sat u' ρ := (hs' ρ).2 ((hs ρ).1 ho.sat)
      have h2 : Sat u ρ' := (hs ρ').2 ((hs' ρ').1 ho'.sat)
      have e1 := (ho'.sat_iff ρ).1 h1 a (by omega)
      have e2 := (ho.sat_iff ρ').1 h2 a (by omega)
      have := (sho_same e1 e2 0).1
      exact ⟨by rw [this], rfl⟩
    · obtain ⟨q1, q2⟩ := (hs ρ).1 ho.sat
      have := hn' ρ q1 q2
      omega
  · rcases h' with ⟨rfl, u', r', ρ', ho', hl', hs', hz', rfl⟩ | ⟨rfl, rfl, hn'⟩
    · obtain ⟨q1, q2⟩ := (hs' ρ').1 ho'.sat
      have := hn ρ' q1 q2
      omega
    · exact ⟨rfl, rfl⟩

theorem uni_sym {ts : List Typ} {a b : Nat} {s : List UInt8} {v : Bool} (h : UniAns ts a b s v) : UniAns ts b a s v := by
  rcases h with ⟨rfl, u, r, ρ, ho, hl, hs, hz, rfl⟩ | ⟨rfl, rfl, hn⟩
  · obtain ⟨_, q2⟩ := (hs ρ).1 ho.sat
    exact Or.inl ⟨rfl, u, r, ρ, ho, hl, fun τ => by rw [hs τ]; exact ⟨fun h => ⟨h.1, h.2.symm⟩, fun h => ⟨h.1, h.2.symm⟩⟩, by rw [← q2]; exact hz, by rw [← q2]⟩
  · exact Or.inr ⟨rfl, rfl, fun τ h1 h2 => by rw [h2]; exact hn τ h1 h2.symm⟩

theorem uni_self {ts : List Typ} {r : Nat → Nat} {ρ : Nat → Tr} (h : Ok ts r ρ) {a : Nat} (hz : sizeT (ρ a) ≤ 60) : UniAns ts a a (shoT 0 (ρ a) []).1 true :=
  Or.inl ⟨rfl, ts, r, ρ, h, rfl, fun τ => ⟨fun q => ⟨q, rfl⟩, fun q => q.1⟩, hz, rfl⟩

/-- What SizeOf tells. -/
def sizB (ts : List Typ) (i : Int) : Nat := if tabB ts = true ∧ 0 ≤ i ∧ i < ts.length then min (sizeT (solB ts i.toNat)) 61 else 0
/-- What ShowType tells. -/
def shoB (ts : List Typ) (i : Int) : List UInt8 := if 1 ≤ sizB ts i ∧ sizB ts i ≤ 60 then (shoT 0 (solB ts i.toNat) []).1 else []
def UniE (ts : List Typ) (a b : Int) (s : List UInt8) (v : Bool) : Prop :=
  if (1 ≤ sizB ts a ∧ sizB ts a ≤ 60) ∧ (1 ≤ sizB ts b ∧ sizB ts b ≤ 60) then UniAns ts a.toNat b.toNat s v else s = [] ∧ v = false

theorem siz_in {ts : List Typ} {i : Int} (h : 1 ≤ sizB ts i) : tabB ts = true ∧ 0 ≤ i ∧ i < ts.length := by
  unfold sizB at h
  by_cases q : tabB ts = true ∧ 0 ≤ i ∧ i < ts.length
  · exact q
  · rw [if_neg q] at h
    omega

theorem uniE_one {ts : List Typ} {a b : Int} {s s' : List UInt8} {v v' : Bool} (h : UniE ts a b s v) (h' : UniE ts a b s' v') : s = s' ∧ v = v' := by
  unfold UniE at h h'
  split at h
  · rename_i hc
    rw [if_pos hc] at h'
    have := siz_in hc.1.1
    exact uni_one (by omega) h h'
  · rename_i hc
    rw [if_neg hc] at h'
    exact ⟨by rw [h.1, h'.1], by rw [h.2, h'.2]⟩

theorem sho_ne (k : Int) : ∀ (t : Tr) (l : List Nat), (shoT k t l).1 ≠ []
  | .nest q f, l => by simp [shoT]
  | .append a b, l => by simp [shoT, sho_ne k a l]
  | .tag i _, l => by simp [shoT]
  | .nil, l => by simp [shoT]
  | .line, l => by simp [shoT]
  | .align _, l => by simp [shoT]
  | .text _, l => by simp [shoT]
  | .group _ _, l => by simp [shoT]
end Go.Proofs.YtjjanmccijghgaaDoor
