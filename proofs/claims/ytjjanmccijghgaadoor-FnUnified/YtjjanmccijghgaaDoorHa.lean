/-
  Types, plain: which tables are right, what their entries stand for, their sizes and texts. Conditions: written at each theorem.
-/
import Derived.Test.YtjjanmccijghgaaDoorYk
namespace Go.Proofs.YtjjanmccijghgaaDoor
open Go.ChangeShapes Go.WideShapes Go.ChangeAt Go.RowKit
set_option linter.unusedVariables false

/-- The entries to which one comes. -/
def kidZ (t : Typ) : List Int :=
  if t.kind = 0 then (if 0 ≤ t.a then [t.a] else []) else if t.kind = 2 ∨ t.kind = 3 then [t.a, t.b] else if t.kind = 4 ∨ t.kind = 5 then [t.a] else []

def ownB (t : Typ) : Bool := decide (0 ≤ t.kind) && (decide (t.kind ≤ 5) && ((decide (t.kind ≠ 0) || decide (-1 ≤ t.a)) && ((decide (t.kind ≠ 1) || decide (t.a = 0)) && (decide (t.kind = 2 ∨ t.kind = 3) || decide (t.b = 0)))))

/-- What can be asked of an entry without the others. -/
def entB (n : Nat) (t : Typ) : Bool := ownB t && (kidZ t).all (fun k => decide (0 ≤ k) && decide (k < n))

structure EntOk (n : Nat) (t : Typ) : Prop where
  k0 : 0 ≤ t.kind
  k5 : t.kind ≤ 5
  av : t.kind = 0 → -1 ≤ t.a
  ai : t.kind = 1 → t.a = 0
  bz : t.kind ≠ 2 → t.kind ≠ 3 → t.b = 0
  kids : ∀ k ∈ kidZ t, 0 ≤ k ∧ k < n

theorem entB_iff (n : Nat) (t : Typ) : entB n t = true ↔ EntOk n t := by
  simp only [entB, ownB, Bool.and_eq_true, Bool.or_eq_true, decide_eq_true_eq, List.all_eq_true]
  constructor
  · rintro ⟨⟨h0, h5, ha, hi, hb⟩, hk⟩
    exact ⟨h0, h5, fun h => by omega, fun h => by omega, fun h h' => by omega, hk⟩
  · rintro ⟨h0, h5, ha, hi, hb, hk⟩
    exact ⟨⟨h0, h5, by omega, by omega, by omega⟩, hk⟩

/-- Are all of these gone? -/
def allG (g : List Bool) (ks : List Int) : Bool := ks.all (fun k => g.getD k.toNat false)
def stepG (ts : List Typ) (g : List Bool) (i : Nat) : List Bool := g.set i (allG g (kidZ (ts.getD i noTyp)))
/-- Behind the first k entries of a round. -/
def sweepG (ts : List Typ) (g : List Bool) : Nat → List Bool
  | 0 => g
  | k + 1 => stepG ts (sweepG ts g k) k
def roundsG (ts : List Typ) : Nat → List Bool
  | 0 => List.replicate ts.length false
  | r + 1 => sweepG ts (roundsG ts r) ts.length
def tabB (ts : List Typ) : Bool := decide (ts.length ≤ 40) && (ts.all (entB ts.length) && (roundsG ts ts.length).all id)

theorem stepG_length (ts : List Typ) (g : List Bool) (i : Nat) : (stepG ts g i).length = g.length := by simp [stepG]
theorem sweepG_length (ts : List Typ) (g : List Bool) : ∀ k, (sweepG ts g k).length = g.length
  | 0 => rfl
  | k + 1 => by rw [sweepG, stepG_length, sweepG_length ts g k]
theorem roundsG_length (ts : List Typ) : ∀ r, (roundsG ts r).length = ts.length
  | 0 => by simp [roundsG]
  | r + 1 => by rw [roundsG, sweepG_length, roundsG_length ts r]

/-- What is gone came from what is gone, with places in time that rise. -/
def GInv (ts : List Typ) (s : Nat) (g : List Bool) : Prop :=
  ∃ r : Nat → Nat, (∀ i, i < g.length → g.getD i false = true → ∀ k ∈ kidZ (ts.getD i noTyp), g.getD k.toNat false = true ∧ r k.toNat < r i) ∧ ∀ i, g.getD i false = true → r i ≤ s

theorem getD_set_at {α : Type} (l : List α) (i j : Nat) (x d : α) : (l.set i x).getD j d = if i = j ∧ i < l.length then x else l.getD j d := by
  simp only [List.getD, List.getElem?_set]
  by_cases e : i = j
  · subst e
    by_cases h : i < l.length
    · simp [h]
    · simp [h]
  · simp [e]

theorem GInv.all {ts : List Typ} {s : Nat} {g : List Bool} (h : GInv ts s g) {i : Nat} (hi : i < g.length) (ht : g.getD i false = true) : allG g (kidZ (ts.getD i noTyp)) = true := by
  obtain ⟨r, h1, _⟩ := h
  simp only [allG, List.all_eq_true]
  exact fun k hk => (h1 i hi ht k hk).1

/-- To take away what leads to what is gone, or what is gone already, is the same. -/
theorem GInv.or {ts : List Typ} {s : Nat} {g : List Bool} (h : GInv ts s g) {i : Nat} (hi : i < g.length) : (g.getD i false || allG g (kidZ (ts.getD i noTyp))) = allG g (kidZ (ts.getD i noTyp)) := by
  cases ht : g.getD i false with
  | false => simp
  | true => rw [h.all hi ht]; rfl

theorem GInv.step {ts : List Typ} {s : Nat} {g : List Bool} (h : GInv ts s g) {i : Nat} (hi : i < g.length) : GInv ts (s + 1) (stepG ts g i) := by
  cases ht : g.getD i false with
  | true =>
    have e : stepG ts g i = g := by
      rw [stepG, h.all hi ht]
      apply List.ext_getElem? fun j => ?_
      rw [List.getElem?_set]
      by_cases e : i = j
      · subst e
        simp only [List.getD, Option.getD] at ht
        simp [hi]
        rw [List.getElem?_eq_getElem hi] at ht
        simpa using ht.symm
      · simp [e]
    rw [e]
    obtain ⟨r, h1, h2⟩ := h
    exact ⟨r, h1, fun j hj => by have := h2 j hj; omega⟩
  | false =>
    obtain ⟨r, h1, h2⟩ := h
    refine ⟨fun j => if j = i then s + 1 else r j, ?_, ?_⟩
    · intro j hj hg k hk
      rw [stepG_length] at hj
      rw [stepG, getD_set_at] at hg
      have key : ∀ k : Int, g.getD k.toNat false = true → (stepG ts g i).getD k.toNat false = true ∧ k.toNat ≠ i := fun k hk => by
        have hne : k.toNat ≠ i := fun e => by rw [e, ht] at hk; simp at hk
        rw [stepG, getD_set_at, if_neg (fun e => hne e.1.symm)]
        exact ⟨hk, hne⟩
      by_cases e : i = j
      · subst e
        rw [if_pos ⟨rfl, hi⟩] at hg
        simp only [allG, List.all_eq_true] at hg
        obtain ⟨a, b⟩ := key k (hg k hk)
        refine ⟨a, ?_⟩
        have := h2 _ (hg k hk)
        simp [b]
        omega
      · rw [if_neg (fun x => e x.1)] at hg
        obtain ⟨q1, q2⟩ := h1 j hj hg k hk
        obtain ⟨a, b⟩ := key k q1
        refine ⟨a, ?_⟩
        show (if k.toNat = i then s + 1 else r k.toNat) < if j = i then s + 1 else r j
        rw [if_neg b, if_neg (fun x => e x.symm)]
        exact q2
    · intro j hg
      rw [stepG, getD_set_at] at hg
      by_cases e : j = i
      · simp [e]
      · rw [if_neg (fun x => e x.1.symm)] at hg
        have := h2 j hg
        simp [e]
        omega

theorem GInv.sweep {ts : List Typ} {s : Nat} {g : List Bool} (h : GInv ts s g) : ∀ k, k ≤ g.length → GInv ts (s + k) (sweepG ts g k)
  | 0, _ => h
  | k + 1, hk => (h.sweep k (by omega)).step (by rw [sweepG_length]; omega)

theorem ginv_rounds (ts : List Typ) : ∀ r, GInv ts (r * ts.length) (roundsG ts r)
  | 0 => ⟨fun _ => 0, fun i hi h => by simp [roundsG, List.getD, List.getElem?_replicate] at h; split at h <;> simp at h, fun i h => by simp⟩
  | r + 1 => by
    have := (ginv_rounds ts r).sweep ts.length (by rw [roundsG_length]; omega)
    rw [show (r + 1) * ts.length = r * ts.length + ts.length by rw [Nat.add_mul]; omega]
    exact this

theorem tab_parts {ts : List Typ} (h : tabB ts = true) : ts.length ≤ 40 ∧ (∀ i, i < ts.length → EntOk ts.length (ts.getD i noTyp)) ∧ ∃ r : Nat → Nat, (∀ i, i < ts.length → ∀ k ∈ kidZ (ts.getD i noTyp), r k.toNat < r i) ∧ ∀ i, i < ts.length → r i ≤ ts.length * ts.length := by
  simp only [tabB, Bool.and_eq_true, decide_eq_true_eq, List.all_eq_true] at h
  obtain ⟨h1, h2, h3⟩ := h
  refine ⟨h1, fun i hi => (entB_iff _ _).1 (h2 _ (by simp [List.getD, hi])), ?_⟩
  obtain ⟨r, q1, q2⟩ := ginv_rounds ts ts.length
  have hall : ∀ i, i < ts.length → (roundsG ts ts.length).getD i false = true := fun i hi => by
    have hl : i < (roundsG ts ts.length).length := by rw [roundsG_length]; exact hi
    have := h3 ((roundsG ts ts.length).getD i false) (by simp [List.getD, hl])
    simpa using this
  exact ⟨r, fun i hi k hk => (q1 i (by rw [roundsG_length]; exact hi) (hall i hi) k hk).2, fun i hi => q2 i (hall i hi)⟩

/-- What entries stand for: trees; a variable that is free is a tag. -/
abbrev Tr := Std.Format
def varT (i : Nat) : Tr := .tag i .nil

def sizeT : Tr → Nat
  | .nest _ f => 1 + sizeT f
  | .append a b => sizeT a + sizeT b
  | .nil => 1
  | .line => 1
  | .align _ => 1
  | .text _ => 1
  | .group _ _ => 1
  | .tag _ _ => 1

def subT (σ : Nat → Tr) : Tr → Tr
  | .nest k f => .nest k (subT σ f)
  | .append a b => .append (subT σ a) (subT σ b)
  | .nil => .nil
  | .line => .line
  | .align x => .align x
  | .text x => .text x
  | .group f x => .group f x
  | .tag i _ => σ i

def occT (v : Nat) : Tr → Bool
  | .nest _ f => occT v f
  | .append a b => occT v a || occT v b
  | .nil => false
  | .line => false
  | .align _ => false
  | .text _ => false
  | .group _ _ => false
  | .tag i _ => i == v

theorem sizeT_pos : ∀ t : Tr, 1 ≤ sizeT t
  | .nest _ f => by rw [sizeT]; omega
  | .append a b => by rw [sizeT]; have := sizeT_pos a; omega
  | .nil => Nat.le_refl _
  | .line => Nat.le_refl _
  | .align _ => Nat.le_refl _
  | .text _ => Nat.le_refl _
  | .group _ _ => Nat.le_refl _
  | .tag _ _ => Nat.le_refl _

theorem size_sub (σ : Nat → Tr) : ∀ t : Tr, sizeT t ≤ sizeT (subT σ t)
  | .nest _ f => by rw [sizeT, subT, sizeT]; have := size_sub σ f; omega
  | .append a b => by rw [sizeT, subT, sizeT]; have := size_sub σ a; have := size_sub σ b; omega
  | .nil => Nat.le_refl _
  | .line => Nat.le_refl _
  | .align _ => Nat.le_refl _
  | .text _ => Nat.le_refl _
  | .group _ _ => Nat.le_refl _
  | .tag i x => sizeT_pos _

theorem occ_le (σ : Nat → Tr) (v : Nat) : ∀ t : Tr, occT v t = true → sizeT (σ v) ≤ sizeT (subT σ t)
  | .nest _ f, h => by rw [subT, sizeT]; have := occ_le σ v f h; omega
  | .append a b, h => by
    rw [occT, Bool.or_eq_true] at h
    rw [subT, sizeT]
    rcases h with h | h
    · have := occ_le σ v a h; omega
    · have := occ_le σ v b h; omega
  | .tag i x, h => by
    rw [occT, beq_iff_eq] at h
    subst h
    exact Nat.le_refl _
  | .nil, h => by simp [occT] at h
  | .line, h => by simp [occT] at h
  | .align _, h => by simp [occT] at h
  | .text _, h => by simp [occT] at h
  | .group _ _, h => by simp [occT] at h

theorem occ_lt (σ : Nat → Tr) (v : Nat) (t : Tr) (h : occT v t = true) (hn : ∀ i x, t ≠ .tag i x) : sizeT (σ v) < sizeT (subT σ t) := by
  cases t with
  | nest k f => rw [subT, sizeT]; have := occ_le σ v f h; omega
  | append a b =>
    rw [occT, Bool.or_eq_true] at h
    rw [subT, sizeT]
    have p1 := sizeT_pos (subT σ a)
    have p2 := sizeT_pos (subT σ b)
    rcases h with h | h
    · have := occ_le σ v a h; omega
    · have := occ_le σ v b h; omega
  | tag i x => exact absurd rfl (hn i x)
  | nil => simp [occT] at h
  | line => simp [occT] at h
  | align _ => simp [occT] at h
  | text _ => simp [occT] at h
  | group _ _ => simp [occT] at h

theorem sub_sub (σ τ : Nat → Tr) : ∀ t : Tr, subT σ (subT τ t) = subT (fun i => subT σ (τ i)) t
  | .nest _ f => by rw [subT, subT, subT, sub_sub σ τ f]
  | .append a b => by rw [subT, subT, subT, sub_sub σ τ a, sub_sub σ τ b]
  | .nil => rfl
  | .line => rfl
  | .align _ => rfl
  | .text _ => rfl
  | .group _ _ => rfl
  | .tag i x => rfl

/-- What an entry stands for that is no variable. -/
def rhsT (t : Typ) (ρ : Nat → Tr) : Tr :=
  if t.kind = 2 ∨ t.kind = 3 then .nest t.kind (.append (ρ t.a.toNat) (ρ t.b.toNat)) else if t.kind = 4 ∨ t.kind = 5 then .nest t.kind (ρ t.a.toNat) else .line

theorem rhs_congr {t : Typ} {ρ ρ' : Nat → Tr} (h0 : t.kind ≠ 0) (h : ∀ k ∈ kidZ t, ρ k.toNat = ρ' k.toNat) : rhsT t ρ = rhsT t ρ' := by
  unfold rhsT
  unfold kidZ at h
  rw [if_neg h0] at h
  split
  · rename_i h2
    rw [if_pos h2] at h
    rw [h t.a (by simp), h t.b (by simp)]
  · rename_i h2
    rw [if_neg h2] at h
    split
    · rename_i h4
      rw [if_pos h4] at h
      rw [h t.a (by simp)]
    · rfl

theorem sub_rhs (σ : Nat → Tr) (t : Typ) (ρ : Nat → Tr) : subT σ (rhsT t ρ) = rhsT t (fun i => subT σ (ρ i)) := by
  unfold rhsT
  split
  · rfl
  · split <;> rfl

theorem rhs_no_tag (t : Typ) (ρ : Nat → Tr) (i : Nat) (x : Tr) : rhsT t ρ ≠ .tag i x := by
  unfold rhsT
  split
  · intro h; cases h
  · split <;> (intro h; cases h)

theorem rhs_kid_size {t : Typ} {ρ : Nat → Tr} (h0 : t.kind ≠ 0) {k : Int} (hk : k ∈ kidZ t) : sizeT (ρ k.toNat) < sizeT (rhsT t ρ) := by
  unfold rhsT
  unfold kidZ at hk
  rw [if_neg h0] at hk
  split
  · rename_i h2
    rw [if_pos h2] at hk
    have p1 := sizeT_pos (ρ t.a.toNat)
    have p2 := sizeT_pos (ρ t.b.toNat)
    rw [sizeT, sizeT]
    simp at hk
    rcases hk with rfl | rfl <;> omega
  · rename_i h2
    rw [if_neg h2] at hk
    split
    · rename_i h4
      rw [if_pos h4] at hk
      simp at hk
      subst hk
      rw [sizeT]
      omega
    · rename_i h4
      rw [if_neg h4] at hk
      simp at hk

def eqnT (t : Typ) (ρ : Nat → Tr) (x : Tr) : Prop := if t.kind = 0 then (if 0 ≤ t.a then x = ρ t.a.toNat else True) else x = rhsT t ρ
def Sat (ts : List Typ) (ρ : Nat → Tr) : Prop := ∀ i, i < ts.length → eqnT (ts.getD i noTyp) ρ (ρ i)

theorem kid_bound {t : Typ} (h0 : t.kind = 0) (ha : 0 ≤ t.a) : t.a ∈ kidZ t := by simp [kidZ, h0, ha]

/-- A right table, with a rank for each entry, and what each stands for. -/
structure Ok (ts : List Typ) (r : Nat → Nat) (ρ : Nat → Tr) : Prop where
  ent : ∀ i, i < ts.length → EntOk ts.length (ts.getD i noTyp)
  rk : ∀ i, i < ts.length → ∀ k ∈ kidZ (ts.getD i noTyp), r k.toNat < r i
  sat : Sat ts ρ
  free : ∀ i, i < ts.length → (ts.getD i noTyp).kind = 0 → (ts.getD i noTyp).a < 0 → ρ i = varT i

def tmF (ts : List Typ) (σ : Nat → Tr) : Nat → Nat → Tr
  | 0, _ => .nil
  | f + 1, i => if (ts.getD i noTyp).kind = 0 then (if 0 ≤ (ts.getD i noTyp).a then tmF ts σ f (ts.getD i noTyp).a.toNat else σ i) else rhsT (ts.getD i noTyp) (tmF ts σ f)

theorem tm_same {ts : List Typ} {r : Nat → Nat} (σ : Nat → Tr) (he : ∀ i, i < ts.length → EntOk ts.length (ts.getD i noTyp)) (hr : ∀ i, i < ts.length → ∀ k ∈ kidZ (ts.getD i noTyp), r k.toNat < r i) :
    ∀ (f f' i : Nat), i < ts.length → r i < f → r i < f' → tmF ts σ f i = tmF ts σ f' i
  | 0, f', i, _, h, _ => absurd h (by omega)
  | f + 1, 0, i, _, _, h => absurd h (by omega)
  | f + 1, f' + 1, i, hi, h, h' => by
    have ih : ∀ k ∈ kidZ (ts.getD i noTyp), tmF ts σ f k.toNat = tmF ts σ f' k.toNat := fun k hk => by
      have h1 := hr i hi k hk
      have h2 := (he i hi).kids k hk
      exact tm_same σ he hr f f' k.toNat (by omega) (by omega) (by omega)
    rw [tmF, tmF]
    by_cases h0 : (ts.getD i noTyp).kind = 0
    · rw [if_pos h0, if_pos h0]
      by_cases ha : 0 ≤ (ts.getD i noTyp).a
      · rw [if_pos ha, if_pos ha]
        exact ih _ (kid_bound h0 ha)
      · rw [if_neg ha, if_neg ha]
    · rw [if_neg h0, if_neg h0]
      exact rhs_congr h0 ih

/-- Whatever the free ones stand for, there is what all the others stand for. -/
theorem tm_sat {ts : List Typ} {r : Nat → Nat} (σ : Nat → Tr) (he : ∀ i, i < ts.length → EntOk ts.length (ts.getD i noTyp)) (hr : ∀ i, i < ts.length → ∀ k ∈ kidZ (ts.getD i noTyp), r k.toNat < r i) (F : Nat) (hF : ∀ i, i < ts.length → r i < F) :
    Sat ts (tmF ts σ F) ∧ ∀ i, i < ts.length → (ts.getD i noTyp).kind = 0 → (ts.getD i noTyp).a < 0 → tmF ts σ F i = σ i := by
  cases F with
  | zero => exact ⟨fun i hi => absurd (hF i hi) (by omega), fun i hi => absurd (hF i hi) (by omega)⟩
  | succ F =>
    refine ⟨fun i hi => ?_, fun i hi h0 ha => ?_⟩
    · have ih : ∀ k ∈ kidZ (ts.getD i noTyp), tmF ts σ F k.toNat = tmF ts σ (F + 1) k.toNat := fun k hk => by
        have h1 := hr i hi k hk
        have h2 := (he i hi).kids k hk
        have h3 := hF i hi
        exact tm_same σ he hr F (F + 1) k.toNat (by omega) (by omega) (by omega)
      unfold eqnT
      split
      · rename_i h0
        split
        · rename_i ha
          rw [← ih _ (kid_bound h0 ha)]
          conv => lhs; rw [tmF]
          rw [if_pos h0, if_pos ha]
        · trivial
      · rename_i h0
        rw [← rhs_congr h0 ih]
        conv => lhs; rw [tmF]
        rw [if_neg h0]
    · rw [tmF, if_pos h0, if_neg (by omega)]

theorem ok_ex {ts : List Typ} {r : Nat → Nat} (he : ∀ i, i < ts.length → EntOk ts.length (ts.getD i noTyp)) (hr : ∀ i, i < ts.length → ∀ k ∈ kidZ (ts.getD i noTyp), r k.toNat < r i) : ∃ ρ, Ok ts r ρ := by
  have hF : ∃ F, ∀ i, i < ts.length → r i < F := by
    generalize ts.length = n
    induction n with
    | zero => exact ⟨0, fun i hi => absurd hi (by omega)⟩
    | succ n ih =>
      obtain ⟨F, h⟩ := ih
      refine ⟨F + r n + 1, fun i hi => ?_⟩
      by_cases e : i = n
      · subst e; omega
      · have := h i (by omega); omega
  obtain ⟨F, hF⟩ := hF
  obtain ⟨h1, h2⟩ := tm_sat varT he hr F hF
  exact ⟨_, he, hr, h1, h2⟩

/-- What the entries of a right table stand for. -/
def solB (ts : List Typ) : Nat → Tr := tmF ts varT (ts.length * ts.length + 1)

theorem tab_ok {ts : List Typ} (h : tabB ts = true) : ts.length ≤ 40 ∧ ∃ r, Ok ts r (solB ts) := by
  obtain ⟨h1, he, r, hr, hb⟩ := tab_parts h
  obtain ⟨q1, q2⟩ := tm_sat varT he hr (ts.length * ts.length + 1) (fun i hi => by have := hb i hi; omega)
  exact ⟨h1, r, he, hr, q1, q2⟩

theorem Ok.bound {ts : List Typ} {r : Nat → Nat} {ρ : Nat → Tr} (h : Ok ts r ρ) {i : Nat} (hi : i < ts.length) (h0 : (ts.getD i noTyp).kind = 0) (ha : 0 ≤ (ts.getD i noTyp).a) : ρ i = ρ (ts.getD i noTyp).a.toNat := by
  have := h.sat i hi
  unfold eqnT at this
  rwa [if_pos h0, if_pos ha] at this

theorem Ok.con {ts : List Typ} {r : Nat → Nat} {ρ : Nat → Tr} (h : Ok ts r ρ) {i : Nat} (hi : i < ts.length) (h0 : (ts.getD i noTyp).kind ≠ 0) : ρ i = rhsT (ts.getD i noTyp) ρ := by
  have := h.sat i hi
  unfold eqnT at this
  rwa [if_neg h0] at this

/-- All that can stand for the entries comes of what the free ones stand for. -/
theorem Ok.sat_iff {ts : List Typ} {r : Nat → Nat} {ρ : Nat → Tr} (h : Ok ts r ρ) (τ : Nat → Tr) : Sat ts τ ↔ ∀ i, i < ts.length → τ i = subT τ (ρ i) := by
  constructor
  · intro hs
    have key : ∀ n i, r i < n → i < ts.length → τ i = subT τ (ρ i) := by
      intro n
      induction n with
      | zero => intro i h; omega
      | succ n ih =>
        intro i hn hi
        have hk : ∀ k ∈ kidZ (ts.getD i noTyp), τ k.toNat = subT τ (ρ k.toNat) := fun k hk => by
          have h1 := h.rk i hi k hk
          have h2 := (h.ent i hi).kids k hk
          exact ih k.toNat (by omega) (by omega)
        have hsi := hs i hi
        unfold eqnT at hsi
        by_cases h0 : (ts.getD i noTyp).kind = 0
        · rw [if_pos h0] at hsi
          by_cases ha : 0 ≤ (ts.getD i noTyp).a
          · rw [if_pos ha] at hsi
            rw [hsi, h.bound hi h0 ha]
            exact hk _ (kid_bound h0 ha)
          · rw [h.free i hi h0 (by omega)]
            rfl
        · rw [if_neg h0] at hsi
          rw [hsi, h.con hi h0, sub_rhs]
          exact rhs_congr h0 hk
    exact fun i hi => key (r i + 1) i (by omega) hi
  · intro hs i hi
    have hk : ∀ k ∈ kidZ (ts.getD i noTyp), subT τ (ρ k.toNat) = τ k.toNat := fun k hk => by
      have h2 := (h.ent i hi).kids k hk
      exact (hs _ (by omega)).symm
    unfold eqnT
    split
    · rename_i h0
      split
      · rename_i ha
        rw [hs i hi, h.bound hi h0 ha]
        exact hk _ (kid_bound h0 ha)
      · trivial
    · rename_i h0
      rw [hs i hi, h.con hi h0, sub_rhs]
      exact rhs_congr h0 hk

theorem Ok.idem {ts : List Typ} {r : Nat → Nat} {ρ : Nat → Tr} (h : Ok ts r ρ) {i : Nat} (hi : i < ts.length) : ρ i = subT ρ (ρ i) := (h.sat_iff ρ).1 h.sat i hi
end Go.Proofs.YtjjanmccijghgaaDoor
