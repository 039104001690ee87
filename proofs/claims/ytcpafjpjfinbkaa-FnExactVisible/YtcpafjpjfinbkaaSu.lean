/-
  Names in order, each once, plain: put in one by one, or sorted and rid of what stands twice. Conditions: written at each theorem.
-/
import Derived.Test.YtcpafjpjfinbkaaRows
import Derived.Lib.SlicesCompact
namespace Go.Proofs.Ytcpafjpjfinbkaa
open Go.Lib
set_option linter.unusedVariables false

/-- A text is put into its place, where it is not there yet. -/
def insU : List (List UInt8) → List UInt8 → List (List UInt8)
  | [], s => [s]
  | x :: l, s => if x = s then x :: l else if s < x then s :: x :: l else x :: insU l s

/-- Rising, each once. -/
def Up (l : List (List UInt8)) : Prop := l.Pairwise (· < ·)

theorem tx_irr (x : List UInt8) : ¬ x < x := List.lt_irrefl x
theorem tx_trans {x y z : List UInt8} (h : x < y) (h2 : y < z) : x < z := List.lt_trans h h2
theorem tx_tri {x y : List UInt8} (h : ¬ x = y) (h2 : ¬ y < x) : x < y := by
  by_cases h1 : x < y
  · exact h1
  · exact absurd (List.le_antisymm (List.not_lt.1 h2) (List.not_lt.1 h1)) h

theorem insU_mem (x : List UInt8) : ∀ (l : List (List UInt8)) (s : List UInt8), x ∈ insU l s ↔ x = s ∨ x ∈ l
  | [], s => by simp [insU]
  | y :: l, s => by
    rw [insU]
    by_cases h1 : y = s
    · rw [if_pos h1]
      subst h1
      simp
    · rw [if_neg h1]
      by_cases h2 : s < y
      · rw [if_pos h2]
        simp
      · rw [if_neg h2, List.mem_cons, insU_mem x l s, List.mem_cons]
        constructor
        · rintro (h | h | h)
          · exact Or.inr (Or.inl h)
          · exact Or.inl h
          · exact Or.inr (Or.inr h)
        · rintro (h | h | h)
          · exact Or.inr (Or.inl h)
          · exact Or.inl h
          · exact Or.inr (Or.inr h)

theorem insU_up : ∀ (l : List (List UInt8)) (s : List UInt8), Up l → Up (insU l s)
  | [], s, _ => by simp [insU, Up]
  | y :: l, s, h => by
    have h' : (∀ a ∈ l, y < a) ∧ Up l := List.pairwise_cons.1 h
    rw [insU]
    by_cases h1 : y = s
    · rw [if_pos h1]
      exact h
    · rw [if_neg h1]
      by_cases h2 : s < y
      · rw [if_pos h2]
        refine List.pairwise_cons.2 ⟨fun a ha => ?_, h⟩
        rcases List.mem_cons.1 ha with rfl | ha
        · exact h2
        · exact tx_trans h2 (h'.1 a ha)
      · rw [if_neg h2]
        refine List.pairwise_cons.2 ⟨fun a ha => ?_, insU_up l s h'.2⟩
        rcases (insU_mem a l s).1 ha with rfl | ha
        · exact tx_tri h1 h2
        · exact h'.1 a ha

/-- What rises is told by what is in it. -/
theorem up_ext : ∀ (a b : List (List UInt8)), Up a → Up b → (∀ x, x ∈ a ↔ x ∈ b) → a = b
  | [], [], _, _, _ => rfl
  | [], y :: b, _, _, h => absurd ((h y).2 List.mem_cons_self) (by simp)
  | x :: a, [], _, _, h => absurd ((h x).1 List.mem_cons_self) (by simp)
  | x :: a, y :: b, ha, hb, h => by
    have ha' : (∀ c ∈ a, x < c) ∧ Up a := List.pairwise_cons.1 ha
    have hb' : (∀ c ∈ b, y < c) ∧ Up b := List.pairwise_cons.1 hb
    have e : x = y := by
      rcases List.mem_cons.1 ((h x).1 List.mem_cons_self) with e | hx
      · exact e
      · rcases List.mem_cons.1 ((h y).2 List.mem_cons_self) with e | hy
        · exact e.symm
        · exact absurd (tx_trans (ha'.1 y hy) (hb'.1 x hx)) (tx_irr x)
    subst e
    congr 1
    refine up_ext a b ha'.2 hb'.2 fun c => ⟨fun hc => ?_, fun hc => ?_⟩
    · rcases List.mem_cons.1 ((h c).1 (List.mem_cons_of_mem _ hc)) with e | h2
      · subst e; exact absurd (ha'.1 c hc) (tx_irr c)
      · exact h2
    · rcases List.mem_cons.1 ((h c).2 (List.mem_cons_of_mem _ hc)) with e | h2
      · subst e; exact absurd (hb'.1 c hc) (tx_irr c)
      · exact h2

/-- All put in, one by one. -/
def insL (l : List (List UInt8)) (xs : List (List UInt8)) : List (List UInt8) := xs.foldl insU l

theorem insL_up : ∀ (xs l : List (List UInt8)), Up l → Up (insL l xs)
  | [], l, h => h
  | x :: xs, l, h => insL_up xs (insU l x) (insU_up l x h)

theorem insL_mem (y : List UInt8) : ∀ (xs l : List (List UInt8)), y ∈ insL l xs ↔ y ∈ xs ∨ y ∈ l
  | [], l => by simp [insL]
  | x :: xs, l => by
    rw [show insL l (x :: xs) = insL (insU l x) xs from rfl, insL_mem y xs, insU_mem, List.mem_cons]
    constructor
    · rintro (h | h | h)
      · exact Or.inl (Or.inr h)
      · exact Or.inl (Or.inl h)
      · exact Or.inr h
    · rintro ((h | h) | h)
      · exact Or.inr (Or.inl h)
      · exact Or.inl h
      · exact Or.inr (Or.inr h)

theorem get_bang (d : Array (List UInt8)) (j : Nat) (h : j < d.size) : d[j]! = d[j] := getElem!_pos d j h

/-- Of what does not fall: without those that stand twice it rises, and has the same in it. -/
theorem comp_up (d : Array (List UInt8)) (hd : ∀ i j, i < j → j < d.size → d[i]! ≤ d[j]!) : ∀ m, m ≤ d.size → Up (compactUpTo d m) ∧ (∀ x, x ∈ compactUpTo d m ↔ ∃ j, j < m ∧ d[j]! = x)
  | 0, _ => by simp [compactUpTo, Up]
  | m + 1, hm => by
    obtain ⟨h1, h2⟩ := comp_up d hd m (by omega)
    rw [compactUpTo_succ]
    by_cases hk : keeps d m = true
    · rw [if_pos hk]
      have hlt : ∀ x ∈ compactUpTo d m, x < d[m]! := fun x hx => by
        obtain ⟨j, hj, rfl⟩ := (h2 x).1 hx
        have hm0 : ¬ m = 0 := by omega
        have hne : ¬ d[m]! = d[m - 1]! := by
          have := of_decide_eq_true hk
          rcases this with h | h
          · exact absurd h hm0
          · exact h
        have hle : d[m - 1]! ≤ d[m]! := hd (m - 1) m (by omega) (by omega)
        have hlt1 : d[m - 1]! < d[m]! := tx_tri (fun e => hne e.symm) (fun h => absurd hle (by rw [← List.not_lt] at hle; exact fun _ => hle h))
        by_cases e : j = m - 1
        · rw [e]; exact hlt1
        · have hle2 : d[j]! ≤ d[m - 1]! := hd j (m - 1) (by omega) (by omega)
          by_cases h3 : d[j]! = d[m - 1]!
          · rw [h3]; exact hlt1
          · exact tx_trans (tx_tri h3 (fun h => (List.not_lt.2 hle2) h)) hlt1
      refine ⟨List.pairwise_append.2 ⟨h1, by simp, fun a ha b hb => ?_⟩, fun x => ?_⟩
      · rw [List.mem_singleton] at hb
        subst hb
        exact hlt a ha
      · rw [List.mem_append, List.mem_singleton, h2]
        constructor
        · rintro (⟨j, hj, e⟩ | e)
          · exact ⟨j, by omega, e⟩
          · exact ⟨m, by omega, e.symm⟩
        · rintro ⟨j, hj, e⟩
          by_cases ej : j = m
          · subst ej; exact Or.inr e.symm
          · exact Or.inl ⟨j, by omega, e⟩
    · rw [if_neg hk, List.append_nil]
      refine ⟨h1, fun x => ?_⟩
      rw [h2]
      have hk' : ¬ (m = 0 ∨ d[m]! ≠ d[m - 1]!) := fun h => hk (decide_eq_true h)
      have e0 : ¬ m = 0 := fun h => hk' (Or.inl h)
      have e1 : d[m]! = d[m - 1]! := by
        by_cases h : d[m]! = d[m - 1]!
        · exact h
        · exact absurd (Or.inr h) hk'
      constructor
      · rintro ⟨j, hj, e⟩
        exact ⟨j, by omega, e⟩
      · rintro ⟨j, hj, e⟩
        by_cases ej : j = m
        · subst ej; exact ⟨j - 1, by omega, by rw [← e1]; exact e⟩
        · exact ⟨j, by omega, e⟩

/-- Sorted and rid of what stands twice. -/
def risL (xs : List (List UInt8)) : List (List UInt8) := compact (xs.mergeSort fun x y => decide (x ≤ y))

theorem risL_up (xs : List (List UInt8)) : Up (risL xs) ∧ ∀ x, x ∈ risL xs ↔ x ∈ xs := by
  have hs := List.pairwise_mergeSort (le := fun (x y : List UInt8) => decide (x ≤ y)) (fun a b c h1 h2 => decide_eq_true (List.le_trans (of_decide_eq_true h1) (of_decide_eq_true h2)))
    (fun a b => by
      rcases List.le_total a b with h | h
      · rw [decide_eq_true h]; rfl
      · rw [decide_eq_true h, Bool.or_true]) xs
  obtain ⟨ys, hys⟩ : ∃ ys, xs.mergeSort (fun x y => decide (x ≤ y)) = ys := ⟨_, rfl⟩
  have hm : ∀ x, x ∈ ys ↔ x ∈ xs := fun x => by rw [← hys]; exact List.mem_mergeSort
  unfold risL
  rw [hys] at hs ⊢
  have hd : ∀ i j, i < j → j < ys.toArray.size → ys.toArray[i]! ≤ ys.toArray[j]! := fun i j hij hj => by
    have hj' : j < ys.length := by simpa using hj
    rw [get_bang _ _ hj, get_bang _ _ (by omega)]
    have := List.pairwise_iff_getElem.1 hs i j (by omega) hj' hij
    simpa using this
  obtain ⟨h1, h2⟩ := comp_up ys.toArray hd ys.length (by simp)
  refine ⟨h1, fun x => ?_⟩
  rw [show compact ys = compactUpTo ys.toArray ys.length from rfl, h2, ← hm]
  constructor
  · rintro ⟨j, hj, rfl⟩
    rw [get_bang _ _ (by simpa using hj)]
    simp
  · intro hx
    obtain ⟨j, hj, e⟩ := List.getElem_of_mem hx
    exact ⟨j, hj, by rw [get_bang _ _ (by simpa using hj)]; simpa using e⟩

theorem ris_ins (xs ys : List (List UInt8)) (h : ∀ x, x ∈ xs ↔ x ∈ ys) : risL xs = insL [] ys := by
  obtain ⟨h1, h2⟩ := risL_up xs
  refine up_ext _ _ h1 (insL_up ys [] (by simp [Up])) fun x => ?_
  rw [h2, insL_mem, h]
  simp

theorem insU_length : ∀ (l : List (List UInt8)) (s : List UInt8), (insU l s).length ≤ l.length + 1
  | [], s => by simp [insU]
  | x :: l, s => by
    rw [insU]
    split
    · simp
    · split
      · simp
      · have := insU_length l s
        simp only [List.length_cons]
        omega

theorem insL_length : ∀ (xs l : List (List UInt8)), (insL l xs).length ≤ l.length + xs.length
  | [], l => Nat.le_refl _
  | x :: xs, l => by
    have h1 := insL_length xs (insU l x)
    have h2 := insU_length l x
    rw [show insL l (x :: xs) = insL (insU l x) xs from rfl]
    simp only [List.length_cons]
    omega

/-- Into a rising list: where it comes to stand. -/
theorem insU_app : ∀ (p q : List (List UInt8)) (s : List UInt8), (∀ x ∈ p, x < s) → insU (p ++ q) s = p ++ insU q s
  | [], q, s, _ => rfl
  | x :: p, q, s, h => by
    have hx := h x List.mem_cons_self
    rw [List.cons_append, insU, if_neg (fun e => by subst e; exact tx_irr x hx), if_neg (fun h2 => tx_irr x (tx_trans hx h2)), insU_app p q s (fun y hy => h y (List.mem_cons_of_mem _ hy))]
    rfl
end Go.Proofs.Ytcpafjpjfinbkaa
