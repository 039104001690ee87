/-
  Plain facts on decimal texts, of no program: what the digits of a number say, that a number is read from its own text and from no other, and what the digits of a text say. Conditions: written at each theorem.
-/
import Derived.Test.YthmfkbnfdheopaaDoorRows
import Derived.WalkKit
import Derived.Lib.ItoaNum
import Derived.Lib.ItoaMem
import Derived.Lib.ItoaLen
import Derived.Lib.AtoiAll
namespace Go.Proofs.YthmfkbnfdheopaaDoor
set_option linter.unusedVariables false

theorem dd_small {u : Nat} (h : u < 10) : Lib.decDigits u = [UInt8.ofNat (48 + u)] := Lib.decDigits_one h
theorem dd_big {u : Nat} (h : ¬ u < 10) : Lib.decDigits u = Lib.decDigits (u / 10) ++ [UInt8.ofNat (48 + u % 10)] := by
  rw [Lib.decDigits, dif_neg h]

theorem digit_nat (d : Nat) (h : d < 10) : (UInt8.ofNat (48 + d)).toNat = 48 + d := by
  rw [UInt8.toNat_ofNat']
  omega

theorem dd_digits : ∀ (u : Nat), ∀ c ∈ Lib.decDigits u, 48 ≤ c.toNat ∧ c.toNat ≤ 57 := by
  intro u
  induction u using Nat.strongRecOn with
  | ind u ih =>
    by_cases h : u < 10
    · rw [dd_small h]
      intro c hc
      simp only [List.mem_singleton] at hc
      subst hc
      rw [digit_nat u h]
      omega
    · rw [dd_big h]
      intro c hc
      simp only [List.mem_append, List.mem_singleton] at hc
      rcases hc with hc | hc
      · exact ih (u / 10) (by omega) c hc
      · subst hc
        rw [digit_nat _ (by omega)]
        omega

theorem dd_pos (u : Nat) : 0 < (Lib.decDigits u).length := by
  by_cases h : u < 10
  · rw [dd_small h]; simp
  · rw [dd_big h]; simp

theorem dd_length : ∀ (j u : Nat), u < 10 ^ (j + 1) → (Lib.decDigits u).length ≤ j + 1
  | 0, u, h => by rw [dd_small (by simpa using h)]; simp
  | j + 1, u, h => by
    by_cases hs : u < 10
    · rw [dd_small hs]; simp
    · rw [dd_big hs]
      have := dd_length j (u / 10) (by rw [Nat.div_lt_iff_lt_mul (by omega)]; rw [Nat.pow_succ] at h; exact h)
      simp; omega

theorem parse_dd : ∀ (u : Nat) (r : List UInt8), u < 1000000000000000000 → Lib.parseUint10 0 (Lib.decDigits u ++ r) = Lib.parseUint10 u r := by
  intro u
  induction u using Nat.strongRecOn with
  | ind u ih =>
    intro r hu
    by_cases h : u < 10
    · rw [dd_small h]
      simp only [List.cons_append, List.nil_append, Lib.parseUint10, digit_nat u h]
      rw [if_pos (by omega), if_neg (by omega), if_neg (by omega)]
      congr 1
      omega
    · rw [dd_big h, List.append_assoc, ih (u / 10) (by omega) _ (by omega)]
      simp only [List.cons_append, List.nil_append, Lib.parseUint10, digit_nat (u % 10) (by omega)]
      rw [if_pos (by omega), if_neg (by omega), if_neg (by omega)]
      congr 1
      omega

theorem parseMag_dd (u : Nat) (hu : u < 1000000000000000000) : Lib.parseMag (Lib.decDigits u) = .ok u := by
  unfold Lib.parseMag
  rw [if_neg (by have := dd_pos u; intro h; rw [h] at this; simp at this)]
  have := parse_dd u [] hu
  rw [List.append_nil] at this
  rw [this]
  rfl

theorem itoa_pos (u : Nat) : Lib.itoa (u : Int) = Lib.decDigits u := Lib.itoa_nonneg u
theorem itoa_neg (u : Nat) (h : 1 ≤ u) : Lib.itoa (-(u : Int)) = 45 :: Lib.decDigits u := Lib.itoa_neg u h

/-- A number is read from its own text. -/
theorem atoi_itoa (n : Int) (h1 : -1000000000000000000 < n) (h2 : n < 1000000000000000000) : Lib.atoiAll (Lib.itoa n) = .ok n := by
  by_cases h : n < 0
  · obtain ⟨u, rfl⟩ : ∃ u : Nat, n = -(u : Int) := ⟨n.natAbs, by omega⟩
    rw [itoa_neg u (by omega)]
    unfold Lib.atoiAll
    have e : (45 : UInt8).toNat = 45 := rfl
    simp only [e]
    rw [if_pos (by simp), parseMag_dd u (by omega)]
    simp
    omega
  · obtain ⟨u, rfl⟩ := Int.eq_ofNat_of_zero_le (show 0 ≤ n by omega)
    have hp := dd_pos u
    have hd := dd_digits u
    have hm := parseMag_dd u (by omega)
    rw [itoa_pos u]
    generalize Lib.decDigits u = l at *
    cases l with
    | nil => simp at hp
    | cons c r =>
      have hc := hd c (by simp)
      unfold Lib.atoiAll
      simp only []
      rw [if_neg (by omega), hm]
      have hne : ¬ c.toNat = 45 := by omega
      simp [hne]
      omega

/-- What the digits of a text say; what is no digit is passed over. -/
def num : Nat → List UInt8 → Nat
  | a, [] => a
  | a, c :: r => if 48 ≤ c.toNat ∧ c.toNat ≤ 57 then num (a * 10 + (c.toNat - 48)) r else num a r

def cnt : List UInt8 → Nat
  | [] => 0
  | c :: r => if 48 ≤ c.toNat ∧ c.toNat ≤ 57 then cnt r + 1 else cnt r

theorem num_append : ∀ (l r : List UInt8) (a : Nat), num a (l ++ r) = num (num a l) r
  | [], _, _ => rfl
  | c :: l, r, a => by
    simp only [List.cons_append, num]
    split <;> exact num_append l r _

theorem cnt_append : ∀ (l r : List UInt8), cnt (l ++ r) = cnt l + cnt r
  | [], _ => by simp [cnt]
  | c :: l, r => by
    simp only [List.cons_append, cnt, cnt_append l r]
    split <;> omega

theorem num_lt : ∀ (l : List UInt8) (a m : Nat), a < 10 ^ m → num a l < 10 ^ (m + cnt l)
  | [], a, m, h => by simpa [num, cnt] using h
  | c :: l, a, m, h => by
    simp only [num, cnt]
    split
    · have := num_lt l (a * 10 + (c.toNat - 48)) (m + 1) (by rw [Nat.pow_succ]; omega)
      rw [show m + (cnt l + 1) = m + 1 + cnt l by omega]
      exact this
    · exact num_lt l a m h

theorem cnt_le : ∀ (l : List UInt8), cnt l ≤ l.length
  | [] => by simp [cnt]
  | c :: l => by
    have := cnt_le l
    simp only [cnt, List.length_cons]
    split <;> omega

theorem num_dd : ∀ (u : Nat), num 0 (Lib.decDigits u) = u := by
  intro u
  induction u using Nat.strongRecOn with
  | ind u ih =>
    by_cases h : u < 10
    · rw [dd_small h]
      simp only [num, digit_nat u h]
      rw [if_pos (by omega)]
      omega
    · rw [dd_big h, num_append, ih (u / 10) (by omega)]
      simp only [num, digit_nat (u % 10) (by omega)]
      rw [if_pos (by omega)]
      omega

/-- What ReadDec answers. -/
def IsRd (l : List UInt8) (n : Int) (ok : Bool) : Prop :=
  (ok = true ∧ -1000000000 < n ∧ n < 1000000000 ∧ l = Lib.itoa n) ∨ (ok = false ∧ n = 0 ∧ ∀ m, -1000000000 < m → m < 1000000000 → l ≠ Lib.itoa m)

theorem isRd_one {l : List UInt8} {n n' : Int} {o o' : Bool} (h : IsRd l n o) (h' : IsRd l n' o') : n = n' ∧ o = o' := by
  rcases h with ⟨rfl, h1, h2, h3⟩ | ⟨rfl, rfl, h3⟩ <;> rcases h' with ⟨rfl, h1', h2', h3'⟩ | ⟨rfl, rfl, h3'⟩
  · have a := atoi_itoa n (by omega) (by omega)
    have b := atoi_itoa n' (by omega) (by omega)
    rw [← h3, h3', b] at a
    injection a with a
    exact ⟨a.symm, rfl⟩
  · exact absurd h3 (h3' _ h1 h2)
  · exact absurd h3' (h3 _ h1' h2')
  · exact ⟨rfl, rfl⟩

/-- The signed number of a text: behind a leading minus the other way. -/
def sgn (l : List UInt8) (n : Nat) : Int := if l.head? = some 45 then -(n : Int) else n

theorem itoa_back (m : Int) (h1 : -1000000000 < m) (h2 : m < 1000000000) :
    sgn (Lib.itoa m) (num 0 (Lib.itoa m)) = m ∧ cnt (Lib.itoa m) ≤ 9 ∧ (Lib.itoa m).length ≤ 10 := by
  by_cases h : m < 0
  · obtain ⟨u, rfl⟩ : ∃ u : Nat, m = -(u : Int) := ⟨m.natAbs, by omega⟩
    rw [itoa_neg u (by omega)]
    have hl := dd_length 8 u (by omega)
    have hc := cnt_le (Lib.decDigits u)
    refine ⟨?_, ?_, by simp; omega⟩
    · simp [sgn, num, num_dd]
    · simp [cnt]; omega
  · obtain ⟨u, rfl⟩ := Int.eq_ofNat_of_zero_le (show 0 ≤ m by omega)
    rw [itoa_pos u]
    have hl := dd_length 8 u (by omega)
    have hc := cnt_le (Lib.decDigits u)
    have hd := dd_digits u
    have hn := num_dd u
    refine ⟨?_, by omega, by omega⟩
    rw [hn]
    unfold sgn
    rw [if_neg]
    intro hh
    generalize Lib.decDigits u = l at *
    cases l with
    | nil => simp at hh
    | cons c r =>
      simp at hh
      have := hd c (by simp)
      rw [hh] at this
      revert this
      decide

/-- What the specification's ReadDec answers is what ReadDec answers. -/
theorem rd_spec_yes (l : List UInt8) (hk : cnt l ≤ 9) (hd : Lib.itoa (sgn l (num 0 l)) = l) : IsRd l (sgn l (num 0 l)) true := by
  have h := num_lt l 0 0 (by simp)
  have h2 : 10 ^ (0 + cnt l) ≤ 10 ^ 9 := Nat.pow_le_pow_right (by omega) (by omega)
  refine Or.inl ⟨rfl, ?_, ?_, hd.symm⟩ <;> (unfold sgn; split <;> omega)

theorem rd_spec_no (l : List UInt8) (h : 9 < cnt l ∨ 10 < l.length ∨ Lib.itoa (sgn l (num 0 l)) ≠ l) : IsRd l 0 false := by
  refine Or.inr ⟨rfl, rfl, fun m h1 h2 he => ?_⟩
  have hb := itoa_back m h1 h2
  subst he
  rw [hb.1] at h
  rcases h with h | h | h
  · omega
  · omega
  · exact h rfl
end Go.Proofs.YthmfkbnfdheopaaDoor
