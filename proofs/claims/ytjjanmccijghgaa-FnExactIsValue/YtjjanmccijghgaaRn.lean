/-
  Plain facts on texts, of no program: the byte at a place, and runs of bytes of one kind. Conditions: written at each theorem.
-/
import Derived.Test.YtjjanmccijghgaaRows
import Derived.WalkKit
import Derived.Lib.Strings
namespace Go.Proofs.Ytjjanmccijghgaa
set_option linter.unusedVariables false

def bAt (s : ByteArray) (k : Nat) : Nat := if h : k < s.size then s[k].toNat else 0

theorem bAt_in {s : ByteArray} {k : Nat} (h : k < s.size) : bAt s k = s[k].toNat := by simp [bAt, h]

theorem bAt_lt (s : ByteArray) (k : Nat) : bAt s k < 256 := by
  unfold bAt
  split
  · exact UInt8.toNat_lt _
  · omega

theorem bAt_extract (s : ByteArray) (i e j : Nat) (he : e ≤ s.size) (hj : i + j < e) : bAt (s.extract i e) j = bAt s (i + j) := by
  have h1 : j < (s.extract i e).size := by rw [ByteArray.size_extract]; omega
  rw [bAt_in h1, bAt_in (by omega), ByteArray.getElem_extract]

/-- Letters from a to z; digits. -/
abbrev lowA (b : Nat) : Prop := 97 ≤ b ∧ b ≤ 122
abbrev dig9 (b : Nat) : Prop := 48 ≤ b ∧ b ≤ 57
abbrev inRem (b : Nat) : Prop := b ≠ 10

/-- From place i on the bytes are of the kind as far as place e, and no farther. -/
def RunTo (p : Nat → Prop) (s : ByteArray) (i e : Nat) : Prop :=
  i ≤ e ∧ e ≤ s.size ∧ (∀ j, i ≤ j → j < e → p (bAt s j)) ∧ (e < s.size → ¬ p (bAt s e))

theorem runTo_one {p : Nat → Prop} {s : ByteArray} {i e e' : Nat} (h : RunTo p s i e) (h' : RunTo p s i e') : e = e' := by
  obtain ⟨h1, h2, h3, h4⟩ := h
  obtain ⟨k1, k2, k3, k4⟩ := h'
  rcases Nat.lt_trichotomy e e' with hlt | rfl | hgt
  · exact absurd (k3 e h1 hlt) (h4 (by omega))
  · rfl
  · exact absurd (h3 e' k1 hgt) (k4 (by omega))

/-- What is said of the rest of a text from place i on is said of the text. -/
theorem runTo_rest {p : Nat → Prop} {s : ByteArray} {i n : Nat} (hi : i ≤ s.size) (h : RunTo p (s.extract i s.size) 0 n) : RunTo p s i (i + n) := by
  obtain ⟨_, h2, h3, h4⟩ := h
  have hz : (s.extract i s.size).size = s.size - i := by rw [ByteArray.size_extract, Nat.min_self]
  rw [hz] at h2 h4
  refine ⟨by omega, by omega, fun j hj1 hj2 => ?_, fun hn => ?_⟩
  · have := h3 (j - i) (by omega) (by omega)
    rw [bAt_extract s i s.size (j - i) (Nat.le_refl _) (by omega)] at this
    rwa [show i + (j - i) = j by omega] at this
  · have := h4 (by omega)
    rwa [bAt_extract s i s.size n (Nat.le_refl _) (by omega)] at this
end Go.Proofs.Ytjjanmccijghgaa
