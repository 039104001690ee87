/-
  Plain facts on texts and tokens, of no program: runs of bytes, the tokens of a text step by step (each text has at most one answer), and how a range over a text steps. Conditions: written at each theorem.
-/
import Derived.Test.YtobijbhgpgnfkaaGreatDoorDm
import Derived.Test.YtobijbhgpgnfkaaGreatDoorRn
import Derived.Test.YtobijbhgpgnfkaaGreatDoorTk
import Derived.Laws.RangeAny
import Derived.Lib.Strings
namespace Go.Proofs.YtobijbhgpgnfkaaGreatDoor
set_option linter.unusedVariables false

abbrev byteS (b : UInt8) : ByteArray := ⟨#[b]⟩

/-- From place i the reading goes on to place j and has read so many tokens (none or one). -/
def Step (s : ByteArray) (i j : Nat) (ts : List Tok) : Prop :=
  i < s.size ∧
  (((bAt s i = 32 ∨ bAt s i = 10) ∧ j = i + 1 ∧ ts = []) ∨
   (bAt s i = 35 ∧ RunTo inRem s i j ∧ ts = []) ∨
   (bAt s i = 40 ∧ j = i + 1 ∧ ts = [⟨1, byteS 40, 0, i⟩]) ∨
   (bAt s i = 41 ∧ j = i + 1 ∧ ts = [⟨2, byteS 41, 0, i⟩]) ∨
   (lowA (bAt s i) ∧ RunTo lowA s i j ∧ j ≤ i + 8 ∧ ts = [⟨3, s.extract i j, 0, i⟩]) ∨
   (dig9 (bAt s i) ∧ RunTo dig9 s i j ∧ ∃ n : Int, IsRd (s.extract i j).data.toList n true ∧ n ≤ 65535 ∧ ts = [⟨4, s.extract i j, n, i⟩]))

/-- At place i stands a fault. -/
def Bad (s : ByteArray) (i : Nat) : Prop :=
  i < s.size ∧
  ((lowA (bAt s i) ∧ ∃ j, RunTo lowA s i j ∧ i + 8 < j) ∨
   (dig9 (bAt s i) ∧ ∃ j, RunTo dig9 s i j ∧ ∃ (n : Int) (ok : Bool), IsRd (s.extract i j).data.toList n ok ∧ (ok = false ∨ 65535 < n)) ∨
   (bAt s i ≠ 32 ∧ bAt s i ≠ 10 ∧ bAt s i ≠ 35 ∧ bAt s i ≠ 40 ∧ bAt s i ≠ 41 ∧ ¬ lowA (bAt s i) ∧ ¬ dig9 (bAt s i)))

theorem step_one {s : ByteArray} {i j j' : Nat} {ts ts' : List Tok} (h : Step s i j ts) (h' : Step s i j' ts') : j = j' ∧ ts = ts' := by
  obtain ⟨_, h⟩ := h
  obtain ⟨_, h'⟩ := h'
  simp only [lowA, dig9] at h h'
  rcases h with ⟨hb, rfl, rfl⟩ | ⟨hb, hr, rfl⟩ | ⟨hb, rfl, rfl⟩ | ⟨hb, rfl, rfl⟩ | ⟨hb, hr, h8, rfl⟩ | ⟨hb, hr, n, hn, hm, rfl⟩ <;>
  rcases h' with ⟨hb', rfl, rfl⟩ | ⟨hb', hr', rfl⟩ | ⟨hb', rfl, rfl⟩ | ⟨hb', rfl, rfl⟩ | ⟨hb', hr', h8', rfl⟩ | ⟨hb', hr', n', hn', hm', rfl⟩ <;>
  first
  | exact ⟨rfl, rfl⟩
  | (exfalso; omega)
  | exact ⟨runTo_one hr hr', rfl⟩
  | (obtain rfl := runTo_one hr hr'; exact ⟨rfl, rfl⟩)
  | (obtain rfl := runTo_one hr hr'; obtain ⟨rfl, _⟩ := isRd_one hn hn'; exact ⟨rfl, rfl⟩)

theorem step_bad {s : ByteArray} {i j : Nat} {ts : List Tok} (h : Step s i j ts) (h' : Bad s i) : False := by
  obtain ⟨_, h⟩ := h
  obtain ⟨_, h'⟩ := h'
  simp only [lowA, dig9] at h h'
  rcases h' with ⟨hb', k, hk, h8⟩ | ⟨hb', k, hk, n, ok, hn, hm⟩ | hb' <;>
  rcases h with ⟨hb, rfl, rfl⟩ | ⟨hb, hr, rfl⟩ | ⟨hb, rfl, rfl⟩ | ⟨hb, rfl, rfl⟩ | ⟨hb, hr, h8', rfl⟩ | ⟨hb, hr, n', hn', hm', rfl⟩ <;>
  first
  | omega
  | (have := runTo_one hk hr; omega)
  | (obtain rfl := runTo_one hk hr
     obtain ⟨rfl, rfl⟩ := isRd_one hn hn'
     rcases hm with hm | hm
     · cases hm
     · omega)

theorem step_lt {s : ByteArray} {i j : Nat} {ts : List Tok} (h : Step s i j ts) : i < j := by
  obtain ⟨hi, h⟩ := h
  have run : ∀ p, p (bAt s i) → RunTo p s i j → i < j := fun p hp hr => by
    rcases Nat.lt_or_eq_of_le hr.1 with hl | rfl
    · exact hl
    · exact absurd hp (hr.2.2.2 hi)
  rcases h with ⟨hb, rfl, rfl⟩ | ⟨hb, hr, rfl⟩ | ⟨hb, rfl, rfl⟩ | ⟨hb, rfl, rfl⟩ | ⟨hb, hr, h8', rfl⟩ | ⟨hb, hr, n', hn', hm', rfl⟩
  · omega
  · exact run inRem (by show _ ≠ 10; omega) hr
  · omega
  · omega
  · exact run _ hb hr
  · exact run _ hb hr

theorem step_le {s : ByteArray} {i j : Nat} {ts : List Tok} (h : Step s i j ts) : j ≤ s.size := by
  obtain ⟨hi, h⟩ := h
  rcases h with ⟨hb, rfl, rfl⟩ | ⟨hb, hr, rfl⟩ | ⟨hb, rfl, rfl⟩ | ⟨hb, rfl, rfl⟩ | ⟨hb, hr, h8', rfl⟩ | ⟨hb, hr, n', hn', hm', rfl⟩
  · omega
  · exact hr.2.1
  · omega
  · omega
  · exact hr.2.1
  · exact hr.2.1

/-- By k steps the reading has come to place i, with these tokens. -/
def Reach (s : ByteArray) : Nat → Nat → List Tok → Prop
  | 0, i, out => i = 0 ∧ out = []
  | k + 1, i, out => ∃ i' out' ts, Reach s k i' out' ∧ Step s i' i ts ∧ out = out' ++ ts

theorem reach_one {s : ByteArray} : ∀ {k i i' : Nat} {out out' : List Tok}, Reach s k i out → Reach s k i' out' → i = i' ∧ out = out'
  | 0, i, i', out, out', h, h' => ⟨h.1.trans h'.1.symm, h.2.trans h'.2.symm⟩
  | k + 1, i, i', out, out', h, h' => by
    obtain ⟨j, o, ts, hr, hs, rfl⟩ := h
    obtain ⟨j', o', ts', hr', hs', rfl⟩ := h'
    obtain ⟨rfl, rfl⟩ := reach_one hr hr'
    obtain ⟨rfl, rfl⟩ := step_one hs hs'
    exact ⟨rfl, rfl⟩

theorem reach_back {s : ByteArray} : ∀ {k m i : Nat} {out : List Tok}, Reach s m i out → k < m → ∃ i' out' j ts, Reach s k i' out' ∧ Step s i' j ts
  | k, 0, i, out, h, hk => by omega
  | k, m + 1, i, out, h, hk => by
    obtain ⟨j, o, ts, hr, hs, rfl⟩ := h
    rcases Nat.lt_or_eq_of_le (Nat.le_of_lt_succ hk) with hl | rfl
    · exact reach_back hr hl
    · exact ⟨j, o, i, ts, hr, hs⟩

theorem reach_le {s : ByteArray} : ∀ {k i : Nat} {out : List Tok}, Reach s k i out → i ≤ s.size
  | 0, i, out, h => by obtain ⟨rfl, _⟩ := h; omega
  | k + 1, i, out, h => by
    obtain ⟨j, o, ts, hr, hs, rfl⟩ := h
    exact step_le hs

/-- The reading stops there: at the text's end, or at a fault. -/
def Fin (s : ByteArray) (i : Nat) (out r : List Tok) (n : Int) : Prop := (s.size ≤ i ∧ r = out ∧ n = -1) ∨ (Bad s i ∧ r = [] ∧ n = i)

theorem fin_step {s : ByteArray} {i j : Nat} {out r ts : List Tok} {n : Int} (h : Fin s i out r n) (h' : Step s i j ts) : False := by
  rcases h with ⟨hi, _⟩ | ⟨hb, _⟩
  · have := h'.1; omega
  · exact step_bad h' hb

/-- What the reading of a text comes to: tokens, and -1 or a place. -/
def Lexes (s : ByteArray) (r : List Tok) (n : Int) : Prop :=
  (4000 < s.size ∧ r = [] ∧ n = 4000) ∨ (s.size ≤ 4000 ∧ ∃ k i out, Reach s k i out ∧ Fin s i out r n)

theorem lexes_one {s : ByteArray} {r r' : List Tok} {n n' : Int} (h : Lexes s r n) (h' : Lexes s r' n') : r = r' ∧ n = n' := by
  rcases h with ⟨hz, rfl, rfl⟩ | ⟨hz, k, i, out, hr, hf⟩ <;> rcases h' with ⟨hz', rfl, rfl⟩ | ⟨hz', k', i', out', hr', hf'⟩
  · exact ⟨rfl, rfl⟩
  · omega
  · omega
  · have hk : k = k' := by
      rcases Nat.lt_trichotomy k k' with hl | rfl | hl
      · obtain ⟨a, b, c, d, e, f⟩ := reach_back hr' hl
        obtain ⟨rfl, rfl⟩ := reach_one hr e
        exact (fin_step hf f).elim
      · rfl
      · obtain ⟨a, b, c, d, e, f⟩ := reach_back hr hl
        obtain ⟨rfl, rfl⟩ := reach_one hr' e
        exact (fin_step hf' f).elim
    subst hk
    obtain ⟨rfl, rfl⟩ := reach_one hr hr'
    rcases hf with ⟨h1, rfl, rfl⟩ | ⟨h1, rfl, rfl⟩ <;> rcases hf' with ⟨h2, rfl, rfl⟩ | ⟨h2, rfl, rfl⟩
    · exact ⟨rfl, rfl⟩
    · have := h2.1; omega
    · have := h1.1; omega
    · exact ⟨rfl, rfl⟩

/-- A rune of several bytes: all of them stand in the text and are above 127. -/
theorem width_high (s : ByteArray) (pos : Nat) (h : pos < s.size) (hb : 128 ≤ bAt s pos) : ∀ j, pos ≤ j → j < pos + (Utf8.decode s pos).2 → j < s.size ∧ 128 ≤ bAt s j := by
  have hg : ∀ k, pos + k < s.size → (s.get! (pos + k)).toNat = bAt s (pos + k) := fun k hk => by
    rw [bAt_in hk]
    simp [ByteArray.get!, getElem!_pos, hk]
    rfl
  have h0 := hg 0 h
  have hn : ¬ bAt s (pos + 0) < 128 := by simpa using hb
  intro j h1 h2
  simp only [Utf8.decode, h0, hn, if_false] at h2
  have key : ∀ k, decide (pos + k < s.size) = true ∧ ((s.get! (pos + k)).toNat / 64 == 2) = true → pos + k < s.size ∧ 128 ≤ bAt s (pos + k) := fun k hk => by
    simp only [decide_eq_true_eq, beq_iff_eq] at hk
    have := hg k hk.1
    exact ⟨hk.1, by omega⟩
  have k0 : pos + 0 < s.size ∧ 128 ≤ bAt s (pos + 0) := ⟨h, by simpa using hb⟩
  obtain ⟨d, rfl⟩ : ∃ d, j = pos + d := ⟨j - pos, by omega⟩
  simp only [Bool.and_eq_true] at h2
  repeat' split at h2
  all_goals simp only at h2
  · rename_i c _
    obtain ⟨_, c1⟩ := c
    rcases (by omega : d = 0 ∨ d = 1) with rfl | rfl
    · exact k0
    · exact key 1 c1
  · obtain rfl : d = 0 := by omega
    exact k0
  · rename_i c _
    obtain ⟨⟨_, c1⟩, c2⟩ := c
    rcases (by omega : d = 0 ∨ d = 1 ∨ d = 2) with rfl | rfl | rfl
    · exact k0
    · exact key 1 c1
    · exact key 2 c2
  · obtain rfl : d = 0 := by omega
    exact k0
  · rename_i c _
    obtain ⟨⟨⟨_, c1⟩, c2⟩, c3⟩ := c
    rcases (by omega : d = 0 ∨ d = 1 ∨ d = 2 ∨ d = 3) with rfl | rfl | rfl | rfl
    · exact k0
    · exact key 1 c1
    · exact key 2 c2
    · exact key 3 c3
  · obtain rfl : d = 0 := by omega
    exact k0
  · obtain rfl : d = 0 := by omega
    exact k0

theorem width_pos (s : ByteArray) (pos : Nat) (h : pos < s.size) : 1 ≤ (Utf8.decode s pos).2 := by
  by_cases ha : (s[pos]'h).toNat < 128
  · rw [decode_ascii s pos h ha]
    exact Nat.le_refl _
  · exact (decode_high s pos h (by omega)).2

/-- A step of the range does not pass a place that begins a rune of one byte, nor goes beyond bytes below 128. -/
theorem width_stop (s : ByteArray) (pos q : Nat) (h : pos < q) (hq : q ≤ s.size) (hg : (∀ j, pos ≤ j → j < q → bAt s j < 128) ∨ (q < s.size ∧ bAt s q < 128)) :
    pos + (Utf8.decode s pos).2 ≤ q := by
  have hp : pos < s.size := by omega
  by_cases ha : bAt s pos < 128
  · rw [bAt_in hp] at ha
    rw [decode_ascii s pos hp ha]
    exact h
  · have hw := width_high s pos hp (by omega)
    rcases hg with hg | ⟨hq, hb⟩
    · exact absurd (hg pos (Nat.le_refl _) h) ha
    · rcases Nat.lt_or_ge q (pos + (Utf8.decode s pos).2) with hl | hl
      · have := (hw q (by omega) hl).2; omega
      · exact hl

theorem width_le (s : ByteArray) (pos : Nat) (h : pos < s.size) : pos + (Utf8.decode s pos).2 ≤ s.size := by
  by_cases ha : bAt s pos < 128
  · rw [bAt_in h] at ha
    rw [decode_ascii s pos h ha]
    exact h
  · have hw := width_high s pos h (by omega)
    have h1 := width_pos s pos h
    have := (hw (pos + (Utf8.decode s pos).2 - 1) (by omega) (by omega)).1
    omega
end Go.Proofs.YtobijbhgpgnfkaaGreatDoor
