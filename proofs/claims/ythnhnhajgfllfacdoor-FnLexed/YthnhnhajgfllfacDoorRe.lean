/-
  Plain facts, of no program: tokens that were read stand where they are said to, in order; put together again they are read the same. Conditions: written at each theorem.
-/
import Derived.Test.YthnhnhajgfllfacDoorLx
namespace Go.Proofs.YthnhnhajgfllfacDoor
set_option linter.unusedVariables false

/-- A text out of a list of bytes. -/
def bsL (U : List UInt8) : ByteArray := ⟨U.toArray⟩

theorem bsL_size (U : List UInt8) : (bsL U).size = U.length := by simp [bsL, ByteArray.size]

theorem bAt_data (s : ByteArray) (q : Nat) : bAt s q = (s.data.toList.getD q 0).toNat := by
  by_cases h : q < s.size
  · have h' : q < s.data.toList.length := by simpa using h
    rw [bAt_in h, List.getD, List.getElem?_eq_getElem h']
    rfl
  · have h' : ¬ q < s.data.toList.length := by simpa using h
    rw [List.getD, List.getElem?_eq_none (by omega)]
    simp [bAt, h]

theorem bsL_data (U : List UInt8) : (bsL U).data.toList = U := by simp [bsL]

theorem bAt_list (U : List UInt8) (q : Nat) : bAt (bsL U) q = (U.getD q 0).toNat := by rw [bAt_data, bsL_data]

theorem bytes_ext {a b : ByteArray} (h : a.data.toList = b.data.toList) : a = b := by
  cases a; cases b
  simp only at h
  congr 1
  exact Array.toList_inj.1 h

theorem len_data (s : ByteArray) : s.data.toList.length = s.size := by rw [Array.length_toList]; rfl

theorem extract_mid (P X R : List UInt8) : (bsL (P ++ X ++ R)).extract P.length (P.length + X.length) = bsL X := by
  apply bytes_ext
  rw [ByteArray.data_extract, bsL_data]
  simp [bsL]

theorem bAt_mid (P X R : List UInt8) (q : Nat) (h : q < X.length) : bAt (bsL (P ++ X ++ R)) (P.length + q) = (X.getD q 0).toNat := by
  rw [bAt_list]
  simp only [List.getD]
  rw [List.append_assoc, List.getElem?_append_right (by omega), List.getElem?_append_left (by omega), Nat.add_sub_cancel_left]

theorem bAt_end (P X : List UInt8) (b : UInt8) (R : List UInt8) : bAt (bsL (P ++ X ++ b :: R)) (P.length + X.length) = b.toNat := by
  rw [bAt_list]
  simp only [List.getD]
  rw [List.getElem?_append_right (by simp)]
  simp

/-- What a token is, wherever it stands. -/
def VT (t : Tok) : Prop :=
  (t.kind = 1 ∧ t.text = byteS 40 ∧ t.n = 0) ∨ (t.kind = 2 ∧ t.text = byteS 41 ∧ t.n = 0) ∨
  (t.kind = 3 ∧ 1 ≤ t.text.size ∧ t.text.size ≤ 8 ∧ (∀ q, q < t.text.size → lowA (bAt t.text q)) ∧ t.n = 0) ∨
  (t.kind = 4 ∧ 1 ≤ t.text.size ∧ (∀ q, q < t.text.size → dig9 (bAt t.text q)) ∧ IsRd t.text.data.toList t.n true ∧ t.n ≤ 65535)

/-- A text behind which a token that ended there has ended. -/
def Closed (kd : Int) (R : List UInt8) : Prop := R = [] ∨ kd = 1 ∨ kd = 2 ∨ ∃ b R', R = b :: R' ∧ ¬ lowA b.toNat ∧ ¬ dig9 b.toNat

theorem tok_step (P R : List UInt8) (t : Tok) (ht : VT t) (hR : Closed t.kind R) :
    Step (bsL (P ++ t.text.data.toList ++ R)) P.length (P.length + t.text.size) [⟨t.kind, t.text, t.n, (P.length : Nat)⟩] := by
  obtain ⟨kd, T, n, pl⟩ := t
  unfold VT at ht
  simp only at ht hR ⊢
  have hl : T.data.toList.length = T.size := len_data T
  have hx : 1 ≤ T.size := by
    rcases ht with ⟨_, h, _⟩ | ⟨_, h, _⟩ | ⟨_, h, _⟩ | ⟨_, h, _⟩
    · rw [h]; simp [ByteArray.size]
    · rw [h]; simp [ByteArray.size]
    · exact h
    · exact h
  have hz : (bsL (P ++ T.data.toList ++ R)).size = P.length + T.size + R.length := by rw [bsL_size, List.length_append, List.length_append, hl]
  have hm : ∀ q, q < T.size → bAt (bsL (P ++ T.data.toList ++ R)) (P.length + q) = bAt T q := fun q hq => by
    rw [bAt_mid _ _ _ _ (by omega), bAt_data T]
  have h0 : bAt (bsL (P ++ T.data.toList ++ R)) P.length = bAt T 0 := hm 0 (by omega)
  have hext : (bsL (P ++ T.data.toList ++ R)).extract P.length (P.length + T.size) = T := by
    rw [← hl, extract_mid]
    exact bytes_ext (bsL_data _)
  have run : ∀ p : Nat → Prop, (∀ q, q < T.size → p (bAt T q)) → (R = [] ∨ ∃ b R', R = b :: R' ∧ ¬ p b.toNat) → RunTo p (bsL (P ++ T.data.toList ++ R)) P.length (P.length + T.size) := by
    intro p hp hr
    refine ⟨by omega, by omega, fun j h1 h2 => ?_, fun h => ?_⟩
    · have := hm (j - P.length) (by omega)
      rw [show P.length + (j - P.length) = j by omega] at this
      rw [this]
      exact hp _ (by omega)
    · rcases hr with rfl | ⟨b, R', rfl, hb⟩
      · rw [hz, List.length_nil] at h; omega
      · have := bAt_end P T.data.toList b R'
        rw [hl] at this
        rw [this]
        exact hb
  refine ⟨by omega, ?_⟩
  rcases ht with ⟨rfl, rfl, rfl⟩ | ⟨rfl, rfl, rfl⟩ | ⟨rfl, _, h8, ha, rfl⟩ | ⟨rfl, _, ha, hr, hn⟩
  · exact Or.inr (Or.inr (Or.inl ⟨by rw [h0]; rfl, rfl, rfl⟩))
  · exact Or.inr (Or.inr (Or.inr (Or.inl ⟨by rw [h0]; rfl, rfl, rfl⟩)))
  · refine Or.inr (Or.inr (Or.inr (Or.inr (Or.inl ⟨by rw [h0]; exact ha 0 (by omega), run lowA ha ?_, by omega, by rw [hext]⟩))))
    rcases hR with h | h | h | ⟨b, R', h, h1, _⟩
    · exact Or.inl h
    · omega
    · omega
    · exact Or.inr ⟨b, R', h, h1⟩
  · refine Or.inr (Or.inr (Or.inr (Or.inr (Or.inr ⟨by rw [h0]; exact ha 0 (by omega), run dig9 ha ?_, n, by rw [hext]; exact hr, hn, by rw [hext]⟩))))
    rcases hR with h | h | h | ⟨b, R', h, _, h2⟩
    · exact Or.inl h
    · omega
    · omega
    · exact Or.inr ⟨b, R', h, h2⟩

/-- The first k tokens, read again: their places may be others. -/
def Same (ts : List Tok) (k : Nat) (ts' : List Tok) : Prop :=
  ts'.length = k ∧ ∀ q, q < k → (ts'.getD q noTok).kind = (ts.getD q noTok).kind ∧ (ts'.getD q noTok).text = (ts.getD q noTok).text ∧ (ts'.getD q noTok).n = (ts.getD q noTok).n

theorem getD_left {ts us : List Tok} {q : Nat} (h : q < ts.length) : (ts ++ us).getD q noTok = ts.getD q noTok := by simp [List.getD, List.getElem?_append_left h]
theorem getD_last {ts : List Tok} {t : Tok} {q : Nat} (h : q = ts.length) : (ts ++ [t]).getD q noTok = t := by subst h; simp [List.getD]

theorem same_next {ts ts' : List Tok} {k : Nat} (h : Same ts k ts') (pl : Int) : Same ts (k + 1) (ts' ++ [⟨(ts.getD k noTok).kind, (ts.getD k noTok).text, (ts.getD k noTok).n, pl⟩]) := by
  refine ⟨by rw [List.length_append, h.1]; rfl, fun q hq => ?_⟩
  by_cases hk : q < k
  · rw [getD_left (by rw [h.1]; exact hk)]
    exact h.2 q hk
  · obtain rfl : q = k := by omega
    rw [getD_last h.1.symm]
    exact ⟨rfl, rfl, rfl⟩

theorem relex (ts : List Tok) (hv : ∀ k, k < ts.length → VT (ts.getD k noTok)) : ∀ k, k ≤ ts.length → ∀ R, (k = 0 ∨ Closed (kindOf ts (k - 1)) R) →
    ∃ m ts', Reach (bsL (ulx ts k ++ R)) m (ulx ts k).length ts' ∧ Same ts k ts'
  | 0, _, R, _ => ⟨0, [], ⟨rfl, rfl⟩, rfl, fun q hq => by omega⟩
  | k + 1, hk, R, hR => by
    have hR' : Closed (kindOf ts k) R := by
      rcases hR with h | h
      · omega
      · exact h
    have ht := hv k (by omega)
    have e : ulx ts (k + 1) ++ R = ulx ts k ++ (gap ts k ++ (textOf ts k).data.toList ++ R) := by simp [ulx, List.append_assoc]
    have hc : k = 0 ∨ Closed (kindOf ts (k - 1)) (gap ts k ++ (textOf ts k).data.toList ++ R) := by
      by_cases h0 : k = 0
      · exact Or.inl h0
      · right
        by_cases h1 : kindOf ts (k - 1) = 1
        · exact Or.inr (Or.inl h1)
        · by_cases h2 : kindOf ts k = 2
          · have hX : textOf ts k = byteS 41 := by
              rcases ht with ⟨h, _⟩ | ⟨_, h, _⟩ | ⟨h, _⟩ | ⟨h, _⟩
              · unfold kindOf at h2; omega
              · exact h
              · unfold kindOf at h2; omega
              · unfold kindOf at h2; omega
            have hg : gap ts k = [] := by unfold gap; rw [if_neg (fun h => h.2.2 h2)]
            rw [hX, hg]
            exact Or.inr (Or.inr (Or.inr ⟨41, R, rfl, by decide, by decide⟩))
          · have hg : gap ts k = [32] := by unfold gap; rw [if_pos ⟨by omega, h1, h2⟩]
            rw [hg]
            exact Or.inr (Or.inr (Or.inr ⟨32, (textOf ts k).data.toList ++ R, rfl, by decide, by decide⟩))
    obtain ⟨m, ts', hr, hs⟩ := relex ts hv k (by omega) _ hc
    rw [← e] at hr
    -- the blank
    have hb : ∃ m', Reach (bsL (ulx ts (k + 1) ++ R)) m' (ulx ts k ++ gap ts k).length ts' := by
      by_cases hg : gap ts k = []
      · exact ⟨m, by rw [hg, List.append_nil]; exact hr⟩
      · have hg' : gap ts k = [32] := by
          unfold gap at hg ⊢
          split
          · rfl
          · rename_i h; rw [if_neg h] at hg; exact absurd rfl hg
        refine ⟨m + 1, ?_⟩
        have hst : Step (bsL (ulx ts (k + 1) ++ R)) (ulx ts k).length ((ulx ts k).length + 1) [] := by
          have hbb : bAt (bsL (ulx ts (k + 1) ++ R)) (ulx ts k).length = 32 := by
            have := bAt_end (ulx ts k) [] 32 ((textOf ts k).data.toList ++ R)
            rw [e, hg']
            simpa using this
          refine ⟨?_, Or.inl ⟨Or.inl hbb, rfl, rfl⟩⟩
          rw [bsL_size, e, hg']
          simp
        have h2 : Reach (bsL (ulx ts (k + 1) ++ R)) (m + 1) ((ulx ts k).length + 1) (ts' ++ []) := ⟨_, _, _, hr, hst, rfl⟩
        rw [List.append_nil] at h2
        rw [hg', List.length_append]
        exact h2
    obtain ⟨m', hr'⟩ := hb
    have e2 : ulx ts (k + 1) ++ R = (ulx ts k ++ gap ts k) ++ (ts.getD k noTok).text.data.toList ++ R := by simp [ulx, textOf, List.append_assoc]
    have hst := tok_step (ulx ts k ++ gap ts k) R (ts.getD k noTok) ht hR'
    rw [← e2] at hst
    have e3 : (ulx ts (k + 1)).length = (ulx ts k ++ gap ts k).length + (ts.getD k noTok).text.size := by
      simp only [ulx, List.length_append, textOf, len_data]
    rw [e3]
    exact ⟨m' + 1, _, ⟨_, _, _, hr', hst, rfl⟩, same_next hs _⟩

/-- Where the first k tokens end. -/
def endOf (ts : List Tok) : Nat → Int
  | 0 => 0
  | k + 1 => (ts.getD k noTok).place + (ts.getD k noTok).text.size

/-- The token stands in the text where it says. -/
def Sits (s : ByteArray) (t : Tok) : Prop := ∃ p : Nat, t.place = p ∧ p + t.text.size ≤ s.size ∧ s.extract p (p + t.text.size) = t.text

theorem extract_one (s : ByteArray) (i : Nat) (hi : i < s.size) (b : UInt8) (hb : bAt s i = b.toNat) : s.extract i (i + 1) = byteS b := by
  apply ByteArray.ext_getElem
  · have h1 : (byteS b).size = 1 := rfl
    rw [h1, ByteArray.size_extract]; omega
  · intro j h1 h2
    have hj : j = 0 := by
      have : (byteS b).size = 1 := rfl
      omega
    subst hj
    rw [ByteArray.getElem_extract]
    rw [bAt_in hi] at hb
    exact UInt8.toNat_inj.1 hb

theorem step_tok {s : ByteArray} {i j : Nat} {ts : List Tok} (h : Step s i j ts) : ts = [] ∨ ∃ t, ts = [t] ∧ VT t ∧ t.place = i ∧ i + t.text.size = j ∧ s.extract i j = t.text := by
  have hlt := step_lt h
  have hle := step_le h
  obtain ⟨hi, h⟩ := h
  have hsz : (s.extract i j).size = j - i := by rw [ByteArray.size_extract]; omega
  have hat : ∀ q, q < j - i → bAt (s.extract i j) q = bAt s (i + q) := fun q hq => bAt_extract s i j q hle (by omega)
  rcases h with ⟨_, rfl, rfl⟩ | ⟨_, _, rfl⟩ | ⟨hb, rfl, rfl⟩ | ⟨hb, rfl, rfl⟩ | ⟨hb, hr, h8, rfl⟩ | ⟨hb, hr, n, hn, hm, rfl⟩
  · exact Or.inl rfl
  · exact Or.inl rfl
  · exact Or.inr ⟨_, rfl, Or.inl ⟨rfl, rfl, rfl⟩, rfl, by simp [ByteArray.size], extract_one s i hi 40 hb⟩
  · exact Or.inr ⟨_, rfl, Or.inr (Or.inl ⟨rfl, rfl, rfl⟩), rfl, by simp [ByteArray.size], extract_one s i hi 41 hb⟩
  · refine Or.inr ⟨_, rfl, Or.inr (Or.inr (Or.inl ⟨rfl, by simp only; omega, by simp only; omega, fun q hq => ?_, rfl⟩)), rfl, by simp only; omega, rfl⟩
    simp only at hq ⊢
    rw [hat q (by omega)]
    exact hr.2.2.1 _ (by omega) (by omega)
  · refine Or.inr ⟨_, rfl, Or.inr (Or.inr (Or.inr ⟨rfl, by simp only; omega, fun q hq => ?_, hn, hm⟩)), rfl, by simp only; omega, rfl⟩
    simp only at hq ⊢
    rw [hat q (by omega)]
    exact hr.2.2.1 _ (by omega) (by omega)

theorem lens_left (ts : List Tok) (t : Tok) : ∀ k, k ≤ ts.length → lens (ts ++ [t]) k = lens ts k
  | 0, _ => rfl
  | k + 1, h => by
    simp only [lens, textOf]
    rw [lens_left ts t k (by omega), getD_left (by omega)]

theorem endOf_left (ts : List Tok) (t : Tok) (k : Nat) (h : k ≤ ts.length) : endOf (ts ++ [t]) k = endOf ts k := by
  cases k with
  | zero => rfl
  | succ k => simp only [endOf]; rw [getD_left (by omega)]

/-- Tokens that were read so far: each is one, stands where it says, behind the one ahead of it. -/
structure Good (s : ByteArray) (i : Nat) (ts : List Tok) : Prop where
  each : ∀ k, k < ts.length → VT (ts.getD k noTok) ∧ Sits s (ts.getD k noTok) ∧ endOf ts k ≤ (ts.getD k noTok).place
  last : endOf ts ts.length ≤ i
  all : lens ts ts.length ≤ i

theorem reach_good {s : ByteArray} : ∀ {m i : Nat} {ts : List Tok}, Reach s m i ts → Good s i ts
  | 0, i, ts, h => by
    obtain ⟨rfl, rfl⟩ := h
    exact ⟨fun k hk => by simp at hk, by simp [endOf], by simp [lens]⟩
  | m + 1, i, ts, h => by
    obtain ⟨i', ts', us, hr, hs, rfl⟩ := h
    have ih := reach_good hr
    have hlt := step_lt hs
    have hle := step_le hs
    rcases step_tok hs with rfl | ⟨t, rfl, hv, hp, hz, hx⟩
    · rw [List.append_nil]
      exact ⟨ih.each, by have := ih.last; omega, by have := ih.all; omega⟩
    · refine ⟨fun k hk => ?_, ?_, ?_⟩
      · have hk' : k ≤ ts'.length := by simp at hk; omega
        rw [endOf_left _ _ _ hk']
        by_cases h : k < ts'.length
        · rw [getD_left h]
          exact ih.each k h
        · obtain rfl : k = ts'.length := by omega
          rw [getD_last rfl]
          refine ⟨hv, ⟨i', hp, by omega, by rw [hz]; exact hx⟩, by rw [hp]; exact ih.last⟩
      · rw [List.length_append]
        show endOf (ts' ++ [t]) (ts'.length + 1) ≤ _
        simp only [endOf]
        rw [getD_last rfl]
        omega
      · rw [List.length_append]
        show lens (ts' ++ [t]) (ts'.length + 1) ≤ _
        simp only [lens, textOf]
        rw [lens_left _ _ _ (Nat.le_refl _), getD_last rfl]
        have := ih.all
        omega

theorem fin_all {s : ByteArray} {ts : List Tok} (hs : s.size ≤ 4000) (h : Lexes s ts (-1)) : ∃ m i, Reach s m i ts ∧ s.size ≤ i := by
  rcases h with ⟨h, _⟩ | ⟨_, m, i, out, hr, hf⟩
  · omega
  · rcases hf with ⟨h1, rfl, _⟩ | ⟨_, _, h⟩
    · exact ⟨m, i, hr, h1⟩
    · omega

/-- Read, put together, and read again. -/
theorem relexes {s : ByteArray} {ts : List Tok} (hs : s.size ≤ 1000) (h : Lexes s ts (-1)) :
    Good s s.size ts ∧ ts.length ≤ 1000 ∧ lens ts ts.length ≤ 1000 ∧ (ulxS ts).size ≤ 4000 ∧ ∃ ts', Lexes (ulxS ts) ts' (-1) ∧ Same ts ts.length ts' := by
  obtain ⟨m, i, hr, hi⟩ := fin_all (by omega) h
  have hle := reach_le hr
  obtain rfl : i = s.size := by omega
  have hg := reach_good hr
  have hlen : ts.length ≤ s.size := by
    have : ∀ k, k ≤ ts.length → k ≤ lens ts k := by
      intro k
      induction k with
      | zero => intro _; omega
      | succ k ih =>
        intro hk
        have h1 := ih (by omega)
        have hv := (hg.each k (by omega)).1
        have hx : 1 ≤ (textOf ts k).size := by
          unfold textOf
          rcases hv with ⟨_, h, _⟩ | ⟨_, h, _⟩ | ⟨_, h, _⟩ | ⟨_, h, _⟩
          · rw [h]; simp [ByteArray.size]
          · rw [h]; simp [ByteArray.size]
          · exact h
          · exact h
        simp only [lens]
        omega
    have h1 := this ts.length (Nat.le_refl _)
    have h2 := hg.all
    omega
  have hall := hg.all
  have hmin : min ts.length 4000 = ts.length := by omega
  have hu := ulx_length ts ts.length
  have hsz : (ulxS ts).size = (ulx ts ts.length).length := by unfold ulxS; rw [hmin]; exact bsL_size _
  refine ⟨hg, by omega, by omega, by omega, ?_⟩
  obtain ⟨m', ts', hr', hsame⟩ := relex ts (fun k hk => (hg.each k hk).1) ts.length (Nat.le_refl _) [] (Or.inr (Or.inl rfl))
  rw [List.append_nil] at hr'
  have e : ulxS ts = bsL (ulx ts ts.length) := by unfold ulxS bsL; rw [hmin]
  refine ⟨ts', Or.inr ⟨by omega, m', (ulx ts ts.length).length, ts', ?_, Or.inl ⟨by omega, rfl, rfl⟩⟩, hsame⟩
  rw [e]
  exact hr'
end Go.Proofs.YthnhnhajgfllfacDoor
