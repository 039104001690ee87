/-
  Nodes that lie as they should, plain: where parts begin, kid by kid. Conditions: written at each theorem.
-/
import Derived.Test.YtjjanmccijghgaaNi
namespace Go.Proofs.Ytjjanmccijghgaa
open Go.ChangeShapes Go.WideShapes Go.ChangeAt Go.RowKit
set_option linter.unusedVariables false

theorem down_app (st : List Int) (a : Int) (hr : ∀ j, j < st.length → 0 ≤ st.getD j 0 ∧ st.getD j 0 ≤ j) : ∀ (cs : List Int) (p : Int), p ≤ st.length → down (st ++ [a]) cs p = down st cs p
  | [], p, h => rfl
  | c :: cs, p, h => by
    simp only [down]
    by_cases hc : c = p - 1 ∧ 0 ≤ c
    · have hl : c.toNat < st.length := by omega
      have e : (st ++ [a]).getD c.toNat 0 = st.getD c.toNat 0 := by
        simp only [List.getD]
        rw [List.getElem?_append_left hl]
      have hh := hr c.toNat hl
      rw [if_pos hc, if_pos hc, e]
      exact down_app st a hr cs _ (by omega)
    · rw [if_neg hc, if_neg hc]

theorem starts_at (ts : List Nod) : ∀ (k : Nat) (st : List Int), startsF ts k = some st → ∀ j, j < k → fieldsB (ts.getD j noNod) = true ∧ down st (kidL (ts.getD j noNod)).reverse j = some (st.getD j 0)
  | 0, st, h, j, hj => by omega
  | k + 1, st, h, j, hj => by
    simp only [startsF] at h
    obtain ⟨s0, h0, h1⟩ := Option.bind_eq_some_iff.1 h
    obtain ⟨a, ha, rfl⟩ := Option.map_eq_some_iff.1 h1
    obtain ⟨hl, hr⟩ := startsF_range ts k s0 h0
    have hr' : ∀ j, j < s0.length → 0 ≤ s0.getD j 0 ∧ s0.getD j 0 ≤ j := fun j hj => hr j (by omega)
    by_cases hjk : j < k
    · obtain ⟨hf, hd⟩ := starts_at ts k s0 h0 j hjk
      refine ⟨hf, ?_⟩
      have e : (s0 ++ [a]).getD j 0 = s0.getD j 0 := by
        simp only [List.getD]
        rw [List.getElem?_append_left (by omega)]
      rw [down_app s0 a hr' _ _ (by omega), e]
      exact hd
    · obtain rfl : j = k := by omega
      unfold stepS at ha
      split at ha
      · rename_i hf
        refine ⟨hf, ?_⟩
        have e : (s0 ++ [a]).getD j 0 = a := by subst hl; simp [List.getD]
        rw [down_app s0 a hr' _ _ (by omega), e]
        exact ha
      · cases ha

theorem fields_small {t : Nod} (h : fieldsB t = true) : t.name.size ≤ 8 ∧ t.other.size ≤ 8 := by
  have hf : FieldsOk t := of_decide_eq_true h
  obtain ⟨_, _, ⟨h1, h2, h3, h4⟩, _⟩ := hf
  have hw : ∀ s : ByteArray, isNameB s = true → s.size ≤ 8 := fun s hs => by
    have := (Bool.and_eq_true_iff.1 hs).1
    have := of_decide_eq_true this
    exact this.2.1
  constructor
  · by_cases hz : nmN t.kind = 0
    · have := h1 hz; omega
    · exact hw _ (h2 (by omega))
  · by_cases hz : nmN t.kind ≤ 1
    · have := h3 hz; omega
    · exact hw _ (h4 (by omega))

theorem cut_split (ts : List Nod) (s p e : Nat) (h1 : s ≤ p) (h2 : p ≤ e) (h3 : e ≤ ts.length) : (ts.take e).drop s = (ts.take p).drop s ++ (ts.take e).drop p := by
  have e1 : ts.take e = ts.take p ++ (ts.take e).drop p := by
    have h := (List.take_append_drop p (ts.take e)).symm
    rw [List.take_take, Nat.min_eq_left h2] at h
    exact h
  have hl : (ts.take p).length = p := by simp; omega
  conv => lhs; rw [e1]
  rw [List.drop_append_of_le_length (by omega)]

theorem cut_one (ts : List Nod) (j : Nat) (h : j < ts.length) : (ts.take (j + 1)).drop j = [ts.getD j noNod] := by
  rw [List.take_succ_eq_append_getElem h, List.drop_append_of_le_length (by simp; omega)]
  simp [List.getD, List.getElem?_eq_getElem h]

theorem cut_length (ts : List Nod) (s e : Nat) (h1 : s ≤ e) (h3 : e ≤ ts.length) : ((ts.take e).drop s).length = e - s := by
  simp
  omega

theorem kidL_0 {t : Nod} (h : arN t.kind = 0) : kidL t = [] := by unfold kidL; rw [h]; rfl
theorem kidL_1 {t : Nod} (h : arN t.kind = 1) : kidL t = [t.a] := by unfold kidL; rw [h]; rfl
theorem kidL_2 {t : Nod} (h : arN t.kind = 2) : kidL t = [t.a, t.b] := by unfold kidL; rw [h]; rfl
theorem kidL_3 {t : Nod} (h : arN t.kind = 3) : kidL t = [t.a, t.b, t.c] := by unfold kidL; rw [h]; rfl

theorem down_one {st : List Int} {c p r : Int} {cs : List Int} (h : down st (c :: cs) p = some r) : c = p - 1 ∧ 0 ≤ c ∧ down st cs (st.getD c.toNat 0) = some r := by
  simp only [down] at h
  split at h
  · rename_i hc
    exact ⟨hc.1, hc.2, h⟩
  · cases h

theorem down_nil {st : List Int} {p r : Int} (h : down st [] p = some r) : p = r := by
  simpa only [down, Option.some.injEq] using h

/-- Nodes that lie as they should, with where their parts begin. -/
def Right (ts : List Nod) (st : List Nat) : Prop := ts.length ≤ 1000 ∧ ∀ j, j < ts.length → FieldsOk (ts.getD j noNod) ∧ st.getD j 0 ≤ j ∧
  (arN (ts.getD j noNod).kind = 0 → st.getD j 0 = j) ∧
  (arN (ts.getD j noNod).kind = 1 → ∃ a : Nat, (ts.getD j noNod).a = a ∧ a + 1 = j ∧ st.getD a 0 = st.getD j 0) ∧
  (arN (ts.getD j noNod).kind = 2 → ∃ a b : Nat, (ts.getD j noNod).a = a ∧ (ts.getD j noNod).b = b ∧ b + 1 = j ∧ a + 1 = st.getD b 0 ∧ st.getD a 0 = st.getD j 0) ∧
  (arN (ts.getD j noNod).kind = 3 → ∃ a b c : Nat, (ts.getD j noNod).a = a ∧ (ts.getD j noNod).b = b ∧ (ts.getD j noNod).c = c ∧ c + 1 = j ∧ b + 1 = st.getD c 0 ∧ a + 1 = st.getD b 0 ∧ st.getD a 0 = st.getD j 0)

theorem getD_nat (st : List Int) (j : Nat) : (st.map Int.toNat).getD j 0 = (st.getD j 0).toNat := by
  simp only [List.getD, List.getElem?_map]
  cases st[j]? <;> rfl

theorem right_of {ts : List Nod} {st : List Int} (hl : ts.length ≤ 1000) (h : startsF ts ts.length = some st) : Right ts (st.map Int.toNat) := by
  obtain ⟨hlen, hr⟩ := startsF_range ts ts.length st h
  refine ⟨hl, fun j hj => ?_⟩
  obtain ⟨hf, hd⟩ := starts_at ts ts.length st h j hj
  have hF : FieldsOk (ts.getD j noNod) := of_decide_eq_true hf
  have hj2 := hr j hj
  simp only [getD_nat]
  refine ⟨hF, by omega, fun e => ?_, fun e => ?_, fun e => ?_, fun e => ?_⟩
  · rw [kidL_0 e] at hd
    have := down_nil hd
    omega
  · rw [kidL_1 e] at hd
    obtain ⟨a1, a2, a3⟩ := down_one hd
    have := down_nil a3
    refine ⟨(ts.getD j noNod).a.toNat, by omega, by omega, ?_⟩
    rw [this]
  · rw [kidL_2 e] at hd
    obtain ⟨a1, a2, a3⟩ := down_one hd
    obtain ⟨b1, b2, b3⟩ := down_one a3
    have := down_nil b3
    have := hr (ts.getD j noNod).b.toNat (by omega)
    refine ⟨(ts.getD j noNod).a.toNat, (ts.getD j noNod).b.toNat, by omega, by omega, by omega, by omega, ?_⟩
    omega
  · rw [kidL_3 e] at hd
    obtain ⟨a1, a2, a3⟩ := down_one hd
    obtain ⟨b1, b2, b3⟩ := down_one a3
    obtain ⟨c1, c2, c3⟩ := down_one b3
    have := down_nil c3
    have := hr (ts.getD j noNod).c.toNat (by omega)
    have := hr (ts.getD j noNod).b.toNat (by omega)
    refine ⟨(ts.getD j noNod).a.toNat, (ts.getD j noNod).b.toNat, (ts.getD j noNod).c.toNat, by omega, by omega, by omega, by omega, by omega, by omega, ?_⟩
    omega
end Go.Proofs.Ytjjanmccijghgaa
