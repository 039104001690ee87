/-
  The part of a node of right nodes is right, and its text is the node's, plain. Conditions: written at each theorem.
-/
import Derived.Test.YtlfgnppacjdjkaaDoorTp
import Derived.Test.YtlfgnppacjdjkaaDoorPt
namespace Go.Proofs.YtlfgnppacjdjkaaDoor
open Go.ChangeShapes Go.WideShapes Go.ChangeAt Go.RowKit
set_option linter.unusedVariables false

/-- Parts lie within each other or apart. -/
theorem nest {ts : List Nod} {st : List Nat} (hR : Right ts st) : ∀ (b j : Nat), j < b → j < ts.length → ∀ q, st.getD j 0 ≤ q → q ≤ j → st.getD j 0 ≤ st.getD q 0
  | 0, j, hb, _, _, _, _ => by omega
  | b + 1, j, hb, hj, q, h1, h2 => by
    obtain ⟨hF, hs, k0, k1, k2, k3⟩ := hR.2 j hj
    by_cases hq : q = j
    · subst hq; omega
    have h3le := arN_le (ts.getD j noNod).kind
    have : arN (ts.getD j noNod).kind = 0 ∨ arN (ts.getD j noNod).kind = 1 ∨ arN (ts.getD j noNod).kind = 2 ∨ arN (ts.getD j noNod).kind = 3 := by omega
    rcases this with e | e | e | e
    · have := k0 e
      omega
    · obtain ⟨a, ea, ha, hsa⟩ := k1 e
      have := nest hR b a (by omega) (by omega) q (by omega) (by omega)
      omega
    · obtain ⟨a, c, ea, ec, hc, hac, hsa⟩ := k2 e
      have hsc' := (hR.2 c (by omega)).2.1
      have hsa' := (hR.2 a (by omega)).2.1
      by_cases hqc : st.getD c 0 ≤ q
      · have := nest hR b c (by omega) (by omega) q hqc (by omega)
        omega
      · have := nest hR b a (by omega) (by omega) q (by omega) (by omega)
        omega
    · obtain ⟨a, c, d, ea, ec, ed, hd, hcd, hac, hsa⟩ := k3 e
      have hsd' := (hR.2 d (by omega)).2.1
      have hsc' := (hR.2 c (by omega)).2.1
      have hsa' := (hR.2 a (by omega)).2.1
      by_cases hqd : st.getD d 0 ≤ q
      · have := nest hR b d (by omega) (by omega) q hqd (by omega)
        omega
      · by_cases hqc : st.getD c 0 ≤ q
        · have := nest hR b c (by omega) (by omega) q hqc (by omega)
          omega
        · have := nest hR b a (by omega) (by omega) q (by omega) (by omega)
          omega

theorem down_le {st : List Int} (hr : ∀ j : Nat, j < st.length → 0 ≤ st.getD j 0 ∧ st.getD j 0 ≤ j) : ∀ (cs : List Int) (p r : Int), p ≤ st.length → down st cs p = some r → r ≤ p
  | [], p, r, _, h => by have := down_nil h; omega
  | c :: cs, p, r, hp, h => by
    obtain ⟨h1, h2, h3⟩ := down_one h
    have hc := hr c.toNat (by omega)
    have := down_le hr cs _ r (by omega) h3
    omega

/-- Shifted, the kids lie as they did. -/
theorem down_shift {st st' : List Int} {s k : Nat} (hr : ∀ j : Nat, j < st.length → 0 ≤ st.getD j 0 ∧ st.getD j 0 ≤ j) (hk : s + k ≤ st.length) (hs' : ∀ q, q < k → st'.getD q 0 = st.getD (s + q) 0 - s) :
    ∀ (cs : List Int) (p r : Int), p ≤ s + k → (s : Int) ≤ r → down st cs p = some r → down st' (cs.map (· - (s : Int))) (p - s) = some (r - s)
  | [], p, r, _, _, h => by
    have := down_nil h
    rw [List.map_nil]
    unfold down
    rw [this]
  | c :: cs, p, r, hp, hsr, h => by
    obtain ⟨h1, h2, h3⟩ := down_one h
    have hc := hr c.toNat (by omega)
    have hle := down_le hr cs _ r (by omega) h3
    have ih := down_shift hr hk hs' cs _ r (by omega) hsr h3
    rw [List.map_cons]
    unfold down
    rw [if_pos ⟨by omega, by omega⟩]
    have e : (c - (s : Int)).toNat = c.toNat - s := by omega
    have e2 := hs' (c.toNat - s) (by omega)
    have e3 : s + (c.toNat - s) = c.toNat := by omega
    rw [e3] at e2
    rw [e, e2]
    exact ih

/-- What a node is when its kids' numbers are so much less. -/
theorem shift_fields {t : Nod} {d : Int} (h : FieldsOk t) : FieldsOk (shiftN d t) := by
  obtain ⟨h1, ⟨k1, k2, k3⟩, h3, h4⟩ := h
  refine ⟨h1, ⟨fun e => ?_, fun e => ?_, fun e => ?_⟩, h3, h4⟩
  · have e' : arN t.kind < 1 := e
    show (if 0 < arN t.kind then wrap64 (t.a + d) else t.a) = 0
    rw [if_neg (by omega)]
    exact k1 e'
  · have e' : arN t.kind < 2 := e
    show (if 1 < arN t.kind then wrap64 (t.b + d) else t.b) = 0
    rw [if_neg (by omega)]
    exact k2 e'
  · have e' : arN t.kind < 3 := e
    show (if 2 < arN t.kind then wrap64 (t.c + d) else t.c) = 0
    rw [if_neg (by omega)]
    exact k3 e'

theorem wrap_small {x : Int} (h1 : -1000000 ≤ x) (h2 : x ≤ 1000000) : wrap64 x = x := by
  unfold wrap64
  omega

theorem shift_kid {t : Nod} {s : Nat} (hs : s ≤ 1000) {j : Nat} (hj : j < arN t.kind) {q : Nat} (hq : [t.a, t.b, t.c].getD j 0 = q) (hq2 : q ≤ 1000) : [(shiftN (0 - (s : Int)) t).a, (shiftN (0 - (s : Int)) t).b, (shiftN (0 - (s : Int)) t).c].getD j 0 = (q : Int) - s := by
  have h3 := arN_le t.kind
  have : j = 0 ∨ j = 1 ∨ j = 2 := by omega
  rcases this with rfl | rfl | rfl
  · have hq' : t.a = q := hq
    show (if 0 < arN t.kind then wrap64 (t.a + (0 - (s : Int))) else t.a) = _
    rw [if_pos hj, hq', wrap_small (by omega) (by omega)]
    omega
  · have hq' : t.b = q := hq
    show (if 1 < arN t.kind then wrap64 (t.b + (0 - (s : Int))) else t.b) = _
    rw [if_pos hj, hq', wrap_small (by omega) (by omega)]
    omega
  · have hq' : t.c = q := hq
    show (if 2 < arN t.kind then wrap64 (t.c + (0 - (s : Int))) else t.c) = _
    rw [if_pos hj, hq', wrap_small (by omega) (by omega)]
    omega

theorem shift_kidL {t : Nod} {s : Nat} (hs : s ≤ 1000) (h : ∀ j, j < arN t.kind → ∃ q : Nat, [t.a, t.b, t.c].getD j 0 = q ∧ q ≤ 1000) : kidL (shiftN (0 - (s : Int)) t) = (kidL t).map (· - (s : Int)) := by
  have h3 := arN_le t.kind
  have hk : arN (shiftN (0 - (s : Int)) t).kind = arN t.kind := rfl
  have : arN t.kind = 0 ∨ arN t.kind = 1 ∨ arN t.kind = 2 ∨ arN t.kind = 3 := by omega
  rcases this with e | e | e | e
  · rw [kidL_0 e, kidL_0 (hk.trans e)]; rfl
  · obtain ⟨q0, a0, b0⟩ := h 0 (by omega)
    have e0 : (shiftN (0 - (s : Int)) t).a = (q0 : Int) - s := shift_kid hs (j := 0) (by omega) a0 b0
    have a0' : t.a = q0 := a0
    rw [kidL_1 e, kidL_1 (hk.trans e), e0, a0']; rfl
  · obtain ⟨q0, a0, b0⟩ := h 0 (by omega)
    obtain ⟨q1, a1, b1⟩ := h 1 (by omega)
    have e0 : (shiftN (0 - (s : Int)) t).a = (q0 : Int) - s := shift_kid hs (j := 0) (by omega) a0 b0
    have e1 : (shiftN (0 - (s : Int)) t).b = (q1 : Int) - s := shift_kid hs (j := 1) (by omega) a1 b1
    have a0' : t.a = q0 := a0
    have a1' : t.b = q1 := a1
    rw [kidL_2 e, kidL_2 (hk.trans e), e0, e1, a0', a1']; rfl
  · obtain ⟨q0, a0, b0⟩ := h 0 (by omega)
    obtain ⟨q1, a1, b1⟩ := h 1 (by omega)
    obtain ⟨q2, a2, b2⟩ := h 2 (by omega)
    have e0 : (shiftN (0 - (s : Int)) t).a = (q0 : Int) - s := shift_kid hs (j := 0) (by omega) a0 b0
    have e1 : (shiftN (0 - (s : Int)) t).b = (q1 : Int) - s := shift_kid hs (j := 1) (by omega) a1 b1
    have e2 : (shiftN (0 - (s : Int)) t).c = (q2 : Int) - s := shift_kid hs (j := 2) (by omega) a2 b2
    have a0' : t.a = q0 := a0
    have a1' : t.b = q1 := a1
    have a2' : t.c = q2 := a2
    rw [kidL_3 e, kidL_3 (hk.trans e), e0, e1, e2, a0', a1', a2']; rfl

theorem range_getD {k q : Nat} (f : Nat → Int) (h : q < k) : ((List.range k).map f).getD q 0 = f q := by simp [List.getD, List.getElem?_range h]

theorem cut_getD {ts : List Nod} {s e q : Nat} (f : Nod → Nod) (h : s + q < e) (he : e ≤ ts.length) : (((ts.take e).drop s).map f).getD q noNod = f (ts.getD (s + q) noNod) := by
  simp only [List.getD, List.getElem?_map]
  rw [List.getElem?_drop, List.getElem?_take_of_lt h, List.getElem?_eq_getElem (by omega)]
  rfl

/-- Where a node of the part stands among all. -/
theorem part_node {ts : List Nod} {st : List Int} {j q : Nat} (hj : j < ts.length) (hr : 0 ≤ st.getD j 0 ∧ st.getD j 0 ≤ j) (hq : q < j + 1 - (st.getD j 0).toNat) :
    (partAt ts st j 0).getD q noNod = shiftN (0 - ((st.getD j 0).toNat : Int)) (ts.getD ((st.getD j 0).toNat + q) noNod) := by
  have e0 : ((0 : Nat) : Int) - st.getD j 0 = 0 - ((st.getD j 0).toNat : Int) := by omega
  unfold partAt
  rw [e0]
  generalize (st.getD j 0).toNat = s at *
  exact cut_getD _ (by omega) (by omega)

theorem part_starts {ts : List Nod} {st : List Int} (hl : ts.length ≤ 1000) (h : startsF ts ts.length = some st) {j : Nat} (hj : j < ts.length) :
    ∀ k, k ≤ j + 1 - (st.getD j 0).toNat → startsF (partAt ts st j 0) k = some ((List.range k).map fun q => st.getD ((st.getD j 0).toNat + q) 0 - ((st.getD j 0).toNat : Int))
  | 0, _ => rfl
  | k + 1, hk => by
    have hR := right_of hl h
    obtain ⟨hlen, hr⟩ := startsF_range ts ts.length st h
    have hrj := hr j hj
    have ih := part_starts hl h hj k (by omega)
    obtain ⟨s, hs⟩ : ∃ s, (st.getD j 0).toNat = s := ⟨_, rfl⟩
    have hnode := part_node (q := k) hj hrj (by omega)
    rw [hs] at hnode ih hk ⊢
    have hi : s + k < ts.length := by omega
    obtain ⟨hf, hd⟩ := starts_at ts ts.length st h (s + k) hi
    have hF : FieldsOk (ts.getD (s + k) noNod) := of_decide_eq_true hf
    have hkid : ∀ m, m < arN (ts.getD (s + k) noNod).kind → ∃ q : Nat, [(ts.getD (s + k) noNod).a, (ts.getD (s + k) noNod).b, (ts.getD (s + k) noNod).c].getD m 0 = q ∧ q ≤ 1000 := fun m hm => by
      obtain ⟨q, h1, h2, _⟩ := kid_ahead hR hi hm
      exact ⟨q, h1, by omega⟩
    have hnest := nest hR (j + 1) j (by omega) hj (s + k) (by rw [getD_nat]; omega) (by omega)
    rw [getD_nat, getD_nat, hs] at hnest
    have hrk := hr (s + k) hi
    simp only [startsF]
    rw [ih, Option.bind_some, hnode]
    unfold stepS
    rw [if_pos (show fieldsB _ = true from decide_eq_true (shift_fields hF)), shift_kidL (by omega) hkid, ← List.map_reverse]
    have := down_shift (st := st) (st' := (List.range k).map fun q => st.getD (s + q) 0 - (s : Int)) (s := s) (k := k) (fun q hq => hr q (by omega)) (by omega) (fun q hq => range_getD _ hq) _ _ _ (by omega) (by omega) hd
    have e : ((s + k : Nat) : Int) - (s : Int) = (k : Int) := by omega
    rw [e] at this
    rw [this, List.range_succ, List.map_append]
    rfl

theorem part_right {ts : List Nod} {st : List Int} (hn : nodesB ts = true) (h : startsF ts ts.length = some st) {j : Nat} (hj : j < ts.length) : nodesB (partAt ts st j 0) = true := by
  obtain ⟨l1, l2, _⟩ := nodesB_starts hn
  obtain ⟨hlen, hr⟩ := startsF_range ts ts.length st h
  have hrj := hr j hj
  have hpl := partAt_length ts st j 0 hj hrj
  have hs := part_starts (by omega) h hj (partAt ts st j 0).length (by omega)
  unfold nodesB
  rw [hs, Bool.and_eq_true]
  refine ⟨decide_eq_true (by omega), ?_⟩
  simp only
  rw [range_getD _ (by omega), hpl]
  have e : (st.getD j 0).toNat + (j + 1 - (st.getD j 0).toNat - 1) = j := by omega
  rw [e, beq_iff_eq]
  omega

theorem argT_shift {r r' : Nat → List UInt8} : ∀ (cs : List UInt8) (ns : List ByteArray) (ks ks' : List Int), (∀ j, j < (cs.filter (· ≠ 110)).length → r (ks.getD j 0).toNat = r' (ks'.getD j 0).toNat) → argT r cs ns ks = argT r' cs ns ks'
  | [], ns, ks, ks', h => rfl
  | c :: cs, ns, ks, ks', h => by
    unfold argT
    by_cases hc : c = 110
    · rw [if_pos hc, if_pos hc, argT_shift cs ns.tail ks ks' (fun j hj => h j (by simpa [hc] using hj))]
    · have hl : ((c :: cs).filter (· ≠ 110)).length = (cs.filter (· ≠ 110)).length + 1 := by simp [hc]
      rw [if_neg hc, if_neg hc]
      have h0 := h 0 (by omega)
      rw [← headD_getD, ← headD_getD] at h0
      have h1 := argT_shift (r := r) (r' := r') cs ns ks.tail ks'.tail (fun j hj => by
        have := h (j + 1) (by omega)
        rw [getD_tail, getD_tail]
        exact this)
      rw [h0, h1]

/-- The part's text is the node's. -/
theorem part_text {ts : List Nod} {st : List Int} (hl : ts.length ≤ 1000) (h : startsF ts ts.length = some st) {j : Nat} (hj : j < ts.length) :
    ∀ (f q : Nat), q < f → q < j + 1 - (st.getD j 0).toNat → ∀ f', (st.getD j 0).toNat + q < f' → textN (partAt ts st j 0) f q = textN ts f' ((st.getD j 0).toNat + q)
  | 0, q, hq, _, _, _ => by omega
  | f + 1, q, hq, hqj, 0, hf' => by omega
  | f + 1, q, hq, hqj, f' + 1, hf' => by
    have hR := right_of hl h
    obtain ⟨hlen, hr⟩ := startsF_range ts ts.length st h
    have hrj := hr j hj
    have hnode := part_node hj hrj hqj
    have ih := part_text hl h hj f
    obtain ⟨s, hs⟩ : ∃ s, (st.getD j 0).toNat = s := ⟨_, rfl⟩
    rw [hs] at hnode hqj hf' ih ⊢
    have hi : s + q < ts.length := by omega
    have hF := (hR.2 (s + q) hi).1
    have hnest := nest hR (j + 1) j (by omega) hj (s + q) (by rw [getD_nat]; omega) (by omega)
    rw [getD_nat, getD_nat, hs] at hnest
    show nodeT (textN (partAt ts st j 0) f) ((partAt ts st j 0).getD q noNod) = nodeT (textN ts f') (ts.getD (s + q) noNod)
    rw [hnode]
    have hkid := fun {m : Nat} (hm : m < arN (ts.getD (s + q) noNod).kind) => kid_ahead hR hi hm
    generalize ts.getD (s + q) noNod = t at *
    unfold nodeT
    show (if t.kind = 1 then t.name.data.toList else if t.kind = 2 then Lib.itoa t.n else if t.kind = 12 then [110, 105, 108] else formT _ _) = _
    by_cases h1 : t.kind = 1
    · rw [if_pos h1, if_pos h1]
    by_cases h2 : t.kind = 2
    · rw [if_neg h1, if_neg h1, if_pos h2, if_pos h2]
    by_cases h12 : t.kind = 12
    · rw [if_neg h1, if_neg h1, if_neg h2, if_neg h2, if_pos h12, if_pos h12]
    rw [if_neg h1, if_neg h1, if_neg h2, if_neg h2, if_neg h12, if_neg h12]
    have ha := asked_ar (fields_form hF h1 h2 h12)
    unfold asked at ha
    unfold formT
    have := argT_shift (r := textN (partAt ts st j 0) f) (r' := textN ts f') (goesOn t.kind) [t.name, t.other] [(shiftN (0 - (s : Int)) t).a, (shiftN (0 - (s : Int)) t).b, (shiftN (0 - (s : Int)) t).c] [t.a, t.b, t.c] (fun m hm => by
      obtain ⟨Q, k1, k2, k3⟩ := hkid (by omega : m < arN t.kind)
      have hQ := (hR.2 Q (by omega)).2.1
      rw [getD_nat, getD_nat] at k3
      rw [getD_nat] at hQ
      rw [shift_kid (by omega) (by omega) k1 (by omega), k1]
      have e1 : ((Q : Int) - (s : Int)).toNat = Q - s := by omega
      have e2 := ih (Q - s) (by omega) (by omega) f' (by omega)
      rw [show s + (Q - s) = Q by omega] at e2
      rw [e1, Int.toNat_natCast]
      exact e2)
    show [40] ++ (keyN t.kind t.n).data.toList ++ argT (textN (partAt ts st j 0) f) (goesOn t.kind) [t.name, t.other] _ ++ [41] = _
    rw [this]

/-- The text of a node's part, of right nodes; none of others. -/
def printPartB (ts : List Nod) (i : Int) : ByteArray := if nodesB ts = true ∧ 0 ≤ i ∧ i ≤ (ts.length : Int) - 1 then ⟨(textN ts ts.length i.toNat).toArray⟩ else ⟨#[]⟩

theorem print_part (ts : List Nod) (i : Int) : printB (partB ts i) = printPartB ts i := by
  unfold printPartB
  by_cases hc : nodesB ts = true ∧ 0 ≤ i ∧ i ≤ (ts.length : Int) - 1
  · rw [if_pos hc]
    obtain ⟨hn, h0, h1⟩ := hc
    obtain ⟨l1, l2, st, hs⟩ := nodesB_starts hn
    obtain ⟨m, rfl⟩ : ∃ m : Nat, i = m := ⟨i.toNat, by omega⟩
    have hm : m < ts.length := by omega
    have hr := (startsF_range ts _ st hs).2 m hm
    rw [partB_at hn hm hs]
    unfold printB
    rw [if_pos (part_right hn hs hm)]
    have hpl := partAt_length ts st m 0 hm hr
    have := part_text (by omega) hs hm (partAt ts st m 0).length ((partAt ts st m 0).length - 1) (by omega) (by omega) ts.length (by omega)
    rw [this]
    have e : (st.getD m 0).toNat + ((partAt ts st m 0).length - 1) = m := by omega
    rw [e, Int.toNat_natCast]
  · rw [if_neg hc]
    have hb : startB ts i = -1 := by
      unfold startB
      rw [if_neg hc]
    unfold partB
    rw [hb, if_pos (by omega)]
    rfl
end Go.Proofs.YtlfgnppacjdjkaaDoor
