/-
  The text of a program, plain: byte by byte as its nodes ask for it. Conditions: written at each theorem.
-/
import Derived.Test.YtlooccddflpmnaaDoorTv
import Derived.Test.YtlooccddflpmnaaDoorKn
import Derived.Test.YtlooccddflpmnaaDoorDm
namespace Go.Proofs.YtlooccddflpmnaaDoor
open Go.ChangeShapes Go.WideShapes Go.ChangeAt Go.RowKit
set_option linter.unusedVariables false

/-- The text behind a key: names and kids as the form asks for them, a blank ahead of each. -/
def argT (rec : Nat → List UInt8) : List UInt8 → List ByteArray → List Int → List UInt8
  | [], _, _ => []
  | c :: cs, ns, ks => if c = 110 then [32] ++ (ns.headD ByteArray.empty).data.toList ++ argT rec cs ns.tail ks else [32] ++ rec (ks.headD 0).toNat ++ argT rec cs ns ks.tail

def formT (rec : Nat → List UInt8) (t : Nod) : List UInt8 := [40] ++ (keyN t.kind t.n).data.toList ++ argT rec (goesOn t.kind) [t.name, t.other] [t.a, t.b, t.c] ++ [41]

def nodeT (rec : Nat → List UInt8) (t : Nod) : List UInt8 :=
  if t.kind = 1 then t.name.data.toList
  else if t.kind = 2 then Lib.itoa t.n
  else if t.kind = 12 then [110, 105, 108]
  else formT rec t

/-- The text of node i. -/
def textN (ts : List Nod) : Nat → Nat → List UInt8
  | 0, _ => []
  | f + 1, i => nodeT (textN ts f) (ts.getD i noNod)

theorem fields_form {t : Nod} (h : FieldsOk t) (h1 : t.kind ≠ 1) (h2 : t.kind ≠ 2) (h12 : t.kind ≠ 12) : IsForm t.kind t.n := by
  obtain ⟨⟨k1, k2⟩, _, _, hn⟩ := h
  refine ⟨by omega, by omega, h12, fun h8 => ?_⟩
  have := hn.2.1 h8
  omega

/-- The kids that a form asks for, in the order of their numbers. -/
def asked (k : Int) : Nat := ((goesOn k).filter (· ≠ 110)).length

theorem asked_ar {k n : Int} (h : IsForm k n) : asked k = arN k := by
  obtain ⟨h1, h2, h3, h4⟩ := h
  have : k = 3 ∨ k = 4 ∨ k = 5 ∨ k = 6 ∨ k = 7 ∨ k = 8 ∨ k = 9 ∨ k = 10 ∨ k = 11 ∨ k = 13 ∨ k = 14 ∨ k = 15 ∨ k = 16 ∨ k = 17 ∨ k = 18 ∨ k = 19 := by omega
  clear h1 h2 h3 h4
  rcases this with rfl | rfl | rfl | rfl | rfl | rfl | rfl | rfl | rfl | rfl | rfl | rfl | rfl | rfl | rfl | rfl <;> rfl

/-- Of right nodes each kid stands ahead. -/
theorem kid_ahead {ts : List Nod} {st : List Nat} (hR : Right ts st) {i : Nat} (hi : i < ts.length) {j : Nat} (hj : j < arN (ts.getD i noNod).kind) :
    ∃ q : Nat, [(ts.getD i noNod).a, (ts.getD i noNod).b, (ts.getD i noNod).c].getD j 0 = q ∧ q < i ∧ st.getD i 0 ≤ st.getD q 0 := by
  obtain ⟨_, hA⟩ := hR
  obtain ⟨hF, hs, h0, h1, h2, h3⟩ := hA i hi
  have h3le := arN_le (ts.getD i noNod).kind
  have : arN (ts.getD i noNod).kind = 1 ∨ arN (ts.getD i noNod).kind = 2 ∨ arN (ts.getD i noNod).kind = 3 := by omega
  rcases this with e | e | e
  · obtain ⟨a, ea, ha, hsa⟩ := h1 e
    obtain rfl : j = 0 := by omega
    exact ⟨a, ea, by omega, by omega⟩
  · obtain ⟨a, b, ea, eb, hb, hab, hsa⟩ := h2 e
    have hsb := (hA b (by omega)).2.1
    have hsa' := (hA a (by omega)).2.1
    have : j = 0 ∨ j = 1 := by omega
    rcases this with rfl | rfl
    · exact ⟨a, ea, by omega, by omega⟩
    · exact ⟨b, eb, by omega, by omega⟩
  · obtain ⟨a, b, c, ea, eb, ec, hc, hbc, hab, hsa⟩ := h3 e
    have hsc := (hA c (by omega)).2.1
    have hsb := (hA b (by omega)).2.1
    have hsa' := (hA a (by omega)).2.1
    have : j = 0 ∨ j = 1 ∨ j = 2 := by omega
    rcases this with rfl | rfl | rfl
    · exact ⟨a, ea, by omega, by omega⟩
    · exact ⟨b, eb, by omega, by omega⟩
    · exact ⟨c, ec, by omega, by omega⟩

theorem getD_tail {l : List Int} {j : Nat} : l.tail.getD j 0 = l.getD (j + 1) 0 := by cases l <;> simp [List.getD]
theorem headD_getD {l : List Int} : l.headD 0 = l.getD 0 0 := by cases l <;> rfl

/-- Only the kids that are asked for tell. -/
theorem argT_congr {r r' : Nat → List UInt8} : ∀ (cs : List UInt8) (ns : List ByteArray) (ks : List Int), (∀ j, j < (cs.filter (· ≠ 110)).length → r (ks.getD j 0).toNat = r' (ks.getD j 0).toNat) → argT r cs ns ks = argT r' cs ns ks
  | [], ns, ks, h => rfl
  | c :: cs, ns, ks, h => by
    unfold argT
    by_cases hc : c = 110
    · rw [if_pos hc, if_pos hc, argT_congr cs ns.tail ks (fun j hj => h j (by simpa [hc] using hj))]
    · have hl : ((c :: cs).filter (· ≠ 110)).length = (cs.filter (· ≠ 110)).length + 1 := by simp [hc]
      rw [if_neg hc, if_neg hc]
      have h0 := h 0 (by omega)
      rw [← headD_getD] at h0
      have h1 := argT_congr (r := r) (r' := r') cs ns ks.tail (fun j hj => by
        have := h (j + 1) (by omega)
        rw [getD_tail]
        exact this)
      rw [h0, h1]

theorem nodeT_congr {r r' : Nat → List UInt8} {t : Nod} (hF : FieldsOk t) (h : ∀ j, j < arN t.kind → r ([t.a, t.b, t.c].getD j 0).toNat = r' ([t.a, t.b, t.c].getD j 0).toNat) : nodeT r t = nodeT r' t := by
  unfold nodeT
  by_cases h1 : t.kind = 1
  · rw [if_pos h1, if_pos h1]
  by_cases h2 : t.kind = 2
  · rw [if_neg h1, if_neg h1, if_pos h2, if_pos h2]
  by_cases h12 : t.kind = 12
  · rw [if_neg h1, if_neg h1, if_neg h2, if_neg h2, if_pos h12, if_pos h12]
  rw [if_neg h1, if_neg h1, if_neg h2, if_neg h2, if_neg h12, if_neg h12]
  unfold formT
  have ha := asked_ar (fields_form hF h1 h2 h12)
  unfold asked at ha
  rw [argT_congr (goesOn t.kind) [t.name, t.other] [t.a, t.b, t.c] (fun j hj => h j (by omega))]

/-- More fuel tells the same text. -/
theorem textN_fuel {ts : List Nod} {st : List Nat} (hR : Right ts st) : ∀ (f i : Nat), i < f → i < ts.length → ∀ g, i < g → textN ts f i = textN ts g i
  | 0, i, h, _, _, _ => by omega
  | f + 1, i, h, hi, 0, hg => by omega
  | f + 1, i, h, hi, g + 1, hg => by
    show nodeT (textN ts f) _ = nodeT (textN ts g) _
    refine nodeT_congr (hR.2 i hi).1 (fun j hj => ?_)
    obtain ⟨q, hq, hlt, _⟩ := kid_ahead hR hi hj
    rw [hq]
    exact textN_fuel hR f q (by omega) (by omega) g (by omega)

theorem keyN_len (k n : Int) : (keyN k n).data.toList.length ≤ 5 := by
  by_cases h8 : k = 8
  · subst h8
    by_cases hn : n < 0 ∨ 3 < n
    · rw [keyN_prim_no hn]; decide
    · have : n = 0 ∨ n = 1 ∨ n = 2 ∨ n = 3 := by omega
      rcases this with rfl | rfl | rfl | rfl <;> decide +kernel
  · have e : keyN k n = keyN k 0 := by
      unfold keyN
      rw [if_neg h8, if_neg h8]
    by_cases hk : k < 3 ∨ 19 < k
    · rw [keyN_no n hk]; decide
    · rw [e]
      have : k = 3 ∨ k = 4 ∨ k = 5 ∨ k = 6 ∨ k = 7 ∨ k = 9 ∨ k = 10 ∨ k = 11 ∨ k = 12 ∨ k = 13 ∨ k = 14 ∨ k = 15 ∨ k = 16 ∨ k = 17 ∨ k = 18 ∨ k = 19 := by omega
      clear hk e h8
      rcases this with rfl | rfl | rfl | rfl | rfl | rfl | rfl | rfl | rfl | rfl | rfl | rfl | rfl | rfl | rfl | rfl <;> decide +kernel

theorem small_len {s : ByteArray} {n : Nat} (h : s.size ≤ n) : s.data.toList.length ≤ n := by
  rw [Array.length_toList]
  exact h

/-- How long what stands behind a key is, at most. -/
theorem argT_len {rec : Nat → List UInt8} {b : Nat → Nat} : ∀ (cs : List UInt8) (ns : List ByteArray) (ks : List Int), (∀ s ∈ ns, s.size ≤ 8) → (∀ j, j < (cs.filter (· ≠ 110)).length → (rec (ks.getD j 0).toNat).length + 9 ≤ b j) →
    ((argT rec cs ns ks).length : Int) ≤ 9 * ((cs.filter (· = 110)).length : Int) + (((List.range (cs.filter (· ≠ 110)).length).map b).sum : Int) - 8 * ((cs.filter (· ≠ 110)).length : Int)
  | [], ns, ks, hn, hk => by simp [argT]
  | c :: cs, ns, ks, hn, hk => by
    unfold argT
    by_cases hc : c = 110
    · rw [if_pos hc]
      have ih := argT_len (b := b) cs ns.tail ks (fun s hs => hn s (List.mem_of_mem_tail hs)) (fun j hj => hk j (by simpa [hc] using hj))
      have h0 : (ns.headD ByteArray.empty).data.toList.length ≤ 8 := by
        cases ns with
        | nil => simp
        | cons s ns => exact small_len (hn s (by simp))
      have e1 : ((c :: cs).filter (· = 110)).length = (cs.filter (· = 110)).length + 1 := by simp [hc]
      have e2 : ((c :: cs).filter (· ≠ 110)).length = (cs.filter (· ≠ 110)).length := by simp [hc]
      rw [e1, e2]
      simp only [List.length_append, List.length_cons, List.length_nil]
      omega
    · rw [if_neg hc]
      have e1 : ((c :: cs).filter (· = 110)).length = (cs.filter (· = 110)).length := by simp [hc]
      have e2 : ((c :: cs).filter (· ≠ 110)).length = (cs.filter (· ≠ 110)).length + 1 := by simp [hc]
      have ih := argT_len (b := fun j => b (j + 1)) cs ns ks.tail hn (fun j hj => by
        have := hk (j + 1) (by omega)
        rw [getD_tail]
        exact this)
      have h0 := hk 0 (by omega)
      rw [← headD_getD] at h0
      rw [e1, e2, List.range_succ_eq_map, List.map_cons, List.sum_cons, List.map_map]
      simp only [List.length_append, List.length_cons, List.length_nil]
      have e3 : ((List.range (cs.filter (· ≠ 110)).length).map (b ∘ Nat.succ)).sum = ((List.range (cs.filter (· ≠ 110)).length).map (fun j => b (j + 1))).sum := rfl
      rw [e3]
      omega

/-- The bounds of the forms: what a key and its names take, and its kids give. -/
theorem form_room {k n : Int} (h : IsForm k n) : ((keyN k n).data.toList.length : Int) + 9 * (((goesOn k).filter (· = 110)).length : Int) ≤ 6 + 8 * (arN k : Int) := by
  obtain ⟨h1, h2, h3, h4⟩ := h
  by_cases h8 : k = 8
  · subst h8
    obtain ⟨a, b⟩ := h4 rfl
    have : n = 0 ∨ n = 1 ∨ n = 2 ∨ n = 3 := by omega
    rcases this with rfl | rfl | rfl | rfl <;> decide +kernel
  · have e : keyN k n = keyN k 0 := by
      unfold keyN
      rw [if_neg h8, if_neg h8]
    rw [e]
    have : k = 3 ∨ k = 4 ∨ k = 5 ∨ k = 6 ∨ k = 7 ∨ k = 9 ∨ k = 10 ∨ k = 11 ∨ k = 13 ∨ k = 14 ∨ k = 15 ∨ k = 16 ∨ k = 17 ∨ k = 18 ∨ k = 19 := by omega
    clear h1 h2 h3 h4 h8 e
    rcases this with rfl | rfl | rfl | rfl | rfl | rfl | rfl | rfl | rfl | rfl | rfl | rfl | rfl | rfl | rfl <;> decide +kernel

theorem itoa_len {n : Int} (h0 : 0 ≤ n) (h1 : n ≤ 65535) : (Lib.itoa n).length ≤ 5 := by
  obtain ⟨u, rfl⟩ : ∃ u : Nat, n = u := ⟨n.toNat, by omega⟩
  rw [itoa_pos]
  exact dd_length 4 u (by omega)

/-- The kids' nodes and the node make up its part. -/
theorem kids_sum {ts : List Nod} {st : List Nat} (hR : Right ts st) {i : Nat} (hi : i < ts.length) :
    ((List.range (arN (ts.getD i noNod).kind)).map (fun j => 17 * ((([(ts.getD i noNod).a, (ts.getD i noNod).b, (ts.getD i noNod).c].getD j 0).toNat) + 1 - st.getD (([(ts.getD i noNod).a, (ts.getD i noNod).b, (ts.getD i noNod).c].getD j 0).toNat) 0))).sum = 17 * (i - st.getD i 0) := by
  obtain ⟨_, hA⟩ := hR
  obtain ⟨hF, hs, h0, h1, h2, h3⟩ := hA i hi
  have h3le := arN_le (ts.getD i noNod).kind
  have : arN (ts.getD i noNod).kind = 0 ∨ arN (ts.getD i noNod).kind = 1 ∨ arN (ts.getD i noNod).kind = 2 ∨ arN (ts.getD i noNod).kind = 3 := by omega
  rcases this with e | e | e | e
  · rw [e]
    have := h0 e
    show 0 = _
    omega
  · obtain ⟨a, ea, ha, hsa⟩ := h1 e
    have hsa' := (hA a (by omega)).2.1
    rw [e]
    show 17 * ((ts.getD i noNod).a.toNat + 1 - st.getD (ts.getD i noNod).a.toNat 0) + 0 = _
    rw [ea, Int.toNat_natCast]
    omega
  · obtain ⟨a, b, ea, eb, hb, hab, hsa⟩ := h2 e
    have hsb := (hA b (by omega)).2.1
    have hsa' := (hA a (by omega)).2.1
    rw [e]
    show 17 * ((ts.getD i noNod).a.toNat + 1 - st.getD (ts.getD i noNod).a.toNat 0) + (17 * ((ts.getD i noNod).b.toNat + 1 - st.getD (ts.getD i noNod).b.toNat 0) + 0) = _
    rw [ea, eb, Int.toNat_natCast, Int.toNat_natCast]
    omega
  · obtain ⟨a, b, c, ea, eb, ec, hc, hbc, hab, hsa⟩ := h3 e
    have hsc := (hA c (by omega)).2.1
    have hsb := (hA b (by omega)).2.1
    have hsa' := (hA a (by omega)).2.1
    rw [e]
    show 17 * ((ts.getD i noNod).a.toNat + 1 - st.getD (ts.getD i noNod).a.toNat 0) + (17 * ((ts.getD i noNod).b.toNat + 1 - st.getD (ts.getD i noNod).b.toNat 0) + (17 * ((ts.getD i noNod).c.toNat + 1 - st.getD (ts.getD i noNod).c.toNat 0) + 0)) = _
    rw [ea, eb, ec, Int.toNat_natCast, Int.toNat_natCast, Int.toNat_natCast]
    omega

/-- How many bytes a text has at most: seventeen a node of its part, less nine. -/
theorem textN_len {ts : List Nod} {st : List Nat} (hR : Right ts st) : ∀ (f i : Nat), i < f → i < ts.length → (textN ts f i).length + 9 ≤ 17 * (i + 1 - st.getD i 0)
  | 0, i, h, _ => by omega
  | f + 1, i, h, hi => by
    obtain ⟨hF, hs, _⟩ := hR.2 i hi
    have hsum := kids_sum hR hi
    have hkid := fun {j : Nat} (hj : j < arN (ts.getD i noNod).kind) => kid_ahead hR hi hj
    show (nodeT (textN ts f) (ts.getD i noNod)).length + 9 ≤ _
    have hsm := fields_small (decide_eq_true hF)
    unfold nodeT
    by_cases h1 : (ts.getD i noNod).kind = 1
    · rw [if_pos h1]
      have := small_len hsm.1
      omega
    by_cases h2 : (ts.getD i noNod).kind = 2
    · rw [if_neg h1, if_pos h2]
      have hn := hF.2.2.2.1 h2
      have := itoa_len hn.1 hn.2
      omega
    by_cases h12 : (ts.getD i noNod).kind = 12
    · rw [if_neg h1, if_neg h2, if_pos h12]
      show 3 + 9 ≤ _
      omega
    rw [if_neg h1, if_neg h2, if_neg h12]
    have hfm := fields_form hF h1 h2 h12
    have har := asked_ar hfm
    unfold asked at har
    have hroom := form_room hfm
    have hlen := argT_len (rec := textN ts f) (b := fun j => 17 * ((([(ts.getD i noNod).a, (ts.getD i noNod).b, (ts.getD i noNod).c].getD j 0).toNat) + 1 - st.getD (([(ts.getD i noNod).a, (ts.getD i noNod).b, (ts.getD i noNod).c].getD j 0).toNat) 0)) (goesOn (ts.getD i noNod).kind) [(ts.getD i noNod).name, (ts.getD i noNod).other] [(ts.getD i noNod).a, (ts.getD i noNod).b, (ts.getD i noNod).c]
      (by intro s hs'; simp at hs'; rcases hs' with rfl | rfl; exact hsm.1; exact hsm.2)
      (by
        intro j hj
        rw [har] at hj
        obtain ⟨q, hq, hlt, hst⟩ := hkid hj
        rw [hq]
        have := textN_len hR f q (by omega) (by omega)
        simpa using this)
    rw [har, hsum] at hlen
    unfold formT
    simp only [List.length_append, List.length_cons, List.length_nil]
    omega
end Go.Proofs.YtlooccddflpmnaaDoor
