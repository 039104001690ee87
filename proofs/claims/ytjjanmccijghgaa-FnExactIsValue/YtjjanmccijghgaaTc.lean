/-
  Nodes as they landed: the trees of a list of nodes; is it a program; where a part begins. Conditions: written at each theorem.
-/
import Derived.Test.YtjjanmccijghgaaTb
import Derived.Test.YtjjanmccijghgaaTg
namespace Go.Proofs.Ytjjanmccijghgaa
open Go.ChangeShapes Go.WideShapes Go.ChangeAt Go.RowKit
set_option linter.unusedVariables false

/-- The trees of the first nodes, each over its kids. -/
structure TreesG (ts : List Nod) (st : List Int) (vs : List Value) (i : Nat) : Prop where
  ls : st.length = i
  lv : vs.length = i
  v : ∀ j, j < i → vs.getD j .nilIface = treeV (ts.getD j noNod) (st.getD j 0) (kidV vs (kidL (ts.getD j noNod)))
  k : ∀ j, j < i → ∀ c, c < (kidL (ts.getD j noNod)).length → 0 ≤ (kidL (ts.getD j noNod)).getD c 0 ∧ (kidL (ts.getD j noNod)).getD c 0 < j
  r : ∀ j, j < i → 0 ≤ st.getD j 0 ∧ st.getD j 0 ≤ j

theorem kidV_length (vs : List Value) (ks : List Int) : (kidV vs ks).length = ks.length := by simp [kidV]

theorem TreesG.b {ts : List Nod} {st : List Int} {vs : List Value} {i : Nat} (h : TreesG ts st vs i) : TreesB st vs i :=
  ⟨h.ls, h.lv, fun j hj => by rw [h.v j hj]; exact treeV_begins _ _ _ (by rw [kidV_length, kidL_length]; exact arN_le _), h.r⟩

theorem kidV_getD (vs : List Value) (ks : List Int) (j : Nat) (h : j < ks.length) : (kidV vs ks).getD j .nilIface = vs.getD (ks.getD j 0).toNat .nilIface := by
  simp [kidV, List.getD, h]

theorem kidV_app (vs : List Value) (v : Value) (ks : List Int) (h : ∀ c, c < ks.length → 0 ≤ ks.getD c 0 ∧ ks.getD c 0 < vs.length) : kidV (vs ++ [v]) ks = kidV vs ks := by
  unfold kidV
  apply List.map_congr_left
  intro c hc
  obtain ⟨m, hm, rfl⟩ := List.getElem_of_mem hc
  have hr := h m hm
  have e : ks.getD m 0 = ks[m] := by simp [List.getD, hm]
  rw [e] at hr
  simp only [List.getD]
  rw [List.getElem?_append_left (by omega)]

theorem getD_app_left {α : Type} (l : List α) (x d : α) (j : Nat) (h : j < l.length) : (l ++ [x]).getD j d = l.getD j d := by
  simp only [List.getD]
  rw [List.getElem?_append_left h]

theorem getD_app_lastT {α : Type} (l : List α) (x d : α) (j : Nat) (h : j = l.length) : (l ++ [x]).getD j d = x := by
  subst h
  simp [List.getD]

theorem TreesG.next {ts : List Nod} {st : List Int} {vs : List Value} {i : Nat} (h : TreesG ts st vs i) (r : Int)
    (hk : ∀ c, c < (kidL (ts.getD i noNod)).length → 0 ≤ (kidL (ts.getD i noNod)).getD c 0 ∧ (kidL (ts.getD i noNod)).getD c 0 < i) (hr : 0 ≤ r ∧ r ≤ i) :
    TreesG ts (st ++ [r]) (vs ++ [treeV (ts.getD i noNod) r (kidV vs (kidL (ts.getD i noNod)))]) (i + 1) := by
  have hls := h.ls
  have hlv := h.lv
  refine ⟨by simp [hls], by simp [hlv], fun j hj => ?_, fun j hj => ?_, fun j hj => ?_⟩
  · by_cases hji : j < i
    · rw [getD_app_left _ _ _ _ (by omega), getD_app_left _ _ _ _ (by omega), h.v j hji, kidV_app]
      intro c hc
      have := h.k j hji c hc
      omega
    · obtain rfl : j = i := by omega
      rw [getD_app_lastT _ _ _ _ hlv.symm, getD_app_lastT _ _ _ _ hls.symm, kidV_app]
      intro c hc
      have := hk c hc
      omega
  · by_cases hji : j < i
    · exact h.k j hji
    · obtain rfl : j = i := by omega
      exact hk
  · by_cases hji : j < i
    · rw [getD_app_left _ _ _ _ (by omega)]; exact h.r j hji
    · obtain rfl : j = i := by omega
      rw [getD_app_lastT _ _ _ _ hls.symm]; exact hr

/-- A slice of trees of the call's own. -/
abbrev ownTr (w : World) (base : Nat) (v : Value) (vs : List Value) : Prop := w.ownsRow base 47 1 v vs.length vs

theorem ownT_kept {w w' : World} {B N : Nat} {v : Value} {vs : List Value} (h : ownTr w B v vs) (hb : Below N w w') (hN : w.heap.size ≤ N) : ownTr w' B v vs := by
  refine ⟨h.1, ?_⟩
  rcases h.2 with h0 | ⟨g, cap, cur, hv, hbg, hg, rest⟩
  · exact .inl h0
  · refine .inr ⟨g, cap, cur, hv, hbg, ?_, rest⟩
    have hlt : g < w.heap.size := (Array.getElem?_eq_some_iff.1 hg).1
    rw [hb.block g (by omega)]
    exact hg

theorem ownT_form {w : World} {B : Nat} {v : Value} {vs : List Value} (h : ownTr w B v vs) :
    ∃ (a : Option Addr) (g cap : Nat), v = .slice a vs.length cap ∧ (0 < vs.length → a = some ⟨g, 0, none⟩) ∧ TreeAt w g vs ∧ B ≤ g ∧ (0 < vs.length → g < w.heap.size) := by
  rcases h.2 with ⟨rfl, h0⟩ | ⟨g, cap, cur, rfl, hb, hg, hn, hm, hs, ht⟩
  · rw [h0]
    have e : vs = [] := List.length_eq_zero_iff.1 h0
    subst e
    exact ⟨none, B, 0, rfl, fun h => absurd h (by omega), fun i hi => absurd hi (by simp), Nat.le_refl _, fun h => absurd h (by omega)⟩
  · refine ⟨some ⟨g, 0, none⟩, g, cap, rfl, fun _ => rfl, fun i hi => ?_, hb, fun _ => (Array.getElem?_eq_some_iff.1 hg).1⟩
    rw [cell_of_row _ _ _ _ _ _ hg]
    have e : cur[i]? = vs[i]? := by
      rw [← ht, List.getElem?_take_of_lt (by omega)]
      simp
    rw [e]
    simp [List.getD, hi]

theorem ownT_next {w : World} {B : Nat} {v : Value} {vs : List Value} {m : Nat} {xs : List Value} (x : Value) (h : w.ownsRow B 47 1 v m xs) (hn : m = vs.length + 1) (hx : xs = vs ++ [x]) : ownTr w B v (vs ++ [x]) := by
  subst hn hx
  show w.ownsRow B 47 1 v (vs ++ [x]).length (vs ++ [x])
  rw [List.length_append]
  simpa using h

/-- A tree is grown over the kids that were found ahead of its node. -/
theorem impl_grow (t : Nod) (i : Nat) (r : Int) (K : Nat) (st : List Int) (vs : List Value) (hT : TreesB st vs i) (w : World) (hA : TreeAt w K (kidV vs (kidL t)))
    (hk : ∀ j, j < (kidL t).length → 0 ≤ (kidL t).getD j 0 ∧ (kidL t).getD j 0 < i) (h1 : 0 < (kidL t).length → r = st.getD ((kidL t).getD 0 0).toNat 0) (h0 : (kidL t).length = 0 → r = i) :
    Calls Try.prog 23 #[.agg (nodCells t).toArray, .int .i64 i, .slice (some ⟨K, 0, none⟩) (kidL t).length (kidL t).length] w fun e w' => e = .returned (treeV t r (kidV vs (kidL t))) ∧ Below w.heap.size w w' := by
  by_cases hz : (kidL t).length = 0
  · obtain rfl := h0 hz
    have e : kidL t = [] := List.length_eq_zero_iff.1 hz
    rw [e]
    exact grow_leaf t i _ 0 w
  · have hlt : 0 < (kidL t).length := by omega
    have hl := kidL_length t
    have ha := arN_le t.kind
    have g := grow_kids t i r K (kidL t).length (kidV vs (kidL t)) (by rw [kidV_length]; omega) (by rw [kidV_length]; omega) ?_ ?_ w hA
    · rw [kidV_length] at g
      exact g
    · have hh := hk 0 hlt
      rw [kidV_getD _ _ 0 hlt, h1 hlt]
      exact hT.b _ (by omega)
    · intro v hv
      simp only [kidV, List.mem_map] at hv
      obtain ⟨c, hc, rfl⟩ := hv
      obtain ⟨m, hm, rfl⟩ := List.getElem_of_mem hc
      have hh := hk m hm
      have e : (kidL t).getD m 0 = (kidL t)[m] := by simp [List.getD, hm]
      rw [e] at hh
      obtain ⟨T, u, t0, hv, _⟩ := hT.b (kidL t)[m].toNat (by omega)
      exact ⟨T, u, hv⟩

/-- What a call of treesOf ends with. -/
def TrEnd (ts : List Nod) (B : Nat) (e : Ending) (w : World) : Prop :=
  (∃ st vs v, 1 ≤ ts.length ∧ ts.length ≤ 150 ∧ startsF ts ts.length = some st ∧ TreesG ts st vs ts.length ∧ ownTr w B v vs ∧ e = .returned (.tuple #[v, .bool (nodesB ts)])) ∨
  (nodesB ts = false ∧ e = .returned (.tuple #[.slice none 0 0, .bool false]))

/-- The state of its loop. -/
def TrAt (ts : List Nod) (w : World) (gg : Nat) (out pl : Value) (wr : World) : Prop :=
  ∃ (i : Nat) (st : List Int) (vs : List Value), pl = .int .i64 i ∧ i + gg = ts.length ∧ startsF ts i = some st ∧ TreesG ts st vs i ∧ ownTr wr w.heap.size out vs ∧ Below w.heap.size w wr
end Go.Proofs.Ytjjanmccijghgaa
