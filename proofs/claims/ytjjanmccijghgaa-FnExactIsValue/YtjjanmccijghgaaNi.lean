/-
  Nodes, the specification's: the kids of a node, and where the parts of nodes begin, as plain functions; what Kids answers. Conditions: written at each theorem.
-/
import Derived.Test.YtjjanmccijghgaaNq
import Derived.Test.YtjjanmccijghgaaSt
import Derived.Deep.RegionHeld3
namespace Go.Proofs.Ytjjanmccijghgaa
open Go.ChangeShapes Go.WideShapes Go.ChangeAt Go.RowKit
set_option linter.unusedVariables false

def kidL (t : Nod) : List Int := [t.a, t.b, t.c].take (arN t.kind)

/-- From the last kid to the first: each stands just ahead of where the next one's part begins. -/
def down (st : List Int) : List Int → Int → Option Int
  | [], at0 => some at0
  | c :: cs, at0 => if c = at0 - 1 ∧ 0 ≤ c then down st cs (st.getD c.toNat 0) else none

/-- Where the part of node i begins, if the nodes ahead of it begin there. -/
def stepS (t : Nod) (i : Nat) (st : List Int) : Option Int := if fieldsB t = true then down st (kidL t).reverse i else none

/-- Where the parts of the first k nodes begin; none where they do not lie as they should. -/
def startsF (ts : List Nod) : Nat → Option (List Int)
  | 0 => some []
  | k + 1 => (startsF ts k).bind fun st => (stepS (ts.getD k noNod) k st).map fun a => st ++ [a]

theorem down_range {st : List Int} {i : Nat} (hl : st.length = i) (hst : ∀ j, j < i → 0 ≤ st.getD j 0 ∧ st.getD j 0 ≤ j) : ∀ (cs : List Int) (p r : Int), 0 ≤ p → p ≤ i → down st cs p = some r → 0 ≤ r ∧ r ≤ i
  | [], p, r, h0, h1, h => by simp only [down, Option.some.injEq] at h; omega
  | c :: cs, p, r, h0, h1, h => by
    simp only [down] at h
    split at h
    · rename_i hc
      have hj := hst c.toNat (by omega)
      exact down_range hl hst cs _ r hj.1 (by omega) h
    · cases h

theorem startsF_range (ts : List Nod) : ∀ (k : Nat) (st : List Int), startsF ts k = some st → st.length = k ∧ ∀ j, j < k → 0 ≤ st.getD j 0 ∧ st.getD j 0 ≤ j
  | 0, st, h => by
    simp only [startsF, Option.some.injEq] at h
    subst h
    exact ⟨rfl, fun j hj => by omega⟩
  | k + 1, st, h => by
    simp only [startsF] at h
    obtain ⟨s0, h0, h1⟩ := Option.bind_eq_some_iff.1 h
    obtain ⟨a, ha, rfl⟩ := Option.map_eq_some_iff.1 h1
    obtain ⟨hl, hr⟩ := startsF_range ts k s0 h0
    have hb : 0 ≤ a ∧ a ≤ k := by
      unfold stepS at ha
      split at ha
      · exact down_range hl hr _ _ a (by omega) (by omega) ha
      · cases ha
    refine ⟨by simp [hl], fun j hj => ?_⟩
    by_cases hjk : j < k
    · have : (s0 ++ [a]).getD j 0 = s0.getD j 0 := by simp [List.getD, List.getElem?_append_left (show j < s0.length by omega)]
      rw [this]
      exact hr j hjk
    · obtain rfl : j = k := by omega
      have : (s0 ++ [a]).getD j 0 = a := by subst hl; simp [List.getD]
      rw [this]
      omega

theorem startsF_none (ts : List Nod) : ∀ (k m : Nat), k ≤ m → startsF ts k = none → startsF ts m = none
  | k, 0, h, h0 => by
    obtain rfl : k = 0 := by omega
    exact h0
  | k, m + 1, h, h0 => by
    rcases Nat.lt_or_eq_of_le h with hl | rfl
    · simp only [startsF]
      rw [startsF_none ts k m (Nat.le_of_lt_succ hl) h0]
      rfl
    · exact h0

/-- A slice of the call's own holds these numbers. -/
abbrev ownI (w : World) (base : Nat) (v : Value) (st : List Int) : Prop := w.ownsRow base 3 1 v st.length (st.map (Value.int .i64))

theorem info_int : (Try.prog.info? 3).map (fun i => (i.zero, i.size, i.bytes)) = some (some (.int .i64 0), 1, 8) := by kernel_rfl

theorem ownI_kept {w w' : World} {B N : Nat} {v : Value} {st : List Int} (h : ownI w B v st) (hb : Below N w w') (hN : w.heap.size ≤ N) : ownI w' B v st := by
  refine ⟨h.1, ?_⟩
  rcases h.2 with h0 | ⟨g, cap, cur, hv, hbg, hg, rest⟩
  · exact .inl h0
  · refine .inr ⟨g, cap, cur, hv, hbg, ?_, rest⟩
    have hlt : g < w.heap.size := (Array.getElem?_eq_some_iff.1 hg).1
    rw [hb.block g (by omega)]
    exact hg

theorem ownI_empty {w : World} {B : Nat} (hB : B ≤ w.heap.size) : ownI (w.alloc (.cells #[] 3)) B (.slice (some ⟨w.heap.size, 0, none⟩) 0 0) [] :=
  World.ownsRow_lit w #[] 0 hB (by omega) rfl

theorem ownI_next {w : World} {B : Nat} {v : Value} {st : List Int} {m : Nat} {xs : List Value} (a : Int) (h : w.ownsRow B 3 1 v m xs) (hn : m = st.length + 1) (hx : xs = st.map (Value.int .i64) ++ [.int .i64 a]) : ownI w B v (st ++ [a]) := by
  subst hn hx
  show w.ownsRow B 3 1 v (st ++ [a]).length ((st ++ [a]).map (Value.int .i64))
  rw [List.length_append, List.map_append]
  simpa using h

/-- The form of a slice of numbers that is not empty. -/
theorem ownI_form {w : World} {B : Nat} {v : Value} {st : List Int} (h : ownI w B v st) (h0 : 0 < st.length) :
    ∃ (g cap : Nat), v = .slice (some ⟨g, 0, none⟩) st.length cap ∧ B ≤ g ∧ g < w.heap.size ∧ ∀ j, j < st.length → w.cell? ⟨g, j, none⟩ = some (.int .i64 (st.getD j 0)) := by
  rcases h.2 with ⟨_, hz⟩ | ⟨g, cap, cur, rfl, hb, hg, hn, hm, hs, ht⟩
  · omega
  · refine ⟨g, cap, rfl, hb, (Array.getElem?_eq_some_iff.1 hg).1, fun j hj => ?_⟩
    rw [h.cellAt j (by omega)]
    simp [List.getD, List.getElem?_eq_getElem hj]

theorem ar_name : (Try.f24.name == "runtime.NumGoroutine") = false := by kernel_rfl
theorem ar_body : Try.f24.body.isNone = false := by kernel_rfl

set_option maxHeartbeats 1000000 in
set_option maxRecDepth 20000 in
theorem spec_kids (k a b c n : Int) (s o : ByteArray) (w : World) :
    Calls Try.prog 20 #[.agg #[.int .i64 k, .int .i64 a, .int .i64 b, .int .i64 c, .int .i64 n, .string s, .string o]] w fun e w' =>
      e = .returned (.slice (some ⟨w.heap.size + 1, 0, none⟩) (arN k) 3) ∧ w'.heap[w.heap.size + 1]? = some (.cells #[.int .i64 a, .int .i64 b, .int .i64 c] 3 (0, 0)) ∧ Below w.heap.size w w' := by
  have har := arN_le k
  have har' : (arN k : Int) ≤ 3 := by omega
  have har0 : (0 : Int) ≤ (arN k : Int) := by omega
  go_enter Try.func20, Try.ntmps20
  go_wp2
  go_region_held3 (fun w' => w'.cell? ⟨w.heap.size, 0, none⟩ = some (.int .i64 k) ∧ w'.cell? ⟨w.heap.size, 1, none⟩ = some (.int .i64 a) ∧ w'.cell? ⟨w.heap.size, 2, none⟩ = some (.int .i64 b) ∧ w'.cell? ⟨w.heap.size, 3, none⟩ = some (.int .i64 c)) (go_keep)
    (first | (go_at_call 24; refine (spec_arity k _).mono ?_; rintro e w' ⟨rfl, rfl⟩))
  all_goals go_wp2
  all_goals go_ret
  all_goals exact ⟨rfl, heap_alloc2_new _ _ _, (((Below.refl _ w).alloc (Nat.le_refl _) _).alloc (by simp) _).drew⟩
end Go.Proofs.Ytjjanmccijghgaa
