/-
  Several texts in one, in their order: each is told at its own place by its theorems. Conditions: written at each theorem.
-/
import Derived.Test.YtobijbhgpgnfkaaGreatDoorRows
import Derived.WalkKit
import Derived.ProofKit
import Derived.OpenShut
import Derived.ShutString
import Derived.WalkSpells
import Derived.Laws.OwnMore
import Derived.Below
import Derived.Test.YtobijbhgpgnfkaaGreatDoorPm
import Derived.Test.YtobijbhgpgnfkaaGreatDoorNq
import Derived.Test.YtobijbhgpgnfkaaGreatDoorSt
import Derived.Deep.RegionHeld3
import Derived.Test.YtobijbhgpgnfkaaGreatDoorDm
import Derived.Test.YtobijbhgpgnfkaaGreatDoorPf
import Derived.Test.YtobijbhgpgnfkaaGreatDoorDs
import Derived.Deep.LoopGhost
import Derived.Lib.FrozenHead2
import Derived.Lib.OthersKept
import Derived.Lib.Builder
import Derived.Lib.UnsafeStr
import Derived.Shelf.RegionOpenPlain
import Derived.Test.YtobijbhgpgnfkaaGreatDoorIa
import Derived.Test.YtobijbhgpgnfkaaGreatDoorDi
import Derived.Deep.RegionWith
import Derived.Deep.CutRange
import Derived.Test.YtobijbhgpgnfkaaGreatDoorDl
namespace Go.Proofs.YtobijbhgpgnfkaaGreatDoor
set_option linter.unusedVariables false

section
/-- The key of a form, by its kind and, with a primitive, by N. -/
def keyN (k n : Int) : ByteArray :=
  if k = 8 then
    if n = 0 then ⟨#[97, 100, 100]⟩ else if n = 1 then ⟨#[115, 117, 98]⟩ else if n = 2 then ⟨#[108, 101, 115, 115]⟩ else if n = 3 then ⟨#[115, 97, 109, 101]⟩ else ⟨#[]⟩
  else if k = 3 then ⟨#[102, 117, 110]⟩
  else if k = 4 then ⟨#[97, 112, 112]⟩
  else if k = 5 then ⟨#[108, 101, 116]⟩
  else if k = 6 then ⟨#[114, 101, 99]⟩
  else if k = 7 then ⟨#[105, 102]⟩
  else if k = 9 then ⟨#[112, 97, 105, 114]⟩
  else if k = 10 then ⟨#[102, 115, 116]⟩
  else if k = 11 then ⟨#[115, 110, 100]⟩
  else if k = 12 then ⟨#[110, 105, 108]⟩
  else if k = 13 then ⟨#[99, 111, 110, 115]⟩
  else if k = 14 then ⟨#[109, 97, 116, 99, 104]⟩
  else if k = 15 then ⟨#[114, 101, 102]⟩
  else if k = 16 then ⟨#[103, 101, 116]⟩
  else if k = 17 then ⟨#[115, 101, 116]⟩
  else if k = 18 then ⟨#[114, 97, 105, 115, 101]⟩
  else if k = 19 then ⟨#[116, 114, 121]⟩
  else ⟨#[]⟩

/-- How a form goes on behind its key. -/
def goesOn (k : Int) : List UInt8 :=
  if k = 3 then [110, 101]
  else if k = 5 then [110, 101, 101]
  else if k = 6 then [110, 110, 101, 101]
  else if k = 7 then [101, 101, 101]
  else if k = 14 then [101, 101, 110, 110, 101]
  else if k = 19 then [101, 110, 101]
  else if k = 10 ∨ k = 11 ∨ k = 15 ∨ k = 16 ∨ k = 18 then [101]
  else [101, 101]

def IsForm (k n : Int) : Prop := 3 ≤ k ∧ k ≤ 19 ∧ k ≠ 12 ∧ (k = 8 → 0 ≤ n ∧ n ≤ 3)

theorem keyN_no {k : Int} (n : Int) (h : k < 3 ∨ 19 < k) : keyN k n = ⟨#[]⟩ := by
  unfold keyN
  repeat rw [if_neg (by omega)]

theorem keyN_prim_no {n : Int} (h : n < 0 ∨ 3 < n) : keyN 8 n = ⟨#[]⟩ := by
  unfold keyN
  rw [if_pos rfl]
  repeat rw [if_neg (by omega)]
end

section
open Go.ChangeShapes Go.WideShapes Go.ChangeAt Go.RowKit

theorem keyN_else {k : Int} (n : Int) (h : k ≠ 8) : keyN k n = keyN k 0 := by
  unfold keyN
  rw [if_neg h, if_neg h]

set_option maxRecDepth 20000 in
theorem form_key {k n : Int} (h : IsForm k n) : formE (keyN k n) = (k, if k = 8 then n else 0, ⟨(goesOn k).toArray⟩) := by
  obtain ⟨h1, h2, h3, h4⟩ := h
  by_cases h8 : k = 8
  · subst h8
    obtain ⟨a, b⟩ := h4 rfl
    have : n = 0 ∨ n = 1 ∨ n = 2 ∨ n = 3 := by omega
    rcases this with rfl | rfl | rfl | rfl <;> decide +kernel
  · rw [keyN_else n h8, if_neg h8]
    have : k = 3 ∨ k = 4 ∨ k = 5 ∨ k = 6 ∨ k = 7 ∨ k = 9 ∨ k = 10 ∨ k = 11 ∨ k = 13 ∨ k = 14 ∨ k = 15 ∨ k = 16 ∨ k = 17 ∨ k = 18 ∨ k = 19 := by omega
    clear h1 h2 h3 h4 h8
    rcases this with rfl | rfl | rfl | rfl | rfl | rfl | rfl | rfl | rfl | rfl | rfl | rfl | rfl | rfl | rfl <;> decide +kernel
end

section
open Go.ChangeShapes Go.WideShapes Go.ChangeAt Go.RowKit

def kidL (t : Nod) : List Int := [t.a, t.b, t.c].take (arN t.kind)

/-- From the last kid to the first: each stands just ahead of where the next one's part begins. -/
def down (st : List Int) : List Int → Int → Option Int
  | [], at0 => some at0
  | c :: cs, at0 => if c = at0 - 1 ∧ 0 ≤ c then down st cs (st.getD c.toNat 0) else none

/-- Where the part of node i begins, if the nodes ahead of it begin there. -/
def stepS (t : Nod) (i : Nat) (st : List Int) : Option Int := if fieldsB t = true then down st (kidL t).reverse i else none

/-- Where the parts of the first k nodes begin; none where they do not lie as they should. -/
def startsF (ts : List Nod) : Nat → Option (List Int)
  | 0 => some []
  | k + 1 => (startsF ts k).bind fun st => (stepS (ts.getD k noNod) k st).map fun a => st ++ [a]

theorem down_range {st : List Int} {i : Nat} (hl : st.length = i) (hst : ∀ j, j < i → 0 ≤ st.getD j 0 ∧ st.getD j 0 ≤ j) : ∀ (cs : List Int) (p r : Int), 0 ≤ p → p ≤ i → down st cs p = some r → 0 ≤ r ∧ r ≤ i
  | [], p, r, h0, h1, h => by simp only [down, Option.some.injEq] at h; omega
  | c :: cs, p, r, h0, h1, h => by
    simp only [down] at h
    split at h
    · rename_i hc
      have hj := hst c.toNat (by omega)
      exact down_range hl hst cs _ r hj.1 (by omega) h
    · cases h

theorem startsF_range (ts : List Nod) : ∀ (k : Nat) (st : List Int), startsF ts k = some st → st.length = k ∧ ∀ j, j < k → 0 ≤ st.getD j 0 ∧ st.getD j 0 ≤ j
  | 0, st, h => by
    simp only [startsF, Option.some.injEq] at h
    subst h
    exact ⟨rfl, fun j hj => by omega⟩
  | k + 1, st, h => by
    simp only [startsF] at h
    obtain ⟨s0, h0, h1⟩ := Option.bind_eq_some_iff.1 h
    obtain ⟨a, ha, rfl⟩ := Option.map_eq_some_iff.1 h1
    obtain ⟨hl, hr⟩ := startsF_range ts k s0 h0
    have hb : 0 ≤ a ∧ a ≤ k := by
      unfold stepS at ha
      split at ha
      · exact down_range hl hr _ _ a (by omega) (by omega) ha
      · cases ha
    refine ⟨by simp [hl], fun j hj => ?_⟩
    by_cases hjk : j < k
    · have : (s0 ++ [a]).getD j 0 = s0.getD j 0 := by simp [List.getD, List.getElem?_append_left (show j < s0.length by omega)]
      rw [this]
      exact hr j hjk
    · obtain rfl : j = k := by omega
      have : (s0 ++ [a]).getD j 0 = a := by subst hl; simp [List.getD]
      rw [this]
      omega

theorem startsF_none (ts : List Nod) : ∀ (k m : Nat), k ≤ m → startsF ts k = none → startsF ts m = none
  | k, 0, h, h0 => by
    obtain rfl : k = 0 := by omega
    exact h0
  | k, m + 1, h, h0 => by
    rcases Nat.lt_or_eq_of_le h with hl | rfl
    · simp only [startsF]
      rw [startsF_none ts k m (Nat.le_of_lt_succ hl) h0]
      rfl
    · exact h0

/-- A slice of the call's own holds these numbers. -/
abbrev ownI (w : World) (base : Nat) (v : Value) (st : List Int) : Prop := w.ownsRow base 3 1 v st.length (st.map (Value.int .i64))

theorem info_int : (Tryz.prog.info? 3).map (fun i => (i.zero, i.size, i.bytes)) = some (some (.int .i64 0), 1, 8) := by kernel_rfl

theorem ownI_kept {w w' : World} {B N : Nat} {v : Value} {st : List Int} (h : ownI w B v st) (hb : Below N w w') (hN : w.heap.size ≤ N) : ownI w' B v st := by
  refine ⟨h.1, ?_⟩
  rcases h.2 with h0 | ⟨g, cap, cur, hv, hbg, hg, rest⟩
  · exact .inl h0
  · refine .inr ⟨g, cap, cur, hv, hbg, ?_, rest⟩
    have hlt : g < w.heap.size := (Array.getElem?_eq_some_iff.1 hg).1
    rw [hb.block g (by omega)]
    exact hg

theorem ownI_empty {w : World} {B : Nat} (hB : B ≤ w.heap.size) : ownI (w.alloc (.cells #[] 3)) B (.slice (some ⟨w.heap.size, 0, none⟩) 0 0) [] :=
  World.ownsRow_lit w #[] 0 hB (by omega) rfl

theorem ownI_next {w : World} {B : Nat} {v : Value} {st : List Int} {m : Nat} {xs : List Value} (a : Int) (h : w.ownsRow B 3 1 v m xs) (hn : m = st.length + 1) (hx : xs = st.map (Value.int .i64) ++ [.int .i64 a]) : ownI w B v (st ++ [a]) := by
  subst hn hx
  show w.ownsRow B 3 1 v (st ++ [a]).length ((st ++ [a]).map (Value.int .i64))
  rw [List.length_append, List.map_append]
  simpa using h

/-- The form of a slice of numbers that is not empty. -/
theorem ownI_form {w : World} {B : Nat} {v : Value} {st : List Int} (h : ownI w B v st) (h0 : 0 < st.length) :
    ∃ (g cap : Nat), v = .slice (some ⟨g, 0, none⟩) st.length cap ∧ B ≤ g ∧ g < w.heap.size ∧ ∀ j, j < st.length → w.cell? ⟨g, j, none⟩ = some (.int .i64 (st.getD j 0)) := by
  rcases h.2 with ⟨_, hz⟩ | ⟨g, cap, cur, rfl, hb, hg, hn, hm, hs, ht⟩
  · omega
  · refine ⟨g, cap, rfl, hb, (Array.getElem?_eq_some_iff.1 hg).1, fun j hj => ?_⟩
    rw [h.cellAt j (by omega)]
    simp [List.getD, List.getElem?_eq_getElem hj]

theorem ar_name : (Tryz.f85.name == "runtime.NumGoroutine") = false := by kernel_rfl
theorem ar_body : Tryz.f85.body.isNone = false := by kernel_rfl

set_option maxHeartbeats 1000000 in
set_option maxRecDepth 20000 in
theorem spec_kids (k a b c n : Int) (s o : ByteArray) (w : World) :
    Calls Tryz.prog 44 #[.agg #[.int .i64 k, .int .i64 a, .int .i64 b, .int .i64 c, .int .i64 n, .string s, .string o]] w fun e w' =>
      e = .returned (.slice (some ⟨w.heap.size + 1, 0, none⟩) (arN k) 3) ∧ w'.heap[w.heap.size + 1]? = some (.cells #[.int .i64 a, .int .i64 b, .int .i64 c] 3 (0, 0)) ∧ Below w.heap.size w w' := by
  have har := arN_le k
  have har' : (arN k : Int) ≤ 3 := by omega
  have har0 : (0 : Int) ≤ (arN k : Int) := by omega
  go_enter Tryz.func44, Tryz.ntmps44
  go_wp2
  go_region_held3 (fun w' => w'.cell? ⟨w.heap.size, 0, none⟩ = some (.int .i64 k) ∧ w'.cell? ⟨w.heap.size, 1, none⟩ = some (.int .i64 a) ∧ w'.cell? ⟨w.heap.size, 2, none⟩ = some (.int .i64 b) ∧ w'.cell? ⟨w.heap.size, 3, none⟩ = some (.int .i64 c)) (go_keep)
    (first | (go_at_call 85; refine (spec_arity k _).mono ?_; rintro e w' ⟨rfl, rfl⟩))
  all_goals go_wp2
  all_goals go_ret
  all_goals exact ⟨rfl, heap_alloc2_new _ _ _, (((Below.refl _ w).alloc (Nat.le_refl _) _).alloc (by simp) _).drew⟩
end

section
open Go.ChangeShapes Go.WideShapes Go.ChangeAt Go.RowKit

theorem down_app (st : List Int) (a : Int) (hr : ∀ j, j < st.length → 0 ≤ st.getD j 0 ∧ st.getD j 0 ≤ j) : ∀ (cs : List Int) (p : Int), p ≤ st.length → down (st ++ [a]) cs p = down st cs p
  | [], p, h => rfl
  | c :: cs, p, h => by
    simp only [down]
    by_cases hc : c = p - 1 ∧ 0 ≤ c
    · have hl : c.toNat < st.length := by omega
      have e : (st ++ [a]).getD c.toNat 0 = st.getD c.toNat 0 := by
        simp only [List.getD]
        rw [List.getElem?_append_left hl]
      have hh := hr c.toNat hl
      rw [if_pos hc, if_pos hc, e]
      exact down_app st a hr cs _ (by omega)
    · rw [if_neg hc, if_neg hc]

theorem starts_at (ts : List Nod) : ∀ (k : Nat) (st : List Int), startsF ts k = some st → ∀ j, j < k → fieldsB (ts.getD j noNod) = true ∧ down st (kidL (ts.getD j noNod)).reverse j = some (st.getD j 0)
  | 0, st, h, j, hj => by omega
  | k + 1, st, h, j, hj => by
    simp only [startsF] at h
    obtain ⟨s0, h0, h1⟩ := Option.bind_eq_some_iff.1 h
    obtain ⟨a, ha, rfl⟩ := Option.map_eq_some_iff.1 h1
    obtain ⟨hl, hr⟩ := startsF_range ts k s0 h0
    have hr' : ∀ j, j < s0.length → 0 ≤ s0.getD j 0 ∧ s0.getD j 0 ≤ j := fun j hj => hr j (by omega)
    by_cases hjk : j < k
    · obtain ⟨hf, hd⟩ := starts_at ts k s0 h0 j hjk
      refine ⟨hf, ?_⟩
      have e : (s0 ++ [a]).getD j 0 = s0.getD j 0 := by
        simp only [List.getD]
        rw [List.getElem?_append_left (by omega)]
      rw [down_app s0 a hr' _ _ (by omega), e]
      exact hd
    · obtain rfl : j = k := by omega
      unfold stepS at ha
      split at ha
      · rename_i hf
        refine ⟨hf, ?_⟩
        have e : (s0 ++ [a]).getD j 0 = a := by subst hl; simp [List.getD]
        rw [down_app s0 a hr' _ _ (by omega), e]
        exact ha
      · cases ha

theorem fields_small {t : Nod} (h : fieldsB t = true) : t.name.size ≤ 8 ∧ t.other.size ≤ 8 := by
  have hf : FieldsOk t := of_decide_eq_true h
  obtain ⟨_, _, ⟨h1, h2, h3, h4⟩, _⟩ := hf
  have hw : ∀ s : ByteArray, isNameB s = true → s.size ≤ 8 := fun s hs => by
    have := (Bool.and_eq_true_iff.1 hs).1
    have := of_decide_eq_true this
    exact this.2.1
  constructor
  · by_cases hz : nmN t.kind = 0
    · have := h1 hz; omega
    · exact hw _ (h2 (by omega))
  · by_cases hz : nmN t.kind ≤ 1
    · have := h3 hz; omega
    · exact hw _ (h4 (by omega))

theorem cut_split (ts : List Nod) (s p e : Nat) (h1 : s ≤ p) (h2 : p ≤ e) (h3 : e ≤ ts.length) : (ts.take e).drop s = (ts.take p).drop s ++ (ts.take e).drop p := by
  have e1 : ts.take e = ts.take p ++ (ts.take e).drop p := by
    have h := (List.take_append_drop p (ts.take e)).symm
    rw [List.take_take, Nat.min_eq_left h2] at h
    exact h
  have hl : (ts.take p).length = p := by simp; omega
  conv => lhs; rw [e1]
  rw [List.drop_append_of_le_length (by omega)]

theorem cut_one (ts : List Nod) (j : Nat) (h : j < ts.length) : (ts.take (j + 1)).drop j = [ts.getD j noNod] := by
  rw [List.take_succ_eq_append_getElem h, List.drop_append_of_le_length (by simp; omega)]
  simp [List.getD, List.getElem?_eq_getElem h]

theorem cut_length (ts : List Nod) (s e : Nat) (h1 : s ≤ e) (h3 : e ≤ ts.length) : ((ts.take e).drop s).length = e - s := by
  simp
  omega

theorem kidL_0 {t : Nod} (h : arN t.kind = 0) : kidL t = [] := by unfold kidL; rw [h]; rfl
theorem kidL_1 {t : Nod} (h : arN t.kind = 1) : kidL t = [t.a] := by unfold kidL; rw [h]; rfl
theorem kidL_2 {t : Nod} (h : arN t.kind = 2) : kidL t = [t.a, t.b] := by unfold kidL; rw [h]; rfl
theorem kidL_3 {t : Nod} (h : arN t.kind = 3) : kidL t = [t.a, t.b, t.c] := by unfold kidL; rw [h]; rfl

theorem down_one {st : List Int} {c p r : Int} {cs : List Int} (h : down st (c :: cs) p = some r) : c = p - 1 ∧ 0 ≤ c ∧ down st cs (st.getD c.toNat 0) = some r := by
  simp only [down] at h
  split at h
  · rename_i hc
    exact ⟨hc.1, hc.2, h⟩
  · cases h

theorem down_nil {st : List Int} {p r : Int} (h : down st [] p = some r) : p = r := by
  simpa only [down, Option.some.injEq] using h

/-- Nodes that lie as they should, with where their parts begin. -/
def Right (ts : List Nod) (st : List Nat) : Prop := ts.length ≤ 1000 ∧ ∀ j, j < ts.length → FieldsOk (ts.getD j noNod) ∧ st.getD j 0 ≤ j ∧
  (arN (ts.getD j noNod).kind = 0 → st.getD j 0 = j) ∧
  (arN (ts.getD j noNod).kind = 1 → ∃ a : Nat, (ts.getD j noNod).a = a ∧ a + 1 = j ∧ st.getD a 0 = st.getD j 0) ∧
  (arN (ts.getD j noNod).kind = 2 → ∃ a b : Nat, (ts.getD j noNod).a = a ∧ (ts.getD j noNod).b = b ∧ b + 1 = j ∧ a + 1 = st.getD b 0 ∧ st.getD a 0 = st.getD j 0) ∧
  (arN (ts.getD j noNod).kind = 3 → ∃ a b c : Nat, (ts.getD j noNod).a = a ∧ (ts.getD j noNod).b = b ∧ (ts.getD j noNod).c = c ∧ c + 1 = j ∧ b + 1 = st.getD c 0 ∧ a + 1 = st.getD b 0 ∧ st.getD a 0 = st.getD j 0)

theorem getD_nat (st : List Int) (j : Nat) : (st.map Int.toNat).getD j 0 = (st.getD j 0).toNat := by
  simp only [List.getD, List.getElem?_map]
  cases st[j]? <;> rfl

theorem right_of {ts : List Nod} {st : List Int} (hl : ts.length ≤ 1000) (h : startsF ts ts.length = some st) : Right ts (st.map Int.toNat) := by
  obtain ⟨hlen, hr⟩ := startsF_range ts ts.length st h
  refine ⟨hl, fun j hj => ?_⟩
  obtain ⟨hf, hd⟩ := starts_at ts ts.length st h j hj
  have hF : FieldsOk (ts.getD j noNod) := of_decide_eq_true hf
  have hj2 := hr j hj
  simp only [getD_nat]
  refine ⟨hF, by omega, fun e => ?_, fun e => ?_, fun e => ?_, fun e => ?_⟩
  · rw [kidL_0 e] at hd
    have := down_nil hd
    omega
  · rw [kidL_1 e] at hd
    obtain ⟨a1, a2, a3⟩ := down_one hd
    have := down_nil a3
    refine ⟨(ts.getD j noNod).a.toNat, by omega, by omega, ?_⟩
    rw [this]
  · rw [kidL_2 e] at hd
    obtain ⟨a1, a2, a3⟩ := down_one hd
    obtain ⟨b1, b2, b3⟩ := down_one a3
    have := down_nil b3
    have := hr (ts.getD j noNod).b.toNat (by omega)
    refine ⟨(ts.getD j noNod).a.toNat, (ts.getD j noNod).b.toNat, by omega, by omega, by omega, by omega, ?_⟩
    omega
  · rw [kidL_3 e] at hd
    obtain ⟨a1, a2, a3⟩ := down_one hd
    obtain ⟨b1, b2, b3⟩ := down_one a3
    obtain ⟨c1, c2, c3⟩ := down_one b3
    have := down_nil c3
    have := hr (ts.getD j noNod).c.toNat (by omega)
    have := hr (ts.getD j noNod).b.toNat (by omega)
    refine ⟨(ts.getD j noNod).a.toNat, (ts.getD j noNod).b.toNat, (ts.getD j noNod).c.toNat, by omega, by omega, by omega, by omega, by omega, by omega, ?_⟩
    omega
end

section
open Go.ChangeShapes Go.WideShapes Go.ChangeAt Go.RowKit

/-- The text behind a key: names and kids as the form asks for them, a blank ahead of each. -/
def argT (rec : Nat → List UInt8) : List UInt8 → List ByteArray → List Int → List UInt8
  | [], _, _ => []
  | c :: cs, ns, ks => if c = 110 then [32] ++ (ns.headD ByteArray.empty).data.toList ++ argT rec cs ns.tail ks else [32] ++ rec (ks.headD 0).toNat ++ argT rec cs ns ks.tail

def formT (rec : Nat → List UInt8) (t : Nod) : List UInt8 := [40] ++ (keyN t.kind t.n).data.toList ++ argT rec (goesOn t.kind) [t.name, t.other] [t.a, t.b, t.c] ++ [41]

def nodeT (rec : Nat → List UInt8) (t : Nod) : List UInt8 :=
  if t.kind = 1 then t.name.data.toList
  else if t.kind = 2 then Lib.itoa t.n
  else if t.kind = 12 then [110, 105, 108]
  else formT rec t

/-- The text of node i. -/
def textN (ts : List Nod) : Nat → Nat → List UInt8
  | 0, _ => []
  | f + 1, i => nodeT (textN ts f) (ts.getD i noNod)

theorem fields_form {t : Nod} (h : FieldsOk t) (h1 : t.kind ≠ 1) (h2 : t.kind ≠ 2) (h12 : t.kind ≠ 12) : IsForm t.kind t.n := by
  obtain ⟨⟨k1, k2⟩, _, _, hn⟩ := h
  refine ⟨by omega, by omega, h12, fun h8 => ?_⟩
  have := hn.2.1 h8
  omega

/-- The kids that a form asks for, in the order of their numbers. -/
def asked (k : Int) : Nat := ((goesOn k).filter (· ≠ 110)).length

theorem asked_ar {k n : Int} (h : IsForm k n) : asked k = arN k := by
  obtain ⟨h1, h2, h3, h4⟩ := h
  have : k = 3 ∨ k = 4 ∨ k = 5 ∨ k = 6 ∨ k = 7 ∨ k = 8 ∨ k = 9 ∨ k = 10 ∨ k = 11 ∨ k = 13 ∨ k = 14 ∨ k = 15 ∨ k = 16 ∨ k = 17 ∨ k = 18 ∨ k = 19 := by omega
  clear h1 h2 h3 h4
  rcases this with rfl | rfl | rfl | rfl | rfl | rfl | rfl | rfl | rfl | rfl | rfl | rfl | rfl | rfl | rfl | rfl <;> rfl

/-- Of right nodes each kid stands ahead. -/
theorem kid_ahead {ts : List Nod} {st : List Nat} (hR : Right ts st) {i : Nat} (hi : i < ts.length) {j : Nat} (hj : j < arN (ts.getD i noNod).kind) :
    ∃ q : Nat, [(ts.getD i noNod).a, (ts.getD i noNod).b, (ts.getD i noNod).c].getD j 0 = q ∧ q < i ∧ st.getD i 0 ≤ st.getD q 0 := by
  obtain ⟨_, hA⟩ := hR
  obtain ⟨hF, hs, h0, h1, h2, h3⟩ := hA i hi
  have h3le := arN_le (ts.getD i noNod).kind
  have : arN (ts.getD i noNod).kind = 1 ∨ arN (ts.getD i noNod).kind = 2 ∨ arN (ts.getD i noNod).kind = 3 := by omega
  rcases this with e | e | e
  · obtain ⟨a, ea, ha, hsa⟩ := h1 e
    obtain rfl : j = 0 := by omega
    exact ⟨a, ea, by omega, by omega⟩
  · obtain ⟨a, b, ea, eb, hb, hab, hsa⟩ := h2 e
    have hsb := (hA b (by omega)).2.1
    have hsa' := (hA a (by omega)).2.1
    have : j = 0 ∨ j = 1 := by omega
    rcases this with rfl | rfl
    · exact ⟨a, ea, by omega, by omega⟩
    · exact ⟨b, eb, by omega, by omega⟩
  · obtain ⟨a, b, c, ea, eb, ec, hc, hbc, hab, hsa⟩ := h3 e
    have hsc := (hA c (by omega)).2.1
    have hsb := (hA b (by omega)).2.1
    have hsa' := (hA a (by omega)).2.1
    have : j = 0 ∨ j = 1 ∨ j = 2 := by omega
    rcases this with rfl | rfl | rfl
    · exact ⟨a, ea, by omega, by omega⟩
    · exact ⟨b, eb, by omega, by omega⟩
    · exact ⟨c, ec, by omega, by omega⟩

theorem getD_tail {l : List Int} {j : Nat} : l.tail.getD j 0 = l.getD (j + 1) 0 := by cases l <;> simp [List.getD]
theorem headD_getD {l : List Int} : l.headD 0 = l.getD 0 0 := by cases l <;> rfl

/-- Only the kids that are asked for tell. -/
theorem argT_congr {r r' : Nat → List UInt8} : ∀ (cs : List UInt8) (ns : List ByteArray) (ks : List Int), (∀ j, j < (cs.filter (· ≠ 110)).length → r (ks.getD j 0).toNat = r' (ks.getD j 0).toNat) → argT r cs ns ks = argT r' cs ns ks
  | [], ns, ks, h => rfl
  | c :: cs, ns, ks, h => by
    unfold argT
    by_cases hc : c = 110
    · rw [if_pos hc, if_pos hc, argT_congr cs ns.tail ks (fun j hj => h j (by simpa [hc] using hj))]
    · have hl : ((c :: cs).filter (· ≠ 110)).length = (cs.filter (· ≠ 110)).length + 1 := by simp [hc]
      rw [if_neg hc, if_neg hc]
      have h0 := h 0 (by omega)
      rw [← headD_getD] at h0
      have h1 := argT_congr (r := r) (r' := r') cs ns ks.tail (fun j hj => by
        have := h (j + 1) (by omega)
        rw [getD_tail]
        exact this)
      rw [h0, h1]

theorem nodeT_congr {r r' : Nat → List UInt8} {t : Nod} (hF : FieldsOk t) (h : ∀ j, j < arN t.kind → r ([t.a, t.b, t.c].getD j 0).toNat = r' ([t.a, t.b, t.c].getD j 0).toNat) : nodeT r t = nodeT r' t := by
  unfold nodeT
  by_cases h1 : t.kind = 1
  · rw [if_pos h1, if_pos h1]
  by_cases h2 : t.kind = 2
  · rw [if_neg h1, if_neg h1, if_pos h2, if_pos h2]
  by_cases h12 : t.kind = 12
  · rw [if_neg h1, if_neg h1, if_neg h2, if_neg h2, if_pos h12, if_pos h12]
  rw [if_neg h1, if_neg h1, if_neg h2, if_neg h2, if_neg h12, if_neg h12]
  unfold formT
  have ha := asked_ar (fields_form hF h1 h2 h12)
  unfold asked at ha
  rw [argT_congr (goesOn t.kind) [t.name, t.other] [t.a, t.b, t.c] (fun j hj => h j (by omega))]

/-- More fuel tells the same text. -/
theorem textN_fuel {ts : List Nod} {st : List Nat} (hR : Right ts st) : ∀ (f i : Nat), i < f → i < ts.length → ∀ g, i < g → textN ts f i = textN ts g i
  | 0, i, h, _, _, _ => by omega
  | f + 1, i, h, hi, 0, hg => by omega
  | f + 1, i, h, hi, g + 1, hg => by
    show nodeT (textN ts f) _ = nodeT (textN ts g) _
    refine nodeT_congr (hR.2 i hi).1 (fun j hj => ?_)
    obtain ⟨q, hq, hlt, _⟩ := kid_ahead hR hi hj
    rw [hq]
    exact textN_fuel hR f q (by omega) (by omega) g (by omega)

theorem keyN_len (k n : Int) : (keyN k n).data.toList.length ≤ 5 := by
  by_cases h8 : k = 8
  · subst h8
    by_cases hn : n < 0 ∨ 3 < n
    · rw [keyN_prim_no hn]; decide
    · have : n = 0 ∨ n = 1 ∨ n = 2 ∨ n = 3 := by omega
      rcases this with rfl | rfl | rfl | rfl <;> decide +kernel
  · have e : keyN k n = keyN k 0 := by
      unfold keyN
      rw [if_neg h8, if_neg h8]
    by_cases hk : k < 3 ∨ 19 < k
    · rw [keyN_no n hk]; decide
    · rw [e]
      have : k = 3 ∨ k = 4 ∨ k = 5 ∨ k = 6 ∨ k = 7 ∨ k = 9 ∨ k = 10 ∨ k = 11 ∨ k = 12 ∨ k = 13 ∨ k = 14 ∨ k = 15 ∨ k = 16 ∨ k = 17 ∨ k = 18 ∨ k = 19 := by omega
      clear hk e h8
      rcases this with rfl | rfl | rfl | rfl | rfl | rfl | rfl | rfl | rfl | rfl | rfl | rfl | rfl | rfl | rfl | rfl <;> decide +kernel

theorem small_len {s : ByteArray} {n : Nat} (h : s.size ≤ n) : s.data.toList.length ≤ n := by
  rw [Array.length_toList]
  exact h

/-- How long what stands behind a key is, at most. -/
theorem argT_len {rec : Nat → List UInt8} {b : Nat → Nat} : ∀ (cs : List UInt8) (ns : List ByteArray) (ks : List Int), (∀ s ∈ ns, s.size ≤ 8) → (∀ j, j < (cs.filter (· ≠ 110)).length → (rec (ks.getD j 0).toNat).length + 9 ≤ b j) →
    ((argT rec cs ns ks).length : Int) ≤ 9 * ((cs.filter (· = 110)).length : Int) + (((List.range (cs.filter (· ≠ 110)).length).map b).sum : Int) - 8 * ((cs.filter (· ≠ 110)).length : Int)
  | [], ns, ks, hn, hk => by simp [argT]
  | c :: cs, ns, ks, hn, hk => by
    unfold argT
    by_cases hc : c = 110
    · rw [if_pos hc]
      have ih := argT_len (b := b) cs ns.tail ks (fun s hs => hn s (List.mem_of_mem_tail hs)) (fun j hj => hk j (by simpa [hc] using hj))
      have h0 : (ns.headD ByteArray.empty).data.toList.length ≤ 8 := by
        cases ns with
        | nil => simp
        | cons s ns => exact small_len (hn s (by simp))
      have e1 : ((c :: cs).filter (· = 110)).length = (cs.filter (· = 110)).length + 1 := by simp [hc]
      have e2 : ((c :: cs).filter (· ≠ 110)).length = (cs.filter (· ≠ 110)).length := by simp [hc]
      rw [e1, e2]
      simp only [List.length_append, List.length_cons, List.length_nil]
      omega
    · rw [if_neg hc]
      have e1 : ((c :: cs).filter (· = 110)).length = (cs.filter (· = 110)).length := by simp [hc]
      have e2 : ((c :: cs).filter (· ≠ 110)).length = (cs.filter (· ≠ 110)).length + 1 := by simp [hc]
      have ih := argT_len (b := fun j => b (j + 1)) cs ns ks.tail hn (fun j hj => by
        have := hk (j + 1) (by omega)
        rw [getD_tail]
        exact this)
      have h0 := hk 0 (by omega)
      rw [← headD_getD] at h0
      rw [e1, e2, List.range_succ_eq_map, List.map_cons, List.sum_cons, List.map_map]
      simp only [List.length_append, List.length_cons, List.length_nil]
      have e3 : ((List.range (cs.filter (· ≠ 110)).length).map (b ∘ Nat.succ)).sum = ((List.range (cs.filter (· ≠ 110)).length).map (fun j => b (j + 1))).sum := rfl
      rw [e3]
      omega

/-- The bounds of the forms: what a key and its names take, and its kids give. -/
theorem form_room {k n : Int} (h : IsForm k n) : ((keyN k n).data.toList.length : Int) + 9 * (((goesOn k).filter (· = 110)).length : Int) ≤ 6 + 8 * (arN k : Int) := by
  obtain ⟨h1, h2, h3, h4⟩ := h
  by_cases h8 : k = 8
  · subst h8
    obtain ⟨a, b⟩ := h4 rfl
    have : n = 0 ∨ n = 1 ∨ n = 2 ∨ n = 3 := by omega
    rcases this with rfl | rfl | rfl | rfl <;> decide +kernel
  · have e : keyN k n = keyN k 0 := by
      unfold keyN
      rw [if_neg h8, if_neg h8]
    rw [e]
    have : k = 3 ∨ k = 4 ∨ k = 5 ∨ k = 6 ∨ k = 7 ∨ k = 9 ∨ k = 10 ∨ k = 11 ∨ k = 13 ∨ k = 14 ∨ k = 15 ∨ k = 16 ∨ k = 17 ∨ k = 18 ∨ k = 19 := by omega
    clear h1 h2 h3 h4 h8 e
    rcases this with rfl | rfl | rfl | rfl | rfl | rfl | rfl | rfl | rfl | rfl | rfl | rfl | rfl | rfl | rfl <;> decide +kernel

theorem itoa_len {n : Int} (h0 : 0 ≤ n) (h1 : n ≤ 65535) : (Lib.itoa n).length ≤ 5 := by
  obtain ⟨u, rfl⟩ : ∃ u : Nat, n = u := ⟨n.toNat, by omega⟩
  rw [itoa_pos]
  exact dd_length 4 u (by omega)

/-- The kids' nodes and the node make up its part. -/
theorem kids_sum {ts : List Nod} {st : List Nat} (hR : Right ts st) {i : Nat} (hi : i < ts.length) :
    ((List.range (arN (ts.getD i noNod).kind)).map (fun j => 17 * ((([(ts.getD i noNod).a, (ts.getD i noNod).b, (ts.getD i noNod).c].getD j 0).toNat) + 1 - st.getD (([(ts.getD i noNod).a, (ts.getD i noNod).b, (ts.getD i noNod).c].getD j 0).toNat) 0))).sum = 17 * (i - st.getD i 0) := by
  obtain ⟨_, hA⟩ := hR
  obtain ⟨hF, hs, h0, h1, h2, h3⟩ := hA i hi
  have h3le := arN_le (ts.getD i noNod).kind
  have : arN (ts.getD i noNod).kind = 0 ∨ arN (ts.getD i noNod).kind = 1 ∨ arN (ts.getD i noNod).kind = 2 ∨ arN (ts.getD i noNod).kind = 3 := by omega
  rcases this with e | e | e | e
  · rw [e]
    have := h0 e
    show 0 = _
    omega
  · obtain ⟨a, ea, ha, hsa⟩ := h1 e
    have hsa' := (hA a (by omega)).2.1
    rw [e]
    show 17 * ((ts.getD i noNod).a.toNat + 1 - st.getD (ts.getD i noNod).a.toNat 0) + 0 = _
    rw [ea, Int.toNat_natCast]
    omega
  · obtain ⟨a, b, ea, eb, hb, hab, hsa⟩ := h2 e
    have hsb := (hA b (by omega)).2.1
    have hsa' := (hA a (by omega)).2.1
    rw [e]
    show 17 * ((ts.getD i noNod).a.toNat + 1 - st.getD (ts.getD i noNod).a.toNat 0) + (17 * ((ts.getD i noNod).b.toNat + 1 - st.getD (ts.getD i noNod).b.toNat 0) + 0) = _
    rw [ea, eb, Int.toNat_natCast, Int.toNat_natCast]
    omega
  · obtain ⟨a, b, c, ea, eb, ec, hc, hbc, hab, hsa⟩ := h3 e
    have hsc := (hA c (by omega)).2.1
    have hsb := (hA b (by omega)).2.1
    have hsa' := (hA a (by omega)).2.1
    rw [e]
    show 17 * ((ts.getD i noNod).a.toNat + 1 - st.getD (ts.getD i noNod).a.toNat 0) + (17 * ((ts.getD i noNod).b.toNat + 1 - st.getD (ts.getD i noNod).b.toNat 0) + (17 * ((ts.getD i noNod).c.toNat + 1 - st.getD (ts.getD i noNod).c.toNat 0) + 0)) = _
    rw [ea, eb, ec, Int.toNat_natCast, Int.toNat_natCast, Int.toNat_natCast]
    omega

/-- How many bytes a text has at most: seventeen a node of its part, less nine. -/
theorem textN_len {ts : List Nod} {st : List Nat} (hR : Right ts st) : ∀ (f i : Nat), i < f → i < ts.length → (textN ts f i).length + 9 ≤ 17 * (i + 1 - st.getD i 0)
  | 0, i, h, _ => by omega
  | f + 1, i, h, hi => by
    obtain ⟨hF, hs, _⟩ := hR.2 i hi
    have hsum := kids_sum hR hi
    have hkid := fun {j : Nat} (hj : j < arN (ts.getD i noNod).kind) => kid_ahead hR hi hj
    show (nodeT (textN ts f) (ts.getD i noNod)).length + 9 ≤ _
    have hsm := fields_small (decide_eq_true hF)
    unfold nodeT
    by_cases h1 : (ts.getD i noNod).kind = 1
    · rw [if_pos h1]
      have := small_len hsm.1
      omega
    by_cases h2 : (ts.getD i noNod).kind = 2
    · rw [if_neg h1, if_pos h2]
      have hn := hF.2.2.2.1 h2
      have := itoa_len hn.1 hn.2
      omega
    by_cases h12 : (ts.getD i noNod).kind = 12
    · rw [if_neg h1, if_neg h2, if_pos h12]
      show 3 + 9 ≤ _
      omega
    rw [if_neg h1, if_neg h2, if_neg h12]
    have hfm := fields_form hF h1 h2 h12
    have har := asked_ar hfm
    unfold asked at har
    have hroom := form_room hfm
    have hlen := argT_len (rec := textN ts f) (b := fun j => 17 * ((([(ts.getD i noNod).a, (ts.getD i noNod).b, (ts.getD i noNod).c].getD j 0).toNat) + 1 - st.getD (([(ts.getD i noNod).a, (ts.getD i noNod).b, (ts.getD i noNod).c].getD j 0).toNat) 0)) (goesOn (ts.getD i noNod).kind) [(ts.getD i noNod).name, (ts.getD i noNod).other] [(ts.getD i noNod).a, (ts.getD i noNod).b, (ts.getD i noNod).c]
      (by intro s hs'; simp at hs'; rcases hs' with rfl | rfl; exact hsm.1; exact hsm.2)
      (by
        intro j hj
        rw [har] at hj
        obtain ⟨q, hq, hlt, hst⟩ := hkid hj
        rw [hq]
        have := textN_len hR f q (by omega) (by omega)
        simpa using this)
    rw [har, hsum] at hlen
    unfold formT
    simp only [List.length_append, List.length_cons, List.length_nil]
    omega
end

section
open Go.ChangeShapes Go.WideShapes Go.ChangeAt Go.RowKit

theorem key_in (x lo hi : Int) (w : World) : Calls Tryz.prog 21 #[.int .i64 x, .int .i64 lo, .int .i64 hi] w fun e w' => e = .returned (.bool (decide (lo ≤ x) && decide (x ≤ hi))) ∧ w' = w := by
  by_cases h : lo ≤ x
  · have hv : (decide (lo ≤ x) && decide (x ≤ hi)) = decide (x ≤ hi) := by simp [h]
    rw [hv]
    go_enter Tryz.func21, Tryz.ntmps21
    go_wp2
    go_ret
    exact ⟨rfl, rfl⟩
  · have hv : (decide (lo ≤ x) && decide (x ≤ hi)) = false := by simp [h]
    rw [hv]
    go_enter Tryz.func21, Tryz.ntmps21
    go_wp2
    go_ret
    exact ⟨rfl, rfl⟩

set_option maxHeartbeats 2000000 in
theorem spec_keyOf (k a b c n : Int) (s o : ByteArray) (w : World) : Calls Tryz.prog 108 #[.agg #[.int .i64 k, .int .i64 a, .int .i64 b, .int .i64 c, .int .i64 n, .string s, .string o]] w fun e w' => e = .returned (.string (keyN k n)) ∧ Below w.heap.size w w' := by
  have HB : Hid (Below w.heap.size w (w.alloc (.cells #[.int .i64 k, .int .i64 a, .int .i64 b, .int .i64 c, .int .i64 n, .string s, .string o] 58))) := (Below.refl _ w).alloc (Nat.le_refl _) _
  by_cases h8 : k = 8
  · subst h8
    by_cases m0 : n = 0
    · subst m0
      go_enter Tryz.func108, Tryz.ntmps108
      go_wp2_with fail
      refine (key_in 0 0 3 _).mono ?_
      rintro e w1 ⟨rfl, rfl⟩
      go_wp2
      go_ret
      exact ⟨rfl, HB.out.alloc (by simp) _⟩
    by_cases m1 : n = 1
    · subst m1
      go_enter Tryz.func108, Tryz.ntmps108
      go_wp2_with fail
      refine (key_in 1 0 3 _).mono ?_
      rintro e w1 ⟨rfl, rfl⟩
      go_wp2
      go_ret
      exact ⟨rfl, HB.out.alloc (by simp) _⟩
    by_cases m2 : n = 2
    · subst m2
      go_enter Tryz.func108, Tryz.ntmps108
      go_wp2_with fail
      refine (key_in 2 0 3 _).mono ?_
      rintro e w1 ⟨rfl, rfl⟩
      go_wp2
      go_ret
      exact ⟨rfl, HB.out.alloc (by simp) _⟩
    by_cases m3 : n = 3
    · subst m3
      go_enter Tryz.func108, Tryz.ntmps108
      go_wp2_with fail
      refine (key_in 3 0 3 _).mono ?_
      rintro e w1 ⟨rfl, rfl⟩
      go_wp2
      go_ret
      exact ⟨rfl, HB.out.alloc (by simp) _⟩
    have hv : Hid (keyN 8 n = ⟨#[]⟩) := keyN_prim_no (by omega)
    have hd : (decide (0 ≤ n) && decide (n ≤ 3)) = false := by simp; omega
    clear m0 m1 m2 m3
    go_enter Tryz.func108, Tryz.ntmps108
    go_wp2_with fail
    refine (key_in n 0 3 _).mono ?_
    rintro e w1 ⟨rfl, rfl⟩
    rw [hd]
    clear hd
    go_wp2
    go_ret
    exact ⟨by rw [hv.out]; rfl, HB.out⟩
  by_cases h3 : k = 3
  · subst h3
    clear h8
    go_enter Tryz.func108, Tryz.ntmps108
    go_wp2_with fail
    refine (key_in 3 3 19 _).mono ?_
    rintro e w1 ⟨rfl, rfl⟩
    go_wp2
    go_ret
    exact ⟨rfl, HB.out.alloc (by simp) _⟩
  by_cases h4 : k = 4
  · subst h4
    clear h8
    go_enter Tryz.func108, Tryz.ntmps108
    go_wp2_with fail
    refine (key_in 4 3 19 _).mono ?_
    rintro e w1 ⟨rfl, rfl⟩
    go_wp2
    go_ret
    exact ⟨rfl, HB.out.alloc (by simp) _⟩
  by_cases h5 : k = 5
  · subst h5
    clear h8
    go_enter Tryz.func108, Tryz.ntmps108
    go_wp2_with fail
    refine (key_in 5 3 19 _).mono ?_
    rintro e w1 ⟨rfl, rfl⟩
    go_wp2
    go_ret
    exact ⟨rfl, HB.out.alloc (by simp) _⟩
  by_cases h6 : k = 6
  · subst h6
    clear h8
    go_enter Tryz.func108, Tryz.ntmps108
    go_wp2_with fail
    refine (key_in 6 3 19 _).mono ?_
    rintro e w1 ⟨rfl, rfl⟩
    go_wp2
    go_ret
    exact ⟨rfl, HB.out.alloc (by simp) _⟩
  by_cases h7 : k = 7
  · subst h7
    clear h8
    go_enter Tryz.func108, Tryz.ntmps108
    go_wp2_with fail
    refine (key_in 7 3 19 _).mono ?_
    rintro e w1 ⟨rfl, rfl⟩
    go_wp2
    go_ret
    exact ⟨rfl, HB.out.alloc (by simp) _⟩
  by_cases h9 : k = 9
  · subst h9
    clear h8
    go_enter Tryz.func108, Tryz.ntmps108
    go_wp2_with fail
    refine (key_in 9 3 19 _).mono ?_
    rintro e w1 ⟨rfl, rfl⟩
    go_wp2
    go_ret
    exact ⟨rfl, HB.out.alloc (by simp) _⟩
  by_cases h10 : k = 10
  · subst h10
    clear h8
    go_enter Tryz.func108, Tryz.ntmps108
    go_wp2_with fail
    refine (key_in 10 3 19 _).mono ?_
    rintro e w1 ⟨rfl, rfl⟩
    go_wp2
    go_ret
    exact ⟨rfl, HB.out.alloc (by simp) _⟩
  by_cases h11 : k = 11
  · subst h11
    clear h8
    go_enter Tryz.func108, Tryz.ntmps108
    go_wp2_with fail
    refine (key_in 11 3 19 _).mono ?_
    rintro e w1 ⟨rfl, rfl⟩
    go_wp2
    go_ret
    exact ⟨rfl, HB.out.alloc (by simp) _⟩
  by_cases h12 : k = 12
  · subst h12
    clear h8
    go_enter Tryz.func108, Tryz.ntmps108
    go_wp2_with fail
    refine (key_in 12 3 19 _).mono ?_
    rintro e w1 ⟨rfl, rfl⟩
    go_wp2
    go_ret
    exact ⟨rfl, HB.out.alloc (by simp) _⟩
  by_cases h13 : k = 13
  · subst h13
    clear h8
    go_enter Tryz.func108, Tryz.ntmps108
    go_wp2_with fail
    refine (key_in 13 3 19 _).mono ?_
    rintro e w1 ⟨rfl, rfl⟩
    go_wp2
    go_ret
    exact ⟨rfl, HB.out.alloc (by simp) _⟩
  by_cases h14 : k = 14
  · subst h14
    clear h8
    go_enter Tryz.func108, Tryz.ntmps108
    go_wp2_with fail
    refine (key_in 14 3 19 _).mono ?_
    rintro e w1 ⟨rfl, rfl⟩
    go_wp2
    go_ret
    exact ⟨rfl, HB.out.alloc (by simp) _⟩
  by_cases h15 : k = 15
  · subst h15
    clear h8
    go_enter Tryz.func108, Tryz.ntmps108
    go_wp2_with fail
    refine (key_in 15 3 19 _).mono ?_
    rintro e w1 ⟨rfl, rfl⟩
    go_wp2
    go_ret
    exact ⟨rfl, HB.out.alloc (by simp) _⟩
  by_cases h16 : k = 16
  · subst h16
    clear h8
    go_enter Tryz.func108, Tryz.ntmps108
    go_wp2_with fail
    refine (key_in 16 3 19 _).mono ?_
    rintro e w1 ⟨rfl, rfl⟩
    go_wp2
    go_ret
    exact ⟨rfl, HB.out.alloc (by simp) _⟩
  by_cases h17 : k = 17
  · subst h17
    clear h8
    go_enter Tryz.func108, Tryz.ntmps108
    go_wp2_with fail
    refine (key_in 17 3 19 _).mono ?_
    rintro e w1 ⟨rfl, rfl⟩
    go_wp2
    go_ret
    exact ⟨rfl, HB.out.alloc (by simp) _⟩
  by_cases h18 : k = 18
  · subst h18
    clear h8
    go_enter Tryz.func108, Tryz.ntmps108
    go_wp2_with fail
    refine (key_in 18 3 19 _).mono ?_
    rintro e w1 ⟨rfl, rfl⟩
    go_wp2
    go_ret
    exact ⟨rfl, HB.out.alloc (by simp) _⟩
  by_cases h19 : k = 19
  · subst h19
    clear h8
    go_enter Tryz.func108, Tryz.ntmps108
    go_wp2_with fail
    refine (key_in 19 3 19 _).mono ?_
    rintro e w1 ⟨rfl, rfl⟩
    go_wp2
    go_ret
    exact ⟨rfl, HB.out.alloc (by simp) _⟩
  have hv : Hid (keyN k n = ⟨#[]⟩) := keyN_no n (by omega)
  have hd : (decide (3 ≤ k) && decide (k ≤ 19)) = false := by simp; omega
  have g8 : (k == 8) = false := by simpa using h8
  clear h3 h4 h5 h6 h7 h8 h9 h10 h11 h12 h13 h14 h15 h16 h17 h18 h19
  go_enter Tryz.func108, Tryz.ntmps108
  go_wp2_with fail
  refine (key_in k 3 19 _).mono ?_
  rintro e w1 ⟨rfl, rfl⟩
  rw [hd]
  clear hd
  go_wp2
  go_ret
  exact ⟨by rw [hv.out]; rfl, HB.out⟩
end

section
open Go.ChangeShapes Go.WideShapes Go.ChangeAt Go.RowKit

/-- What is asked of the text of node i. -/
def ShowAt (ts : List Nod) (g cap f i : Nat) : Prop := ∀ w : World, NodAt w g ts →
  Calls Tryz.prog 88 #[.slice (some ⟨g, 0, none⟩) ts.length cap, .int .i64 i] w fun e w' => e = .returned (.string ⟨(textN ts f i).toArray⟩) ∧ Below w.heap.size w w'

theorem cells7_at {w : World} {g : Nat} {t : Nod} {e : TypeId} {z : Nat × Nat} (h : w.heap[g]? = some (.cells (nodCells t).toArray e z)) :
    w.cell? ⟨g, 0, none⟩ = some (.int .i64 t.kind) ∧ w.cell? ⟨g, 1, none⟩ = some (.int .i64 t.a) ∧ w.cell? ⟨g, 2, none⟩ = some (.int .i64 t.b) ∧ w.cell? ⟨g, 3, none⟩ = some (.int .i64 t.c) ∧ w.cell? ⟨g, 4, none⟩ = some (.int .i64 t.n) ∧ w.cell? ⟨g, 5, none⟩ = some (.string t.name) ∧ w.cell? ⟨g, 6, none⟩ = some (.string t.other) := by
  refine ⟨?_, ?_, ?_, ?_, ?_, ?_, ?_⟩ <;> (rw [cell_of_row _ _ _ _ _ _ h]; rfl)

theorem cells2_at {w : World} {g : Nat} {a b : ByteArray} {e : TypeId} {z : Nat × Nat} (h : w.heap[g]? = some (.cells #[.string a, .string b] e z)) : w.cell? ⟨g, 0, none⟩ = some (.string a) ∧ w.cell? ⟨g, 1, none⟩ = some (.string b) := by
  refine ⟨?_, ?_⟩ <;> (rw [cell_of_row _ _ _ _ _ _ h]; rfl)

theorem cells3_at {w : World} {g : Nat} {a b c : Int} {e : TypeId} {z : Nat × Nat} (h : w.heap[g]? = some (.cells #[.int .i64 a, .int .i64 b, .int .i64 c] e z)) : w.cell? ⟨g, 0, none⟩ = some (.int .i64 a) ∧ w.cell? ⟨g, 1, none⟩ = some (.int .i64 b) ∧ w.cell? ⟨g, 2, none⟩ = some (.int .i64 c) := by
  refine ⟨?_, ?_, ?_⟩ <;> (rw [cell_of_row _ _ _ _ _ _ h]; rfl)

theorem show_leaf {ts : List Nod} {g cap f i : Nat} (hi : i < ts.length) (hl : ts.length ≤ 1000) (h : (ts.getD i noNod).kind = 1 ∨ ((ts.getD i noNod).kind = 2 ∧ 0 ≤ (ts.getD i noNod).n ∧ (ts.getD i noNod).n ≤ 65535) ∨ (ts.getD i noNod).kind = 12) : ShowAt ts g cap (f + 1) i := by
  intro w hA
  have t := hA i hi
  have HX : Hid (textN ts (f + 1) i = nodeT (textN ts f) (ts.getD i noNod)) := rfl
  obtain ⟨⟨x0, x1, x2, x3, x4, x5, x6⟩, hx⟩ : ∃ y, ts.getD i noNod = y := ⟨_, rfl⟩
  rw [hx] at t h HX
  simp only at h
  have q0 : w.cell? ⟨g, i * 7, none⟩ = some (.int .i64 x0) := t.c0
  have q1 : w.cell? ⟨g, i * 7 + 1, none⟩ = some (.int .i64 x1) := t.c1
  have q2 : w.cell? ⟨g, i * 7 + 2, none⟩ = some (.int .i64 x2) := t.c2
  have q3 : w.cell? ⟨g, i * 7 + 3, none⟩ = some (.int .i64 x3) := t.c3
  have q4 : w.cell? ⟨g, i * 7 + 4, none⟩ = some (.int .i64 x4) := t.c4
  have q5 : w.cell? ⟨g, i * 7 + 5, none⟩ = some (.string x5) := t.c5
  have q6 : w.cell? ⟨g, i * 7 + 6, none⟩ = some (.string x6) := t.c6
  have hi' : (i : Int) < ts.length := by omega
  clear t hx hA
  have HB : Hid (Below w.heap.size w (w.alloc (.cells (nodCells ⟨x0, x1, x2, x3, x4, x5, x6⟩).toArray 58))) := (Below.refl _ w).alloc (Nat.le_refl _) _
  rcases h with rfl | ⟨rfl, h0, h1⟩ | rfl
  · go_enter Tryz.func88, Tryz.ntmps88
    go_wp2
    go_ret
    exact ⟨by rw [HX.out]; rfl, HB.out⟩
  · go_enter Tryz.func88, Tryz.ntmps88
    go_wp2_with fail
    refine (spec_dec x4 (by omega) (by omega) _).mono ?_
    rintro e w1 ⟨rfl, b1⟩
    have B1 : Hid (Below w.heap.size w w1) := HB.out.trans (b1.mono (by simp))
    clear b1
    go_wp2
    go_ret
    exact ⟨by rw [HX.out]; rfl, B1.out⟩
  · go_enter Tryz.func88, Tryz.ntmps88
    go_wp2
    go_ret
    exact ⟨by rw [HX.out]; rfl, HB.out⟩

theorem spec_form_key {k n : Int} (h : IsForm k n) (w : World) :
    Calls Tryz.prog 55 #[.string (keyN k n)] w fun e w' => (∃ m : Int, e = .returned (.tuple #[.int .i64 k, .int .i64 m, .string ⟨(goesOn k).toArray⟩])) ∧ w' = w := by
  refine (spec_form (keyN k n) w).mono ?_
  rintro e w' ⟨rfl, rfl⟩
  have := form_key h
  exact ⟨⟨_, by rw [this]⟩, rfl⟩

/-- While the form goes on: what is written, what is left. -/
def LoopS (rec : Nat → List UInt8) (t : Nod) (gn gk : Nat) (k : Nat) (s ns ks : Value) : Prop :=
  ∃ (S : ByteArray) (don : List UInt8) (x y ox oy : Nat), s = .string S ∧ S.data.toList = [40] ++ (keyN t.kind t.n).data.toList ++ don ∧ ns = .slice (some ⟨gn, ox, none⟩) (2 - x) (2 - x) ∧ ks = .slice (some ⟨gk, oy, none⟩) (arN t.kind - y) (3 - y) ∧ (x < 2 → ox = x) ∧ (y < 3 → oy = y)
    ∧ don ++ argT rec ((goesOn t.kind).drop k) ([t.name, t.other].drop x) ([t.a, t.b, t.c].drop y) = argT rec (goesOn t.kind) [t.name, t.other] [t.a, t.b, t.c]
    ∧ (((goesOn t.kind).drop k).filter (· = 110)).length + x ≤ 2 ∧ (((goesOn t.kind).drop k).filter (· ≠ 110)).length + y ≤ arN t.kind

theorem goes_two_names (k : Int) : ((goesOn k).filter (· = 110)).length ≤ 2 := by
  unfold goesOn
  by_cases h3 : k = 3
  · rw [if_pos h3]; decide
  rw [if_neg h3]
  by_cases h5 : k = 5
  · rw [if_pos h5]; decide
  rw [if_neg h5]
  by_cases h6 : k = 6
  · rw [if_pos h6]; decide
  rw [if_neg h6]
  by_cases h7 : k = 7
  · rw [if_pos h7]; decide
  rw [if_neg h7]
  by_cases h14 : k = 14
  · rw [if_pos h14]; decide
  rw [if_neg h14]
  by_cases h19 : k = 19
  · rw [if_pos h19]; decide
  rw [if_neg h19]
  by_cases h10 : k = 10 ∨ k = 11 ∨ k = 15 ∨ k = 16 ∨ k = 18
  · rw [if_pos h10]; decide
  rw [if_neg h10]
  decide

theorem nodeT_form {rec : Nat → List UInt8} {t : Nod} (h : IsForm t.kind t.n) : nodeT rec t = formT rec t := by
  unfold nodeT
  rw [if_neg (by have := h.1; omega), if_neg (by have := h.1; omega), if_neg h.2.2.1]

theorem goes_len (k : Int) : (goesOn k).length ≤ 5 := by
  unfold goesOn
  by_cases h3 : k = 3
  · rw [if_pos h3]; decide
  rw [if_neg h3]
  by_cases h5 : k = 5
  · rw [if_pos h5]; decide
  rw [if_neg h5]
  by_cases h6 : k = 6
  · rw [if_pos h6]; decide
  rw [if_neg h6]
  by_cases h7 : k = 7
  · rw [if_pos h7]; decide
  rw [if_neg h7]
  by_cases h14 : k = 14
  · rw [if_pos h14]; decide
  rw [if_neg h14]
  by_cases h19 : k = 19
  · rw [if_pos h19]; decide
  rw [if_neg h19]
  by_cases h10 : k = 10 ∨ k = 11 ∨ k = 15 ∨ k = 16 ∨ k = 18
  · rw [if_pos h10]; decide
  rw [if_neg h10]
  decide

theorem loop_start (rec : Nat → List UInt8) (t : Nod) (gn gk : Nat) (h : IsForm t.kind t.n) : LoopS rec t gn gk 0 (.string (⟨#[40]⟩ ++ keyN t.kind t.n)) (.slice (some ⟨gn, 0, none⟩) 2 2) (.slice (some ⟨gk, 0, none⟩) (arN t.kind) 3) := by
  refine ⟨_, [], 0, 0, 0, 0, rfl, ?_, rfl, rfl, fun _ => rfl, fun _ => rfl, rfl, ?_, ?_⟩
  · rw [ByteArray.data_append, Array.toList_append]
    simp
  · have := goes_two_names t.kind
    simpa using this
  · have := asked_ar h
    unfold asked at this
    show ((goesOn t.kind).filter (· ≠ 110)).length + 0 ≤ _
    omega

theorem bytes_join (A B : ByteArray) : (A ++ B).data.toList = A.data.toList ++ B.data.toList := by
  rw [ByteArray.data_append, Array.toList_append]

theorem loop_name {rec : Nat → List UInt8} {t : Nod} {gn gk k ox oy : Nat} {S : ByteArray} {don : List UInt8} {x y : Nat} (hox : x + 1 < 2 → ox = x + 1) (hoy : y < 3 → oy = y) {c : UInt8} {cs : List UInt8} (hc : (goesOn t.kind).drop k = c :: cs) (h110 : c = 110)
    (hS : S.data.toList = [40] ++ (keyN t.kind t.n).data.toList ++ don) (hd : don ++ argT rec ((goesOn t.kind).drop k) ([t.name, t.other].drop x) ([t.a, t.b, t.c].drop y) = argT rec (goesOn t.kind) [t.name, t.other] [t.a, t.b, t.c])
    (hn : (((goesOn t.kind).drop k).filter (· = 110)).length + x ≤ 2) (hk : (((goesOn t.kind).drop k).filter (· ≠ 110)).length + y ≤ arN t.kind) :
    x < 2 ∧ LoopS rec t gn gk (k + 1) (.string (S ++ ⟨#[32]⟩ ++ [t.name, t.other].getD x ByteArray.empty)) (.slice (some ⟨gn, ox, none⟩) (2 - (x + 1)) (2 - (x + 1))) (.slice (some ⟨gk, oy, none⟩) (arN t.kind - y) (3 - y)) := by
  have hcs : (goesOn t.kind).drop (k + 1) = cs := by rw [← List.drop_drop, hc]; rfl
  rw [hc] at hd hn hk
  have e1 : ((c :: cs).filter (· = 110)).length = (cs.filter (· = 110)).length + 1 := by simp [h110]
  have e2 : ((c :: cs).filter (· ≠ 110)).length = (cs.filter (· ≠ 110)).length := by simp [h110]
  rw [e1] at hn
  rw [e2] at hk
  refine ⟨by omega, _, don ++ [32] ++ ([t.name, t.other].getD x ByteArray.empty).data.toList, x + 1, y, ox, oy, rfl, ?_, rfl, rfl, hox, hoy, ?_, by rw [hcs]; omega, by rw [hcs]; exact hk⟩
  · rw [bytes_join, bytes_join, hS]
    simp
  · rw [hcs, ← hd]
    have hx : x = 0 ∨ x = 1 := by omega
    rw [argT, if_pos h110]
    rcases hx with rfl | rfl <;> simp

theorem loop_kid {rec : Nat → List UInt8} {t : Nod} {gn gk k ox oy : Nat} {S : ByteArray} {don : List UInt8} {x y : Nat} (hox : x < 2 → ox = x) (hoy : y + 1 < 3 → oy = y + 1) {c : UInt8} {cs : List UInt8} (hc : (goesOn t.kind).drop k = c :: cs) (h110 : c ≠ 110)
    (hS : S.data.toList = [40] ++ (keyN t.kind t.n).data.toList ++ don) (hd : don ++ argT rec ((goesOn t.kind).drop k) ([t.name, t.other].drop x) ([t.a, t.b, t.c].drop y) = argT rec (goesOn t.kind) [t.name, t.other] [t.a, t.b, t.c])
    (hn : (((goesOn t.kind).drop k).filter (· = 110)).length + x ≤ 2) (hk : (((goesOn t.kind).drop k).filter (· ≠ 110)).length + y ≤ arN t.kind) :
    y < arN t.kind ∧ LoopS rec t gn gk (k + 1) (.string (S ++ ⟨#[32]⟩ ++ ⟨(rec ([t.a, t.b, t.c].getD y 0).toNat).toArray⟩)) (.slice (some ⟨gn, ox, none⟩) (2 - x) (2 - x)) (.slice (some ⟨gk, oy, none⟩) (arN t.kind - (y + 1)) (3 - (y + 1))) := by
  have hcs : (goesOn t.kind).drop (k + 1) = cs := by rw [← List.drop_drop, hc]; rfl
  have har := arN_le t.kind
  rw [hc] at hd hn hk
  have e1 : ((c :: cs).filter (· = 110)).length = (cs.filter (· = 110)).length := by simp [h110]
  have e2 : ((c :: cs).filter (· ≠ 110)).length = (cs.filter (· ≠ 110)).length + 1 := by simp [h110]
  rw [e1] at hn
  rw [e2] at hk
  refine ⟨by omega, _, don ++ [32] ++ rec ([t.a, t.b, t.c].getD y 0).toNat, x, y + 1, ox, oy, rfl, ?_, rfl, rfl, hox, hoy, ?_, by rw [hcs]; exact hn, by rw [hcs]; omega⟩
  · rw [bytes_join, bytes_join, hS]
    simp
  · rw [hcs, ← hd]
    have hy : y = 0 ∨ y = 1 ∨ y = 2 := by omega
    rw [argT, if_neg h110]
    rcases hy with rfl | rfl | rfl <;> simp

theorem loop_end {rec : Nat → List UInt8} {t : Nod} {k : Nat} {S : ByteArray} {don : List UInt8} {x y : Nat} (hk : (goesOn t.kind).length ≤ k) (hS : S.data.toList = [40] ++ (keyN t.kind t.n).data.toList ++ don)
    (hd : don ++ argT rec ((goesOn t.kind).drop k) ([t.name, t.other].drop x) ([t.a, t.b, t.c].drop y) = argT rec (goesOn t.kind) [t.name, t.other] [t.a, t.b, t.c]) : S ++ ⟨#[41]⟩ = ⟨(formT rec t).toArray⟩ := by
  rw [List.drop_eq_nil_of_le hk, argT, List.append_nil] at hd
  apply data_ext
  rw [bytes_join, hS, hd]
  simp [formT]

theorem loop_len {rec : Nat → List UInt8} {t : Nod} {k : Nat} {S : ByteArray} {don : List UInt8} {x y : Nat} (hS : S.data.toList = [40] ++ (keyN t.kind t.n).data.toList ++ don)
    (hd : don ++ argT rec ((goesOn t.kind).drop k) ([t.name, t.other].drop x) ([t.a, t.b, t.c].drop y) = argT rec (goesOn t.kind) [t.name, t.other] [t.a, t.b, t.c]) : S.size ≤ (formT rec t).length := by
  have h1 : S.data.toList.length = S.size := by rw [Array.length_toList]; rfl
  rw [← h1, hS]
  unfold formT
  rw [← hd]
  simp only [List.length_append]
  omega

set_option maxHeartbeats 4000000 in
set_option maxRecDepth 20000 in
theorem show_form {ts : List Nod} {g cap f i : Nat} (hi : i < ts.length) (hl : ts.length ≤ 1000) (h : IsForm (ts.getD i noNod).kind (ts.getD i noNod).n) (hlen : (formT (textN ts f) (ts.getD i noNod)).length ≤ 100000) (IH : ∀ j, j < arN (ts.getD i noNod).kind → ∃ q : Nat, [(ts.getD i noNod).a, (ts.getD i noNod).b, (ts.getD i noNod).c].getD j 0 = q ∧ ShowAt ts g cap f q) : ShowAt ts g cap (f + 1) i := by
  intro w hA
  have t := hA i hi
  have HX : Hid (textN ts (f + 1) i = nodeT (textN ts f) (ts.getD i noNod)) := rfl
  obtain ⟨⟨x0, x1, x2, x3, x4, x5, x6⟩, hx⟩ : ∃ y, ts.getD i noNod = y := ⟨_, rfl⟩
  rw [hx] at t h HX IH hlen
  simp only at h IH
  have q0 : w.cell? ⟨g, i * 7, none⟩ = some (.int .i64 x0) := t.c0
  have q1 : w.cell? ⟨g, i * 7 + 1, none⟩ = some (.int .i64 x1) := t.c1
  have q2 : w.cell? ⟨g, i * 7 + 2, none⟩ = some (.int .i64 x2) := t.c2
  have q3 : w.cell? ⟨g, i * 7 + 3, none⟩ = some (.int .i64 x3) := t.c3
  have q4 : w.cell? ⟨g, i * 7 + 4, none⟩ = some (.int .i64 x4) := t.c4
  have q5 : w.cell? ⟨g, i * 7 + 5, none⟩ = some (.string x5) := t.c5
  have q6 : w.cell? ⟨g, i * 7 + 6, none⟩ = some (.string x6) := t.c6
  have hi' : (i : Int) < ts.length := by omega
  have HI : Hid (∀ j, j < arN x0 → ∃ q : Nat, [x1, x2, x3].getD j 0 = q ∧ ShowAt ts g cap f q) := IH
  have HF : Hid (IsForm x0 x4) := h
  have HA : Hid (NodAt w g ts) := hA
  have hg : g < w.heap.size := nod_lt q0
  have g1 : (x0 == 1) = false := by simp; have := h.1; omega
  have g2 : (x0 == 2) = false := by simp; have := h.1; omega
  have g12 : (x0 == 12) = false := by simp; exact h.2.2.1
  clear t hx hA IH h
  obtain ⟨wa, hwa⟩ : ∃ wa, w.alloc (.cells #[.int .i64 x0, .int .i64 x1, .int .i64 x2, .int .i64 x3, .int .i64 x4, .string x5, .string x6] 58) = wa := ⟨_, rfl⟩
  have HWA : Hid (w.alloc (.cells #[.int .i64 x0, .int .i64 x1, .int .i64 x2, .int .i64 x3, .int .i64 x4, .string x5, .string x6] 58) = wa) := hwa
  have Rf : Hid (wa.heap[w.heap.size]? = some (.cells (nodCells ⟨x0, x1, x2, x3, x4, x5, x6⟩).toArray 58 (0, 0))) := by rw [← hwa]; exact (MapKept.heap_alloc w _).1
  have sa : wa.heap.size = w.heap.size + 1 := by rw [← hwa]; simp
  have BA : Hid (Below w.heap.size w wa) := by rw [← hwa]; exact (Below.refl _ w).alloc (Nat.le_refl _) _
  clear hwa
  have CF : Hid (∀ w : World, Calls Tryz.prog 55 #[.string (keyN x0 x4)] w fun e w' => (∃ m : Int, e = .returned (.tuple #[.int .i64 x0, .int .i64 m, .string ⟨(goesOn x0).toArray⟩])) ∧ w' = w) := fun w => spec_form_key HF.out w
  have CK : Hid (∀ w : World, Calls Tryz.prog 108 #[.agg #[.int .i64 x0, .int .i64 x1, .int .i64 x2, .int .i64 x3, .int .i64 x4, .string x5, .string x6]] w fun e w' => e = .returned (.string (keyN x0 x4)) ∧ Below w.heap.size w w') := fun w => spec_keyOf x0 x1 x2 x3 x4 x5 x6 w
  have HL0 : Hid (∀ gn gk, LoopS (textN ts f) ⟨x0, x1, x2, x3, x4, x5, x6⟩ gn gk 0 (.string (⟨#[40]⟩ ++ keyN x0 x4)) (.slice (some ⟨gn, 0, none⟩) 2 2) (.slice (some ⟨gk, 0, none⟩) (arN x0) 3)) := fun gn gk => loop_start _ ⟨x0, x1, x2, x3, x4, x5, x6⟩ gn gk HF.out
  obtain ⟨KY, hKY⟩ : ∃ KY, keyN x0 x4 = KY := ⟨_, rfl⟩
  have HKY : Hid (keyN x0 x4 = KY) := hKY
  have hks : KY.size ≤ 5 := by rw [← hKY]; have := keyN_len x0 x4; rw [Array.length_toList] at this; exact this
  rw [hKY] at CF CK HL0
  clear hKY
  go_enter Tryz.func88, Tryz.ntmps88
  go_wp2_with fail
  rw [HWA.out]
  refine (CK.out wa).mono ?_
  rintro e w1 ⟨rfl, b1⟩
  have s1 := b1.size
  have r1 := (b1.block _ (by omega)).trans Rf.out
  have R1 : Hid (_) := r1
  have B1 : Hid (Below w.heap.size w w1) := BA.out.trans (b1.mono (by omega))
  clear b1 Rf BA HWA q0 q1 q2 q3 q4 q5 q6
  obtain ⟨q0, q1, q2, q3, q4, q5, q6⟩ := cells7_at r1
  simp only at q0 q1 q2 q3 q4 q5 q6
  clear r1
  go_wp2_with fail
  refine (CF.out w1).mono ?_
  rintro e w1 ⟨⟨m1, rfl⟩, rfl⟩
  obtain ⟨FB, hFB⟩ : ∃ FB : ByteArray, ⟨(goesOn x0).toArray⟩ = FB := ⟨_, rfl⟩
  rw [hFB]
  go_wp2_with fail
  refine (CK.out _).mono ?_
  rintro e w2 ⟨rfl, b2⟩
  have s2 := b2.size
  have r2 := (b2.block _ (by omega)).trans R1.out
  have R2 : Hid (_) := r2
  have B2 : Hid (Below w.heap.size w w2) := B1.out.trans (b2.mono (by omega))
  clear b2 q0 q1 q2 q3 q4 q5 q6 R1 B1
  obtain ⟨q0, q1, q2, q3, q4, q5, q6⟩ := cells7_at r2
  simp only at q0 q1 q2 q3 q4 q5 q6
  have hz1 : (⟨#[40]⟩ : ByteArray).size = 1 := rfl
  have R3 : Hid ((w2.alloc (.cells #[.string x5, .string x6] 9)).heap[w.heap.size]? = some (.cells (nodCells ⟨x0, x1, x2, x3, x4, x5, x6⟩).toArray 58 (0, 0))) := (((Below.refl w2.heap.size w2).alloc (Nat.le_refl _) _).block _ (by omega)).trans r2
  obtain ⟨p0, p1, p2, p3, p4, p5, p6⟩ := cells7_at R3.out
  simp only at p0 p1 p2 p3 p4 p5 p6
  have B3 : Hid (Below w.heap.size w (w2.alloc (.cells #[.string x5, .string x6] 9))) := B2.out.alloc (by omega) _
  have N3 : Hid ((w2.alloc (.cells #[.string x5, .string x6] 9)).heap[w2.heap.size]? = some (.cells #[.string x5, .string x6] 9 (0, 0))) := (MapKept.heap_alloc w2 _).1
  clear r2 B2 R2
  obtain ⟨w3, hw3⟩ : ∃ w3, w2.alloc (.cells #[.string x5, .string x6] 9) = w3 := ⟨_, rfl⟩
  have HW3 : Hid (w2.alloc (.cells #[.string x5, .string x6] 9) = w3) := hw3
  have s3 : w3.heap.size = w2.heap.size + 1 := by rw [← hw3]; simp
  have BW : Hid (Below w2.heap.size w2 w3) := by rw [← hw3]; exact (Below.refl _ w2).alloc (Nat.le_refl _) _
  rw [hw3] at R3 B3 N3
  clear hw3
  go_wp2_with fail
  refine (spec_kids x0 x1 x2 x3 x4 x5 x6 _).mono ?_
  rw [HW3.out]
  rintro e w4 ⟨rfl, hk4, b4⟩
  obtain ⟨GK, hGK⟩ : ∃ GK, w3.heap.size + 1 = GK := ⟨_, rfl⟩
  rw [hGK] at hk4 ⊢
  have s4 := b4.size
  have N4 : Hid (w4.heap[w2.heap.size]? = some (.cells #[.string x5, .string x6] 9 (0, 0))) := (b4.block _ (by omega)).trans N3.out
  have K4 : Hid (w4.heap[GK]? = some (.cells #[.int .i64 x1, .int .i64 x2, .int .i64 x3] 3 (0, 0))) := hk4
  have hkl : GK < w4.heap.size := (Array.getElem?_eq_some_iff.1 hk4).1
  have B4 : Hid (Below w.heap.size w w4) := B3.out.trans (b4.mono (by omega))
  clear b4 hk4 R3 B3 N3 HW3 BW p0 p1 p2 p3 p4 p5 p6 q0 q1 q2 q3 q4 q5 q6
  have L0 : Hid (LoopS (textN ts f) ⟨x0, x1, x2, x3, x4, x5, x6⟩ w2.heap.size (GK) 0 (.string (⟨#[40]⟩ ++ KY)) (.slice (some ⟨w2.heap.size, 0, none⟩) 2 2) (.slice (some ⟨GK, 0, none⟩) (arN x0) 3)) := HL0.out _ _
  have hfs : FB.size = (goesOn x0).length := by rw [← hFB]; simp [ByteArray.size]
  have hf5 : (goesOn x0).length ≤ 5 := goes_len x0
  have HFB : Hid (⟨(goesOn x0).toArray⟩ = FB) := hFB
  have har := arN_le x0
  clear hFB HL0 hGK
  go_wp2
  go_loopw [9, 10, 11, 12] (fun s ns ks i wr => ∃ k : Nat, k ≤ FB.size ∧ i = .int .i64 k ∧ Hid (LoopS (textN ts f) ⟨x0, x1, x2, x3, x4, x5, x6⟩ w2.heap.size (GK) k s ns ks) ∧ Below w4.heap.size w4 wr) (fun _ _ _ i _ => FB.size - (intOf i).toNat)
  case atStart => exact ⟨0, by omega, rfl, L0, Below.refl _ _⟩
  case round =>
    obtain ⟨k, hk, rfl, hL, hb⟩ := hrel
    obtain ⟨S, don, x, y, ox, oy, rfl, hS, rfl, rfl, hox, hoy, hd, hcn, hck⟩ := hL.out
    have hsize := hb.size
    have hSl := loop_len hS hd
    by_cases hin : k < FB.size
    · have hin' : (k : Int) < FB.size := by omega
      obtain ⟨c, cs, hc, hcb⟩ : ∃ c cs, (goesOn x0).drop k = c :: cs ∧ FB[k] = c := by
        have hkl : k < (goesOn x0).length := by omega
        refine ⟨(goesOn x0)[k], (goesOn x0).drop (k + 1), List.drop_eq_getElem_cons hkl, ?_⟩
        have : FB.data[k]? = some (goesOn x0)[k] := by
          rw [← HFB.out]
          simp [List.getElem?_eq_getElem hkl]
        rw [ByteArray.getElem_eq_getElem_data]
        have h2 : FB.data[k]? = some FB.data[k] := Array.getElem?_eq_getElem _
        rw [h2] at this
        exact Option.some.inj this
      by_cases h110 : c = 110
      · obtain ⟨hx2, hN⟩ := loop_name (gn := w2.heap.size) (gk := GK) (ox := min (x + 1) 1) (oy := oy) (fun h => by omega) hoy hc h110 hS hd hcn hck
        obtain rfl : x = ox := (hox hx2).symm
        have HN : Hid (LoopS _ _ _ _ _ _ _ _) := hN
        obtain ⟨S2, don2, x', y', _, _, hS2, hS3, -, -, -, -, hd2, -, -⟩ := hN
        have hl2 := loop_len hS3 hd2
        obtain rfl : _ = S2 := by injection hS2
        have hq : (FB[k].toNat : Int) = 110 := by rw [hcb, h110]; rfl
        obtain ⟨hn0, hn1⟩ := cells2_at ((hb.block _ (by omega)).trans N4.out)
        have hz2 : (⟨#[32]⟩ : ByteArray).size = 1 := rfl
        have hj := ByteArray.size_append (a := S) (b := ⟨#[32]⟩)
        have hB1 : Hid (Below w4.heap.size w4 wr) := hb
        have HL : Hid (S.size ≤ 100000) := by show S.size ≤ 100000; omega
        clear hS hd hcn hck hL hSl hS2 hS3 hd2 hc hcb h110 hb
        have hx : x = 0 ∨ x = 1 := by omega
        rcases hx with rfl | rfl
        · have hj2 := ByteArray.size_append (a := S ++ ⟨#[32]⟩) (b := x5)
          have hl3 : (S ++ ⟨#[32]⟩ ++ x5).size ≤ 100000 := by
            have := hl2
            simp only [List.getD_cons_zero] at this
            omega
          clear hl2
          go_wp2
          go_roundw
          case rel => exact ⟨k + 1, by omega, by go_num, HN, hB1.out⟩
          case measure => simp [intOf]; omega
        · have hj2 := ByteArray.size_append (a := S ++ ⟨#[32]⟩) (b := x6)
          have hl3 : (S ++ ⟨#[32]⟩ ++ x6).size ≤ 100000 := by
            have := hl2
            simp only [List.getD_cons_succ, List.getD_cons_zero] at this
            omega
          clear hl2
          go_wp2
          go_roundw
          case rel => exact ⟨k + 1, by omega, by go_num, HN, hB1.out⟩
          case measure => simp [intOf]; omega
      · obtain ⟨hy2, hN⟩ := loop_kid (gn := w2.heap.size) (gk := GK) (ox := ox) (oy := min (y + 1) 2) hox (fun h => by omega) hc h110 hS hd hcn hck
        obtain rfl : y = oy := (hoy (by simp only at hy2; omega)).symm
        have HN : Hid (LoopS _ _ _ _ _ _ _ _) := hN
        obtain ⟨S2, don2, x', y', _, _, hS2, hS3, -, -, -, -, hd2, -, -⟩ := hN
        have hl2 := loop_len hS3 hd2
        obtain rfl : _ = S2 := by injection hS2
        have hq : ((FB[k].toNat : Int) == 110) = false := by
          rw [hcb, beq_eq_false_iff_ne]
          intro e
          apply h110
          apply UInt8.toNat_inj.1
          have : (110 : UInt8).toNat = 110 := rfl
          omega
        obtain ⟨hk0, hk1, hk2⟩ := cells3_at ((hb.block _ (by omega)).trans K4.out)
        have hz2 : (⟨#[32]⟩ : ByteArray).size = 1 := rfl
        have hj := ByteArray.size_append (a := S) (b := ⟨#[32]⟩)
        have hB1 : Hid (Below w4.heap.size w4 wr) := hb
        have HL : Hid (S.size ≤ 100000) := by show S.size ≤ 100000; omega
        obtain ⟨n1, hn1⟩ : ∃ n1, arN x0 - y = n1 + 1 := ⟨arN x0 - y - 1, by simp only at hy2; omega⟩
        have hn2 : arN x0 - (y + 1) = n1 := by omega
        simp only at HN hl2 hy2
        rw [hn2] at HN
        rw [hn1]
        obtain ⟨Q, hQ, hSh⟩ := HI.out y hy2
        have HQ : Hid (∀ w : World, NodAt w g ts → Calls Tryz.prog 88 #[.slice (some ⟨g, 0, none⟩) ts.length cap, .int .i64 Q] w fun e w' => e = .returned (.string ⟨(textN ts f Q).toArray⟩) ∧ Below w.heap.size w w') := hSh
        rw [hQ, Int.toNat_natCast] at HN hl2
        have AW : Hid (NodAt wr g ts) := HA.out.below (B4.out.trans (hb.mono (by omega))) (fun _ => hg)
        have hn3 : n1 ≤ 2 := by omega
        obtain ⟨TX, hTX⟩ : ∃ TX : ByteArray, ⟨(textN ts f Q).toArray⟩ = TX := ⟨_, rfl⟩
        rw [hTX] at HN hl2 HQ
        have hj2 := ByteArray.size_append (a := S ++ ⟨#[32]⟩) (b := TX)
        have hl3 : (S ++ ⟨#[32]⟩ ++ TX).size ≤ 100000 := by omega
        clear hS hd hcn hck hL hSl hS2 hS3 hd2 hc hcb h110 hb hn1 hn2 hl2 hTX hSh
        have hy : y = 0 ∨ y = 1 ∨ y = 2 := by omega
        clear har hy2
        rcases hy with rfl | rfl | rfl
        · rw [show x1 = (Q : Int) from hQ] at hk0
          clear hQ
          go_wp2_with fail
          refine (HQ.out wr AW.out).mono ?_
          rintro e w5 ⟨rfl, b5⟩
          have B5 : Hid (Below w4.heap.size w4 w5) := hB1.out.trans (b5.mono hsize)
          clear b5 hB1 hk0 hk1 hk2 AW
          go_wp2
          go_roundw
          case rel => exact ⟨k + 1, by omega, by go_num, HN, B5.out⟩
          case measure => simp [intOf]; omega
        · rw [show x2 = (Q : Int) from hQ] at hk1
          clear hQ
          go_wp2_with fail
          refine (HQ.out wr AW.out).mono ?_
          rintro e w5 ⟨rfl, b5⟩
          have B5 : Hid (Below w4.heap.size w4 w5) := hB1.out.trans (b5.mono hsize)
          clear b5 hB1 hk0 hk1 hk2 AW
          go_wp2
          go_roundw
          case rel => exact ⟨k + 1, by omega, by go_num, HN, B5.out⟩
          case measure => simp [intOf]; omega
        · rw [show x3 = (Q : Int) from hQ] at hk2
          clear hQ
          go_wp2_with fail
          refine (HQ.out wr AW.out).mono ?_
          rintro e w5 ⟨rfl, b5⟩
          have B5 : Hid (Below w4.heap.size w4 w5) := hB1.out.trans (b5.mono hsize)
          clear b5 hB1 hk0 hk1 hk2 AW
          go_wp2
          go_roundw
          case rel => exact ⟨k + 1, by omega, by go_num, HN, B5.out⟩
          case measure => simp [intOf]; omega
    · obtain rfl : k = FB.size := by omega
      have HE : Hid (S ++ ⟨#[41]⟩ = ⟨(formT (textN ts f) ⟨x0, x1, x2, x3, x4, x5, x6⟩).toArray⟩) := loop_end (by show (goesOn x0).length ≤ _; omega) hS hd
      have hz2 : (⟨#[41]⟩ : ByteArray).size = 1 := rfl
      have hsz : S.size ≤ 100000 := by omega
      clear hS hd hcn hck hL hin hSl
      go_wp2
      go_ret
      exact ⟨by rw [HX.out, nodeT_form HF.out, ← HE.out]; rfl, B4.out.trans (hb.mono (by omega))⟩

/-- The text of every node of a right program. -/
theorem spec_show {ts : List Nod} {st : List Nat} (hR : Right ts st) (g cap : Nat) : ∀ (f i : Nat), i < f → i < ts.length → ShowAt ts g cap f i
  | 0, i, h, _ => absurd h (by omega)
  | f + 1, i, h, hi => by
    obtain ⟨hF, _⟩ := hR.2 i hi
    have hl := hR.1
    by_cases h1 : (ts.getD i noNod).kind = 1
    · exact show_leaf hi hl (Or.inl h1)
    by_cases h2 : (ts.getD i noNod).kind = 2
    · have hn := hF.2.2.2.1 h2
      exact show_leaf hi hl (Or.inr (Or.inl ⟨h2, hn.1, hn.2⟩))
    by_cases h12 : (ts.getD i noNod).kind = 12
    · exact show_leaf hi hl (Or.inr (Or.inr h12))
    have hfm := fields_form hF h1 h2 h12
    refine show_form hi hl hfm ?_ (fun j hj => ?_)
    · have := textN_len hR (f + 1) i h hi
      have e : textN ts (f + 1) i = formT (textN ts f) (ts.getD i noNod) := nodeT_form hfm
      rw [e] at this
      omega
    · obtain ⟨q, hq, hlt, _⟩ := kid_ahead hR hi hj
      exact ⟨q, hq, spec_show hR g cap f q (by omega) (by omega)⟩
end

section
open Go.ChangeShapes Go.WideShapes Go.ChangeAt Go.RowKit

/-- What a call of l3Starts ends with. -/
def StEnd (ts : List Nod) (B : Nat) (e : Ending) (w : World) : Prop :=
  (∃ st v, startsF ts ts.length = some st ∧ ownI w B v st ∧ e = .returned (.tuple #[v, .bool true])) ∨
  (∃ v, startsF ts ts.length = none ∧ e = .returned (.tuple #[v, .bool false]))

/-- The state of the loop over the nodes. -/
def SAt (ts : List Nod) (w : World) (g : Nat) (out pl : Value) (wr : World) : Prop :=
  ∃ (i : Nat) (st : List Int), pl = .int .i64 i ∧ i + g = ts.length ∧ startsF ts i = some st ∧ ownI wr w.heap.size out st ∧ Below w.heap.size w wr

theorem take_last (t : Nod) (k : Nat) (h : k < (kidL t).length) : ((kidL t).take (k + 1)).reverse = (kidL t).getD k 0 :: ((kidL t).take k).reverse := by
  rw [List.take_succ_eq_append_getElem h, List.reverse_append]
  simp [List.getD, List.getElem?_eq_getElem h]

theorem kidL_length (t : Nod) : (kidL t).length = arN t.kind := by
  have := arN_le t.kind
  simp [kidL]
  omega

theorem kid_cell {w : World} {g : Nat} {t : Nod} {e : TypeId} (h : w.heap[g]? = some (.cells #[.int .i64 t.a, .int .i64 t.b, .int .i64 t.c] e (0, 0))) (k : Nat) (hk : k < (kidL t).length) : w.cell? ⟨g, k, none⟩ = some (.int .i64 ((kidL t).getD k 0)) := by
  have h3 := arN_le t.kind
  have hl := kidL_length t
  rw [cell_of_row w _ _ _ _ _ h]
  have e1 : (kidL t).getD k 0 = [t.a, t.b, t.c].getD k 0 := by
    simp only [kidL, List.getD]
    rw [List.getElem?_take_of_lt (by omega)]
  rw [e1]
  rcases (by omega : k = 0 ∨ k = 1 ∨ k = 2) with rfl | rfl | rfl <;> rfl

set_option maxHeartbeats 4000000 in
set_option maxRecDepth 20000 in
theorem spec_starts (a : Option Addr) (g cap : Nat) (ts : List Nod) (hne : 0 < ts.length → a = some ⟨g, 0, none⟩) (hl : ts.length ≤ 1000)
    (hst : ∀ i, i < ts.length → (ts.getD i noNod).name.size ≤ maxLen ∧ (ts.getD i noNod).other.size ≤ maxLen) (w : World) (hA : NodAt w g ts) :
    Calls Tryz.prog 22 #[.slice a ts.length cap] w fun e w' => StEnd ts w.heap.size e w' ∧ Below w.heap.size w w' := by
  have HA : Hid (NodAt w g ts) := hA
  have HT : Hid (∀ i, i < ts.length → (ts.getD i noNod).name.size ≤ maxLen ∧ (ts.getD i noNod).other.size ≤ maxLen) := hst
  clear hA hst
  go_enter Tryz.func22, Tryz.ntmps22
  go_wp2
  go_loopg [4, 5] ts.length (fun g out i wr => SAt ts w g out i wr)
  case atStart => exact ⟨0, [], rfl, by omega, rfl, ownI_empty (Nat.le_refl _), (Below.refl _ w).alloc (Nat.le_refl _) _⟩
  case round =>
    obtain ⟨i, st, rfl, hig, hS, hown, hbel⟩ := hrel
    have HS : Hid (startsF ts i = some st) := hS
    have HO : Hid (ownI wr w.heap.size u4 st) := hown
    obtain ⟨hsl, hsr⟩ := startsF_range ts i st hS
    have HSR : Hid (∀ j, j < i → 0 ≤ st.getD j 0 ∧ st.getD j 0 ≤ j) := hsr
    have hsz := hbel.size
    clear hS hown hsr
    by_cases hin : i < ts.length
    · have e1 : (i : Int) < ts.length := by omega
      obtain rfl := hne (by omega)
      have hlt : g < w.heap.size := HA.out.lt (by omega)
      have t := (HA.out.below hbel (fun _ => hlt)) i hin
      have hsm := HT.out i hin
      have HN : Hid (startsF ts (i + 1) = (startsF ts i).bind fun st => (stepS (ts.getD i noNod) i st).map fun a => st ++ [a]) := rfl
      obtain ⟨⟨x0, x1, x2, x3, x4, x5, x6⟩, hx⟩ : ∃ y, ts.getD i noNod = y := ⟨_, rfl⟩
      rw [hx] at t hsm HN
      simp only at hsm
      have HSM : Hid (x5.size ≤ maxLen ∧ x6.size ≤ maxLen) := hsm
      have q0 : wr.cell? ⟨g, i * 7, none⟩ = some (.int .i64 x0) := t.c0
      have q1 : wr.cell? ⟨g, i * 7 + 1, none⟩ = some (.int .i64 x1) := t.c1
      have q2 : wr.cell? ⟨g, i * 7 + 2, none⟩ = some (.int .i64 x2) := t.c2
      have q3 : wr.cell? ⟨g, i * 7 + 3, none⟩ = some (.int .i64 x3) := t.c3
      have q4 : wr.cell? ⟨g, i * 7 + 4, none⟩ = some (.int .i64 x4) := t.c4
      have q5 : wr.cell? ⟨g, i * 7 + 5, none⟩ = some (.string x5) := t.c5
      have q6 : wr.cell? ⟨g, i * 7 + 6, none⟩ = some (.string x6) := t.c6
      have HTI : Hid (NodIn wr g i ⟨x0, x1, x2, x3, x4, x5, x6⟩) := t
      clear t hx hsm
      go_wp2_with fail
      refine (spec_fields x0 x1 x2 x3 x4 x5 x6 HSM.out.1 HSM.out.2 wr).mono ?_
      rintro e w1 ⟨rfl, hb1⟩
      have t1 := HTI.out.below hb1 (by omega)
      have HO1 : Hid (ownI w1 w.heap.size u4 st) := ownI_kept HO.out hb1 (Nat.le_refl _)
      have hs1 := hb1.size
      have hbel1 : Below w.heap.size w w1 := hbel.trans (hb1.mono hsz)
      clear q0 q1 q2 q3 q4 q5 q6 HTI HO hbel hb1
      by_cases hf : fieldsB ⟨x0, x1, x2, x3, x4, x5, x6⟩ = true
      · have q0 : w1.cell? ⟨g, i * 7, none⟩ = some (.int .i64 x0) := t1.c0
        have q1 : w1.cell? ⟨g, i * 7 + 1, none⟩ = some (.int .i64 x1) := t1.c1
        have q2 : w1.cell? ⟨g, i * 7 + 2, none⟩ = some (.int .i64 x2) := t1.c2
        have q3 : w1.cell? ⟨g, i * 7 + 3, none⟩ = some (.int .i64 x3) := t1.c3
        have q4 : w1.cell? ⟨g, i * 7 + 4, none⟩ = some (.int .i64 x4) := t1.c4
        have q5 : w1.cell? ⟨g, i * 7 + 5, none⟩ = some (.string x5) := t1.c5
        have q6 : w1.cell? ⟨g, i * 7 + 6, none⟩ = some (.string x6) := t1.c6
        have HE : Hid (startsF ts (i + 1) = (down st (kidL ⟨x0, x1, x2, x3, x4, x5, x6⟩).reverse i).map fun a => st ++ [a]) := by
          show startsF ts (i + 1) = _
          rw [HN.out, HS.out]
          simp only [Option.bind_some, stepS, if_pos hf]
        rw [hf]
        clear t1 hf HN
        go_wp2_with fail
        refine (spec_kids x0 x1 x2 x3 x4 x5 x6 w1).mono ?_
        rintro e w2 ⟨rfl, hk2, hb2⟩
        have hs2 := hb2.size
        have HKC : Hid (∀ j, j < (kidL ⟨x0, x1, x2, x3, x4, x5, x6⟩).length → w2.cell? ⟨w1.heap.size + 1, j, none⟩ = some (.int .i64 ((kidL ⟨x0, x1, x2, x3, x4, x5, x6⟩).getD j 0))) := fun j hj => kid_cell hk2 j hj
        have HKL : Hid ((kidL ⟨x0, x1, x2, x3, x4, x5, x6⟩).length = arN x0) := kidL_length _
        have har := arN_le x0
        have HO2 : Hid (ownI w2 w.heap.size u4 st) := ownI_kept HO1.out hb2 (Nat.le_refl _)
        have hbel2 : Below w.heap.size w w2 := hbel1.trans (hb2.mono (by omega))
        clear q0 q1 q2 q3 q4 q5 q6 hk2 hb2 hbel1 HO1
        have HTK : Hid (∀ k, k < arN x0 → ((kidL ⟨x0, x1, x2, x3, x4, x5, x6⟩).take (k + 1)).reverse = (kidL ⟨x0, x1, x2, x3, x4, x5, x6⟩).getD k 0 :: ((kidL ⟨x0, x1, x2, x3, x4, x5, x6⟩).take k).reverse) := fun k hk => take_last _ k (by rw [HKL.out]; exact hk)
        have HTA : Hid ((kidL ⟨x0, x1, x2, x3, x4, x5, x6⟩).take (arN x0) = kidL ⟨x0, x1, x2, x3, x4, x5, x6⟩) := List.take_of_length_le (by rw [HKL.out]; exact Nat.le_refl _)
        generalize kidL ⟨x0, x1, x2, x3, x4, x5, x6⟩ = ks at *
        generalize arN x0 = ar at *
        go_wp2
        go_loopg [6, 8] (ar + 1) (fun gg p k wx => wx = w2 ∧ ∃ (m : Nat) (P : Int), m ≤ ar ∧ gg = m + 1 ∧ k = .int .i64 ((m : Int) - 1) ∧ p = .int .i64 P ∧ 0 ≤ P ∧ P ≤ i ∧ down st (ks.take m).reverse P = down st ks.reverse i)
        case atStart => exact ⟨rfl, ar, i, Nat.le_refl _, rfl, rfl, rfl, by omega, by omega, by rw [HTA.out]⟩
        case round =>
          obtain ⟨rfl, m, P, hm, rfl, rfl, rfl, hP0, hP1, hd⟩ := hrel
          have HD : Hid (down st (ks.take m).reverse P = down st ks.reverse i) := hd
          clear hd
          by_cases hm0 : m = 0
          · subst hm0
            have HQ : Hid (startsF ts (i + 1) = some (st ++ [P])) := by
              show startsF ts (i + 1) = _
              rw [HE.out, ← HD.out]
              rfl
            obtain ⟨i0, hi, hz0, hz1, hz2⟩ := info_parts info_int
            clear HE HD HTK HTA HKC HKL
            go_wp2_with (at_builtin; refine wpList_append_own _ rfl _ _ 54 rfl w.heap.size 3 i0 _ 1 8 Tryz.underlying54 hi hz0 hz1 hz2 rfl (by decide) _ _ _ rfl (HO2.out.alloc _) ⟨wr.heap.size, 0, none⟩ 1 1 [.int .i64 P] rfl rfl ?a1 ?a2 ?a3 ?a4 ?a5 ?_)
            case a1 =>
              intro j u hj
              match j, hj with
              | 0, hj => simp at hj; subst hj; simp [Addr.add]
            case a2 => intro u hu; simp at hu; subst hu; rfl
            case a3 => unfold maxLen; omega
            case a4 => omega
            case a5 => simp; omega
            intro v' W3 hown' hgrow _
            have HM : Hid (SAt ts w (ts.length - (i + 1)) v' (.int .i64 ((i + 1 : Nat) : Int)) W3) :=
              ⟨i + 1, st ++ [P], rfl, by omega, HQ.out, ownI_next P hown' (by omega) rfl, (hbel2.alloc (by omega) _).grown hgrow (by simp; omega) (fun q hq => (HO2.out.lt q hq).1)⟩
            clear hown' hgrow HQ HO2 hbel2 hi hz0 hz1 hz2
            go_wp2
            go_roundg (ts.length - (i + 1))
            case rel => exact HM.out
            case measure => omega
          · obtain ⟨q, rfl⟩ : ∃ q, m = q + 1 := ⟨m - 1, by omega⟩
            have hqa : (q : Int) < ar := by omega
            have hc := HKC.out q (by rw [HKL.out]; omega)
            have HDD : Hid (down st ((ks.take (q + 1)).reverse) P = if ks.getD q 0 = P - 1 ∧ 0 ≤ ks.getD q 0 then down st (ks.take q).reverse (st.getD (ks.getD q 0).toNat 0) else none) := by
              show down st ((ks.take (q + 1)).reverse) P = _
              rw [HTK.out q (by omega)]
              rfl
            have eq1 : ((q + 1 : Nat) : Int) - 1 = q := by omega
            rw [eq1]
            generalize ks.getD q 0 = c at *
            by_cases hcc : c = P - 1 ∧ 0 ≤ c
            · obtain ⟨hc1, hc0⟩ := hcc
              obtain ⟨cn, rfl⟩ := Int.eq_ofNat_of_zero_le hc0
              have hcn : cn < i := by omega
              obtain ⟨go, co, hu, hBg, hgl, hcells⟩ := ownI_form HO2.out (by omega)
              have hr := HSR.out cn hcn
              have hcell := hcells cn (by omega)
              have HDN : Hid (down st (ks.take q).reverse (st.getD cn 0) = down st ks.reverse i) := by
                show down st (ks.take q).reverse (st.getD cn 0) = _
                rw [← HD.out, HDD.out, if_pos ⟨hc1, hc0⟩]
                rfl
              have nq : ((cn : Int) != P - 1) = false := by simpa using hc1
              have nn : decide ((cn : Int) < 0) = false := decide_eq_false (by omega)
              have hcn' : (cn : Int) < st.length := by omega
              subst hu
              generalize st.getD cn 0 = P2 at *
              have HC1 : Hid ((cn : Int) = P - 1) := hc1
              clear hc1 hcells HDD HD HE
              go_wp2
              go_roundg (q + 1)
              case rel => exact ⟨rfl, q, P2, by omega, rfl, by go_num, rfl, hr.1, by omega, HDN.out⟩
              case measure => omega
            · have HZ : Hid (startsF ts ts.length = none) := by
                show startsF ts ts.length = none
                refine startsF_none ts (i + 1) ts.length (by omega) ?_
                rw [HE.out, ← HD.out, HDD.out, if_neg hcc]
                rfl
              clear HE HD HDD HTK HTA HKC HKL HO2
              by_cases hc1 : c = P - 1
              · have nq : (c != P - 1) = false := by simpa using hc1
                have hneg : c < 0 := by omega
                have HC1 : Hid (c = P - 1) := hc1
                clear hc1 hcc
                go_wp2
                go_ret2
                exact ⟨Or.inr ⟨_, HZ.out, rfl⟩, hbel2.alloc (by omega) _⟩
              · have nq : (c != P - 1) = true := by simpa using hc1
                clear hc1 hcc
                go_wp2
                go_ret2
                exact ⟨Or.inr ⟨_, HZ.out, rfl⟩, hbel2.alloc (by omega) _⟩
      · have hf' : fieldsB ⟨x0, x1, x2, x3, x4, x5, x6⟩ = false := by simpa using hf
        have HZ : Hid (startsF ts ts.length = none) := by
          show startsF ts ts.length = none
          refine startsF_none ts (i + 1) ts.length (by omega) ?_
          rw [HN.out, HS.out]
          simp only [Option.bind_some, stepS, if_neg hf]
          rfl
        rw [hf']
        clear hf hf' HN t1 HO1
        go_wp2
        go_ret2
        exact ⟨Or.inr ⟨_, HZ.out, rfl⟩, hbel1.alloc (by omega) _⟩
    · have e1 : (ts.length : Int) ≤ i := by omega
      obtain rfl : i = ts.length := by omega
      go_wp2
      go_ret2
      exact ⟨Or.inl ⟨st, _, HS.out, HO.out, rfl⟩, hbel⟩

/-- Is it a program? -/
def nodesB (ts : List Nod) : Bool := decide (1 ≤ ts.length ∧ ts.length ≤ 150) && (match startsF ts ts.length with | some st => st.getD (ts.length - 1) 0 == 0 | none => false)

theorem spec_nodes (a : Option Addr) (g cap : Nat) (ts : List Nod) (hne : 0 < ts.length → a = some ⟨g, 0, none⟩) (hl : ts.length ≤ 1048576)
    (hst : ∀ i, i < ts.length → (ts.getD i noNod).name.size ≤ maxLen ∧ (ts.getD i noNod).other.size ≤ maxLen) (w : World) (hA : NodAt w g ts) :
    Calls Tryz.prog 8 #[.slice a ts.length cap] w fun e w' => e = .returned (.bool (nodesB ts)) ∧ Below w.heap.size w w' := by
  have HA : Hid (NodAt w g ts) := hA
  have HT : Hid (∀ i, i < ts.length → (ts.getD i noNod).name.size ≤ maxLen ∧ (ts.getD i noNod).other.size ≤ maxLen) := hst
  have HN : Hid (nodesB ts = (decide (1 ≤ ts.length ∧ ts.length ≤ 150) && (match startsF ts ts.length with | some st => st.getD (ts.length - 1) 0 == 0 | none => false))) := rfl
  clear hA hst
  go_enter Tryz.func8, Tryz.ntmps8
  go_wp2_with fail
  refine (word_in _ _ _ _).mono ?_
  rintro e w1 ⟨rfl, rfl⟩
  by_cases hk : 1 ≤ ts.length ∧ ts.length ≤ 150
  · have d1 : (decide ((1 : Int) ≤ ts.length) && decide ((ts.length : Int) ≤ 150)) = true := by rw [decide_eq_true (by omega), decide_eq_true (by omega)]; rfl
    rw [d1]
    have HV : Hid (nodesB ts = (match startsF ts ts.length with | some st => st.getD (ts.length - 1) 0 == 0 | none => false)) := by
      show nodesB ts = _
      rw [HN.out, decide_eq_true hk, Bool.true_and]
    obtain ⟨hk1, hk2⟩ := hk
    clear d1 HN
    go_wp2_with fail
    refine (spec_starts a g cap ts hne (by omega) HT.out w1 HA.out).mono ?_
    rintro e w2 ⟨hend, hb2⟩
    rcases hend with ⟨st, v, hS, hown, rfl⟩ | ⟨v, hS, rfl⟩
    · obtain ⟨hsl, _⟩ := startsF_range ts _ st hS
      rw [hS] at HV
      simp only at HV
      obtain ⟨go, co, rfl, hBg, hgl, hcells⟩ := ownI_form hown (by omega)
      have hcell := hcells (ts.length - 1) (by omega)
      have e1 : (ts.length : Int) - 1 < st.length := by omega
      have e2 : (0 : Int) ≤ (ts.length : Int) - 1 := by omega
      generalize st.getD (ts.length - 1) 0 = P at *
      clear hS hown hcells
      go_wp2
      go_ret
      exact ⟨by rw [HV.out]; rfl, hb2⟩
    · rw [hS] at HV
      simp only at HV
      clear hS
      go_wp2
      go_ret
      exact ⟨by rw [HV.out]; rfl, hb2⟩
  · have d1 : (decide ((1 : Int) ≤ ts.length) && decide ((ts.length : Int) ≤ 150)) = false := by
      rw [← Bool.decide_and]
      exact decide_eq_false (by omega)
    rw [d1]
    have HV : Hid (nodesB ts = false) := by
      show nodesB ts = false
      rw [HN.out, decide_eq_false hk, Bool.false_and]
    clear HN d1 hk
    go_wp2
    go_ret
    exact ⟨by rw [HV.out]; rfl, Below.refl _ _⟩

/-- Where the part of node i begins; -1 where there is none. -/
def startB (ts : List Nod) (i : Int) : Int := if nodesB ts = true ∧ 0 ≤ i ∧ i ≤ (ts.length : Int) - 1 then (match startsF ts ts.length with | some st => st.getD i.toNat 0 | none => -1) else -1

theorem nodesB_starts {ts : List Nod} (h : nodesB ts = true) : 1 ≤ ts.length ∧ ts.length ≤ 150 ∧ ∃ st, startsF ts ts.length = some st := by
  unfold nodesB at h
  rw [Bool.and_eq_true, decide_eq_true_eq] at h
  obtain ⟨⟨h1, h2⟩, h3⟩ := h
  cases hs : startsF ts ts.length with
  | none => rw [hs] at h3; cases h3
  | some st => exact ⟨h1, h2, st, rfl⟩
end

section
open Go.ChangeShapes Go.WideShapes Go.ChangeAt Go.RowKit

/-- The text of nodes: that of the last one, where they are right. -/
def printB (ts : List Nod) : ByteArray := if nodesB ts = true then ⟨(textN ts ts.length (ts.length - 1)).toArray⟩ else ⟨#[]⟩

theorem nodesB_right {ts : List Nod} (h : nodesB ts = true) : 1 ≤ ts.length ∧ ts.length ≤ 150 ∧ ∃ st, Right ts st := by
  obtain ⟨h1, h2, st, hs⟩ := nodesB_starts h
  exact ⟨h1, h2, _, right_of (by omega) hs⟩

set_option maxRecDepth 20000 in
theorem spec_print (a : Option Addr) (g cap : Nat) (ts : List Nod) (hne : 0 < ts.length → a = some ⟨g, 0, none⟩) (hl : ts.length ≤ 1048576)
    (hst : ∀ i, i < ts.length → (ts.getD i noNod).name.size ≤ maxLen ∧ (ts.getD i noNod).other.size ≤ maxLen) (w : World) (hA : NodAt w g ts) :
    Calls Tryz.prog 45 #[.slice a ts.length cap] w fun e w' => e = .returned (.string (printB ts)) ∧ Below w.heap.size w w' := by
  have HA : Hid (NodAt w g ts) := hA
  have HC : Hid (Calls Tryz.prog 8 #[.slice a ts.length cap] w fun e w' => e = .returned (.bool (nodesB ts)) ∧ Below w.heap.size w w') := spec_nodes a g cap ts hne hl hst w hA
  clear hA hst
  cases hn : nodesB ts
  · have HN : Hid (printB ts = ⟨#[]⟩) := by
      show printB ts = _
      unfold printB
      rw [hn]
      rfl
    rw [hn] at HC
    clear hn
    go_enter Tryz.func45, Tryz.ntmps45
    go_wp2_with fail
    refine Calls.mono HC.out ?_
    rintro e w1 ⟨rfl, b1⟩
    go_wp2
    go_ret
    exact ⟨by rw [HN.out]; rfl, b1⟩
  · obtain ⟨l1, l2, st, hR⟩ := nodesB_right hn
    have HN : Hid (printB ts = ⟨(textN ts ts.length (ts.length - 1)).toArray⟩) := by
      show printB ts = _
      unfold printB
      rw [hn]
      rfl
    obtain rfl := hne (by omega)
    have HS : Hid (ShowAt ts g cap ts.length (ts.length - 1)) := spec_show hR g cap ts.length (ts.length - 1) (by omega) (by omega)
    rw [hn] at HC
    have hcast : ((ts.length - 1 : Nat) : Int) = (ts.length : Int) - 1 := by omega
    have hgl := HA.out.lt (by omega)
    clear hn hR
    go_enter Tryz.func45, Tryz.ntmps45
    go_wp2_with fail
    refine Calls.mono HC.out ?_
    rintro e w1 ⟨rfl, b1⟩
    have hS := HS.out w1 (HA.out.below b1 (fun _ => hgl))
    rw [hcast] at hS
    have HS2 : Hid (Calls Tryz.prog 88 #[.slice (some ⟨g, 0, none⟩) ts.length cap, .int .i64 ((ts.length : Int) - 1)] w1 _) := hS
    have s1 := b1.size
    clear hS hcast
    go_wp2_with fail
    refine Calls.mono HS2.out ?_
    rintro e w2 ⟨rfl, b2⟩
    have B2 : Hid (Below w.heap.size w w2) := b1.trans (b2.mono (by omega))
    clear b1 b2
    go_wp2
    go_ret
    exact ⟨by rw [HN.out]; rfl, B2.out⟩

theorem nodesB_zero {ts : List Nod} (h : nodesB ts = true) : 1 ≤ ts.length ∧ ts.length ≤ 150 ∧ ∃ st, Right ts st ∧ st.getD (ts.length - 1) 0 = 0 := by
  obtain ⟨h1, h2, st, hs⟩ := nodesB_starts h
  refine ⟨h1, h2, _, right_of (by omega) hs, ?_⟩
  unfold nodesB at h
  rw [hs, Bool.and_eq_true] at h
  have h3 : (st.getD (ts.length - 1) 0 == 0) = true := h.2
  rw [beq_iff_eq] at h3
  rw [getD_nat, h3]
  rfl
end

section
open Go.ChangeShapes Go.WideShapes Go.ChangeAt Go.RowKit

theorem wr_size : (Tryz.prog.info? 42).map (·.size) = some 2 := by kernel_rfl
theorem wr_lies : liesAt Tryz.prog Tryz.prog.depth 46 (4 / Tryz.prog.cellsOf 46) 0 42 1 = true := by kernel_rfl
theorem wr_u8 : (Tryz.prog.info? 5).map (fun i => (i.zero, i.size, i.bytes)) = some (some (.int .u8 0), 1, 1) := by kernel_rfl
theorem wr_cells8 : Tryz.prog.cellsOf 5 = 1 := by kernel_rfl

/-- A printer in block b: what its text is so far, whether a blank is due, its nodes; q tells what the builder's own address cell holds. -/
def PrA (q : Value) (B b : Nat) (bs : List UInt8) (ap : Bool) (nv : Value) (w : World) : Prop :=
  B ≤ b ∧ ∃ v, w.heap[b]? = some (.cells #[q, v, .bool ap, nv] 46 (0, 0)) ∧ w.ownsRowF B 5 1 v bs.length (Lib.byteCells bs)

def PrS (B b : Nat) (bs : List UInt8) (ap : Bool) (nv : Value) (w : World) : Prop := PrA (.pointer none) B b bs ap nv w ∨ PrA (.pointer (some ⟨b, 0, none⟩)) B b bs ap nv w

theorem PrA.ne {q : Value} {B b : Nat} {bs : List UInt8} {ap : Bool} {nv v : Value} {w : World} (hb : w.heap[b]? = some (.cells #[q, v, .bool ap, nv] 46 (0, 0))) (ho : w.ownsRowF B 5 1 v bs.length (Lib.byteCells bs)) : v.ownBlock ≠ some b := Lib.ownBlock_neF ho hb (by decide)

/-- What a writer leaves as it was: all below B, and every block but the printer's and rows of bytes. -/
structure Fr (B b : Nat) (w w' : World) : Prop where
  bel : Below B w w'
  oth : Lib.OthersKept 5 (some b) w w'

theorem Fr.refl (B b : Nat) (w : World) : Fr B b w w := ⟨Below.refl B w, Lib.OthersKept.refl _ _ w⟩
theorem Fr.trans {B b : Nat} {u v w : World} (h : Fr B b u v) (k : Fr B b v w) : Fr B b u w := ⟨h.bel.trans k.bel, h.oth.trans k.oth⟩

theorem oth_of_below {w w' : World} (h : Below w.heap.size w w') (e : TypeId) (b : Option Nat) : Lib.OthersKept e b w w' := by
  intro k o hk _ _
  rw [h.block k (Array.getElem?_eq_some_iff.1 hk).1]
  exact hk

theorem Fr.of_below {B b : Nat} {w w' : World} (hB : B ≤ w.heap.size) (h : Below w.heap.size w w') : Fr B b w w' := ⟨h.mono hB, oth_of_below h _ _⟩

/-- A block that is no printer's and no row of bytes stands. -/
theorem Fr.row {B b g : Nat} {w w' : World} (h : Fr B b w w') {cs : Array Value} {t : TypeId} {z : Nat × Nat} (hg : w.heap[g]? = some (.cells cs t z)) (hne : g ≠ b) (ht : t ≠ 5) : w'.heap[g]? = some (.cells cs t z) :=
  h.oth g _ hg (fun e => hne (Option.some.inj e)) (fun c fz e => ht (by injection e))

theorem own_below {w w' : World} {B : Nat} {e : TypeId} {v : Value} {n : Nat} {xs : List Value} (h : w.ownsRowF B e 1 v n xs) (hb : Below w.heap.size w w') : w'.ownsRowF B e 1 v n xs := by
  refine ⟨h.1, ?_⟩
  rcases h.2 with hn | ⟨g, cap, cur, fz, hv, hbg, hg, rest⟩
  · exact Or.inl hn
  · exact Or.inr ⟨g, cap, cur, fz, hv, hbg, (hb.block g (Array.getElem?_eq_some_iff.1 hg).1).trans hg, rest⟩

theorem PrA.below {q : Value} {B b : Nat} {bs : List UInt8} {ap : Bool} {nv : Value} {w w' : World} (h : PrA q B b bs ap nv w) (hb : Below w.heap.size w w') : PrA q B b bs ap nv w' := by
  obtain ⟨hB, v, hk, ho⟩ := h
  exact ⟨hB, v, (hb.block b (Array.getElem?_eq_some_iff.1 hk).1).trans hk, own_below ho hb⟩

theorem PrS.below {B b : Nat} {bs : List UInt8} {ap : Bool} {nv : Value} {w w' : World} (h : PrS B b bs ap nv w) (hb : Below w.heap.size w w') : PrS B b bs ap nv w' := h.elim (fun x => Or.inl (x.below hb)) (fun x => Or.inr (x.below hb))

theorem PrS.drew {B b : Nat} {bs : List UInt8} {ap : Bool} {nv : Value} {w : World} (h : PrS B b bs ap nv w) : PrS B b bs ap nv w.drew := h

theorem PrS.at {B b : Nat} {bs : List UInt8} {ap : Bool} {nv : Value} {w : World} (h : PrS B b bs ap nv w) : ∃ q, PrA q B b bs ap nv w := h.elim (fun x => ⟨_, x⟩) (fun x => ⟨_, x⟩)

theorem PrS.lt {B b : Nat} {bs : List UInt8} {ap : Bool} {nv : Value} {w : World} (h : PrS B b bs ap nv w) : B ≤ b ∧ b < w.heap.size := by
  obtain ⟨q, hB, v, hk, _⟩ := h.at
  exact ⟨hB, (Array.getElem?_eq_some_iff.1 hk).1⟩

theorem PrS.cells {B b : Nat} {bs : List UInt8} {ap : Bool} {nv : Value} {w : World} (h : PrS B b bs ap nv w) : w.cell? ⟨b, 2, none⟩ = some (.bool ap) ∧ w.cell? ⟨b, 3, none⟩ = some nv ∧ w.frozen? ⟨b, 2, none⟩ = false := by
  obtain ⟨q, hB, v, hk, _⟩ := h.at
  refine ⟨?_, ?_, Lib.frozen_of_heap hk 2⟩ <;> (rw [Lib.cell_of_heap hk]; rfl)

theorem pr_set {b i : Nat} {cs : Array Value} {t : TypeId} {w : World} (hk : w.heap[b]? = some (.cells cs t (0, 0))) (x : Value) : (w.setCell ⟨b, i, none⟩ x).heap[b]? = some (.cells (cs.setIfInBounds i x) t (0, 0)) := by
  have hlt := (Array.getElem?_eq_some_iff.1 hk).1
  have he := (Array.getElem?_eq_some_iff.1 hk).2
  simp only [World.setCell]
  rw [Array.getElem?_modify]
  simp [hk]

theorem own_set {w : World} {B b i : Nat} {e : TypeId} {v : Value} {n : Nat} {xs : List Value} (h : w.ownsRowF B e 1 v n xs) (hne : v.ownBlock ≠ some b) (x : Value) : (w.setCell ⟨b, i, none⟩ x).ownsRowF B e 1 v n xs := by
  refine ⟨h.1, ?_⟩
  rcases h.2 with hn | ⟨g, cap, cur, fz, hv, hbg, hg, rest⟩
  · exact Or.inl hn
  · refine Or.inr ⟨g, cap, cur, fz, hv, hbg, ?_, rest⟩
    rw [Below.heap_setCell]
    · exact hg
    · intro e1
      apply hne
      rw [hv]
      simp only [Value.ownBlock]
      congr 1

theorem PrS.apart {B b : Nat} {bs : List UInt8} {ap : Bool} {nv : Value} {w : World} (h : PrS B b bs ap nv w) (x : Bool) : PrS B b bs x nv (w.setCell ⟨b, 2, none⟩ (.bool x)) := by
  rcases h with ⟨hB, v, hk, ho⟩ | ⟨hB, v, hk, ho⟩
  · exact Or.inl ⟨hB, v, by rw [pr_set hk]; rfl, own_set ho (PrA.ne hk ho) _⟩
  · exact Or.inr ⟨hB, v, by rw [pr_set hk]; rfl, own_set ho (PrA.ne hk ho) _⟩

theorem Fr.set {B b i : Nat} {u w : World} (h : Fr B b u w) (hB : B ≤ b) (x : Value) : Fr B b u (w.setCell ⟨b, i, none⟩ x) := ⟨h.bel.setCell (p := ⟨b, i, none⟩) hB x, h.oth.setCell ⟨b, i, none⟩ rfl x⟩

set_option maxRecDepth 100000 in
theorem wr_used (b : Nat) (w : World) (h0 : w.cell? ⟨b, 0, none⟩ = some (.pointer (some ⟨b, 0, none⟩))) :
    Calls Tryz.prog 62 #[.pointer (some ⟨b, 0, none⟩)] w fun e w' => e = .returned (.tuple #[]) ∧ w' = w := by
  obtain ⟨j, hj, _⟩ := Option.map_eq_some_iff.1 wr_size
  go_enter Tryz.func62, Tryz.ntmps62
  go_wp2
  rw [Lib.run_neq_ptr_same w _ Tryz.underlying40 hj]
  go_wp2
  go_end0
  exact ⟨rfl, rfl⟩

set_option maxRecDepth 100000 in
theorem wr_fresh (b : Nat) (w : World) (h0 : w.cell? ⟨b, 0, none⟩ = some (.pointer none)) (hsh : w.shape? b = some (46, 4)) (hfz : w.frozen? ⟨b, 0, none⟩ = false) :
    Calls Tryz.prog 62 #[.pointer (some ⟨b, 0, none⟩)] w fun e w' => e = .returned (.tuple #[]) ∧ w' = w.setCell ⟨b, 0, none⟩ (.pointer (some ⟨b, 0, none⟩)) := by
  obtain ⟨j, hj, hjs⟩ := Option.map_eq_some_iff.1 wr_size
  go_enter Tryz.func62, Tryz.ntmps62
  go_wp2
  rw [Lib.run_to_unsafe w ⟨b, 0, none⟩ Tryz.underlying40 Tryz.underlying127 hj (by rw [hjs]; decide) hsh (Nat.zero_lt_succ 3)]
  simp only [Result.andThen]
  rw [Oper.upon_value]
  go_wp2
  rw [run_callFunc_extern Tryz.func94 (by kernel_rfl) (by kernel_rfl) (by kernel_rfl) (e := Extern.AbiNoEscape.same) (by kernel_rfl)]
  rw [Lib.run_noEscape]
  simp only [Result.andThen]
  rw [Oper.upon_value]
  go_wp2
  rw [Lib.run_from_unsafe w ⟨b, 0, none⟩ Tryz.underlying127 Tryz.underlying40 hj hsh wr_lies]
  simp only [Result.andThen]
  rw [Oper.upon_value]
  go_wp2
  go_end0
  exact ⟨rfl, rfl⟩

theorem wr_check (B b : Nat) (bs : List UInt8) (ap : Bool) (nv : Value) (w : World) (h : PrS B b bs ap nv w) :
    Calls Tryz.prog 62 #[.pointer (some ⟨b, 0, none⟩)] w fun e w' => e = .returned (.tuple #[]) ∧ PrA (.pointer (some ⟨b, 0, none⟩)) B b bs ap nv w' ∧ Fr B b w w' := by
  rcases h with ⟨hB, v, hk, ho⟩ | ⟨hB, v, hk, ho⟩
  · refine (wr_fresh b w (by rw [Lib.cell_of_heap hk]; rfl) (by simp [World.shape?, hk]) (Lib.frozen_of_heap hk 0)).mono ?_
    rintro e w' ⟨rfl, rfl⟩
    exact ⟨rfl, ⟨hB, v, by rw [pr_set hk]; rfl, own_set ho (PrA.ne hk ho) _⟩, (Fr.refl B b w).set hB _⟩
  · refine (wr_used b w (by rw [Lib.cell_of_heap hk]; rfl)).mono ?_
    rintro e w' ⟨rfl, rfl⟩
    exact ⟨rfl, ⟨hB, v, hk, ho⟩, Fr.refl B b _⟩

theorem pr_put {B b : Nat} {bs : List UInt8} {ap : Bool} {nv q v v' : Value} {w : World} (hB : B ≤ b) (hk : w.heap[b]? = some (.cells #[q, v, .bool ap, nv] 46 (0, 0))) (ho : w.ownsRowF B 5 1 v' bs.length (Lib.byteCells bs)) : PrA q B b bs ap nv (w.setCell ⟨b, 1, none⟩ v') :=
  ⟨hB, v', by rw [pr_set hk]; rfl, own_set ho (Lib.ownBlock_neF ho hk (by decide)) _⟩

set_option maxHeartbeats 2000000 in
set_option maxRecDepth 100000 in
theorem wr_byte (B b : Nat) (bs : List UInt8) (ap : Bool) (nv : Value) (c : UInt8) (w : World) (h : PrS B b bs ap nv w) (hlen : bs.length + 1 ≤ 140737488355328) (hBw : B ≤ w.heap.size) :
    Calls Tryz.prog 29 #[.pointer (some ⟨b, 0, none⟩), .int .u8 c.toNat] w fun e w' => e = .returned .nilIface ∧ PrS B b (bs ++ [c]) ap nv w' ∧ Fr B b w w' := by
  obtain ⟨i0, hi, hz0, hz1, hz2⟩ := info_parts wr_u8
  go_enter Tryz.func29, Tryz.ntmps29
  go_wp2_with fail
  refine (wr_check B b bs ap nv _ h).mono ?_
  rintro e w1 ⟨rfl, h1, hb1⟩
  obtain ⟨hB, v, hbk, hown⟩ := h1
  have hne := PrA.ne hbk hown
  have c0 : w1.cell? ⟨b, 0, none⟩ = some (.pointer (some ⟨b, 0, none⟩)) := by rw [Lib.cell_of_heap hbk]; rfl
  have c1 : w1.cell? ⟨b, 1, none⟩ = some v := by rw [Lib.cell_of_heap hbk]; rfl
  have hbl := Lib.byteCells_length bs
  go_wp2_with (at_builtin; refine wpList_append_ownF _ rfl _ _ 22 rfl B 5 i0 (.int .u8 0) 1 1 Tryz.underlying22 hi hz0 hz1 hz2 rfl (by decide) _ _ _ rfl (hown.alloc _) ⟨w1.heap.size, 0, none⟩ 1 1 [.int .u8 c.toNat] rfl rfl ?c1 ?c2 ?c3 ?c4 ?c5 ?_)
  case c1 =>
    intro j u hj
    match j, hj with
    | 0, hj => simp at hj; subst hj; simp [Addr.add]
  case c2 => intro u hu; simp at hu; subst hu; rfl
  case c3 => unfold maxLen; omega
  case c4 => omega
  case c5 => have := hb1.bel.size; simp; omega
  intro v' w2 hown' hgrow _
  have hlt : b < w1.heap.size := (Array.getElem?_eq_some_iff.1 hbk).1
  have hb2 : w2.heap[b]? = some (.cells #[.pointer (some ⟨b, 0, none⟩), v, .bool ap, nv] 46 (0, 0)) := by
    rw [hgrow.block b (by simp; omega) (fun e => hne e.symm), Lib.alloc_old w1 _ b hlt]
    exact hbk
  have d0 : w2.cell? ⟨b, 0, none⟩ = some (.pointer (some ⟨b, 0, none⟩)) := by rw [Lib.cell_of_heap hb2]; rfl
  have d1 : w2.cell? ⟨b, 1, none⟩ = some v := by rw [Lib.cell_of_heap hb2]; rfl
  have f1 : w2.frozen? ⟨b, 1, none⟩ = false := Lib.frozen_of_heap hb2 1
  obtain ⟨g, cap, rfl⟩ : ∃ g cap, v' = .slice (some ⟨g, 0, none⟩) (bs.length + 1) cap := by
    rcases hown'.2 with ⟨_, h0⟩ | ⟨g, cap, cur, fz, hv, _⟩
    · omega
    · exact ⟨g, cap, hv⟩
  go_wp2
  go_ret
  refine ⟨rfl, Or.inr (pr_put hB hb2 (by rw [Lib.byteCells_append, List.length_append]; exact hown')), hb1.trans ⟨?_, ?_⟩⟩
  · exact (((Below.refl B w1).alloc (by have := hb1.bel.size; omega) _).grown hgrow (by have := hb1.bel.size; simp; omega) (fun k hk => (hown.lt k hk).1)).setCell (p := ⟨b, 1, none⟩) hB _
  · exact ((((Lib.OthersKept.refl _ _ w1).alloc _).grown hgrow (Lib.ownsRowF_kind (hown.alloc _)))).setCell ⟨b, 1, none⟩ rfl _

set_option maxHeartbeats 2000000 in
set_option maxRecDepth 100000 in
theorem wr_text (B b : Nat) (bs : List UInt8) (ap : Bool) (nv : Value) (s : ByteArray) (w : World) (h : PrS B b bs ap nv w) (hlen : bs.length + s.size ≤ 140737488355328) (hBw : B ≤ w.heap.size) :
    Calls Tryz.prog 30 #[.pointer (some ⟨b, 0, none⟩), .string s] w fun e w' => e = .returned (.tuple #[.int .i64 s.size, .nilIface]) ∧ PrS B b (bs ++ s.data.toList) ap nv w' ∧ Fr B b w w' := by
  obtain ⟨i0, hi, hz0, hz1, hz2⟩ := info_parts wr_u8
  go_enter Tryz.func30, Tryz.ntmps30
  go_wp2_with fail
  refine (wr_check B b bs ap nv _ h).mono ?_
  rintro e w1 ⟨rfl, h1, hb1⟩
  obtain ⟨hB, v, hbk, hown⟩ := h1
  have hne := PrA.ne hbk hown
  have c0 : w1.cell? ⟨b, 0, none⟩ = some (.pointer (some ⟨b, 0, none⟩)) := by rw [Lib.cell_of_heap hbk]; rfl
  have c1 : w1.cell? ⟨b, 1, none⟩ = some v := by rw [Lib.cell_of_heap hbk]; rfl
  have hbl := Lib.byteCells_length bs
  go_wp2_with (at_builtin; refine Lib.wpList_append_own_stringF _ rfl _ _ 22 9 rfl B 5 i0 Tryz.underlying22 Tryz.underlying9 hi hz0 hz1 hz2 _ _ _ rfl hown s rfl ?c3 ?c4 ?c5 ?_)
  case c3 => unfold maxLen; omega
  case c4 => omega
  case c5 => have := hb1.bel.size; omega
  intro v' w2 hown' hgrow _
  have hlt : b < w1.heap.size := (Array.getElem?_eq_some_iff.1 hbk).1
  have hb2 : w2.heap[b]? = some (.cells #[.pointer (some ⟨b, 0, none⟩), v, .bool ap, nv] 46 (0, 0)) := by
    rw [hgrow.block b hlt (fun e => hne e.symm)]
    exact hbk
  have d0 : w2.cell? ⟨b, 0, none⟩ = some (.pointer (some ⟨b, 0, none⟩)) := by rw [Lib.cell_of_heap hb2]; rfl
  have d1 : w2.cell? ⟨b, 1, none⟩ = some v := by rw [Lib.cell_of_heap hb2]; rfl
  have f1 : w2.frozen? ⟨b, 1, none⟩ = false := Lib.frozen_of_heap hb2 1
  obtain ⟨ao, n', cap, rfl⟩ : ∃ ao n' cap, v' = .slice ao n' cap := by
    rcases hown'.2 with ⟨hv, _⟩ | ⟨g, cap, cur, fz, hv, _⟩
    · exact ⟨_, _, _, hv⟩
    · exact ⟨_, _, _, hv⟩
  go_wp2
  go_ret2
  refine ⟨rfl, Or.inr (pr_put hB hb2 ?_), hb1.trans ⟨?_, ?_⟩⟩
  · rw [Lib.byteCells_append, List.length_append, Array.length_toList]
    simpa [Lib.strCells, Lib.byteCells] using hown'
  · exact ((Below.refl B w1).grown hgrow (by have := hb1.bel.size; omega) (fun k hk => (hown.lt k hk).1)).setCell (p := ⟨b, 1, none⟩) hB _
  · exact ((Lib.OthersKept.refl _ _ w1).grown hgrow (Lib.ownsRowF_kind hown)).setCell ⟨b, 1, none⟩ rfl _

/-- A blank where one is due. -/
def due (ap : Bool) : List UInt8 := if ap = true then [32] else []

set_option maxRecDepth 20000 in
theorem wr_word (B b : Nat) (bs : List UInt8) (ap : Bool) (nv : Value) (s : ByteArray) (w : World) (h : PrS B b bs ap nv w) (hlen : bs.length + s.size + 1 ≤ 140737488355328) (hBw : B ≤ w.heap.size) :
    Calls Tryz.prog 36 #[.pointer (some ⟨b, 0, none⟩), .string s] w fun e w' => e = .returned (.tuple #[]) ∧ PrS B b (bs ++ due ap ++ s.data.toList) true nv w' ∧ Fr B b w w' := by
  have hB := h.lt.1
  obtain ⟨q2, q3, q4⟩ := h.cells
  cases ap
  · go_enter Tryz.func36, Tryz.ntmps36
    go_wp2_with fail
    refine (wr_text B b bs false nv s w h (by omega) hBw).mono ?_
    rintro e w1 ⟨rfl, h1, f1⟩
    have A1 : Hid (PrS B b (bs ++ s.data.toList) true nv (w1.setCell ⟨b, 2, none⟩ (.bool true))) := h1.apart true
    have F1 : Hid (Fr B b w (w1.setCell ⟨b, 2, none⟩ (.bool true))) := f1.set hB _
    obtain ⟨r2, r3, r4⟩ := h1.cells
    clear q2 q3 q4 h1 f1 h
    go_wp2
    go_end0
    exact ⟨rfl, by simpa [due] using A1.out, F1.out⟩
  · go_enter Tryz.func36, Tryz.ntmps36
    go_wp2_with fail
    refine (wr_byte B b bs true nv 32 w h (by omega) hBw).mono ?_
    rintro e w1 ⟨rfl, h1, f1⟩
    clear q2 q3 q4 h
    have s1 := f1.bel.size
    go_wp2_with fail
    refine (wr_text B b (bs ++ [32]) true nv s w1 h1 (by simp; omega) (by omega)).mono ?_
    rintro e w2 ⟨rfl, h2, f2⟩
    have A1 : Hid (PrS B b (bs ++ [32] ++ s.data.toList) true nv (w2.setCell ⟨b, 2, none⟩ (.bool true))) := h2.apart true
    have F1 : Hid (Fr B b w (w2.setCell ⟨b, 2, none⟩ (.bool true))) := (f1.trans f2).set hB _
    obtain ⟨r2, r3, r4⟩ := h2.cells
    clear h1 f1 h2 f2
    go_wp2
    go_end0
    exact ⟨rfl, by simpa [due] using A1.out, F1.out⟩

set_option maxRecDepth 20000 in
theorem wr_open (B b : Nat) (bs : List UInt8) (ap : Bool) (nv : Value) (w : World) (h : PrS B b bs ap nv w) (hlen : bs.length + 2 ≤ 140737488355328) (hBw : B ≤ w.heap.size) :
    Calls Tryz.prog 74 #[.pointer (some ⟨b, 0, none⟩)] w fun e w' => e = .returned (.tuple #[]) ∧ PrS B b (bs ++ due ap ++ [40]) false nv w' ∧ Fr B b w w' := by
  have hB := h.lt.1
  go_enter Tryz.func74, Tryz.ntmps74
  go_wp2_with fail
  refine (wr_word B b bs ap nv _ w h (by show bs.length + 1 + 1 ≤ _; omega) hBw).mono ?_
  rintro e w1 ⟨rfl, h1, f1⟩
  have A1 : Hid (PrS B b (bs ++ due ap ++ [40]) false nv (w1.setCell ⟨b, 2, none⟩ (.bool false))) := h1.apart false
  have F1 : Hid (Fr B b w (w1.setCell ⟨b, 2, none⟩ (.bool false))) := f1.set hB _
  obtain ⟨r2, r3, r4⟩ := h1.cells
  clear h1 f1 h
  go_wp2
  go_end0
  exact ⟨rfl, A1.out, F1.out⟩

set_option maxRecDepth 20000 in
theorem wr_shut (B b : Nat) (bs : List UInt8) (ap : Bool) (nv : Value) (w : World) (h : PrS B b bs ap nv w) (hlen : bs.length + 1 ≤ 140737488355328) (hBw : B ≤ w.heap.size) :
    Calls Tryz.prog 77 #[.pointer (some ⟨b, 0, none⟩)] w fun e w' => e = .returned (.tuple #[]) ∧ PrS B b (bs ++ [41]) true nv w' ∧ Fr B b w w' := by
  have hB := h.lt.1
  go_enter Tryz.func77, Tryz.ntmps77
  go_wp2_with fail
  refine (wr_byte B b bs ap nv 41 w h hlen hBw).mono ?_
  rintro e w1 ⟨rfl, h1, f1⟩
  have A1 : Hid (PrS B b (bs ++ [41]) true nv (w1.setCell ⟨b, 2, none⟩ (.bool true))) := h1.apart true
  have F1 : Hid (Fr B b w (w1.setCell ⟨b, 2, none⟩ (.bool true))) := f1.set hB _
  obtain ⟨r2, r3, r4⟩ := h1.cells
  clear h1 f1 h
  go_wp2
  go_end0
  exact ⟨rfl, A1.out, F1.out⟩

set_option maxHeartbeats 1000000 in
set_option maxRecDepth 100000 in
theorem wr_string (B b : Nat) (l : List UInt8) (ap : Bool) (nv : Value) (w : World) (h : PrS B b l ap nv w) (h0 : l ≠ []) :
    Calls Tryz.prog 19 #[.pointer (some ⟨b, 0, none⟩)] w fun e w' => e = .returned (.string ⟨l.toArray⟩) ∧ Below B w w' := by
  obtain ⟨q, hB, v, hbk, hown⟩ := h.at
  have hl0 : l.length ≠ 0 := by simpa using h0
  obtain ⟨g, cap, cur, fz, rfl, hbg, hg, hfz, hnc, hcm, hcs, htake⟩ : ∃ g cap cur fz, v = .slice (some ⟨g, 0, none⟩) l.length cap ∧ B ≤ g ∧ w.heap[g]? = some (.cells cur 5 fz) ∧ fz.2 ≤ l.length * 1 ∧ l.length ≤ cap ∧ cap ≤ maxLen ∧ cur.size = cap * 1 ∧ cur.toList.take (l.length * 1) = Lib.byteCells l := by
    rcases hown.2 with ⟨_, hz⟩ | ⟨g, cap, cur, fz, hv, r⟩
    · exact absurd hz hl0
    · exact ⟨g, cap, cur, fz, hv, r⟩
  have c1 : w.drew.cell? ⟨b, 1, none⟩ = some (.slice (some ⟨g, 0, none⟩) l.length cap) := by
    have : w.drew.heap[b]? = some (.cells #[q, .slice (some ⟨g, 0, none⟩) l.length cap, .bool ap, nv] 46 (0, 0)) := hbk
    rw [Lib.cell_of_heap this]; rfl
  have hSD : (Builtin.unsafeSliceData_ #[22] 88 #[.slice (some ⟨g, 0, none⟩) l.length cap]).run Tryz.prog w.drew = .ok (.pointer (some ⟨g, 0, none⟩)) w.drew :=
    Lib.run_unsafeSliceData_row _ _ _ _ _ _ (by omega)
  have hUS : (Builtin.unsafeString_ #[88, 3] 9 #[.pointer (some ⟨g, 0, none⟩), .int .i64 l.length]).run Tryz.prog w.drew = .ok (.string ⟨l.toArray⟩) (w.drew.freeze ⟨g, 0, none⟩ l.length) := by
    refine Lib.run_unsafeString_row w.drew 88 3 9 5 Tryz.underlying88 wr_cells8 g cur.size (by have hg' : w.drew.heap[g]? = some (.cells cur 5 fz) := hg; simp [World.shape?, hg']) l h0 (by omega) (by unfold maxLen at hcm; omega) ?_
    intro j x hx
    have := hown.cells (g := g) rfl j (.int .u8 x.toNat) (by simp [Lib.byteCells, hx])
    exact this
  clear h hown hbk hg hfz hcs htake
  have mixed : Tryz.prog.follows Departure.mixedOrders = true := by kernel_rfl
  go_enter Tryz.func19, Tryz.ntmps19
  go_wp2
  go_region_o
  all_goals (go_wp2; go_ret; exact ⟨rfl, Lib.below_freeze (Below.drew (Below.refl B w)) (p := ⟨g, 0, none⟩) hbg _⟩)
end

section
open Go.ChangeShapes Go.WideShapes Go.ChangeAt Go.RowKit

theorem impl_keyPrim (n : Int) (w : World) : Calls Tryz.prog 71 #[.int .i64 n] w fun e w' => e = .returned (.string (keyN 8 n)) ∧ w' = w := by
  by_cases h0 : n = 0
  · subst h0
    go_enter Tryz.func71, Tryz.ntmps71
    go_wp2
    go_ret
    exact ⟨rfl, rfl⟩
  by_cases h1 : n = 1
  · subst h1
    go_enter Tryz.func71, Tryz.ntmps71
    go_wp2
    go_ret
    exact ⟨rfl, rfl⟩
  by_cases h2 : n = 2
  · subst h2
    go_enter Tryz.func71, Tryz.ntmps71
    go_wp2
    go_ret
    exact ⟨rfl, rfl⟩
  by_cases h3 : n = 3
  · subst h3
    go_enter Tryz.func71, Tryz.ntmps71
    go_wp2
    go_ret
    exact ⟨rfl, rfl⟩
  have hv : Hid (keyN 8 n = ⟨#[]⟩) := keyN_prim_no (by omega)
  have g0 : (n == 0) = false := by simpa using h0
  have g1 : (n == 1) = false := by simpa using h1
  have g2 : (n == 2) = false := by simpa using h2
  have g3 : (n == 3) = false := by simpa using h3
  clear h0 h1 h2 h3
  go_enter Tryz.func71, Tryz.ntmps71
  go_wp2
  go_ret
  exact ⟨by rw [hv.out]; rfl, rfl⟩

set_option maxHeartbeats 2000000 in
theorem impl_keyOf (k a b c n : Int) (s o : ByteArray) (w : World) : Calls Tryz.prog 38 #[.agg #[.int .i64 k, .int .i64 a, .int .i64 b, .int .i64 c, .int .i64 n, .string s, .string o]] w fun e w' => e = .returned (.string (keyN k n)) ∧ Below w.heap.size w w' := by
  have HB : Hid (Below w.heap.size w (w.alloc (.cells #[.int .i64 k, .int .i64 a, .int .i64 b, .int .i64 c, .int .i64 n, .string s, .string o] 58))) := (Below.refl _ w).alloc (Nat.le_refl _) _
  by_cases h8 : k = 8
  · subst h8
    go_enter Tryz.func38, Tryz.ntmps38
    go_wp2_with fail
    refine (impl_keyPrim n _).mono ?_
    rintro e w1 ⟨rfl, rfl⟩
    go_wp2
    go_ret
    exact ⟨rfl, HB.out⟩
  by_cases h3 : k = 3
  · subst h3
    go_enter Tryz.func38, Tryz.ntmps38
    go_wp2
    go_ret
    exact ⟨rfl, HB.out⟩
  by_cases h4 : k = 4
  · subst h4
    go_enter Tryz.func38, Tryz.ntmps38
    go_wp2
    go_ret
    exact ⟨rfl, HB.out⟩
  by_cases h5 : k = 5
  · subst h5
    go_enter Tryz.func38, Tryz.ntmps38
    go_wp2
    go_ret
    exact ⟨rfl, HB.out⟩
  by_cases h6 : k = 6
  · subst h6
    go_enter Tryz.func38, Tryz.ntmps38
    go_wp2
    go_ret
    exact ⟨rfl, HB.out⟩
  by_cases h7 : k = 7
  · subst h7
    go_enter Tryz.func38, Tryz.ntmps38
    go_wp2
    go_ret
    exact ⟨rfl, HB.out⟩
  by_cases h9 : k = 9
  · subst h9
    go_enter Tryz.func38, Tryz.ntmps38
    go_wp2
    go_ret
    exact ⟨rfl, HB.out⟩
  by_cases h10 : k = 10
  · subst h10
    go_enter Tryz.func38, Tryz.ntmps38
    go_wp2
    go_ret
    exact ⟨rfl, HB.out⟩
  by_cases h11 : k = 11
  · subst h11
    go_enter Tryz.func38, Tryz.ntmps38
    go_wp2
    go_ret
    exact ⟨rfl, HB.out⟩
  by_cases h12 : k = 12
  · subst h12
    go_enter Tryz.func38, Tryz.ntmps38
    go_wp2
    go_ret
    exact ⟨rfl, HB.out⟩
  by_cases h13 : k = 13
  · subst h13
    go_enter Tryz.func38, Tryz.ntmps38
    go_wp2
    go_ret
    exact ⟨rfl, HB.out⟩
  by_cases h14 : k = 14
  · subst h14
    go_enter Tryz.func38, Tryz.ntmps38
    go_wp2
    go_ret
    exact ⟨rfl, HB.out⟩
  by_cases h15 : k = 15
  · subst h15
    go_enter Tryz.func38, Tryz.ntmps38
    go_wp2
    go_ret
    exact ⟨rfl, HB.out⟩
  by_cases h16 : k = 16
  · subst h16
    go_enter Tryz.func38, Tryz.ntmps38
    go_wp2
    go_ret
    exact ⟨rfl, HB.out⟩
  by_cases h17 : k = 17
  · subst h17
    go_enter Tryz.func38, Tryz.ntmps38
    go_wp2
    go_ret
    exact ⟨rfl, HB.out⟩
  by_cases h18 : k = 18
  · subst h18
    go_enter Tryz.func38, Tryz.ntmps38
    go_wp2
    go_ret
    exact ⟨rfl, HB.out⟩
  by_cases h19 : k = 19
  · subst h19
    go_enter Tryz.func38, Tryz.ntmps38
    go_wp2
    go_ret
    exact ⟨rfl, HB.out⟩
  have hv : Hid (keyN k n = ⟨#[]⟩) := keyN_no n (by omega)
  have g3 : (k == 3) = false := by simpa using h3
  have g4 : (k == 4) = false := by simpa using h4
  have g5 : (k == 5) = false := by simpa using h5
  have g6 : (k == 6) = false := by simpa using h6
  have g7 : (k == 7) = false := by simpa using h7
  have g8 : (k == 8) = false := by simpa using h8
  have g9 : (k == 9) = false := by simpa using h9
  have g10 : (k == 10) = false := by simpa using h10
  have g11 : (k == 11) = false := by simpa using h11
  have g12 : (k == 12) = false := by simpa using h12
  have g13 : (k == 13) = false := by simpa using h13
  have g14 : (k == 14) = false := by simpa using h14
  have g15 : (k == 15) = false := by simpa using h15
  have g16 : (k == 16) = false := by simpa using h16
  have g17 : (k == 17) = false := by simpa using h17
  have g18 : (k == 18) = false := by simpa using h18
  have g19 : (k == 19) = false := by simpa using h19
  clear h3 h4 h5 h6 h7 h8 h9 h10 h11 h12 h13 h14 h15 h16 h17 h18 h19
  go_enter Tryz.func38, Tryz.ntmps38
  go_wp2
  go_ret
  exact ⟨by rw [hv.out]; rfl, HB.out⟩
end

section
open Go.ChangeShapes Go.WideShapes Go.ChangeAt Go.RowKit

theorem impl_kidF (k a b c n : Int) (s o : ByteArray) (w : World) :
    Calls Tryz.prog 98 #[.agg #[.int .i64 k, .int .i64 a, .int .i64 b, .int .i64 c, .int .i64 n, .string s, .string o]] w fun e w' =>
      e = .returned (.agg #[.int .i64 a, .int .i64 b, .int .i64 c]) ∧ Below w.heap.size w w' ∧ w'.heap.size = w.heap.size + 2 := by
  go_enter Tryz.func98, Tryz.ntmps98
  go_wp2
  refine bodyPost_ret (v := .agg #[.int .i64 a, .int .i64 b, .int .i64 c]) (by simp [results, Tryz.results98, go_sem]) rfl ⟨rfl, ?_, ?_⟩
  · exact ((Below.refl _ w).alloc (Nat.le_refl _) _).alloc (by simp) _
  · simp

theorem impl_kids (k a b c n : Int) (s o : ByteArray) (w : World) :
    Calls Tryz.prog 72 #[.agg #[.int .i64 k, .int .i64 a, .int .i64 b, .int .i64 c, .int .i64 n, .string s, .string o]] w fun e w' =>
      e = .returned (.slice (some ⟨w.heap.size + 3, 0, none⟩) (arN k) 3) ∧ w'.heap[w.heap.size + 3]? = some (.cells #[.int .i64 a, .int .i64 b, .int .i64 c] 134 (0, 0)) ∧ Below w.heap.size w w' := by
  have har := arN_le k
  have har' : (arN k : Int) ≤ 3 := by omega
  have har0 : (0 : Int) ≤ (arN k : Int) := by omega
  go_enter Tryz.func72, Tryz.ntmps72
  go_wp2_with fail
  refine (impl_kidF k a b c n s o _).mono ?_
  rintro e w1 ⟨rfl, b1, s1⟩
  have q0 : w1.cell? ⟨w.heap.size, 0, none⟩ = some (.int .i64 k) := by
    rw [b1.cell (p := ⟨w.heap.size, 0, none⟩) (by simp)]
    simp
  go_wp2_with fail
  refine (impl_arity k _).mono ?_
  rintro e w2 ⟨rfl, rfl⟩
  have s1' : w1.heap.size = w.heap.size + 3 := by simpa using s1
  have HG : Hid ((w1.alloc (.cells #[.int .i64 a, .int .i64 b, .int .i64 c] 134)).heap[w.heap.size + 3]? = some (.cells #[.int .i64 a, .int .i64 b, .int .i64 c] 134 (0, 0))) := by
    have := (MapKept.heap_alloc w1 (.cells #[.int .i64 a, .int .i64 b, .int .i64 c] 134)).1
    rw [s1'] at this
    exact this
  have HB : Hid (Below w.heap.size w (w1.alloc (.cells #[.int .i64 a, .int .i64 b, .int .i64 c] 134))) := (((Below.refl _ w).alloc (Nat.le_refl _) _).trans (b1.mono (by simp))).alloc (by omega) _
  clear s1 b1
  go_wp2
  go_ret
  exact ⟨rfl, HG.out, HB.out⟩

/-- The number is one that the kind may have. -/
def numB (k n : Int) : Bool := decide (NumFits k n)

theorem impl_number (k a b c n : Int) (s o : ByteArray) (w : World) :
    Calls Tryz.prog 101 #[.agg #[.int .i64 k, .int .i64 a, .int .i64 b, .int .i64 c, .int .i64 n, .string s, .string o]] w fun e w' => e = .returned (.bool (numB k n)) ∧ Below w.heap.size w w' := by
  have HB : Hid (Below w.heap.size w (w.alloc (.cells #[.int .i64 k, .int .i64 a, .int .i64 b, .int .i64 c, .int .i64 n, .string s, .string o] 58))) := (Below.refl _ w).alloc (Nat.le_refl _) _
  by_cases h2 : k = 2
  · subst h2
    by_cases h0 : 0 ≤ n
    · have hv : Hid (Ending.returned (.bool (decide (n ≤ 65535))) = Ending.returned (.bool (numB 2 n))) := by
        show Ending.returned (.bool (decide (n ≤ 65535))) = Ending.returned (.bool (numB 2 n))
        unfold numB NumFits
        congr 2
        rw [decide_eq_decide]
        omega
      go_enter Tryz.func101, Tryz.ntmps101
      go_wp2
      go_ret
      exact ⟨hv.out, HB.out⟩
    · have hv : Hid (Ending.returned (.bool false) = Ending.returned (.bool (numB 2 n))) := by
        show Ending.returned (.bool false) = Ending.returned (.bool (numB 2 n))
        unfold numB NumFits
        rw [decide_eq_false (by omega)]
      go_enter Tryz.func101, Tryz.ntmps101
      go_wp2
      go_ret
      exact ⟨hv.out, HB.out⟩
  · by_cases h8 : k = 8
    · subst h8
      by_cases h0 : 0 ≤ n
      · have hv : Hid (Ending.returned (.bool (decide (n ≤ 3))) = Ending.returned (.bool (numB 8 n))) := by
          show Ending.returned (.bool (decide (n ≤ 3))) = Ending.returned (.bool (numB 8 n))
          unfold numB NumFits
          congr 2
          rw [decide_eq_decide]
          omega
        go_enter Tryz.func101, Tryz.ntmps101
        go_wp2
        go_ret
        exact ⟨hv.out, HB.out⟩
      · have hv : Hid (Ending.returned (.bool false) = Ending.returned (.bool (numB 8 n))) := by
          show Ending.returned (.bool false) = Ending.returned (.bool (numB 8 n))
          unfold numB NumFits
          rw [decide_eq_false (by omega)]
        go_enter Tryz.func101, Tryz.ntmps101
        go_wp2
        go_ret
        exact ⟨hv.out, HB.out⟩
    · have hv : Hid (Ending.returned (.bool (n == 0)) = Ending.returned (.bool (numB k n))) := by
        show Ending.returned (.bool (n == 0)) = Ending.returned (.bool (numB k n))
        have e : (n == 0) = decide (n = 0) := rfl
        unfold numB NumFits
        rw [e]
        congr 2
        rw [decide_eq_decide]
        exact ⟨fun h => ⟨fun h' => absurd h' h2, fun h' => absurd h' h8, fun _ _ => h⟩, fun h => h.2.2 h2 h8⟩
      have g2 : (k == 2) = false := by simpa using h2
      have g8 : (k == 8) = false := by simpa using h8
      clear h2 h8
      go_enter Tryz.func101, Tryz.ntmps101
      go_wp2
      go_ret
      exact ⟨hv.out, HB.out⟩

theorem cells7_of {w : World} {g : Nat} {k a b c n : Int} {s o : ByteArray} {t : TypeId} {z : Nat × Nat} (h : w.heap[g]? = some (.cells #[.int .i64 k, .int .i64 a, .int .i64 b, .int .i64 c, .int .i64 n, .string s, .string o] t z)) :
    w.cell? ⟨g, 0, none⟩ = some (.int .i64 k) ∧ w.cell? ⟨g, 1, none⟩ = some (.int .i64 a) ∧ w.cell? ⟨g, 2, none⟩ = some (.int .i64 b) ∧ w.cell? ⟨g, 3, none⟩ = some (.int .i64 c) ∧ w.cell? ⟨g, 4, none⟩ = some (.int .i64 n) ∧ w.cell? ⟨g, 5, none⟩ = some (.string s) ∧ w.cell? ⟨g, 6, none⟩ = some (.string o) := by
  refine ⟨?_, ?_, ?_, ?_, ?_, ?_, ?_⟩ <;> (rw [cell_of_row _ _ _ _ _ _ h]; rfl)

theorem cells3_of {w : World} {g : Nat} {a b c : Int} {t : TypeId} {z : Nat × Nat} (h : w.heap[g]? = some (.cells #[.int .i64 a, .int .i64 b, .int .i64 c] t z)) : ∀ m, m < 3 → w.cell? ⟨g, m, none⟩ = some (.int .i64 ([a, b, c].getD m 0)) := by
  intro m hm
  rw [cell_of_row _ _ _ _ _ _ h]
  rcases (by omega : m = 0 ∨ m = 1 ∨ m = 2) with rfl | rfl | rfl <;> rfl

theorem kids_null {ar : Nat} {a b c : Int} (har : ar ≤ 3) : KidsNull ar a b c ↔ ∀ m, ar ≤ m → m < 3 → [a, b, c].getD m 0 = 0 := by
  unfold KidsNull
  constructor
  · rintro ⟨h0, h1, h2⟩ m hm hm3
    rcases (by omega : m = 0 ∨ m = 1 ∨ m = 2) with rfl | rfl | rfl
    · exact h0 (by omega)
    · exact h1 (by omega)
    · exact h2 (by omega)
  · intro h
    exact ⟨fun h0 => h 0 (by omega) (by omega), fun h0 => h 1 (by omega) (by omega), fun h0 => h 2 (by omega) (by omega)⟩

/-- The fields of a node, once the kind is one and kids that it has not are 0. -/
theorem fields_rest {k a b c n : Int} {s o : ByteArray} (hk : 1 ≤ k ∧ k ≤ 19) (hz : KidsNull (arN k) a b c) :
    fieldsB ⟨k, a, b, c, n, s, o⟩ = (numB k n && wantB s (decide (1 ≤ (nmN k : Int))) && wantB o (decide (2 ≤ (nmN k : Int)))) := by
  have hn : wantB s (decide (1 ≤ (nmN k : Int))) = decide ((nmN k = 0 → s.size = 0) ∧ (0 < nmN k → isNameB s = true)) := by
    unfold wantB
    by_cases h : 1 ≤ (nmN k : Int)
    · rw [decide_eq_true h, if_pos rfl]
      cases hb : isNameB s with
      | true => rw [decide_eq_true ⟨fun h0 => by omega, fun _ => rfl⟩]
      | false => rw [decide_eq_false (fun h0 => by have := h0.2 (by omega); cases this)]
    · rw [decide_eq_false h, if_neg (by simp)]
      rw [decide_eq_decide]
      exact ⟨fun h0 => ⟨fun _ => h0, fun h1 => by omega⟩, fun h0 => h0.1 (by omega)⟩
  have ho : wantB o (decide (2 ≤ (nmN k : Int))) = decide ((nmN k ≤ 1 → o.size = 0) ∧ (1 < nmN k → isNameB o = true)) := by
    unfold wantB
    by_cases h : 2 ≤ (nmN k : Int)
    · rw [decide_eq_true h, if_pos rfl]
      cases hb : isNameB o with
      | true => rw [decide_eq_true ⟨fun h0 => by omega, fun _ => rfl⟩]
      | false => rw [decide_eq_false (fun h0 => by have := h0.2 (by omega); cases this)]
    · rw [decide_eq_false h, if_neg (by simp)]
      rw [decide_eq_decide]
      exact ⟨fun h0 => ⟨fun _ => h0, fun h1 => by omega⟩, fun h0 => h0.1 (by omega)⟩
  rw [hn, ho]
  unfold fieldsB numB
  rw [← Bool.decide_and, ← Bool.decide_and, decide_eq_decide]
  show ((1 ≤ k ∧ k ≤ 19) ∧ KidsNull (arN k) a b c ∧ NamesFit (nmN k) s o ∧ NumFits k n) ↔ _
  unfold NamesFit
  constructor
  · rintro ⟨_, _, ⟨h1, h2, h3, h4⟩, h5⟩
    exact ⟨⟨h5, h1, h2⟩, h3, h4⟩
  · rintro ⟨⟨h5, h1, h2⟩, h3, h4⟩
    exact ⟨hk, hz, ⟨h1, h2, h3, h4⟩, h5⟩

set_option maxHeartbeats 1000000 in
set_option maxRecDepth 20000 in
theorem impl_fields (k a b c n : Int) (s o : ByteArray) (hs : s.size ≤ maxLen) (ho : o.size ≤ maxLen) (w : World) :
    Calls Tryz.prog 67 #[.agg #[.int .i64 k, .int .i64 a, .int .i64 b, .int .i64 c, .int .i64 n, .string s, .string o]] w fun e w' =>
      e = .returned (.bool (fieldsB ⟨k, a, b, c, n, s, o⟩)) ∧ Below w.heap.size w w' := by
  have HS : Hid (s.size ≤ maxLen ∧ o.size ≤ maxLen) := ⟨hs, ho⟩
  have HB : Hid (Below w.heap.size w (w.alloc (.cells #[.int .i64 k, .int .i64 a, .int .i64 b, .int .i64 c, .int .i64 n, .string s, .string o] 58))) := (Below.refl _ w).alloc (Nat.le_refl _) _
  clear hs ho
  by_cases hk : 1 ≤ k ∧ k ≤ 19
  · have HK : Hid (1 ≤ k ∧ k ≤ 19) := hk
    obtain ⟨hk1, hk2⟩ := hk
    have har := arN_le k
    have har' : (arN k : Int) ≤ 3 := by omega
    have har0 : (0 : Int) ≤ (arN k : Int) := by omega
    go_enter Tryz.func67, Tryz.ntmps67
    go_wp2_with fail
    refine (impl_kidF k a b c n s o _).mono ?_
    rintro e w1 ⟨rfl, b1, s1⟩
    have s1' : w1.heap.size = w.heap.size + 3 := by simpa using s1
    have g1 : w1.heap[w.heap.size]? = some (.cells #[.int .i64 k, .int .i64 a, .int .i64 b, .int .i64 c, .int .i64 n, .string s, .string o] 58 (0, 0)) := by
      rw [b1.block _ (by simp)]
      exact (MapKept.heap_alloc w _).1
    obtain ⟨p0, p1, p2, p3, p4, p5, p6⟩ := cells7_of g1
    have B1 : Hid (Below w.heap.size w w1) := HB.out.trans (b1.mono (by simp))
    clear b1 s1 HB g1
    go_wp2_with fail
    refine (impl_arity k _).mono ?_
    rintro e w2 ⟨rfl, rfl⟩
    have HC : Hid (∀ m, m < 3 → (w1.alloc (.cells #[.int .i64 a, .int .i64 b, .int .i64 c] 134)).cell? ⟨w1.heap.size, m, none⟩ = some (.int .i64 ([a, b, c].getD m 0))) := cells3_of (MapKept.heap_alloc w1 _).1
    have HF : Hid (KidsNull (arN k) a b c → fieldsB ⟨k, a, b, c, n, s, o⟩ = (numB k n && wantB s (decide (1 ≤ (nmN k : Int))) && wantB o (decide (2 ≤ (nmN k : Int))))) := fun h => fields_rest HK.out h
    have HN : Hid (¬ KidsNull (arN k) a b c → fieldsB ⟨k, a, b, c, n, s, o⟩ = false) := fun h => decide_eq_false (fun h' => h h'.2.1)
    generalize arN k = ar at *
    rw [s1'] at HC
    rcases (by omega : ar = 0 ∨ ar = 1 ∨ ar = 2 ∨ ar = 3) with rfl | rfl | rfl | rfl
    · go_wp2
      go_loop [22] (fun i => ∃ j : Nat, j ≤ 3 ∧ i = .int .i64 j ∧ ∀ m, 0 ≤ m → m < 0 + j → [a, b, c].getD m 0 = 0) (fun i => 3 - (intOf i).toNat)
      case atStart => exact ⟨0, by omega, rfl, fun m h1 h2 => by omega⟩
      case round =>
        obtain ⟨j, hj, rfl, hall⟩ := hrel
        have HA : Hid (∀ m, 0 ≤ m → m < 0 + j → [a, b, c].getD m 0 = 0) := hall
        clear hall
        by_cases hin : j < 3
        · have hin' : (j : Int) < 3 := by omega
          have hc : (w1.alloc (.cells #[.int .i64 a, .int .i64 b, .int .i64 c] 134)).cell? ⟨w.heap.size + 3, j, none⟩ = some (.int .i64 ([a, b, c].getD (j) 0)) := HC.out (j) (by omega)
          have HX : Hid (∀ x, [a, b, c].getD (j) 0 = x → x = 0 → ∀ m, 0 ≤ m → m < 0 + (j + 1) → [a, b, c].getD m 0 = 0) := fun x hx h0 m h1 h2 => by
            by_cases e : m = j
            · subst e; rw [hx, h0]
            · exact HA.out m h1 (by omega)
          have HY : Hid (∀ x, [a, b, c].getD (j) 0 = x → ¬ x = 0 → fieldsB ⟨k, a, b, c, n, s, o⟩ = false) := fun x hx h0 => HN.out (fun h => h0 (by rw [← hx]; exact (kids_null (by omega)).1 h (j) (by omega) (by omega)))
          obtain ⟨x, hx⟩ : ∃ x, [a, b, c].getD (j) 0 = x := ⟨_, rfl⟩
          rw [hx] at hc
          by_cases h0 : x = 0
          · have HX1 : Hid (∀ m, 0 ≤ m → m < 0 + (j + 1) → [a, b, c].getD m 0 = 0) := HX.out x hx h0
            have hnz : (x != 0) = false := by simpa using h0
            clear h0 hx HX HY
            go_wp2
            go_round
            case rel => exact ⟨j + 1, by omega, by go_num, HX1.out⟩
            case measure => simp [intOf]; omega
          · have HV : Hid (fieldsB ⟨k, a, b, c, n, s, o⟩ = false) := HY.out x hx h0
            have hnz : (x != 0) = true := by simpa using h0
            clear h0 hx HX HY
            go_wp2
            go_ret
            exact ⟨by rw [HV.out]; rfl, B1.out.alloc (by omega) _⟩
        · obtain rfl : j = 3 := by omega
          have HV : Hid (fieldsB ⟨k, a, b, c, n, s, o⟩ = (numB k n && wantB s (decide (1 ≤ (nmN k : Int))) && wantB o (decide (2 ≤ (nmN k : Int))))) := HF.out ((kids_null (by omega)).2 (fun m h1 h2 => HA.out m h1 (by omega)))
          clear HA hin hj
          go_wp2_with fail
          refine (impl_names k _).mono ?_
          rintro e w2 ⟨rfl, rfl⟩
          generalize nmN k = nm at *
          go_wp2_with fail
          refine (impl_number k a b c n s o _).mono ?_
          rintro e w3 ⟨rfl, b3⟩
          have BX : Hid (Below w.heap.size w w3) := (B1.out.alloc (by omega) _).trans (b3.mono (by simp; omega))
          have q5 : w3.cell? ⟨w.heap.size, 5, none⟩ = some (.string s) := by
            rw [b3.cell (p := ⟨w.heap.size, 5, none⟩) (by simp; omega), World.cell?_alloc_lt _ _ _ (by simp; omega)]
            exact p5
          have q6 : w3.cell? ⟨w.heap.size, 6, none⟩ = some (.string o) := by
            rw [b3.cell (p := ⟨w.heap.size, 6, none⟩) (by simp; omega), World.cell?_alloc_lt _ _ _ (by simp; omega)]
            exact p6
          clear b3 p0 p1 p2 p3 p4 p5 p6
          obtain ⟨N1, hN1⟩ : ∃ b, numB k n = b := ⟨_, rfl⟩
          rw [hN1] at HV ⊢
          clear hN1
          cases N1 with
          | false =>
            go_wp2
            go_ret
            exact ⟨by rw [HV.out]; rfl, BX.out⟩
          | true =>
            go_wp2_with fail
            refine (impl_want s _ HS.out.1 _).mono ?_
            rintro e w4 ⟨rfl, rfl⟩
            obtain ⟨N2, hN2⟩ : ∃ b, wantB s (decide (1 ≤ (nm : Int))) = b := ⟨_, rfl⟩
            rw [hN2] at HV ⊢
            clear hN2
            cases N2 with
            | false =>
              go_wp2
              go_ret
              exact ⟨by rw [HV.out]; rfl, BX.out⟩
            | true =>
              go_wp2_with fail
              refine (impl_want o _ HS.out.2 _).mono ?_
              rintro e w5 ⟨rfl, rfl⟩
              obtain ⟨N3, hN3⟩ : ∃ b, wantB o (decide (2 ≤ (nm : Int))) = b := ⟨_, rfl⟩
              rw [hN3] at HV ⊢
              clear hN3
              go_wp2
              go_ret
              exact ⟨by rw [HV.out]; rfl, BX.out⟩
    · go_wp2
      go_loop [22] (fun i => ∃ j : Nat, j ≤ 2 ∧ i = .int .i64 j ∧ ∀ m, 1 ≤ m → m < 1 + j → [a, b, c].getD m 0 = 0) (fun i => 2 - (intOf i).toNat)
      case atStart => exact ⟨0, by omega, rfl, fun m h1 h2 => by omega⟩
      case round =>
        obtain ⟨j, hj, rfl, hall⟩ := hrel
        have HA : Hid (∀ m, 1 ≤ m → m < 1 + j → [a, b, c].getD m 0 = 0) := hall
        clear hall
        by_cases hin : j < 2
        · have hin' : (j : Int) < 2 := by omega
          have hc : (w1.alloc (.cells #[.int .i64 a, .int .i64 b, .int .i64 c] 134)).cell? ⟨w.heap.size + 3, 1 + j, none⟩ = some (.int .i64 ([a, b, c].getD (1 + j) 0)) := HC.out (1 + j) (by omega)
          have HX : Hid (∀ x, [a, b, c].getD (1 + j) 0 = x → x = 0 → ∀ m, 1 ≤ m → m < 1 + (j + 1) → [a, b, c].getD m 0 = 0) := fun x hx h0 m h1 h2 => by
            by_cases e : m = 1 + j
            · subst e; rw [hx, h0]
            · exact HA.out m h1 (by omega)
          have HY : Hid (∀ x, [a, b, c].getD (1 + j) 0 = x → ¬ x = 0 → fieldsB ⟨k, a, b, c, n, s, o⟩ = false) := fun x hx h0 => HN.out (fun h => h0 (by rw [← hx]; exact (kids_null (by omega)).1 h (1 + j) (by omega) (by omega)))
          obtain ⟨x, hx⟩ : ∃ x, [a, b, c].getD (1 + j) 0 = x := ⟨_, rfl⟩
          rw [hx] at hc
          by_cases h0 : x = 0
          · have HX1 : Hid (∀ m, 1 ≤ m → m < 1 + (j + 1) → [a, b, c].getD m 0 = 0) := HX.out x hx h0
            have hnz : (x != 0) = false := by simpa using h0
            clear h0 hx HX HY
            go_wp2
            go_round
            case rel => exact ⟨j + 1, by omega, by go_num, HX1.out⟩
            case measure => simp [intOf]; omega
          · have HV : Hid (fieldsB ⟨k, a, b, c, n, s, o⟩ = false) := HY.out x hx h0
            have hnz : (x != 0) = true := by simpa using h0
            clear h0 hx HX HY
            go_wp2
            go_ret
            exact ⟨by rw [HV.out]; rfl, B1.out.alloc (by omega) _⟩
        · obtain rfl : j = 2 := by omega
          have HV : Hid (fieldsB ⟨k, a, b, c, n, s, o⟩ = (numB k n && wantB s (decide (1 ≤ (nmN k : Int))) && wantB o (decide (2 ≤ (nmN k : Int))))) := HF.out ((kids_null (by omega)).2 (fun m h1 h2 => HA.out m h1 (by omega)))
          clear HA hin hj
          go_wp2_with fail
          refine (impl_names k _).mono ?_
          rintro e w2 ⟨rfl, rfl⟩
          generalize nmN k = nm at *
          go_wp2_with fail
          refine (impl_number k a b c n s o _).mono ?_
          rintro e w3 ⟨rfl, b3⟩
          have BX : Hid (Below w.heap.size w w3) := (B1.out.alloc (by omega) _).trans (b3.mono (by simp; omega))
          have q5 : w3.cell? ⟨w.heap.size, 5, none⟩ = some (.string s) := by
            rw [b3.cell (p := ⟨w.heap.size, 5, none⟩) (by simp; omega), World.cell?_alloc_lt _ _ _ (by simp; omega)]
            exact p5
          have q6 : w3.cell? ⟨w.heap.size, 6, none⟩ = some (.string o) := by
            rw [b3.cell (p := ⟨w.heap.size, 6, none⟩) (by simp; omega), World.cell?_alloc_lt _ _ _ (by simp; omega)]
            exact p6
          clear b3 p0 p1 p2 p3 p4 p5 p6
          obtain ⟨N1, hN1⟩ : ∃ b, numB k n = b := ⟨_, rfl⟩
          rw [hN1] at HV ⊢
          clear hN1
          cases N1 with
          | false =>
            go_wp2
            go_ret
            exact ⟨by rw [HV.out]; rfl, BX.out⟩
          | true =>
            go_wp2_with fail
            refine (impl_want s _ HS.out.1 _).mono ?_
            rintro e w4 ⟨rfl, rfl⟩
            obtain ⟨N2, hN2⟩ : ∃ b, wantB s (decide (1 ≤ (nm : Int))) = b := ⟨_, rfl⟩
            rw [hN2] at HV ⊢
            clear hN2
            cases N2 with
            | false =>
              go_wp2
              go_ret
              exact ⟨by rw [HV.out]; rfl, BX.out⟩
            | true =>
              go_wp2_with fail
              refine (impl_want o _ HS.out.2 _).mono ?_
              rintro e w5 ⟨rfl, rfl⟩
              obtain ⟨N3, hN3⟩ : ∃ b, wantB o (decide (2 ≤ (nm : Int))) = b := ⟨_, rfl⟩
              rw [hN3] at HV ⊢
              clear hN3
              go_wp2
              go_ret
              exact ⟨by rw [HV.out]; rfl, BX.out⟩
    · go_wp2
      go_loop [22] (fun i => ∃ j : Nat, j ≤ 1 ∧ i = .int .i64 j ∧ ∀ m, 2 ≤ m → m < 2 + j → [a, b, c].getD m 0 = 0) (fun i => 1 - (intOf i).toNat)
      case atStart => exact ⟨0, by omega, rfl, fun m h1 h2 => by omega⟩
      case round =>
        obtain ⟨j, hj, rfl, hall⟩ := hrel
        have HA : Hid (∀ m, 2 ≤ m → m < 2 + j → [a, b, c].getD m 0 = 0) := hall
        clear hall
        by_cases hin : j < 1
        · have hin' : (j : Int) < 1 := by omega
          have hc : (w1.alloc (.cells #[.int .i64 a, .int .i64 b, .int .i64 c] 134)).cell? ⟨w.heap.size + 3, 2 + j, none⟩ = some (.int .i64 ([a, b, c].getD (2 + j) 0)) := HC.out (2 + j) (by omega)
          have HX : Hid (∀ x, [a, b, c].getD (2 + j) 0 = x → x = 0 → ∀ m, 2 ≤ m → m < 2 + (j + 1) → [a, b, c].getD m 0 = 0) := fun x hx h0 m h1 h2 => by
            by_cases e : m = 2 + j
            · subst e; rw [hx, h0]
            · exact HA.out m h1 (by omega)
          have HY : Hid (∀ x, [a, b, c].getD (2 + j) 0 = x → ¬ x = 0 → fieldsB ⟨k, a, b, c, n, s, o⟩ = false) := fun x hx h0 => HN.out (fun h => h0 (by rw [← hx]; exact (kids_null (by omega)).1 h (2 + j) (by omega) (by omega)))
          obtain ⟨x, hx⟩ : ∃ x, [a, b, c].getD (2 + j) 0 = x := ⟨_, rfl⟩
          rw [hx] at hc
          by_cases h0 : x = 0
          · have HX1 : Hid (∀ m, 2 ≤ m → m < 2 + (j + 1) → [a, b, c].getD m 0 = 0) := HX.out x hx h0
            have hnz : (x != 0) = false := by simpa using h0
            clear h0 hx HX HY
            go_wp2
            go_round
            case rel => exact ⟨j + 1, by omega, by go_num, HX1.out⟩
            case measure => simp [intOf]; omega
          · have HV : Hid (fieldsB ⟨k, a, b, c, n, s, o⟩ = false) := HY.out x hx h0
            have hnz : (x != 0) = true := by simpa using h0
            clear h0 hx HX HY
            go_wp2
            go_ret
            exact ⟨by rw [HV.out]; rfl, B1.out.alloc (by omega) _⟩
        · obtain rfl : j = 1 := by omega
          have HV : Hid (fieldsB ⟨k, a, b, c, n, s, o⟩ = (numB k n && wantB s (decide (1 ≤ (nmN k : Int))) && wantB o (decide (2 ≤ (nmN k : Int))))) := HF.out ((kids_null (by omega)).2 (fun m h1 h2 => HA.out m h1 (by omega)))
          clear HA hin hj
          go_wp2_with fail
          refine (impl_names k _).mono ?_
          rintro e w2 ⟨rfl, rfl⟩
          generalize nmN k = nm at *
          go_wp2_with fail
          refine (impl_number k a b c n s o _).mono ?_
          rintro e w3 ⟨rfl, b3⟩
          have BX : Hid (Below w.heap.size w w3) := (B1.out.alloc (by omega) _).trans (b3.mono (by simp; omega))
          have q5 : w3.cell? ⟨w.heap.size, 5, none⟩ = some (.string s) := by
            rw [b3.cell (p := ⟨w.heap.size, 5, none⟩) (by simp; omega), World.cell?_alloc_lt _ _ _ (by simp; omega)]
            exact p5
          have q6 : w3.cell? ⟨w.heap.size, 6, none⟩ = some (.string o) := by
            rw [b3.cell (p := ⟨w.heap.size, 6, none⟩) (by simp; omega), World.cell?_alloc_lt _ _ _ (by simp; omega)]
            exact p6
          clear b3 p0 p1 p2 p3 p4 p5 p6
          obtain ⟨N1, hN1⟩ : ∃ b, numB k n = b := ⟨_, rfl⟩
          rw [hN1] at HV ⊢
          clear hN1
          cases N1 with
          | false =>
            go_wp2
            go_ret
            exact ⟨by rw [HV.out]; rfl, BX.out⟩
          | true =>
            go_wp2_with fail
            refine (impl_want s _ HS.out.1 _).mono ?_
            rintro e w4 ⟨rfl, rfl⟩
            obtain ⟨N2, hN2⟩ : ∃ b, wantB s (decide (1 ≤ (nm : Int))) = b := ⟨_, rfl⟩
            rw [hN2] at HV ⊢
            clear hN2
            cases N2 with
            | false =>
              go_wp2
              go_ret
              exact ⟨by rw [HV.out]; rfl, BX.out⟩
            | true =>
              go_wp2_with fail
              refine (impl_want o _ HS.out.2 _).mono ?_
              rintro e w5 ⟨rfl, rfl⟩
              obtain ⟨N3, hN3⟩ : ∃ b, wantB o (decide (2 ≤ (nm : Int))) = b := ⟨_, rfl⟩
              rw [hN3] at HV ⊢
              clear hN3
              go_wp2
              go_ret
              exact ⟨by rw [HV.out]; rfl, BX.out⟩
    · go_wp2
      go_loop [22] (fun i => ∃ j : Nat, j ≤ 0 ∧ i = .int .i64 j ∧ ∀ m, 3 ≤ m → m < 3 + j → [a, b, c].getD m 0 = 0) (fun i => 0 - (intOf i).toNat)
      case atStart => exact ⟨0, by omega, rfl, fun m h1 h2 => by omega⟩
      case round =>
        obtain ⟨j, hj, rfl, hall⟩ := hrel
        have HA : Hid (∀ m, 3 ≤ m → m < 3 + j → [a, b, c].getD m 0 = 0) := hall
        clear hall
        by_cases hin : j < 0
        · exact absurd hin (by omega)
        · obtain rfl : j = 0 := by omega
          have HV : Hid (fieldsB ⟨k, a, b, c, n, s, o⟩ = (numB k n && wantB s (decide (1 ≤ (nmN k : Int))) && wantB o (decide (2 ≤ (nmN k : Int))))) := HF.out ((kids_null (by omega)).2 (fun m h1 h2 => HA.out m h1 (by omega)))
          clear HA hin hj
          go_wp2_with fail
          refine (impl_names k _).mono ?_
          rintro e w2 ⟨rfl, rfl⟩
          generalize nmN k = nm at *
          go_wp2_with fail
          refine (impl_number k a b c n s o _).mono ?_
          rintro e w3 ⟨rfl, b3⟩
          have BX : Hid (Below w.heap.size w w3) := (B1.out.alloc (by omega) _).trans (b3.mono (by simp; omega))
          have q5 : w3.cell? ⟨w.heap.size, 5, none⟩ = some (.string s) := by
            rw [b3.cell (p := ⟨w.heap.size, 5, none⟩) (by simp; omega), World.cell?_alloc_lt _ _ _ (by simp; omega)]
            exact p5
          have q6 : w3.cell? ⟨w.heap.size, 6, none⟩ = some (.string o) := by
            rw [b3.cell (p := ⟨w.heap.size, 6, none⟩) (by simp; omega), World.cell?_alloc_lt _ _ _ (by simp; omega)]
            exact p6
          clear b3 p0 p1 p2 p3 p4 p5 p6
          obtain ⟨N1, hN1⟩ : ∃ b, numB k n = b := ⟨_, rfl⟩
          rw [hN1] at HV ⊢
          clear hN1
          cases N1 with
          | false =>
            go_wp2
            go_ret
            exact ⟨by rw [HV.out]; rfl, BX.out⟩
          | true =>
            go_wp2_with fail
            refine (impl_want s _ HS.out.1 _).mono ?_
            rintro e w4 ⟨rfl, rfl⟩
            obtain ⟨N2, hN2⟩ : ∃ b, wantB s (decide (1 ≤ (nm : Int))) = b := ⟨_, rfl⟩
            rw [hN2] at HV ⊢
            clear hN2
            cases N2 with
            | false =>
              go_wp2
              go_ret
              exact ⟨by rw [HV.out]; rfl, BX.out⟩
            | true =>
              go_wp2_with fail
              refine (impl_want o _ HS.out.2 _).mono ?_
              rintro e w5 ⟨rfl, rfl⟩
              obtain ⟨N3, hN3⟩ : ∃ b, wantB o (decide (2 ≤ (nm : Int))) = b := ⟨_, rfl⟩
              rw [hN3] at HV ⊢
              clear hN3
              go_wp2
              go_ret
              exact ⟨by rw [HV.out]; rfl, BX.out⟩
  · have HV : Hid (fieldsB ⟨k, a, b, c, n, s, o⟩ = false) := decide_eq_false (fun h => hk h.1)
    by_cases h1 : k < 1
    · clear hk
      go_enter Tryz.func67, Tryz.ntmps67
      go_wp2
      go_ret
      exact ⟨by rw [HV.out]; rfl, HB.out⟩
    · have h2 : 19 < k := by omega
      clear hk
      go_enter Tryz.func67, Tryz.ntmps67
      go_wp2
      go_ret
      exact ⟨by rw [HV.out]; rfl, HB.out⟩
end

section
open Go.ChangeShapes Go.WideShapes Go.ChangeAt Go.RowKit

/-- How many kids of a form stand ahead of its names. -/
def aheadN (k : Int) : Nat := if k = 19 then 1 else if k = 14 then 2 else 0

theorem impl_fore (k : Int) (w : World) : Calls Tryz.prog 73 #[.int .i64 k] w fun e w' => e = .returned (.int .i64 (aheadN k : Nat)) ∧ w' = w := by
  by_cases h19 : k = 19
  · subst h19
    go_enter Tryz.func73, Tryz.ntmps73
    go_wp2
    go_ret
    exact ⟨rfl, rfl⟩
  by_cases h14 : k = 14
  · subst h14
    go_enter Tryz.func73, Tryz.ntmps73
    go_wp2
    go_ret
    exact ⟨rfl, rfl⟩
  have hv : Hid (aheadN k = 0) := by
    show aheadN k = 0
    unfold aheadN
    rw [if_neg h19, if_neg h14]
  have g19 : (k == 19) = false := by simpa using h19
  have g14 : (k == 14) = false := by simpa using h14
  clear h19 h14
  go_enter Tryz.func73, Tryz.ntmps73
  go_wp2
  go_ret
  exact ⟨by rw [hv.out]; rfl, rfl⟩

/-- What kids write, a blank ahead of each. -/
def kidsT (rec : Nat → List UInt8) : List Int → List UInt8
  | [] => []
  | k :: ks => [32] ++ rec k.toNat ++ kidsT rec ks

def namesT : List ByteArray → List UInt8
  | [] => []
  | s :: ss => [32] ++ s.data.toList ++ namesT ss

/-- A form's names stand behind some kids and ahead of the others. -/
theorem argT_parts {rec : Nat → List UInt8} {k n : Int} (h : IsForm k n) (s o : ByteArray) (a b c : Int) :
    argT rec (goesOn k) [s, o] [a, b, c] = kidsT rec (([a, b, c].take (arN k)).take (aheadN k)) ++ namesT ([s, o].take (nmN k)) ++ kidsT rec (([a, b, c].take (arN k)).drop (aheadN k)) := by
  obtain ⟨h1, h2, h3, h4⟩ := h
  have : k = 3 ∨ k = 4 ∨ k = 5 ∨ k = 6 ∨ k = 7 ∨ k = 8 ∨ k = 9 ∨ k = 10 ∨ k = 11 ∨ k = 13 ∨ k = 14 ∨ k = 15 ∨ k = 16 ∨ k = 17 ∨ k = 18 ∨ k = 19 := by omega
  clear h1 h2 h3 h4
  rcases this with rfl | rfl | rfl | rfl | rfl | rfl | rfl | rfl | rfl | rfl | rfl | rfl | rfl | rfl | rfl | rfl <;> simp [argT, goesOn, arN, aheadN, nmN, kidsT, namesT]

theorem pow_fr {B b : Nat} {w w' : World} (h : PowIs w) (hf : Fr B b w w') (hB : 2 < B) : PowIs w' := var?_below hf.bel gPow hB h

set_option maxHeartbeats 1000000 in
set_option maxRecDepth 20000 in
theorem pr_names (k a0 b0 c0 n : Int) (s o : ByteArray) (B b : Nat) (bs : List UInt8) (nv : Value) (w : World) (hBw : B ≤ w.heap.size) (hP : PrS B b bs true nv w) (hs : s.size ≤ 8) (ho : o.size ≤ 8) (hlen : bs.length + 100 ≤ 1000000) :
    Calls Tryz.prog 76 #[.pointer (some ⟨b, 0, none⟩), .agg #[.int .i64 k, .int .i64 a0, .int .i64 b0, .int .i64 c0, .int .i64 n, .string s, .string o]] w fun e w' => e = .returned (.tuple #[]) ∧ PrS B b (bs ++ namesT ([s, o].take (nmN k))) true nv w' ∧ Fr B b w w' := by
  have HP : Hid (PrS B b bs true nv w) := hP
  have hbl := hP.lt
  have hnm : nmN k ≤ 2 := by
    unfold nmN
    repeat' split
    all_goals omega
  clear hP
  obtain ⟨wa, hwa⟩ : ∃ wa, (w.alloc (.cells #[.int .i64 k, .int .i64 a0, .int .i64 b0, .int .i64 c0, .int .i64 n, .string s, .string o] 58)).alloc (.cells #[.string s, .string o] 147) = wa := ⟨_, rfl⟩
  have HWA : Hid (_) := hwa
  have sa : wa.heap.size = w.heap.size + 2 := by rw [← hwa]; simp
  have BA : Below w.heap.size w wa := by rw [← hwa]; exact ((Below.refl _ w).alloc (Nat.le_refl _) _).alloc (by simp) _
  have RA : Hid (wa.heap[w.heap.size + 1]? = some (.cells #[.string s, .string o] 147 (0, 0))) := by
    rw [← hwa]
    have := (MapKept.heap_alloc (w.alloc (.cells #[.int .i64 k, .int .i64 a0, .int .i64 b0, .int .i64 c0, .int .i64 n, .string s, .string o] 58)) (.cells #[.string s, .string o] 147)).1
    have e1 : (w.alloc (.cells #[.int .i64 k, .int .i64 a0, .int .i64 b0, .int .i64 c0, .int .i64 n, .string s, .string o] 58)).heap.size = w.heap.size + 1 := by simp
    rw [e1] at this
    exact this
  have PA : Hid (PrS B b bs true nv wa) := HP.out.below BA
  have FA : Hid (Fr B b w wa) := Fr.of_below hBw BA
  clear hwa BA
  go_enter Tryz.func76, Tryz.ntmps76
  go_wp2_with fail
  rw [HWA.out]
  refine (impl_names k _).mono ?_
  rintro e w1 ⟨rfl, rfl⟩
  have hnm1 : (nmN k : Int) ≤ 2 := by omega
  have hnm0 : (0 : Int) ≤ (nmN k : Int) := by omega
  have HNS : Hid (∀ m, m < 2 → ([s, o].getD m ByteArray.empty).size ≤ 8) := fun m hm => by
    have : m = 0 ∨ m = 1 := by omega
    rcases this with rfl | rfl
    · exact hs
    · exact ho
  obtain ⟨m, hm⟩ : ∃ m, nmN k = m := ⟨_, rfl⟩
  have HM : Hid (nmN k = m) := hm
  rw [hm] at hnm hnm0 hnm1 ⊢
  clear hm
  go_wp2
  go_loopw [17] (fun i wr => ∃ q : Nat, q ≤ m ∧ i = .int .i64 q ∧ Hid (PrS B b (bs ++ namesT ([s, o].take q)) true nv wr) ∧ Hid (Fr B b w wr) ∧ Hid (wr.heap[w.heap.size + 1]? = some (.cells #[.string s, .string o] 147 (0, 0)))) (fun i _ => m - (intOf i).toNat)
  case atStart => exact ⟨0, by omega, rfl, by simpa [namesT] using PA, FA, RA⟩
  case round =>
    obtain ⟨q, hq, rfl, hP, hF, hR⟩ := hrel
    by_cases hin : q < m
    · have hin' : (q : Int) < m := by omega
      have hlr : w.heap.size + 1 < wr.heap.size := (Array.getElem?_eq_some_iff.1 hR.out).1
      have hql : (namesT ([s, o].take q)).length ≤ 18 := by
        have : q = 0 ∨ q = 1 := by omega
        rcases this with rfl | rfl
        · simp [namesT]
        · have := small_len hs
          simp only [List.take_succ_cons, List.take_zero, namesT, List.length_append, List.length_cons, List.length_nil]
          omega
      have c0 : wr.cell? ⟨w.heap.size + 1, q, none⟩ = some (.string ([s, o].getD q ByteArray.empty)) := by
        rw [cell_of_row _ _ _ _ _ _ hR.out]
        have : q = 0 ∨ q = 1 := by omega
        rcases this with rfl | rfl <;> rfl
      have HNX : Hid (namesT ([s, o].take (q + 1)) = namesT ([s, o].take q) ++ ([32] ++ ([s, o].getD q ByteArray.empty).data.toList)) := by
        show namesT ([s, o].take (q + 1)) = _
        have : q = 0 ∨ q = 1 := by omega
        rcases this with rfl | rfl <;> simp [namesT]
      have hsz := HNS.out q (by omega)
      generalize [s, o].getD q ByteArray.empty = nm at *
      go_wp2_with fail
      refine (wr_word B b _ true nv nm wr hP.out (by simp only [List.length_append]; omega) (by omega)).mono ?_
      rintro e w2 ⟨rfl, h2, f2⟩
      have P2 : Hid (PrS B b (bs ++ namesT ([s, o].take (q + 1))) true nv w2) := by
        show PrS B b (bs ++ namesT ([s, o].take (q + 1))) true nv w2
        rw [HNX.out]
        simpa [due] using h2
      have R2 : Hid (_) := f2.row hR.out (by omega) (by decide)
      have F2 : Hid (Fr B b w w2) := hF.out.trans f2
      clear h2 f2 c0
      go_wp2
      go_roundw
      case rel => exact ⟨q + 1, by omega, by go_num, P2, F2, R2⟩
      case measure => simp [intOf]; omega
    · obtain rfl : q = m := by omega
      go_wp2
      go_end0
      exact ⟨rfl, by rw [HM.out]; exact hP.out, hF.out⟩

/-- What is asked of node i: its text goes behind what is written, a blank ahead of it where one is due. -/
def NodeAt (ts : List Nod) (g cap f i : Nat) : Prop := ∀ (B b : Nat) (bs : List UInt8) (ap : Bool) (w : World), PowIs w → NodAt w g ts → g < B → 2 < B → B ≤ w.heap.size → PrS B b bs ap (.slice (some ⟨g, 0, none⟩) ts.length cap) w → bs.length + (due ap).length + (textN ts f i).length + 100 ≤ 1000000 →
  Calls Tryz.prog 18 #[.pointer (some ⟨b, 0, none⟩), .int .i64 i] w fun e w' => e = .returned (.tuple #[]) ∧ PrS B b (bs ++ due ap ++ textN ts f i) true (.slice (some ⟨g, 0, none⟩) ts.length cap) w' ∧ Fr B b w w'

set_option maxHeartbeats 1000000 in
set_option maxRecDepth 20000 in
theorem pr_kids {ts : List Nod} {g cap f : Nat} (o gk kc : Nat) (ks : List Int) (hI : ∀ j, j < ks.length → ∃ q : Nat, ks.getD j 0 = q ∧ NodeAt ts g cap f q) (B b : Nat) (bs : List UInt8) (w : World) (hp : PowIs w) (hA : NodAt w g ts) (hg : g < B) (hgp : 2 < B) (hBw : B ≤ w.heap.size)
    (hP : PrS B b bs true (.slice (some ⟨g, 0, none⟩) ts.length cap) w) (cs : Array Value) (hK : w.heap[gk]? = some (.cells cs 134 (0, 0))) (hgk : gk ≠ b) (hcs : ∀ j, j < ks.length → cs[o + j]? = some (.int .i64 (ks.getD j 0))) (hk3 : ks.length ≤ 3) (hlen : bs.length + (kidsT (textN ts f) ks).length + 100 ≤ 1000000) :
    Calls Tryz.prog 75 #[.pointer (some ⟨b, 0, none⟩), .slice (some ⟨gk, o, none⟩) ks.length kc] w fun e w' => e = .returned (.tuple #[]) ∧ PrS B b (bs ++ kidsT (textN ts f) ks) true (.slice (some ⟨g, 0, none⟩) ts.length cap) w' ∧ Fr B b w w' := by
  have HP : Hid (PrS B b bs true (.slice (some ⟨g, 0, none⟩) ts.length cap) w) := hP
  have HI : Hid (∀ j, j < ks.length → ∃ q : Nat, ks.getD j 0 = q ∧ NodeAt ts g cap f q) := hI
  have HW : Hid (PowIs w) := hp
  have HA : Hid (NodAt w g ts) := hA
  have HK : Hid (w.heap[gk]? = some (.cells cs 134 (0, 0))) := hK
  have HC : Hid (∀ j, j < ks.length → cs[o + j]? = some (.int .i64 (ks.getD j 0))) := hcs
  clear hP hI hp hA hK hcs
  go_enter Tryz.func75, Tryz.ntmps75
  go_wp2
  go_loopw [8] (fun i wr => ∃ q : Nat, q ≤ ks.length ∧ i = .int .i64 q ∧ Hid (PrS B b (bs ++ kidsT (textN ts f) (ks.take q)) true (.slice (some ⟨g, 0, none⟩) ts.length cap) wr) ∧ Hid (Fr B b w wr)) (fun i _ => ks.length - (intOf i).toNat)
  case atStart => exact ⟨0, by omega, rfl, by simpa [kidsT] using HP, Fr.refl _ _ _⟩
  case round =>
    obtain ⟨q, hq, rfl, hP, hF⟩ := hrel
    by_cases hin : q < ks.length
    · have hin' : (q : Int) < ks.length := by omega
      have c0 : wr.cell? ⟨gk, o + q, none⟩ = some (.int .i64 (ks.getD q 0)) := by
        have := hF.out.row HK.out hgk (by decide)
        rw [cell_of_row _ _ _ _ _ _ this]
        exact HC.out q hin
      obtain ⟨Q, hQ, hN⟩ := HI.out q hin
      rw [hQ] at c0
      have hsplit : ks.take (q + 1) = ks.take q ++ [ks.getD q 0] := by
        rw [List.take_succ_eq_append_getElem hin]
        simp [List.getD, List.getElem?_eq_getElem hin]
      have happ : ∀ (l r : List Int), kidsT (textN ts f) (l ++ r) = kidsT (textN ts f) l ++ kidsT (textN ts f) r := by
        intro l
        induction l with
        | nil => intro r; rfl
        | cons x l ih => intro r; simp [kidsT, ih]
      have HX : Hid (kidsT (textN ts f) (ks.take (q + 1)) = kidsT (textN ts f) (ks.take q) ++ ([32] ++ textN ts f Q)) := by
        show kidsT (textN ts f) (ks.take (q + 1)) = _
        rw [hsplit, happ, hQ]
        simp [kidsT]
      have hle : bs.length + (kidsT (textN ts f) (ks.take q)).length + 1 + (textN ts f Q).length + 100 ≤ 1000000 := by
        have h1 : kidsT (textN ts f) ks = kidsT (textN ts f) (ks.take (q + 1)) ++ kidsT (textN ts f) (ks.drop (q + 1)) := by rw [← happ, List.take_append_drop]
        rw [HX.out] at h1
        rw [h1] at hlen
        simp only [List.length_append, List.length_cons, List.length_nil] at hlen
        omega
      have hdl : (due true).length = 1 := rfl
      have hb := hF.out.bel
      have hCall := hN B b (bs ++ kidsT (textN ts f) (ks.take q)) true wr (pow_fr HW.out hF.out hgp) (HA.out.below hb (fun _ => hg)) hg hgp (by have := hb.size; omega) hP.out (by simp only [List.length_append, hdl]; omega)
      have HCall : Hid (Calls Tryz.prog 18 #[.pointer (some ⟨b, 0, none⟩), .int .i64 Q] wr _) := hCall
      clear hCall hN hQ hsplit happ hle hb hdl
      go_wp2_with fail
      refine Calls.mono HCall.out ?_
      rintro e w2 ⟨rfl, h2, f2⟩
      have P2 : Hid (PrS B b (bs ++ kidsT (textN ts f) (ks.take (q + 1))) true (.slice (some ⟨g, 0, none⟩) ts.length cap) w2) := by
        show PrS B b (bs ++ kidsT (textN ts f) (ks.take (q + 1))) true _ w2
        rw [HX.out]
        simpa [due] using h2
      have F2 : Hid (Fr B b w w2) := hF.out.trans f2
      clear h2 f2 c0 HCall
      go_wp2
      go_roundw
      case rel => exact ⟨q + 1, by omega, by go_num, P2, F2⟩
      case measure => simp [intOf]; omega
    · obtain rfl : q = ks.length := by omega
      rw [List.take_length] at hP
      go_wp2
      go_end0
      exact ⟨rfl, hP.out, hF.out⟩

theorem wd_name : (Tryz.f36.name == "runtime.NumGoroutine") = false := by kernel_rfl
theorem wd_body : Tryz.f36.body.isNone = false := by kernel_rfl
theorem ko_name : (Tryz.f38.name == "runtime.NumGoroutine") = false := by kernel_rfl
theorem ko_body : Tryz.f38.body.isNone = false := by kernel_rfl
theorem dc_name : (Tryz.f37.name == "runtime.NumGoroutine") = false := by kernel_rfl
theorem dc_body : Tryz.f37.body.isNone = false := by kernel_rfl

theorem due_len (ap : Bool) : (due ap).length ≤ 1 := by cases ap <;> simp [due]

theorem Fr.drew {B b : Nat} {u w : World} (h : Fr B b u w) : Fr B b u w.drew := ⟨h.bel.drew, h.oth.drew⟩

theorem form_len {rec : Nat → List UInt8} {k n : Int} (h : IsForm k n) (s o : ByteArray) (a b c : Int) : (formT rec ⟨k, a, b, c, n, s, o⟩).length = 2 + (keyN k n).data.toList.length + (kidsT rec (([a, b, c].take (arN k)).take (aheadN k))).length + (namesT ([s, o].take (nmN k))).length + (kidsT rec (([a, b, c].take (arN k)).drop (aheadN k))).length := by
  unfold formT
  simp only
  rw [argT_parts h]
  simp only [List.length_append, List.length_cons, List.length_nil]
  omega

theorem ahead_le {k n : Int} (h : IsForm k n) : aheadN k ≤ arN k := by
  obtain ⟨h1, h2, h3, h4⟩ := h
  have : k = 3 ∨ k = 4 ∨ k = 5 ∨ k = 6 ∨ k = 7 ∨ k = 8 ∨ k = 9 ∨ k = 10 ∨ k = 11 ∨ k = 13 ∨ k = 14 ∨ k = 15 ∨ k = 16 ∨ k = 17 ∨ k = 18 ∨ k = 19 := by omega
  clear h1 h2 h3 h4
  rcases this with rfl | rfl | rfl | rfl | rfl | rfl | rfl | rfl | rfl | rfl | rfl | rfl | rfl | rfl | rfl | rfl <;> decide

set_option maxHeartbeats 4000000 in
set_option maxRecDepth 20000 in
theorem pr_form {ts : List Nod} {g cap f : Nat} (k a0 b0 c0 n : Int) (s o : ByteArray) (hF : IsForm k n) (hI : ∀ j, j < arN k → ∃ q : Nat, [a0, b0, c0].getD j 0 = q ∧ NodeAt ts g cap f q) (hs : s.size ≤ 8) (ho : o.size ≤ 8)
    (B b : Nat) (bs : List UInt8) (ap : Bool) (w : World) (hp : PowIs w) (hA : NodAt w g ts) (hg : g < B) (hgp : 2 < B) (hBw : B ≤ w.heap.size) (hP : PrS B b bs ap (.slice (some ⟨g, 0, none⟩) ts.length cap) w) (hlen : bs.length + (due ap).length + (formT (textN ts f) ⟨k, a0, b0, c0, n, s, o⟩).length + 100 ≤ 1000000) :
    Calls Tryz.prog 39 #[.pointer (some ⟨b, 0, none⟩), .agg #[.int .i64 k, .int .i64 a0, .int .i64 b0, .int .i64 c0, .int .i64 n, .string s, .string o]] w fun e w' =>
      e = .returned (.tuple #[]) ∧ PrS B b (bs ++ due ap ++ formT (textN ts f) ⟨k, a0, b0, c0, n, s, o⟩) true (.slice (some ⟨g, 0, none⟩) ts.length cap) w' ∧ Fr B b w w' := by
  have hbl := hP.lt
  have hfl := form_len (rec := textN ts f) hF s o a0 b0 c0
  have HFT : Hid (formT (textN ts f) ⟨k, a0, b0, c0, n, s, o⟩ = [40] ++ (keyN k n).data.toList ++ (kidsT (textN ts f) (([a0, b0, c0].take (arN k)).take (aheadN k)) ++ namesT ([s, o].take (nmN k)) ++ kidsT (textN ts f) (([a0, b0, c0].take (arN k)).drop (aheadN k))) ++ [41]) := by
    show formT (textN ts f) ⟨k, a0, b0, c0, n, s, o⟩ = _
    unfold formT
    simp only
    rw [argT_parts hF]
  rw [hfl] at hlen
  have hal := ahead_le hF
  have har := arN_le k
  have hkl := keyN_len k n
  have HP : Hid (PrS B b bs ap (.slice (some ⟨g, 0, none⟩) ts.length cap) w) := hP
  have HI : Hid (∀ j, j < arN k → ∃ q : Nat, [a0, b0, c0].getD j 0 = q ∧ NodeAt ts g cap f q) := hI
  have HW : Hid (PowIs w) := hp
  have HA : Hid (NodAt w g ts) := hA
  have HF : Hid (IsForm k n) := hF
  have CK : Hid (∀ w : World, Calls Tryz.prog 38 #[.agg #[.int .i64 k, .int .i64 a0, .int .i64 b0, .int .i64 c0, .int .i64 n, .string s, .string o]] w fun e w' => e = .returned (.string (keyN k n)) ∧ Below w.heap.size w w') := fun w => impl_keyOf k a0 b0 c0 n s o w
  clear hP hI hp hA hF hfl
  generalize keyN k n = KY at *
  obtain ⟨wa, hwa⟩ : ∃ wa, w.alloc (.cells #[.int .i64 k, .int .i64 a0, .int .i64 b0, .int .i64 c0, .int .i64 n, .string s, .string o] 58) = wa := ⟨_, rfl⟩
  have HWA : Hid (w.alloc (.cells #[.int .i64 k, .int .i64 a0, .int .i64 b0, .int .i64 c0, .int .i64 n, .string s, .string o] 58) = wa) := hwa
  have sa : wa.heap.size = w.heap.size + 1 := by rw [← hwa]; simp
  have BA : Below w.heap.size w wa := by rw [← hwa]; exact (Below.refl _ w).alloc (Nat.le_refl _) _
  have RA : Hid (wa.heap[w.heap.size]? = some (.cells #[.int .i64 k, .int .i64 a0, .int .i64 b0, .int .i64 c0, .int .i64 n, .string s, .string o] 58 (0, 0))) := by rw [← hwa]; exact (MapKept.heap_alloc w _).1
  have PA : Hid (PrS B b bs ap (.slice (some ⟨g, 0, none⟩) ts.length cap) wa) := HP.out.below BA
  have FA : Hid (Fr B b w wa) := Fr.of_below hBw BA
  clear hwa BA HP
  go_enter Tryz.func39, Tryz.ntmps39
  go_wp2_with fail
  rw [HWA.out]
  refine (impl_kids k a0 b0 c0 n s o wa).mono ?_
  rintro e w1 ⟨rfl, hk1, b1⟩
  obtain ⟨GK, hGK⟩ : ∃ GK, wa.heap.size + 3 = GK := ⟨_, rfl⟩
  rw [hGK] at hk1 ⊢
  have hgk : GK < w1.heap.size := (Array.getElem?_eq_some_iff.1 hk1).1
  have hgb : GK ≠ b := by omega
  have r1 := (b1.block _ (by omega)).trans RA.out
  have R1 : Hid (w1.heap[w.heap.size]? = some (.cells #[.int .i64 k, .int .i64 a0, .int .i64 b0, .int .i64 c0, .int .i64 n, .string s, .string o] 58 (0, 0))) := r1
  have K1 : Hid (w1.heap[GK]? = some (.cells #[.int .i64 a0, .int .i64 b0, .int .i64 c0] 134 (0, 0))) := hk1
  have P1 : Hid (PrS B b bs ap (.slice (some ⟨g, 0, none⟩) ts.length cap) w1) := PA.out.below b1
  have F1 : Hid (Fr B b w w1) := FA.out.trans (Fr.of_below (by omega) b1)
  have s1 := b1.size
  clear b1 hk1 RA PA FA HWA
  obtain ⟨q0, q1, q2, q3, q4, q5, q6⟩ := cells7_of r1
  clear r1 hGK
  go_wp2_with fail
  refine (impl_fore k w1).mono ?_
  rintro e w1 ⟨rfl, rfl⟩
  go_wp2_with fail
  refine (wr_open B b bs ap _ w1 P1.out (by omega) (by omega)).mono ?_
  rintro e w2 ⟨rfl, h2, f2⟩
  have s2 := f2.bel.size
  have r2 := f2.row R1.out (by omega) (by decide)
  have R2 : Hid (w2.heap[w.heap.size]? = some (.cells #[.int .i64 k, .int .i64 a0, .int .i64 b0, .int .i64 c0, .int .i64 n, .string s, .string o] 58 (0, 0))) := r2
  have K2 : Hid (w2.heap[GK]? = some (.cells #[.int .i64 a0, .int .i64 b0, .int .i64 c0] 134 (0, 0))) := f2.row K1.out hgb (by decide)
  have P2 : Hid (PrS B b (bs ++ due ap ++ [40]) false (.slice (some ⟨g, 0, none⟩) ts.length cap) w2) := h2
  have F2 : Hid (Fr B b w w2) := F1.out.trans f2
  clear q0 q1 q2 q3 q4 q5 q6 h2 f2 R1 K1 P1 F1
  obtain ⟨q0, q1, q2, q3, q4, q5, q6⟩ := cells7_of r2
  clear r2
  have hkb : KY.size ≤ 5 := by rw [Array.length_toList] at hkl; exact hkl
  go_wp2
  go_region_law (first
    | (refine step_call rfl 38 #[.tmp 18] #[58] rfl #[.agg #[.int .i64 k, .int .i64 a0, .int .i64 b0, .int .i64 c0, .int .i64 n, .string s, .string o]] (by simp [Act.eval]) Tryz.func38 ko_name ko_body _ (CK.out _) ?_; rintro e w3 ⟨rfl, b3⟩; have b3' : Below w2.heap.size w2 w3 := (Below.refl _ w2).drew.trans b3; have s3 := b3'.size; have P3 : Hid (PrS B b (bs ++ due ap ++ [40]) false (.slice (some ⟨g, 0, none⟩) ts.length cap) w3) := P2.out.below b3'; have F3 : Hid (Fr B b w w3) := F2.out.trans (Fr.of_below (by omega) b3'); have R3 : Hid (w3.heap[w.heap.size]? = some (.cells #[.int .i64 k, .int .i64 a0, .int .i64 b0, .int .i64 c0, .int .i64 n, .string s, .string o] 58 (0, 0))) := (b3'.block _ (by omega)).trans R2.out; have K3 : Hid (w3.heap[GK]? = some (.cells #[.int .i64 a0, .int .i64 b0, .int .i64 c0] 134 (0, 0))) := (b3'.block _ (by omega)).trans K2.out; clear b3 b3'; refine ⟨_, rfl, ?_⟩)
    | (refine step_call rfl 36 #[.tmp 17, .tmp 19] #[44, 9] rfl #[.pointer (some ⟨b, 0, none⟩), .string KY] (by simp [Act.eval]) Tryz.func36 wd_name wd_body _ (wr_word B b _ false _ KY w3 P3.out (by simp only [List.length_append, List.length_cons, List.length_nil]; have : (due ap).length ≤ 1 := due_len ap; omega) (by omega)) ?_; rintro e w4 ⟨rfl, h4, f4⟩; have P4 : Hid (PrS B b (bs ++ due ap ++ [40] ++ due false ++ KY.data.toList) true (.slice (some ⟨g, 0, none⟩) ts.length cap) w4) := h4; have F4 : Hid (Fr B b w w4) := F3.out.trans f4; have R4 : Hid (w4.heap[w.heap.size]? = some (.cells #[.int .i64 k, .int .i64 a0, .int .i64 b0, .int .i64 c0, .int .i64 n, .string s, .string o] 58 (0, 0))) := f4.row R3.out (by omega) (by decide); have K4 : Hid (w4.heap[GK]? = some (.cells #[.int .i64 a0, .int .i64 b0, .int .i64 c0] 134 (0, 0))) := f4.row K3.out hgb (by decide); have s4 := f4.bel.size; clear h4 f4; refine ⟨_, rfl, ?_⟩))
  clear q0 q1 q2 q3 q4 q5 q6 P2 P3 R2 R3 K2 K3 F2 F3
  have e1 : (([a0, b0, c0].take (arN k)).take (aheadN k)).length = aheadN k := by simp; omega
  have e2 : (([a0, b0, c0].take (arN k)).drop (aheadN k)).length = arN k - aheadN k := by simp; omega
  have ha2 : aheadN k ≤ 2 := by
    unfold aheadN
    by_cases h19 : k = 19
    · rw [if_pos h19]; omega
    rw [if_neg h19]
    by_cases h14 : k = 14
    · rw [if_pos h14]; omega
    rw [if_neg h14]; omega
  have g1 : ∀ j, j < arN k → ([a0, b0, c0].take (arN k)).getD j 0 = [a0, b0, c0].getD j 0 := fun j hj => by
    simp only [List.getD]
    rw [List.getElem?_take_of_lt hj]
  have g2 : ∀ j, j < aheadN k → (([a0, b0, c0].take (arN k)).take (aheadN k)).getD j 0 = [a0, b0, c0].getD j 0 := fun j hj => by
    rw [← g1 j (by omega)]
    simp only [List.getD]
    rw [List.getElem?_take_of_lt hj]
  have g3 : ∀ j, aheadN k + j < arN k → (([a0, b0, c0].take (arN k)).drop (aheadN k)).getD j 0 = [a0, b0, c0].getD (aheadN k + j) 0 := fun j hj => by
    rw [← g1 (aheadN k + j) (by omega)]
    simp only [List.getD]
    rw [List.getElem?_drop]
  have c3 : ∀ j, j < 3 → (#[.int .i64 a0, .int .i64 b0, .int .i64 c0] : Array Value)[j]? = some (.int .i64 ([a0, b0, c0].getD j 0)) := fun j hj => by
    have : j = 0 ∨ j = 1 ∨ j = 2 := by omega
    rcases this with rfl | rfl | rfl <;> rfl
  have L0 : (bs ++ due ap ++ [40] ++ due false ++ KY.data.toList).length ≤ bs.length + (due ap).length + 1 + KY.data.toList.length := by
    have h0 : (due false).length = 0 := rfl
    simp only [List.length_append, List.length_cons, List.length_nil, h0]
    omega
  have hc1 := pr_kids (ts := ts) (g := g) (cap := cap) (f := f) 0 GK 3 (([a0, b0, c0].take (arN k)).take (aheadN k)) (fun j hj => by rw [e1] at hj; rw [g2 j hj]; exact HI.out j (by omega)) B b (bs ++ due ap ++ [40] ++ due false ++ KY.data.toList) w4 (pow_fr HW.out F4.out hgp) (HA.out.below F4.out.bel (fun _ => hg)) hg hgp (by omega) P4.out _ K4.out hgb (fun j hj => by rw [e1] at hj; rw [g2 j hj, Nat.zero_add]; exact c3 j (by omega)) (by omega) (by omega)
  rw [e1] at hc1
  have C1 : Hid (Calls Tryz.prog 75 #[.pointer (some ⟨b, 0, none⟩), .slice (some ⟨GK, 0, none⟩) (aheadN k) 3] w4 _) := hc1
  have i1 : (0 : Int) ≤ (aheadN k : Int) := by omega
  have i2 : (aheadN k : Int) ≤ 3 := by omega
  have i3 : (aheadN k : Int) ≤ (arN k : Int) := by omega
  clear hc1
  go_wp2_with fail
  refine Calls.mono C1.out ?_
  rintro e w5 ⟨rfl, h5, f5⟩
  have s5 := f5.bel.size
  have r5 := f5.row R4.out (by omega) (by decide)
  have R5 : Hid (w5.heap[w.heap.size]? = some (.cells #[.int .i64 k, .int .i64 a0, .int .i64 b0, .int .i64 c0, .int .i64 n, .string s, .string o] 58 (0, 0))) := r5
  have K5 : Hid (w5.heap[GK]? = some (.cells #[.int .i64 a0, .int .i64 b0, .int .i64 c0] 134 (0, 0))) := f5.row K4.out hgb (by decide)
  have P5 : Hid (PrS B b (bs ++ due ap ++ [40] ++ due false ++ KY.data.toList ++ kidsT (textN ts f) (([a0, b0, c0].take (arN k)).take (aheadN k))) true (.slice (some ⟨g, 0, none⟩) ts.length cap) w5) := h5
  have F5 : Hid (Fr B b w w5) := F4.out.trans f5
  clear h5 f5 C1 R4 K4 P4 F4
  obtain ⟨q0, q1, q2, q3, q4, q5, q6⟩ := cells7_of r5
  clear r5
  go_wp2_with fail
  refine (pr_names k a0 b0 c0 n s o B b _ (.slice (some ⟨g, 0, none⟩) ts.length cap) w5 (by omega) P5.out hs ho (by simp only [List.length_append] at L0 ⊢; omega)).mono ?_
  rintro e w6 ⟨rfl, h6, f6⟩
  have s6 := f6.bel.size
  have P6 : Hid (PrS B b (bs ++ due ap ++ [40] ++ due false ++ KY.data.toList ++ kidsT (textN ts f) (([a0, b0, c0].take (arN k)).take (aheadN k)) ++ namesT ([s, o].take (nmN k))) true (.slice (some ⟨g, 0, none⟩) ts.length cap) w6) := h6
  have F6 : Hid (Fr B b w w6) := F5.out.trans f6
  have hc2 := pr_kids (ts := ts) (g := g) (cap := cap) (f := f) (aheadN k) GK (3 - aheadN k) (([a0, b0, c0].take (arN k)).drop (aheadN k)) (fun j hj => by rw [e2] at hj; rw [g3 j (by omega)]; exact HI.out _ (by omega)) B b _ w6 (pow_fr HW.out F6.out hgp) (HA.out.below F6.out.bel (fun _ => hg)) hg hgp (by omega) P6.out _ (f6.row K5.out hgb (by decide)) hgb (fun j hj => by rw [e2] at hj; rw [g3 j (by omega)]; exact c3 _ (by omega)) (by omega) (by simp only [List.length_append] at L0 ⊢; omega)
  rw [e2] at hc2
  have C2 : Hid (Calls Tryz.prog 75 #[.pointer (some ⟨b, 0, none⟩), .slice (some ⟨GK, aheadN k, none⟩) (arN k - aheadN k) (3 - aheadN k)] w6 _) := hc2
  clear hc2 h6 f6 q0 q1 q2 q3 q4 q5 q6 R5 K5 P5 F5
  go_wp2_with fail
  refine Calls.mono C2.out ?_
  rintro e w7 ⟨rfl, h7, f7⟩
  have s7 := f7.bel.size
  have F7 : Hid (Fr B b w w7) := F6.out.trans f7
  have P7 : Hid (PrS B b (bs ++ due ap ++ [40] ++ due false ++ KY.data.toList ++ kidsT (textN ts f) (([a0, b0, c0].take (arN k)).take (aheadN k)) ++ namesT ([s, o].take (nmN k)) ++ kidsT (textN ts f) (([a0, b0, c0].take (arN k)).drop (aheadN k))) true (.slice (some ⟨g, 0, none⟩) ts.length cap) w7) := h7
  clear h7 f7 C2 F6 P6
  go_wp2_with fail
  refine (wr_shut B b _ true (.slice (some ⟨g, 0, none⟩) ts.length cap) w7 P7.out (by simp only [List.length_append] at L0 ⊢; omega) (by omega)).mono ?_
  rintro e w8 ⟨rfl, h8, f8⟩
  have F8 : Hid (Fr B b w w8) := F7.out.trans f8
  have P8 : Hid (PrS B b (bs ++ due ap ++ formT (textN ts f) ⟨k, a0, b0, c0, n, s, o⟩) true (.slice (some ⟨g, 0, none⟩) ts.length cap) w8) := by
    show PrS B b (bs ++ due ap ++ formT (textN ts f) ⟨k, a0, b0, c0, n, s, o⟩) true (.slice (some ⟨g, 0, none⟩) ts.length cap) w8
    rw [HFT.out]
    simpa [due] using h8
  clear h8 f8 F7 P7
  go_wp2
  go_end0
  exact ⟨rfl, P8.out, F8.out⟩

set_option maxHeartbeats 4000000 in
set_option maxRecDepth 20000 in
theorem pr_leaf {ts : List Nod} {g cap f i : Nat} (hi : i < ts.length) (hl : ts.length ≤ 1000) (hsm : (ts.getD i noNod).name.size ≤ 8) (h : (ts.getD i noNod).kind = 1 ∨ ((ts.getD i noNod).kind = 2 ∧ 0 ≤ (ts.getD i noNod).n ∧ (ts.getD i noNod).n ≤ 65535) ∨ (ts.getD i noNod).kind = 12) : NodeAt ts g cap (f + 1) i := by
  intro B b bs ap w hp hA hg hgp hBw hP hlen
  have t := hA i hi
  have hbl := hP.lt
  have HX : Hid (textN ts (f + 1) i = nodeT (textN ts f) (ts.getD i noNod)) := rfl
  obtain ⟨⟨x0, x1, x2, x3, x4, x5, x6⟩, hx⟩ : ∃ y, ts.getD i noNod = y := ⟨_, rfl⟩
  rw [hx] at t h HX hsm
  simp only at h hsm
  have q0 : w.cell? ⟨g, i * 7, none⟩ = some (.int .i64 x0) := t.c0
  have q1 : w.cell? ⟨g, i * 7 + 1, none⟩ = some (.int .i64 x1) := t.c1
  have q2 : w.cell? ⟨g, i * 7 + 2, none⟩ = some (.int .i64 x2) := t.c2
  have q3 : w.cell? ⟨g, i * 7 + 3, none⟩ = some (.int .i64 x3) := t.c3
  have q4 : w.cell? ⟨g, i * 7 + 4, none⟩ = some (.int .i64 x4) := t.c4
  have q5 : w.cell? ⟨g, i * 7 + 5, none⟩ = some (.string x5) := t.c5
  have q6 : w.cell? ⟨g, i * 7 + 6, none⟩ = some (.string x6) := t.c6
  have hi' : (i : Int) < ts.length := by omega
  obtain ⟨-, qn, -⟩ := hP.cells
  have HP : Hid (PrS B b bs ap (.slice (some ⟨g, 0, none⟩) ts.length cap) w) := hP
  have HW : Hid (PowIs w) := hp
  have hL : bs.length + 100 ≤ 1000000 := by omega
  clear t hx hA hP hp hlen
  obtain ⟨wa, hwa⟩ : ∃ wa, w.alloc (.cells #[.int .i64 x0, .int .i64 x1, .int .i64 x2, .int .i64 x3, .int .i64 x4, .string x5, .string x6] 58) = wa := ⟨_, rfl⟩
  have HWA : Hid (w.alloc (.cells #[.int .i64 x0, .int .i64 x1, .int .i64 x2, .int .i64 x3, .int .i64 x4, .string x5, .string x6] 58) = wa) := hwa
  have sa : wa.heap.size = w.heap.size + 1 := by rw [← hwa]; simp
  have BA : Below w.heap.size w wa := by rw [← hwa]; exact (Below.refl _ w).alloc (Nat.le_refl _) _
  have RA : Hid (wa.heap[w.heap.size]? = some (.cells #[.int .i64 x0, .int .i64 x1, .int .i64 x2, .int .i64 x3, .int .i64 x4, .string x5, .string x6] 58 (0, 0))) := by rw [← hwa]; exact (MapKept.heap_alloc w _).1
  have PA : Hid (PrS B b bs ap (.slice (some ⟨g, 0, none⟩) ts.length cap) wa) := HP.out.below BA
  have FA : Hid (Fr B b w wa) := Fr.of_below hBw BA
  have WA : Hid (PowIs wa) := var?_below BA gPow (by omega) HW.out
  clear hwa BA HP HW
  rcases h with rfl | ⟨rfl, h0, h1⟩ | rfl
  · go_enter Tryz.func18, Tryz.ntmps18
    go_wp2
    rw [HWA.out]
    obtain ⟨p0, p1, p2, p3, p4, p5, p6⟩ := cells7_of RA.out
    go_region_law (refine step_call rfl 36 #[.tmp 21, .tmp 23] #[44, 9] rfl #[.pointer (some ⟨b, 0, none⟩), .string x5] (by simp [Act.eval]) Tryz.func36 wd_name wd_body _ (wr_word B b bs ap (.slice (some ⟨g, 0, none⟩) ts.length cap) x5 wa.drew PA.out.drew (by omega) (by show B ≤ wa.heap.size; omega)) ?_; rintro e w4 ⟨rfl, h4, f4⟩; have P4 : Hid (PrS B b (bs ++ due ap ++ x5.data.toList) true (.slice (some ⟨g, 0, none⟩) ts.length cap) w4) := h4; have F4 : Hid (Fr B b w w4) := FA.out.drew.trans f4; clear h4 f4; refine ⟨_, rfl, ?_⟩)
    all_goals
      go_wp2
      go_end0
      exact ⟨rfl, by rw [HX.out]; exact P4.out, F4.out⟩
  · go_enter Tryz.func18, Tryz.ntmps18
    go_wp2
    rw [HWA.out]
    obtain ⟨p0, p1, p2, p3, p4, p5, p6⟩ := cells7_of RA.out
    have hil := itoa_len h0 h1
    obtain ⟨IT, hIT⟩ : ∃ IT : ByteArray, ⟨(Lib.itoa x4).toArray⟩ = IT := ⟨_, rfl⟩
    have hits : IT.size ≤ 5 := by rw [← hIT]; simpa [ByteArray.size] using hil
    have CD : Hid (∀ w : World, PowIs w → Calls Tryz.prog 37 #[.int .i64 x4] w fun e w' => e = .returned (.string IT) ∧ Below w.heap.size w w') := fun w hw => by rw [← hIT]; exact impl_dec x4 (by omega) (by omega) w hw
    have HIT : Hid (IT.data.toList = Lib.itoa x4) := by show IT.data.toList = _; rw [← hIT]
    clear hIT hil
    go_region_law (first
      | (refine step_call rfl 37 #[.tmp 31] #[3] rfl #[.int .i64 x4] (by simp [Act.eval]) Tryz.func37 dc_name dc_body _ (CD.out wa.drew WA.out) ?_; rintro e w3 ⟨rfl, b3⟩; have b3' : Below wa.heap.size wa w3 := (Below.refl _ wa).drew.trans b3; have s3 := b3'.size; have P3 : Hid (PrS B b bs ap (.slice (some ⟨g, 0, none⟩) ts.length cap) w3) := PA.out.below b3'; have F3 : Hid (Fr B b w w3) := FA.out.trans (Fr.of_below (by omega) b3'); clear b3 b3'; refine ⟨_, rfl, ?_⟩)
      | (refine step_call rfl 36 #[.tmp 29, .tmp 32] #[44, 9] rfl #[.pointer (some ⟨b, 0, none⟩), .string IT] (by simp [Act.eval]) Tryz.func36 wd_name wd_body _ (wr_word B b bs ap (.slice (some ⟨g, 0, none⟩) ts.length cap) IT w3 P3.out (by omega) (by omega)) ?_; rintro e w4 ⟨rfl, h4, f4⟩; have P4 : Hid (PrS B b (bs ++ due ap ++ IT.data.toList) true (.slice (some ⟨g, 0, none⟩) ts.length cap) w4) := h4; have F4 : Hid (Fr B b w w4) := F3.out.trans f4; clear h4 f4; refine ⟨_, rfl, ?_⟩))
    all_goals
      go_wp2
      go_end0
      exact ⟨rfl, by rw [HX.out, show nodeT (textN ts f) ⟨2, x1, x2, x3, x4, x5, x6⟩ = Lib.itoa x4 from rfl, ← HIT.out]; exact P4.out, F4.out⟩
  · go_enter Tryz.func18, Tryz.ntmps18
    go_wp2
    rw [HWA.out]
    obtain ⟨p0, p1, p2, p3, p4, p5, p6⟩ := cells7_of RA.out
    have CK : Hid (∀ w : World, Calls Tryz.prog 38 #[.agg #[.int .i64 12, .int .i64 x1, .int .i64 x2, .int .i64 x3, .int .i64 x4, .string x5, .string x6]] w fun e w' => e = .returned (.string ⟨#[110, 105, 108]⟩) ∧ Below w.heap.size w w') := fun w => impl_keyOf 12 x1 x2 x3 x4 x5 x6 w
    go_region_law (first
      | (refine step_call rfl 38 #[.tmp 39] #[58] rfl #[.agg #[.int .i64 12, .int .i64 x1, .int .i64 x2, .int .i64 x3, .int .i64 x4, .string x5, .string x6]] (by simp [Act.eval]) Tryz.func38 ko_name ko_body _ (CK.out wa.drew) ?_; rintro e w3 ⟨rfl, b3⟩; have b3' : Below wa.heap.size wa w3 := (Below.refl _ wa).drew.trans b3; have s3 := b3'.size; have P3 : Hid (PrS B b bs ap (.slice (some ⟨g, 0, none⟩) ts.length cap) w3) := PA.out.below b3'; have F3 : Hid (Fr B b w w3) := FA.out.trans (Fr.of_below (by omega) b3'); clear b3 b3'; refine ⟨_, rfl, ?_⟩)
      | (refine step_call rfl 36 #[.tmp 38, .tmp 40] #[44, 9] rfl #[.pointer (some ⟨b, 0, none⟩), .string ⟨#[110, 105, 108]⟩] (by simp [Act.eval]) Tryz.func36 wd_name wd_body _ (wr_word B b bs ap (.slice (some ⟨g, 0, none⟩) ts.length cap) ⟨#[110, 105, 108]⟩ w3 P3.out (by show bs.length + 3 + 1 ≤ _; omega) (by omega)) ?_; rintro e w4 ⟨rfl, h4, f4⟩; have P4 : Hid (PrS B b (bs ++ due ap ++ [110, 105, 108]) true (.slice (some ⟨g, 0, none⟩) ts.length cap) w4) := h4; have F4 : Hid (Fr B b w w4) := F3.out.trans f4; clear h4 f4; refine ⟨_, rfl, ?_⟩))
    all_goals
      go_wp2
      go_end0
      exact ⟨rfl, by rw [HX.out]; exact P4.out, F4.out⟩

set_option maxHeartbeats 1000000 in
set_option maxRecDepth 20000 in
theorem pr_inner {ts : List Nod} {g cap f i : Nat} (hi : i < ts.length) (hl : ts.length ≤ 1000) (hs : (ts.getD i noNod).name.size ≤ 8) (ho : (ts.getD i noNod).other.size ≤ 8) (h : IsForm (ts.getD i noNod).kind (ts.getD i noNod).n)
    (IH : ∀ j, j < arN (ts.getD i noNod).kind → ∃ q : Nat, [(ts.getD i noNod).a, (ts.getD i noNod).b, (ts.getD i noNod).c].getD j 0 = q ∧ NodeAt ts g cap f q) : NodeAt ts g cap (f + 1) i := by
  intro B b bs ap w hp hA hg hgp hBw hP hlen
  have t := hA i hi
  have hbl := hP.lt
  have hX : textN ts (f + 1) i = formT (textN ts f) (ts.getD i noNod) := by
    show nodeT (textN ts f) (ts.getD i noNod) = _
    unfold nodeT
    rw [if_neg (by have := h.1; omega), if_neg (by have := h.1; omega), if_neg h.2.2.1]
  obtain ⟨⟨x0, x1, x2, x3, x4, x5, x6⟩, hx⟩ : ∃ y, ts.getD i noNod = y := ⟨_, rfl⟩
  rw [hX] at hlen
  rw [hx] at t h hX hs ho IH hlen
  simp only at h hs ho IH
  have HX : Hid (textN ts (f + 1) i = formT (textN ts f) ⟨x0, x1, x2, x3, x4, x5, x6⟩) := hX
  have q0 : w.cell? ⟨g, i * 7, none⟩ = some (.int .i64 x0) := t.c0
  have q1 : w.cell? ⟨g, i * 7 + 1, none⟩ = some (.int .i64 x1) := t.c1
  have q2 : w.cell? ⟨g, i * 7 + 2, none⟩ = some (.int .i64 x2) := t.c2
  have q3 : w.cell? ⟨g, i * 7 + 3, none⟩ = some (.int .i64 x3) := t.c3
  have q4 : w.cell? ⟨g, i * 7 + 4, none⟩ = some (.int .i64 x4) := t.c4
  have q5 : w.cell? ⟨g, i * 7 + 5, none⟩ = some (.string x5) := t.c5
  have q6 : w.cell? ⟨g, i * 7 + 6, none⟩ = some (.string x6) := t.c6
  have hi' : (i : Int) < ts.length := by omega
  obtain ⟨-, qn, -⟩ := hP.cells
  have g1 : (x0 == 1) = false := by simp; have := h.1; omega
  have g2 : (x0 == 2) = false := by simp; have := h.1; omega
  have g12 : (x0 == 12) = false := by simp; exact h.2.2.1
  obtain ⟨wa, hwa⟩ : ∃ wa, w.alloc (.cells #[.int .i64 x0, .int .i64 x1, .int .i64 x2, .int .i64 x3, .int .i64 x4, .string x5, .string x6] 58) = wa := ⟨_, rfl⟩
  have HWA : Hid (w.alloc (.cells #[.int .i64 x0, .int .i64 x1, .int .i64 x2, .int .i64 x3, .int .i64 x4, .string x5, .string x6] 58) = wa) := hwa
  have sa : wa.heap.size = w.heap.size + 1 := by rw [← hwa]; simp
  have BA : Below w.heap.size w wa := by rw [← hwa]; exact (Below.refl _ w).alloc (Nat.le_refl _) _
  have FA : Hid (Fr B b w wa) := Fr.of_below hBw BA
  have HC : Hid (Calls Tryz.prog 39 #[.pointer (some ⟨b, 0, none⟩), .agg #[.int .i64 x0, .int .i64 x1, .int .i64 x2, .int .i64 x3, .int .i64 x4, .string x5, .string x6]] wa _) := pr_form (ts := ts) (g := g) (cap := cap) (f := f) x0 x1 x2 x3 x4 x5 x6 h IH hs ho B b bs ap wa (var?_below BA gPow (by omega) hp) (hA.below BA (fun _ => by omega)) hg hgp (by omega) (hP.below BA) hlen
  clear hwa BA hP hp hA t hx hX IH h hlen
  go_enter Tryz.func18, Tryz.ntmps18
  go_wp2_with fail
  rw [HWA.out]
  refine Calls.mono HC.out ?_
  rintro e w2 ⟨rfl, h2, f2⟩
  have P2 : Hid (PrS B b (bs ++ due ap ++ formT (textN ts f) ⟨x0, x1, x2, x3, x4, x5, x6⟩) true (.slice (some ⟨g, 0, none⟩) ts.length cap) w2) := h2
  have F2 : Hid (Fr B b w w2) := FA.out.trans f2
  clear h2 f2 HC FA
  go_wp2
  go_end0
  exact ⟨rfl, by rw [HX.out]; exact P2.out, F2.out⟩

/-- The text of every node of a right program is written. -/
theorem pr_node {ts : List Nod} {st : List Nat} (hR : Right ts st) (g cap : Nat) : ∀ (f i : Nat), i < f → i < ts.length → NodeAt ts g cap f i
  | 0, i, h, _ => absurd h (by omega)
  | f + 1, i, h, hi => by
    obtain ⟨hF, _⟩ := hR.2 i hi
    have hl := hR.1
    have hsm := fields_small (decide_eq_true hF)
    by_cases h1 : (ts.getD i noNod).kind = 1
    · exact pr_leaf hi hl hsm.1 (Or.inl h1)
    by_cases h2 : (ts.getD i noNod).kind = 2
    · have hn := hF.2.2.2.1 h2
      exact pr_leaf hi hl hsm.1 (Or.inr (Or.inl ⟨h2, hn.1, hn.2⟩))
    by_cases h12 : (ts.getD i noNod).kind = 12
    · exact pr_leaf hi hl hsm.1 (Or.inr (Or.inr h12))
    refine pr_inner hi hl hsm.1 hsm.2 (fields_form hF h1 h2 h12) (fun j hj => ?_)
    obtain ⟨q, hq, hlt, _⟩ := kid_ahead hR hi hj
    exact ⟨q, hq, pr_node hR g cap f q (by omega) (by omega)⟩
end

section
open Go.ChangeShapes Go.WideShapes Go.ChangeAt Go.RowKit

/-- The type of a tree with so many kids. -/
def treeT (n : Nat) : TypeId := if n = 0 then 140 else if n = 1 then 142 else if n = 2 then 144 else 146

/-- What all trees have, as cells. -/
def spotL (t : Nod) (s : Int) : List Value := [.int .i64 t.kind, .int .i64 t.a, .int .i64 t.b, .int .i64 t.c, .int .i64 t.n, .string t.name, .string t.other, .int .i64 s]

/-- A tree as a value. -/
def treeV (t : Nod) (s : Int) (ks : List Value) : Value := .iface (treeT ks.length) (.agg (spotL t s ++ ks).toArray)

theorem begin_meth (t : Nod) (s : Int) (ks : List Value) (h : ks.length ≤ 3) (w : World) :
    (method 302 (treeT ks.length) (.agg (spotL t s ++ ks).toArray) "loop.example/g01292/impl.begin").run Tryz.prog w = .ok (158, .agg (spotL t s).toArray) w := by
  rcases ks with _ | ⟨a, _ | ⟨b, _ | ⟨c, _ | ⟨d, r⟩⟩⟩⟩
  · kernel_rfl
  · kernel_rfl
  · kernel_rfl
  · kernel_rfl
  · simp at h

theorem begin_ahead (t : Nod) (s : Int) (ks : List Value) (h : ks.length ≤ 3) (w : World) :
    (nilAhead 302 (treeT ks.length) (.agg (spotL t s ++ ks).toArray) "loop.example/g01292/impl.begin").run Tryz.prog w = .ok (some false) w := by
  rcases ks with _ | ⟨a, _ | ⟨b, _ | ⟨c, _ | ⟨d, r⟩⟩⟩⟩
  · kernel_rfl
  · kernel_rfl
  · kernel_rfl
  · kernel_rfl
  · simp at h

theorem impl_begin (t : Nod) (s : Int) (w : World) :
    Calls Tryz.prog 158 #[.agg (spotL t s).toArray] w fun e w' => e = .returned (.int .i64 s) ∧ w' = w.alloc (.cells (spotL t s).toArray 138) := by
  obtain ⟨k, a, b, c, n, x, o⟩ := t
  show Calls Tryz.prog 158 #[.agg #[.int .i64 k, .int .i64 a, .int .i64 b, .int .i64 c, .int .i64 n, .string x, .string o, .int .i64 s]] w fun e w' => e = .returned (.int .i64 s) ∧ w' = w.alloc (.cells #[.int .i64 k, .int .i64 a, .int .i64 b, .int .i64 c, .int .i64 n, .string x, .string o, .int .i64 s] 138)
  go_enter Tryz.func158, Tryz.ntmps158
  go_wp2
  go_ret
  exact ⟨rfl, rfl⟩

/-- A value whose part begins there. -/
def Begins (v : Value) (s : Int) : Prop := ∃ (T : TypeId) (u : Value) (t : Nod), v = .iface T u ∧
  (∀ w : World, (nilAhead 302 T u "loop.example/g01292/impl.begin").run Tryz.prog w = .ok (some false) w) ∧
  (∀ w : World, (method 302 T u "loop.example/g01292/impl.begin").run Tryz.prog w = .ok (158, .agg (spotL t s).toArray) w)

theorem treeV_begins (t : Nod) (s : Int) (ks : List Value) (h : ks.length ≤ 3) : Begins (treeV t s ks) s :=
  ⟨_, _, t, rfl, begin_ahead t s ks h, begin_meth t s ks h⟩

/-- A slice of trees lies there. -/
def TreeAt (w : World) (g : Nat) (vs : List Value) : Prop := ∀ i, i < vs.length → w.cell? ⟨g, i, none⟩ = some (vs.getD i .nilIface)

theorem TreeAt.below {w w' : World} {g B : Nat} {vs : List Value} (h : TreeAt w g vs) (hb : Below B w w') (hg : 0 < vs.length → g < B) : TreeAt w' g vs :=
  fun i hi => (World.cell?_of_block (hb.block g (hg (by omega)))).trans (h i hi)

theorem TreeAt.lt {w : World} {g : Nat} {vs : List Value} (h : TreeAt w g vs) (hl : 0 < vs.length) : g < w.heap.size := nod_lt (h 0 hl)

theorem bcell {W w1 : World} (hb : Below W.heap.size W w1) : (∀ b o, b < W.heap.size → w1.cell? ⟨b, o, none⟩ = W.cell? ⟨b, o, none⟩) ∧ (∀ b o, b < W.heap.size → w1.frozen? ⟨b, o, none⟩ = W.frozen? ⟨b, o, none⟩) :=
  ⟨fun b o h => hb.cell (p := ⟨b, o, none⟩) h, fun b o h => hb.frozen (p := ⟨b, o, none⟩) h⟩
end

section
open Go.ChangeShapes Go.WideShapes Go.ChangeAt Go.RowKit

/-- All memory but one block is as it was. -/
def But (g : Nat) (w w' : World) : Prop := w.heap.size ≤ w'.heap.size ∧ ∀ h, h < w.heap.size → h ≠ g → w'.heap[h]? = w.heap[h]?

theorem But.refl (g : Nat) (w : World) : But g w w := ⟨Nat.le_refl _, fun _ _ _ => rfl⟩

theorem But.setCell {g : Nat} {w w' : World} (h : But g w w') (o : Nat) (v : Value) : But g w (w'.setCell ⟨g, o, none⟩ v) :=
  ⟨by have := h.1; simpa using this, fun k hk hn => (heap_setCell_other w' ⟨g, o, none⟩ k v hn).trans (h.2 k hk hn)⟩

theorem But.call {g : Nat} {w w' w2 : World} (h : But g w w') (b : Below w'.heap.size w' w2) : But g w w2 :=
  ⟨Nat.le_trans h.1 b.size, fun k hk hn => (b.block k (Nat.lt_of_lt_of_le hk h.1)).trans (h.2 k hk hn)⟩
end

section
open Go.ChangeShapes Go.WideShapes Go.ChangeAt Go.RowKit

/-- The trees of the first nodes, and where their parts begin. -/
structure TreesB (st : List Int) (vs : List Value) (i : Nat) : Prop where
  ls : st.length = i
  lv : vs.length = i
  b : ∀ j, j < i → Begins (vs.getD j .nilIface) (st.getD j 0)
  r : ∀ j, j < i → 0 ≤ st.getD j 0 ∧ st.getD j 0 ≤ j

/-- The trees of kids. -/
def kidV (vs : List Value) (ks : List Int) : List Value := ks.map fun c => vs.getD c.toNat .nilIface

/-- What a call of kidsAhead ends with. -/
def KEnd (st : List Int) (vs : List Value) (ks : List Int) (i B : Nat) (e : Ending) (w : World) : Prop :=
  (∃ (r : Int) (K : Nat), down st ks.reverse i = some r ∧ e = .returned (.tuple #[.slice (some ⟨K, 0, none⟩) ks.length ks.length, .bool true]) ∧ B ≤ K ∧ TreeAt w K (kidV vs ks) ∧
    (∀ j, j < ks.length → 0 ≤ ks.getD j 0 ∧ ks.getD j 0 < i) ∧ (0 < ks.length → r = st.getD (ks.getD 0 0).toNat 0) ∧ (ks.length = 0 → r = i)) ∨
  (down st ks.reverse i = none ∧ e = .returned (.tuple #[.slice none 0 0, .bool false]))

/-- The state of its loop. -/
def KAt (w W2 : World) (st : List Int) (vs : List Value) (ks : List Int) (i K : Nat) (gg : Nat) (due k : Value) (wx : World) : Prop :=
  ∃ (m : Nat) (P : Int) (C : List Value), m ≤ ks.length ∧ gg = m + 1 ∧ k = .int .i64 ((m : Int) - 1) ∧ due = .int .i64 (P - 1) ∧ 0 ≤ P ∧ P ≤ i ∧ down st (ks.take m).reverse P = down st ks.reverse i ∧
    wx.heap[K]? = some (.cells C.toArray 115 (0, 0)) ∧ C.length = ks.length ∧
    (∀ j, m ≤ j → j < ks.length → C.getD j .nilIface = vs.getD (ks.getD j 0).toNat .nilIface ∧ 0 ≤ ks.getD j 0 ∧ ks.getD j 0 < i) ∧
    (m < ks.length → P = st.getD (ks.getD m 0).toNat 0) ∧ (m = ks.length → P = i) ∧ But K W2 wx ∧ Below w.heap.size w wx

theorem info_tree : (Tryz.prog.info? 115).map (fun i => (i.zero, i.size, i.bytes)) = some (some .nilIface, 1, 16) := by kernel_rfl

theorem tree_of_row {w : World} {g : Nat} {C : List Value} {t : TypeId} {z : Nat × Nat} (h : w.heap[g]? = some (.cells C.toArray t z)) : TreeAt w g C := by
  intro i hi
  rw [cell_of_row _ _ _ _ _ _ h]
  simp [List.getD, hi]

theorem getD_set_same {C : List Value} {q : Nat} {v : Value} (h : q < C.length) : (C.set q v).getD q .nilIface = v := by simp [List.getD, h]
theorem getD_set_other {C : List Value} {q j : Nat} {v : Value} (h : j ≠ q) : (C.set q v).getD j .nilIface = C.getD j .nilIface := by
  simp only [List.getD]
  rw [List.getElem?_set_ne (fun e => h e.symm)]

set_option maxHeartbeats 4000000 in
set_option maxRecDepth 20000 in
theorem impl_ahead (a : Option Addr) (g cap i : Nat) (st : List Int) (vs : List Value) (t : Nod) (hT : TreesB st vs i) (hi : i ≤ 150) (hne : 0 < i → a = some ⟨g, 0, none⟩) (w : World) (hA : TreeAt w g vs) :
    Calls Tryz.prog 68 #[.slice a i cap, .agg (nodCells t).toArray] w fun e w' => KEnd st vs (kidL t) i w.heap.size e w' ∧ Below w.heap.size w w' := by
  have HT : Hid (TreesB st vs i) := hT
  have HA : Hid (TreeAt w g vs) := hA
  have HG : Hid (0 < i → g < w.heap.size) := fun h => hA.lt (by rw [hT.lv]; exact h)
  clear hT hA
  obtain ⟨x0, x1, x2, x3, x4, x5, x6⟩ := t
  obtain ⟨ks, hks⟩ : ∃ ks, kidL ⟨x0, x1, x2, x3, x4, x5, x6⟩ = ks := ⟨_, rfl⟩
  have HKS : Hid (kidL ⟨x0, x1, x2, x3, x4, x5, x6⟩ = ks) := hks
  have hkl : ks.length = arN x0 := by rw [← hks]; exact kidL_length _
  show Calls Tryz.prog 68 #[.slice a i cap, .agg #[.int .i64 x0, .int .i64 x1, .int .i64 x2, .int .i64 x3, .int .i64 x4, .string x5, .string x6]] w fun e w' => KEnd st vs (kidL ⟨x0, x1, x2, x3, x4, x5, x6⟩) i w.heap.size e w' ∧ Below w.heap.size w w'
  rw [hks]
  clear hks
  have har := arN_le x0
  have HB0 : Hid (Below w.heap.size w (w.alloc (.cells #[.int .i64 x0, .int .i64 x1, .int .i64 x2, .int .i64 x3, .int .i64 x4, .string x5, .string x6] 58))) := (Below.refl _ w).alloc (Nat.le_refl _) _
  obtain ⟨i0, hi0, hz0, hz1, hz2⟩ := info_parts info_tree
  obtain ⟨M, hM⟩ : ∃ M : List Value, M.toArray = madeCells (Value.nilIface).cells (((ks.length : Nat) : Int).toNat * i0.size) := ⟨(madeCells (Value.nilIface).cells (((ks.length : Nat) : Int).toNat * i0.size)).toList, by simp⟩
  have HML : Hid (M.length = ks.length) := by
    show M.length = ks.length
    have h := congrArg Array.size hM
    rw [size_madeCells, hz1] at h
    simpa using h
  have hmk : ∀ W : World, (Instr.makeSlice 80 (.int .i64 (ks.length : Int)) (.int .i64 (ks.length : Int))).run Tryz.prog W = .ok (.slice (some ⟨W.heap.size, 0, none⟩) ks.length ks.length) (W.alloc (.cells M.toArray 115)) := fun W => by
    have h := run_make (P := Tryz.prog) W 80 115 i0 .nilIface Tryz.underlying80 hi0 hz0 .i64 .i64 (ks.length : Int) (ks.length : Int) (by omega) (by omega) (by rw [hz2]; omega) (by omega)
    rw [← hM] at h
    simpa using h
  clear hM hi0 hz0 hz1 hz2
  have HKL : Hid (ks.length = arN x0) := hkl
  rw [← hkl] at har
  clear hkl
  have har3 : (ks.length : Int) ≤ 3 := by omega
  go_enter Tryz.func68, Tryz.ntmps68
  go_wp2_with fail
  refine (impl_kids x0 x1 x2 x3 x4 x5 x6 _).mono ?_
  rintro e w1 ⟨rfl, hk1, hb1⟩
  have hs1 := hb1.size
  simp only [World.size_alloc] at hk1 hs1
  have HB1 : Hid (Below w.heap.size w w1) := HB0.out.trans (hb1.mono (by simp))
  have HL1 : Hid (w.heap.size + 1 + 3 < w1.heap.size) := (Array.getElem?_eq_some_iff.1 hk1).1
  have HKC : Hid (∀ j, j < ks.length → w1.cell? ⟨w.heap.size + 1 + 3, j, none⟩ = some (.int .i64 (ks.getD j 0))) := fun j hj => by
    have h := kid_cell (t := ⟨x0, x1, x2, x3, x4, x5, x6⟩) hk1 j (by rw [HKS.out]; exact hj)
    rw [HKS.out] at h
    exact h
  rw [← HKL.out]
  clear hb1 hk1 HB0
  go_wp2
  obtain ⟨W2, hW2⟩ : ∃ W2, w1.alloc (.cells M.toArray 115) = W2 := ⟨_, rfl⟩
  have HB2 : Hid (Below w.heap.size w W2) := by rw [← hW2]; exact HB1.out.alloc (by omega) _
  have HR2 : Hid (W2.heap[w1.heap.size]? = some (.cells M.toArray 115 (0, 0))) := by rw [← hW2]; exact (MapKept.heap_alloc w1 _).1
  have HS2 : Hid (W2.heap.size = w1.heap.size + 1) := by
    show W2.heap.size = w1.heap.size + 1
    rw [← hW2]; simp
  have HKC2 : Hid (∀ j, j < ks.length → W2.cell? ⟨w.heap.size + 1 + 3, j, none⟩ = some (.int .i64 (ks.getD j 0))) := fun j hj => by
    rw [← hW2, ← HKC.out j hj]
    exact ((Below.refl w1.heap.size w1).alloc (Nat.le_refl _) _).cell (p := ⟨w.heap.size + 1 + 3, j, none⟩) HL1.out
  rw [hW2]
  clear hW2 HKC HB1 hmk
  go_loopg [8, 9] (ks.length + 1) (fun gg due k wx => KAt w W2 st vs ks i w1.heap.size gg due k wx)
  case atStart => exact ⟨ks.length, i, M, Nat.le_refl _, rfl, rfl, rfl, by omega, by omega, by rw [List.take_length], HR2.out, HML.out, fun j h1 h2 => by omega, fun h => by omega, fun _ => rfl, But.refl _ _, HB2.out⟩
  case round =>
    obtain ⟨m, P, C, hm, rfl, rfl, rfl, hP0, hP1, hd, hC, hCl, hCv, hPm, hPi, hbut, hbel⟩ := hrel
    have HD : Hid (down st (ks.take m).reverse P = down st ks.reverse i) := hd
    have HC : Hid (wr.heap[w1.heap.size]? = some (.cells C.toArray 115 (0, 0))) := hC
    have HCV : Hid (∀ j, m ≤ j → j < ks.length → C.getD j .nilIface = vs.getD (ks.getD j 0).toNat .nilIface ∧ 0 ≤ ks.getD j 0 ∧ ks.getD j 0 < i) := hCv
    have HPM : Hid (m < ks.length → P = st.getD (ks.getD m 0).toNat 0) := hPm
    have HPI : Hid (m = ks.length → P = i) := hPi
    have HCL : Hid (C.length = ks.length) := hCl
    have HU : Hid (But w1.heap.size W2 wr) := hbut
    clear hd hC hCv hPm hPi hCl hbut
    by_cases hm0 : m = 0
    · subst hm0
      have HE : Hid (KEnd st vs ks i w.heap.size (.returned (.tuple #[.slice (some ⟨w1.heap.size, 0, none⟩) ks.length ks.length, .bool true])) wr) := by
        refine Or.inl ⟨P, w1.heap.size, ?_, rfl, by omega, ?_, fun j hj => (HCV.out j (by omega) hj).2, fun h => HPM.out h, fun h => HPI.out h.symm⟩
        · rw [← HD.out]; rfl
        · have hrow := tree_of_row HC.out
          intro j hj
          have hj' : j < ks.length := by simpa [kidV] using hj
          rw [hrow j (by rw [HCL.out]; exact hj'), (HCV.out j (by omega) hj').1]
          simp [kidV, List.getD, hj']
      clear HD HC HCV HPM HPI HCL HU
      go_wp2
      go_ret2
      exact ⟨HE.out, hbel⟩
    · obtain ⟨q, rfl⟩ : ∃ q, m = q + 1 := ⟨m - 1, by omega⟩
      have hq0 : (q : Int) < ks.length := by omega
      have eq1 : ((q + 1 : Nat) : Int) - 1 = q := by omega
      rw [eq1]
      have hc : wr.cell? ⟨w.heap.size + 1 + 3, q, none⟩ = some (.int .i64 (ks.getD q 0)) := by
        rw [← HKC2.out q (by omega)]
        exact World.cell?_of_block (HU.out.2 (w.heap.size + 1 + 3) (by have := HS2.out; have := HL1.out; omega) (by have := HL1.out; omega))
      have HDD : Hid (down st ((ks.take (q + 1)).reverse) P = if ks.getD q 0 = P - 1 ∧ 0 ≤ ks.getD q 0 then down st (ks.take q).reverse (st.getD (ks.getD q 0).toNat 0) else none) := by
        show down st ((ks.take (q + 1)).reverse) P = _
        have hql : q < ks.length := by omega
        rw [List.take_succ_eq_append_getElem hql, List.reverse_append]
        simp [List.getD, List.getElem?_eq_getElem hql, down]
      have HCQ : Hid (ks.getD q 0 = ks.getD q 0) := rfl
      obtain ⟨c, hcc⟩ : ∃ c, ks.getD q 0 = c := ⟨_, rfl⟩
      have HCC : Hid (ks.getD q 0 = c) := hcc
      rw [hcc] at hc HDD
      clear hcc HCQ
      by_cases hcp : c = P - 1 ∧ 0 ≤ c
      · obtain ⟨hc1, hc0⟩ := hcp
        obtain ⟨cn, rfl⟩ := Int.eq_ofNat_of_zero_le hc0
        obtain rfl : P = (cn : Int) + 1 := by omega
        have hcn : cn < i := by omega
        have hcn' : (cn : Int) < i := by omega
        obtain rfl := hne (by omega)
        have hlt := HG.out (by omega)
        obtain ⟨T, u, t0, hv, hn, hmt⟩ := HT.out.b cn hcn
        have hcell : wr.cell? ⟨g, cn, none⟩ = some (.iface T u) := by
          rw [← hv]
          exact (HA.out.below hbel (fun _ => hlt)) cn (by rw [HT.out.lv]; exact hcn)
        have HV : Hid (vs.getD cn .nilIface = .iface T u) := hv
        have hrg := HT.out.r cn hcn
        have HDN : Hid (down st (ks.take q).reverse (st.getD cn 0) = down st ks.reverse i) := by
          show down st (ks.take q).reverse (st.getD cn 0) = _
          rw [← HD.out, HDD.out, if_pos ⟨hc1, hc0⟩]
          rfl
        have e5 : (cn : Int) + 1 - 1 = cn := by omega
        rw [e5]
        have f0 : wr.frozen? ⟨w1.heap.size, q, none⟩ = false := frozen_of_row wr _ _ _ _ HC.out
        have k0 : wr.cell? ⟨w1.heap.size, q, none⟩ = some (C.getD q .nilIface) := tree_of_row HC.out q (by rw [HCL.out]; omega)
        have HST : Hid (st.getD cn 0 = st.getD cn 0) := rfl
        obtain ⟨R, hR⟩ : ∃ R, (spotL t0 (st.getD cn 0)).toArray = R := ⟨_, rfl⟩
        have hI := impl_begin t0 (st.getD cn 0)
        rw [hR] at hmt hI
        obtain ⟨P2, hP2⟩ : ∃ P2, st.getD cn 0 = P2 := ⟨_, rfl⟩
        have HP2 : Hid (st.getD cn 0 = P2) := hP2
        rw [hP2] at hI hrg HDN
        have HI : Hid (∀ w : World, Calls Tryz.prog 158 #[.agg R] w fun e w' => e = .returned (.int .i64 P2) ∧ w' = w.alloc (.cells R 138)) := hI
        obtain ⟨z, hz⟩ : ∃ z, C.getD q .nilIface = z := ⟨_, rfl⟩
        rw [hz] at k0
        clear hR hI HST hP2 hz hv HDD HD hc1 e5 eq1
        have hne1 : ¬ g = w1.heap.size := by have := HL1.out; omega
        have hne2 : ¬ w1.heap.size = g := by have := HL1.out; omega
        have HW : Hid (KAt w W2 st vs ks i w1.heap.size (q + 1) (.int .i64 (P2 - 1)) (.int .i64 ((q : Int) - 1)) ((wr.setCell ⟨w1.heap.size, q, none⟩ (.iface T u)).alloc (.cells R 138))) := by
          have hb1 : Below w.heap.size w (wr.setCell ⟨w1.heap.size, q, none⟩ (.iface T u)) := hbel.setCell (p := ⟨w1.heap.size, q, none⟩) (by show w.heap.size ≤ w1.heap.size; omega) _
          have hrow := heap_setCell_same wr w1.heap.size q _ _ (.iface T u) HC.out
          rw [List.setIfInBounds_toArray] at hrow
          have hlk : w1.heap.size < (wr.setCell ⟨w1.heap.size, q, none⟩ (.iface T u)).heap.size := (Array.getElem?_eq_some_iff.1 hrow).1
          have hal := (Below.refl (wr.setCell ⟨w1.heap.size, q, none⟩ (.iface T u)).heap.size (wr.setCell ⟨w1.heap.size, q, none⟩ (.iface T u))).alloc (Nat.le_refl _) (.cells R 138)
          refine ⟨q, P2, C.set q (.iface T u), by omega, rfl, rfl, rfl, by omega, by omega, HDN.out, ?_, by rw [List.length_set]; exact HCL.out, ?_, ?_, fun h => by omega, (HU.out.setCell q _).call hal, hb1.alloc (by have := hb1.size; omega) _⟩
          · rw [hal.block _ hlk]; exact hrow
          · intro j hj hjl
            by_cases hjq : j = q
            · subst hjq
              rw [getD_set_same (by rw [HCL.out]; exact hjl), HCC.out]
              exact ⟨HV.out.symm, by omega, by omega⟩
            · rw [getD_set_other hjq]
              exact HCV.out j (by omega) hjl
          · intro _
            rw [HCC.out, ← HP2.out]
            rfl
        have hg1 : -9223372036854775808 ≤ P2 - 1 := by omega
        have hg2 : P2 ≤ 150 := by omega
        clear HC HCV HPM HPI HCL HU HDN HV HP2 HCC
        go_wp2_with fail
        refine (HI.out _).mono ?_
        rintro e w3 ⟨rfl, rfl⟩
        go_wp2
        go_roundg (q + 1)
        case rel => exact HW.out
        case measure => omega
      · have HZ : Hid (KEnd st vs ks i w.heap.size (.returned (.tuple #[.slice none 0 0, .bool false])) wr) := by
          refine Or.inr ⟨?_, rfl⟩
          rw [← HD.out, HDD.out, if_neg hcp]
        clear HD HDD HCC HC HCV HPM HPI HCL HU
        by_cases hP : P = 0
        · subst hP
          have d0 : decide ((0 : Int) - 1 < 0) = true := by decide
          clear hcp eq1
          go_wp2
          go_ret2
          exact ⟨HZ.out, hbel⟩
        · have hP' : ¬ P - 1 < 0 := by omega
          have nq : (c != P - 1) = true := by
            rw [bne_iff_ne]
            intro h
            exact hcp ⟨h, by omega⟩
          clear hcp eq1
          go_wp2
          go_ret2
          exact ⟨HZ.out, hbel⟩
end

section
open Go.ChangeShapes Go.WideShapes Go.ChangeAt Go.RowKit

theorem len_two {α : Type} {l : List α} (h : l.length = 2) : ∃ a b, l = [a, b] := by
  rcases l with _ | ⟨a, _ | ⟨b, _ | ⟨c, r⟩⟩⟩
  · simp at h
  · simp at h
  · exact ⟨a, b, rfl⟩
  · simp at h

theorem len_three {α : Type} {l : List α} (h : l.length = 3) : ∃ a b c, l = [a, b, c] := by
  rcases l with _ | ⟨a, _ | ⟨b, _ | ⟨c, _ | ⟨d, r⟩⟩⟩⟩
  · simp at h
  · simp at h
  · simp at h
  · exact ⟨a, b, c, rfl⟩
  · simp at h

theorem grow_leaf (t : Nod) (at0 : Int) (a : Option Addr) (cap : Nat) (w : World) :
    Calls Tryz.prog 69 #[.agg (nodCells t).toArray, .int .i64 at0, .slice a 0 cap] w fun e w' => e = .returned (treeV t at0 []) ∧ Below w.heap.size w w' := by
  obtain ⟨k, x1, b, c, n, x, o⟩ := t
  show Calls Tryz.prog 69 #[.agg #[.int .i64 k, .int .i64 x1, .int .i64 b, .int .i64 c, .int .i64 n, .string x, .string o], .int .i64 at0, .slice a 0 cap] w fun e w' => e = .returned (.iface 140 (.agg #[.int .i64 k, .int .i64 x1, .int .i64 b, .int .i64 c, .int .i64 n, .string x, .string o, .int .i64 at0])) ∧ Below w.heap.size w w'
  go_enter Tryz.func69, Tryz.ntmps69
  go_wp2
  go_ret
  exact ⟨rfl, (Below.refl _ w).alloc (Nat.le_refl _) _⟩

theorem spot_cells {w : World} {p : Nat} {k a b c n s : Int} {x o : ByteArray} {t : TypeId} {z : Nat × Nat} (h : w.heap[p]? = some (.cells #[.int .i64 k, .int .i64 a, .int .i64 b, .int .i64 c, .int .i64 n, .string x, .string o, .int .i64 s] t z)) :
    w.cell? ⟨p, 0, none⟩ = some (.int .i64 k) ∧ w.cell? ⟨p, 1, none⟩ = some (.int .i64 a) ∧ w.cell? ⟨p, 2, none⟩ = some (.int .i64 b) ∧ w.cell? ⟨p, 3, none⟩ = some (.int .i64 c) ∧ w.cell? ⟨p, 4, none⟩ = some (.int .i64 n) ∧ w.cell? ⟨p, 5, none⟩ = some (.string x) ∧ w.cell? ⟨p, 6, none⟩ = some (.string o) ∧ w.cell? ⟨p, 7, none⟩ = some (.int .i64 s) := by
  refine ⟨?_, ?_, ?_, ?_, ?_, ?_, ?_, ?_⟩ <;> (rw [cell_of_row _ _ _ _ _ _ h]; rfl)

/-- What lies there behind the statement that reads where the first kid begins. -/
def SpotIn (w wx : World) (p : Value) (k a b c n s : Int) (x o : ByteArray) : Prop :=
  ∃ q : Nat, p = .pointer (some ⟨q, 0, none⟩) ∧ wx.heap[q]? = some (.cells #[.int .i64 k, .int .i64 a, .int .i64 b, .int .i64 c, .int .i64 n, .string x, .string o, .int .i64 s] 138 (0, 0)) ∧ Below w.heap.size w wx

theorem spot_a (w : World) (A : Obj) (R : Array Value) (k a b c n s : Int) (x o : ByteArray) :
    SpotIn w (((w.alloc A).alloc (.cells R 138)).alloc (.cells #[.int .i64 k, .int .i64 a, .int .i64 b, .int .i64 c, .int .i64 n, .string x, .string o, .int .i64 s] 138)).drew
      (.pointer (some ⟨w.heap.size + 1 + 1, 0, none⟩)) k a b c n s x o := by
  refine ⟨w.heap.size + 1 + 1, rfl, ?_, ((((Below.refl _ w).alloc (Nat.le_refl _) _).alloc (by simp) _).alloc (by simp; omega) _).drew⟩
  have h := (MapKept.heap_alloc ((w.alloc A).alloc (.cells R 138)) (.cells #[.int .i64 k, .int .i64 a, .int .i64 b, .int .i64 c, .int .i64 n, .string x, .string o, .int .i64 s] 138)).1
  have e : ((w.alloc A).alloc (.cells R 138)).heap.size = w.heap.size + 1 + 1 := by simp
  rw [e] at h
  exact h

theorem spot_b (w : World) (A : Obj) (R : Array Value) (k a b c n s : Int) (x o : ByteArray) :
    SpotIn w (((w.alloc A).alloc (.cells #[.int .i64 k, .int .i64 a, .int .i64 b, .int .i64 c, .int .i64 n, .string x, .string o, .int .i64 s] 138)).alloc (.cells R 138)).drew
      (.pointer (some ⟨w.heap.size + 1, 0, none⟩)) k a b c n s x o := by
  refine ⟨w.heap.size + 1, rfl, ?_, ((((Below.refl _ w).alloc (Nat.le_refl _) _).alloc (by simp) _).alloc (by simp; omega) _).drew⟩
  have h := (MapKept.heap_alloc (w.alloc A) (.cells #[.int .i64 k, .int .i64 a, .int .i64 b, .int .i64 c, .int .i64 n, .string x, .string o, .int .i64 s] 138)).1
  have h2 := ((Below.refl _ ((w.alloc A).alloc (.cells #[.int .i64 k, .int .i64 a, .int .i64 b, .int .i64 c, .int .i64 n, .string x, .string o, .int .i64 s] 138))).alloc (Nat.le_refl _) (.cells R 138)).drew.block (w.heap.size + 1) (by simp)
  rw [h2]
  simpa using h

set_option maxHeartbeats 4000000 in
set_option maxRecDepth 20000 in
theorem grow_kids (t : Nod) (at0 s : Int) (g cap : Nat) (ks : List Value) (h1 : 1 ≤ ks.length) (h3 : ks.length ≤ 3) (hv : Begins (ks.getD 0 .nilIface) s) (hif : ∀ v ∈ ks, ∃ T u, v = .iface T u) (w : World) (hk : TreeAt w g ks) :
    Calls Tryz.prog 69 #[.agg (nodCells t).toArray, .int .i64 at0, .slice (some ⟨g, 0, none⟩) ks.length cap] w fun e w' => e = .returned (treeV t s ks) ∧ Below w.heap.size w w' := by
  have hg := hk.lt (by omega)
  have h0 := hk 0 (by omega)
  have HF : Hid (∀ v ∈ ks, ∃ T u, v = .iface T u) := hif
  have HV : Hid (treeV t s ks = .iface (treeT ks.length) (.agg (spotL t s ++ ks).toArray)) := rfl
  have HK : Hid (TreeAt w g ks) := hk
  obtain ⟨T, u, t0, he, hn, hm⟩ := hv
  rw [he] at h0
  obtain ⟨k, x1, b, c, n, x, o⟩ := t
  show Calls Tryz.prog 69 #[.agg #[.int .i64 k, .int .i64 x1, .int .i64 b, .int .i64 c, .int .i64 n, .string x, .string o], .int .i64 at0, .slice (some ⟨g, 0, none⟩) ks.length cap] w fun e w' => e = .returned (treeV ⟨k, x1, b, c, n, x, o⟩ s ks) ∧ Below w.heap.size w w'
  obtain ⟨R, hR⟩ : ∃ R, (spotL t0 s).toArray = R := ⟨_, rfl⟩
  have hI := impl_begin t0 s
  rw [hR] at hm hI
  have HI : Hid (∀ w : World, Calls Tryz.prog 158 #[.agg R] w fun e w' => e = .returned (.int .i64 s) ∧ w' = w.alloc (.cells R 138)) := hI
  clear hR hI he hk hif
  obtain ⟨m, hmm⟩ : ∃ m, ks.length = m := ⟨_, rfl⟩
  have HM : Hid (ks.length = m) := hmm
  rw [hmm] at h1 h3 ⊢
  clear hmm
  have e1 : (1 : Int) ≤ m := by omega
  have e3 : (m : Int) ≤ 3 := by omega
  go_enter Tryz.func69, Tryz.ntmps69
  go_upto_region 3 with fail
  go_cut [7] from 10 (fun p wx => SpotIn w wx p k x1 b c n s x o)
  case first =>
    go_region_with (go_at_call 158; refine (HI.out _).mono ?_; rintro e w1 ⟨rfl, rfl⟩)
    all_goals
      go_wp2_with fail
      go_meet
    all_goals first | exact spot_a _ _ _ _ _ _ _ _ _ _ _ | exact spot_b _ _ _ _ _ _ _ _ _ _ _
  case rest =>
    obtain ⟨q, rfl, hq, hb⟩ := hcut
    obtain ⟨q0, q1, q2, q3, q4, q5, q6, q7⟩ := spot_cells hq
    have HT : Hid (TreeAt wc g ks) := HK.out.below hb (fun _ => hg)
    clear HK h0 hn hm HI hq
    rcases (by omega : m = 1 ∨ m = 2 ∨ m = 3) with rfl | rfl | rfl
    · obtain ⟨v0, rfl⟩ := List.length_eq_one_iff.1 HM.out
      obtain ⟨T0, u0, rfl⟩ := HF.out v0 (by simp)
      have c0 : wc.cell? ⟨g, 0, none⟩ = some (.iface T0 u0) := HT.out 0 (by simp)
      clear HT HF
      go_wp2
      go_quiet (fail)
      go_wp2
      go_ret
      exact ⟨by rw [HV.out]; rfl, below_drew_n hb _⟩
    · obtain ⟨v0, v1, rfl⟩ := len_two HM.out
      obtain ⟨T0, u0, rfl⟩ := HF.out v0 (by simp)
      obtain ⟨T1, u1, rfl⟩ := HF.out v1 (by simp)
      have c0 : wc.cell? ⟨g, 0, none⟩ = some (.iface T0 u0) := HT.out 0 (by simp)
      have c1 : wc.cell? ⟨g, 1, none⟩ = some (.iface T1 u1) := HT.out 1 (by simp)
      clear HT HF
      go_wp2
      go_quiet (fail)
      go_wp2
      go_ret
      exact ⟨by rw [HV.out]; rfl, below_drew_n hb _⟩
    · obtain ⟨v0, v1, v2, rfl⟩ := len_three HM.out
      obtain ⟨T0, u0, rfl⟩ := HF.out v0 (by simp)
      obtain ⟨T1, u1, rfl⟩ := HF.out v1 (by simp)
      obtain ⟨T2, u2, rfl⟩ := HF.out v2 (by simp)
      have c0 : wc.cell? ⟨g, 0, none⟩ = some (.iface T0 u0) := HT.out 0 (by simp)
      have c1 : wc.cell? ⟨g, 1, none⟩ = some (.iface T1 u1) := HT.out 1 (by simp)
      have c2 : wc.cell? ⟨g, 2, none⟩ = some (.iface T2 u2) := HT.out 2 (by simp)
      clear HT HF
      go_wp2
      go_quiet (fail)
      go_wp2
      go_ret
      exact ⟨by rw [HV.out]; rfl, below_drew_n hb _⟩
end

section
open Go.ChangeShapes Go.WideShapes Go.ChangeAt Go.RowKit

/-- The trees of the first nodes, each over its kids. -/
structure TreesG (ts : List Nod) (st : List Int) (vs : List Value) (i : Nat) : Prop where
  ls : st.length = i
  lv : vs.length = i
  v : ∀ j, j < i → vs.getD j .nilIface = treeV (ts.getD j noNod) (st.getD j 0) (kidV vs (kidL (ts.getD j noNod)))
  k : ∀ j, j < i → ∀ c, c < (kidL (ts.getD j noNod)).length → 0 ≤ (kidL (ts.getD j noNod)).getD c 0 ∧ (kidL (ts.getD j noNod)).getD c 0 < j
  r : ∀ j, j < i → 0 ≤ st.getD j 0 ∧ st.getD j 0 ≤ j

theorem kidV_length (vs : List Value) (ks : List Int) : (kidV vs ks).length = ks.length := by simp [kidV]

theorem TreesG.b {ts : List Nod} {st : List Int} {vs : List Value} {i : Nat} (h : TreesG ts st vs i) : TreesB st vs i :=
  ⟨h.ls, h.lv, fun j hj => by rw [h.v j hj]; exact treeV_begins _ _ _ (by rw [kidV_length, kidL_length]; exact arN_le _), h.r⟩

theorem kidV_getD (vs : List Value) (ks : List Int) (j : Nat) (h : j < ks.length) : (kidV vs ks).getD j .nilIface = vs.getD (ks.getD j 0).toNat .nilIface := by
  simp [kidV, List.getD, h]

theorem kidV_app (vs : List Value) (v : Value) (ks : List Int) (h : ∀ c, c < ks.length → 0 ≤ ks.getD c 0 ∧ ks.getD c 0 < vs.length) : kidV (vs ++ [v]) ks = kidV vs ks := by
  unfold kidV
  apply List.map_congr_left
  intro c hc
  obtain ⟨m, hm, rfl⟩ := List.getElem_of_mem hc
  have hr := h m hm
  have e : ks.getD m 0 = ks[m] := by simp [List.getD, hm]
  rw [e] at hr
  simp only [List.getD]
  rw [List.getElem?_append_left (by omega)]

theorem getD_app_left {α : Type} (l : List α) (x d : α) (j : Nat) (h : j < l.length) : (l ++ [x]).getD j d = l.getD j d := by
  simp only [List.getD]
  rw [List.getElem?_append_left h]

theorem getD_app_lastT {α : Type} (l : List α) (x d : α) (j : Nat) (h : j = l.length) : (l ++ [x]).getD j d = x := by
  subst h
  simp [List.getD]

theorem TreesG.next {ts : List Nod} {st : List Int} {vs : List Value} {i : Nat} (h : TreesG ts st vs i) (r : Int)
    (hk : ∀ c, c < (kidL (ts.getD i noNod)).length → 0 ≤ (kidL (ts.getD i noNod)).getD c 0 ∧ (kidL (ts.getD i noNod)).getD c 0 < i) (hr : 0 ≤ r ∧ r ≤ i) :
    TreesG ts (st ++ [r]) (vs ++ [treeV (ts.getD i noNod) r (kidV vs (kidL (ts.getD i noNod)))]) (i + 1) := by
  have hls := h.ls
  have hlv := h.lv
  refine ⟨by simp [hls], by simp [hlv], fun j hj => ?_, fun j hj => ?_, fun j hj => ?_⟩
  · by_cases hji : j < i
    · rw [getD_app_left _ _ _ _ (by omega), getD_app_left _ _ _ _ (by omega), h.v j hji, kidV_app]
      intro c hc
      have := h.k j hji c hc
      omega
    · obtain rfl : j = i := by omega
      rw [getD_app_lastT _ _ _ _ hlv.symm, getD_app_lastT _ _ _ _ hls.symm, kidV_app]
      intro c hc
      have := hk c hc
      omega
  · by_cases hji : j < i
    · exact h.k j hji
    · obtain rfl : j = i := by omega
      exact hk
  · by_cases hji : j < i
    · rw [getD_app_left _ _ _ _ (by omega)]; exact h.r j hji
    · obtain rfl : j = i := by omega
      rw [getD_app_lastT _ _ _ _ hls.symm]; exact hr

/-- A slice of trees of the call's own. -/
abbrev ownTr (w : World) (base : Nat) (v : Value) (vs : List Value) : Prop := w.ownsRow base 115 1 v vs.length vs

theorem ownT_kept {w w' : World} {B N : Nat} {v : Value} {vs : List Value} (h : ownTr w B v vs) (hb : Below N w w') (hN : w.heap.size ≤ N) : ownTr w' B v vs := by
  refine ⟨h.1, ?_⟩
  rcases h.2 with h0 | ⟨g, cap, cur, hv, hbg, hg, rest⟩
  · exact .inl h0
  · refine .inr ⟨g, cap, cur, hv, hbg, ?_, rest⟩
    have hlt : g < w.heap.size := (Array.getElem?_eq_some_iff.1 hg).1
    rw [hb.block g (by omega)]
    exact hg

theorem ownT_form {w : World} {B : Nat} {v : Value} {vs : List Value} (h : ownTr w B v vs) :
    ∃ (a : Option Addr) (g cap : Nat), v = .slice a vs.length cap ∧ (0 < vs.length → a = some ⟨g, 0, none⟩) ∧ TreeAt w g vs ∧ B ≤ g ∧ (0 < vs.length → g < w.heap.size) := by
  rcases h.2 with ⟨rfl, h0⟩ | ⟨g, cap, cur, rfl, hb, hg, hn, hm, hs, ht⟩
  · rw [h0]
    have e : vs = [] := List.length_eq_zero_iff.1 h0
    subst e
    exact ⟨none, B, 0, rfl, fun h => absurd h (by omega), fun i hi => absurd hi (by simp), Nat.le_refl _, fun h => absurd h (by omega)⟩
  · refine ⟨some ⟨g, 0, none⟩, g, cap, rfl, fun _ => rfl, fun i hi => ?_, hb, fun _ => (Array.getElem?_eq_some_iff.1 hg).1⟩
    rw [cell_of_row _ _ _ _ _ _ hg]
    have e : cur[i]? = vs[i]? := by
      rw [← ht, List.getElem?_take_of_lt (by omega)]
      simp
    rw [e]
    simp [List.getD, hi]

theorem ownT_next {w : World} {B : Nat} {v : Value} {vs : List Value} {m : Nat} {xs : List Value} (x : Value) (h : w.ownsRow B 115 1 v m xs) (hn : m = vs.length + 1) (hx : xs = vs ++ [x]) : ownTr w B v (vs ++ [x]) := by
  subst hn hx
  show w.ownsRow B 115 1 v (vs ++ [x]).length (vs ++ [x])
  rw [List.length_append]
  simpa using h

/-- A tree is grown over the kids that were found ahead of its node. -/
theorem impl_grow (t : Nod) (i : Nat) (r : Int) (K : Nat) (st : List Int) (vs : List Value) (hT : TreesB st vs i) (w : World) (hA : TreeAt w K (kidV vs (kidL t)))
    (hk : ∀ j, j < (kidL t).length → 0 ≤ (kidL t).getD j 0 ∧ (kidL t).getD j 0 < i) (h1 : 0 < (kidL t).length → r = st.getD ((kidL t).getD 0 0).toNat 0) (h0 : (kidL t).length = 0 → r = i) :
    Calls Tryz.prog 69 #[.agg (nodCells t).toArray, .int .i64 i, .slice (some ⟨K, 0, none⟩) (kidL t).length (kidL t).length] w fun e w' => e = .returned (treeV t r (kidV vs (kidL t))) ∧ Below w.heap.size w w' := by
  by_cases hz : (kidL t).length = 0
  · obtain rfl := h0 hz
    have e : kidL t = [] := List.length_eq_zero_iff.1 hz
    rw [e]
    exact grow_leaf t i _ 0 w
  · have hlt : 0 < (kidL t).length := by omega
    have hl := kidL_length t
    have ha := arN_le t.kind
    have g := grow_kids t i r K (kidL t).length (kidV vs (kidL t)) (by rw [kidV_length]; omega) (by rw [kidV_length]; omega) ?_ ?_ w hA
    · rw [kidV_length] at g
      exact g
    · have hh := hk 0 hlt
      rw [kidV_getD _ _ 0 hlt, h1 hlt]
      exact hT.b _ (by omega)
    · intro v hv
      simp only [kidV, List.mem_map] at hv
      obtain ⟨c, hc, rfl⟩ := hv
      obtain ⟨m, hm, rfl⟩ := List.getElem_of_mem hc
      have hh := hk m hm
      have e : (kidL t).getD m 0 = (kidL t)[m] := by simp [List.getD, hm]
      rw [e] at hh
      obtain ⟨T, u, t0, hv, _⟩ := hT.b (kidL t)[m].toNat (by omega)
      exact ⟨T, u, hv⟩

/-- What a call of treesOf ends with. -/
def TrEnd (ts : List Nod) (B : Nat) (e : Ending) (w : World) : Prop :=
  (∃ st vs v, 1 ≤ ts.length ∧ ts.length ≤ 150 ∧ startsF ts ts.length = some st ∧ TreesG ts st vs ts.length ∧ ownTr w B v vs ∧ e = .returned (.tuple #[v, .bool (nodesB ts)])) ∨
  (nodesB ts = false ∧ e = .returned (.tuple #[.slice none 0 0, .bool false]))

/-- The state of its loop. -/
def TrAt (ts : List Nod) (w : World) (gg : Nat) (out pl : Value) (wr : World) : Prop :=
  ∃ (i : Nat) (st : List Int) (vs : List Value), pl = .int .i64 i ∧ i + gg = ts.length ∧ startsF ts i = some st ∧ TreesG ts st vs i ∧ ownTr wr w.heap.size out vs ∧ Below w.heap.size w wr
end

section
open Go.ChangeShapes Go.WideShapes Go.ChangeAt Go.RowKit

set_option maxHeartbeats 4000000 in
set_option maxRecDepth 20000 in
theorem impl_trees (a : Option Addr) (g cap : Nat) (ts : List Nod) (hne : 0 < ts.length → a = some ⟨g, 0, none⟩) (hl : ts.length ≤ 1048576)
    (hst : ∀ i, i < ts.length → (ts.getD i noNod).name.size ≤ maxLen ∧ (ts.getD i noNod).other.size ≤ maxLen) (w : World) (hA : NodAt w g ts) :
    Calls Tryz.prog 35 #[.slice a ts.length cap] w fun e w' => TrEnd ts w.heap.size e w' ∧ Below w.heap.size w w' := by
  have HA : Hid (NodAt w g ts) := hA
  have HT : Hid (∀ i, i < ts.length → (ts.getD i noNod).name.size ≤ maxLen ∧ (ts.getD i noNod).other.size ≤ maxLen) := hst
  have HN : Hid (nodesB ts = (decide (1 ≤ ts.length ∧ ts.length ≤ 150) && (match startsF ts ts.length with | some st => st.getD (ts.length - 1) 0 == 0 | none => false))) := rfl
  clear hA hst
  by_cases hk : 1 ≤ ts.length ∧ ts.length ≤ 150
  · have HV : Hid (nodesB ts = (match startsF ts ts.length with | some st => st.getD (ts.length - 1) 0 == 0 | none => false)) := by
      show nodesB ts = _
      rw [HN.out, decide_eq_true hk, Bool.true_and]
    obtain ⟨hk1, hk2⟩ := hk
    have e1 : ¬ (ts.length : Int) < 1 := by omega
    have e2 : ¬ (150 : Int) < ts.length := by omega
    obtain ⟨i0, hi0, hz0, hz1, hz2⟩ := info_parts info_tree
    obtain ⟨M, hM⟩ : ∃ M, M = madeCells (Value.nilIface).cells (((ts.length : Nat) : Int).toNat * i0.size) := ⟨_, rfl⟩
    have HMS : Hid (M.size = ts.length * 1) := by
      show M.size = ts.length * 1
      rw [hM, size_madeCells, hz1]
      simp
    have hmk : ∀ W : World, (Instr.makeSlice 80 (.int .i64 0) (.int .i64 (ts.length : Int))).run Tryz.prog W = .ok (.slice (some ⟨W.heap.size, 0, none⟩) 0 ts.length) (W.alloc (.cells M 115)) := fun W => by
      have h := run_make (P := Tryz.prog) W 80 115 i0 .nilIface Tryz.underlying80 hi0 hz0 .i64 .i64 0 (ts.length : Int) (by omega) (by omega) (by rw [hz2]; omega) (by omega)
      rw [← hM] at h
      simpa using h
    have HI0 : Hid (Tryz.prog.info? 115 = some i0 ∧ i0.zero = some .nilIface ∧ i0.size = 1 ∧ i0.bytes = 16) := ⟨hi0, hz0, hz1, hz2⟩
    clear hM hi0 hz0 hz1 hz2 HN
    have HO0 : Hid (ownTr (w.alloc (.cells M 115)) w.heap.size (.slice (some ⟨w.heap.size, 0, none⟩) 0 ts.length) []) :=
      World.ownsRow_made w M ts.length (Nat.le_refl _) (by unfold maxLen; omega) HMS.out
    go_enter Tryz.func35, Tryz.ntmps35
    go_wp2
    go_loopg [4, 22] ts.length (fun gg out i wr => TrAt ts w gg out i wr)
    case atStart => exact ⟨0, [], [], rfl, by omega, rfl, ⟨rfl, rfl, fun j hj => by omega, fun j hj => by omega, fun j hj => by omega⟩, HO0.out, (Below.refl _ w).alloc (Nat.le_refl _) _⟩
    case round =>
      obtain ⟨i, st, vs, rfl, hig, hS, hG, hown, hbel⟩ := hrel
      have HS : Hid (startsF ts i = some st) := hS
      have HG : Hid (TreesG ts st vs i) := hG
      have HO : Hid (ownTr wr w.heap.size u4 vs) := hown
      have hlv := hG.lv
      have hsz := hbel.size
      clear hS hown hG HO0 hmk
      by_cases hin : i < ts.length
      · have e1 : (i : Int) < ts.length := by omega
        obtain rfl := hne (by omega)
        have hlt : g < w.heap.size := HA.out.lt (by omega)
        have t := (HA.out.below hbel (fun _ => hlt)) i hin
        have hsm := HT.out i hin
        have HN : Hid (startsF ts (i + 1) = (startsF ts i).bind fun st => (stepS (ts.getD i noNod) i st).map fun a => st ++ [a]) := rfl
        obtain ⟨⟨x0, x1, x2, x3, x4, x5, x6⟩, hx⟩ : ∃ y, ts.getD i noNod = y := ⟨_, rfl⟩
        have HX : Hid (ts.getD i noNod = ⟨x0, x1, x2, x3, x4, x5, x6⟩) := hx
        rw [hx] at t hsm HN
        simp only at hsm
        have HSM : Hid (x5.size ≤ maxLen ∧ x6.size ≤ maxLen) := hsm
        have q0 : wr.cell? ⟨g, i * 7, none⟩ = some (.int .i64 x0) := t.c0
        have q1 : wr.cell? ⟨g, i * 7 + 1, none⟩ = some (.int .i64 x1) := t.c1
        have q2 : wr.cell? ⟨g, i * 7 + 2, none⟩ = some (.int .i64 x2) := t.c2
        have q3 : wr.cell? ⟨g, i * 7 + 3, none⟩ = some (.int .i64 x3) := t.c3
        have q4 : wr.cell? ⟨g, i * 7 + 4, none⟩ = some (.int .i64 x4) := t.c4
        have q5 : wr.cell? ⟨g, i * 7 + 5, none⟩ = some (.string x5) := t.c5
        have q6 : wr.cell? ⟨g, i * 7 + 6, none⟩ = some (.string x6) := t.c6
        obtain ⟨wa, hwa⟩ : ∃ wa, wr.alloc (.cells #[.int .i64 x0, .int .i64 x1, .int .i64 x2, .int .i64 x3, .int .i64 x4, .string x5, .string x6] 58) = wa := ⟨_, rfl⟩
        have HWA : Hid (wr.alloc (.cells #[.int .i64 x0, .int .i64 x1, .int .i64 x2, .int .i64 x3, .int .i64 x4, .string x5, .string x6] 58) = wa) := hwa
        have Ra : Hid (wa.heap[wr.heap.size]? = some (.cells #[.int .i64 x0, .int .i64 x1, .int .i64 x2, .int .i64 x3, .int .i64 x4, .string x5, .string x6] 58 (0, 0))) := by rw [← hwa]; exact (MapKept.heap_alloc wr _).1
        have Sa : Hid (wa.heap.size = wr.heap.size + 1) := by
          show wa.heap.size = wr.heap.size + 1
          rw [← hwa]; simp
        have Ba : Hid (Below w.heap.size w wa) := by rw [← hwa]; exact hbel.alloc (by omega) _
        have Oa : Hid (ownTr wa w.heap.size u4 vs) := by rw [← hwa]; exact HO.out.alloc _
        clear t hx hsm hwa
        go_wp2_with fail
        rw [HWA.out]
        refine (impl_fields x0 x1 x2 x3 x4 x5 x6 HSM.out.1 HSM.out.2 wa).mono ?_
        rintro e w1 ⟨rfl, hb1⟩
        have hs1 := hb1.size
        rw [Sa.out] at hs1
        have R1 := (hb1.block wr.heap.size (by rw [Sa.out]; omega)).trans Ra.out
        have HR1 : Hid (w1.heap[wr.heap.size]? = some (.cells #[.int .i64 x0, .int .i64 x1, .int .i64 x2, .int .i64 x3, .int .i64 x4, .string x5, .string x6] 58 (0, 0))) := R1
        have O1 : Hid (ownTr w1 w.heap.size u4 vs) := ownT_kept Oa.out hb1 (Nat.le_refl _)
        have B1 : Hid (Below w.heap.size w w1) := Ba.out.trans (hb1.mono (by rw [Sa.out]; omega))
        clear q0 q1 q2 q3 q4 q5 q6 hb1 Ra HWA Ba Oa HO hbel
        have HNO : Hid (∀ W : World, startsF ts (i + 1) = none → TrEnd ts w.heap.size (.returned (.tuple #[.slice none 0 0, .bool false])) W) := by
          intro W h
          refine Or.inr ⟨?_, rfl⟩
          rw [HV.out, startsF_none ts (i + 1) ts.length (by omega) h]
        by_cases hf : fieldsB ⟨x0, x1, x2, x3, x4, x5, x6⟩ = true
        · have HE : Hid (startsF ts (i + 1) = (down st (kidL ⟨x0, x1, x2, x3, x4, x5, x6⟩).reverse i).map fun a => st ++ [a]) := by
            show startsF ts (i + 1) = _
            rw [HN.out, HS.out]
            simp only [Option.bind_some, stepS, if_pos hf]
          rw [hf]
          clear hf HN
          obtain ⟨p0, p1, p2, p3, p4, p5, p6⟩ := cells7_of R1
          clear R1
          obtain ⟨a4, g4, c4, rfl, ha4, hT4, hB4, hl4⟩ := ownT_form O1.out
          have T4 : Hid (TreeAt w1 g4 vs) := hT4
          have L4 : Hid (0 < vs.length → g4 < w1.heap.size) := hl4
          have A4 : Hid (0 < vs.length → a4 = some ⟨g4, 0, none⟩) := ha4
          clear hT4 hl4 ha4
          rw [hlv] at *
          go_wp2_with fail
          refine (impl_ahead a4 g4 c4 i st vs ⟨x0, x1, x2, x3, x4, x5, x6⟩ HG.out.b (by omega) A4.out w1 T4.out).mono ?_
          rintro e w2 ⟨hend, hb2⟩
          have hs2 := hb2.size
          have B2 : Hid (Below w.heap.size w w2) := B1.out.trans (hb2.mono (by omega))
          have R2 := (hb2.block wr.heap.size (by omega)).trans HR1.out
          have O2 : Hid (ownTr w2 w.heap.size (.slice a4 i c4) vs) := ownT_kept O1.out hb2 (Nat.le_refl _)
          clear p0 p1 p2 p3 p4 p5 p6 HR1 O1 B1 T4 L4 hb2
          rcases hend with ⟨r, K, hr, rfl, hBK, hTK, hkk, hr1, hr0⟩ | ⟨hno, rfl⟩
          · have HQ : Hid (startsF ts (i + 1) = some (st ++ [r])) := by
              show startsF ts (i + 1) = _
              rw [HE.out, hr]
              rfl
            have hrr := down_range HG.out.ls HG.out.r _ _ r (by omega) (by omega) hr
            have HRR : Hid (0 ≤ r ∧ r ≤ i) := hrr
            have HKK : Hid (∀ j, j < (kidL ⟨x0, x1, x2, x3, x4, x5, x6⟩).length → 0 ≤ (kidL ⟨x0, x1, x2, x3, x4, x5, x6⟩).getD j 0 ∧ (kidL ⟨x0, x1, x2, x3, x4, x5, x6⟩).getD j 0 < i) := hkk
            have hgr := impl_grow ⟨x0, x1, x2, x3, x4, x5, x6⟩ i r K st vs HG.out.b w2 hTK hkk hr1 hr0
            have HGN : Hid (TreesG ts (st ++ [r]) (vs ++ [treeV ⟨x0, x1, x2, x3, x4, x5, x6⟩ r (kidV vs (kidL ⟨x0, x1, x2, x3, x4, x5, x6⟩))]) (i + 1)) := by
              have h := HG.out.next r (by rw [HX.out]; exact hkk) hrr
              rw [HX.out] at h
              exact h
            obtain ⟨p0, p1, p2, p3, p4, p5, p6⟩ := cells7_of R2
            obtain ⟨T, u, hTU⟩ : ∃ T u, treeV ⟨x0, x1, x2, x3, x4, x5, x6⟩ r (kidV vs (kidL ⟨x0, x1, x2, x3, x4, x5, x6⟩)) = .iface T u := ⟨_, _, rfl⟩
            rw [hTU] at hgr HGN
            have HGR : Hid (Calls Tryz.prog 69 #[.agg (nodCells ⟨x0, x1, x2, x3, x4, x5, x6⟩).toArray, .int .i64 i, .slice (some ⟨K, 0, none⟩) (kidL ⟨x0, x1, x2, x3, x4, x5, x6⟩).length (kidL ⟨x0, x1, x2, x3, x4, x5, x6⟩).length] w2 fun e w' => e = .returned (.iface T u) ∧ Below w2.heap.size w2 w') := hgr
            clear R2 hr hTK hkk hr1 hr0 HE HNO hTU hgr hrr
            generalize (kidL ⟨x0, x1, x2, x3, x4, x5, x6⟩).length = kl at *
            go_wp2_with fail
            refine HGR.out.mono ?_
            rintro e w3 ⟨rfl, hb3⟩
            have hs3 := hb3.size
            have B3 : Hid (Below w.heap.size w w3) := B2.out.trans (hb3.mono (by omega))
            have O3 : Hid (ownTr w3 w.heap.size (.slice a4 i c4) vs) := ownT_kept O2.out hb3 (Nat.le_refl _)
            have HLV : Hid (vs.length = i) := HG.out.lv
            obtain ⟨hi0, hz0, hz1, hz2⟩ := HI0.out
            clear p0 p1 p2 p3 p4 p5 p6 O2 B2 hb3 HGR HKK HRR
            go_wp2_with (at_builtin; refine wpList_append_own _ rfl _ _ 80 rfl w.heap.size 115 i0 _ 1 16 Tryz.underlying80 hi0 hz0 hz1 hz2 rfl (by decide) _ _ _ rfl (O3.out.alloc _) ⟨w3.heap.size, 0, none⟩ 1 1 [.iface T u] rfl rfl ?a1 ?a2 ?a3 ?a4 ?a5 ?_)
            case a1 =>
              intro j u hj
              match j, hj with
              | 0, hj => simp at hj; subst hj; simp [Addr.add]
            case a2 => intro u hu; simp at hu; subst hu; rfl
            case a3 => have := HLV.out; unfold maxLen; omega
            case a4 => have := HLV.out; omega
            case a5 => simp; omega
            intro v' W4 hown' hgrow _
            have HM : Hid (TrAt ts w (ts.length - (i + 1)) v' (.int .i64 ((i + 1 : Nat) : Int)) W4) :=
              ⟨i + 1, st ++ [r], vs ++ [.iface T u], rfl, by omega, HQ.out, HGN.out, ownT_next (.iface T u) hown' rfl rfl, (B3.out.alloc (by omega) _).grown hgrow (by simp; omega) (fun q hq => (O3.out.lt q hq).1)⟩
            clear hown' hgrow HQ O3 B3 hi0 hz0 hz1 hz2 HGN
            go_wp2
            go_roundg (ts.length - (i + 1))
            case rel => exact HM.out
            case measure => omega
          · have HZ : Hid (TrEnd ts w.heap.size (.returned (.tuple #[.slice none 0 0, .bool false])) w2) := HNO.out w2 (by rw [HE.out, hno]; rfl)
            clear HE HNO hno O2 R2
            go_wp2
            go_ret2
            exact ⟨HZ.out, B2.out⟩
        · have hf' : fieldsB ⟨x0, x1, x2, x3, x4, x5, x6⟩ = false := by simpa using hf
          have HZ : Hid (TrEnd ts w.heap.size (.returned (.tuple #[.slice none 0 0, .bool false])) w1) := HNO.out w1 (by
            rw [HN.out, HS.out]
            simp only [Option.bind_some, stepS, if_neg hf]
            rfl)
          rw [hf']
          clear hf hf' HN HNO R1 HR1 O1
          go_wp2
          go_ret2
          exact ⟨HZ.out, B1.out⟩
      · have e1 : (ts.length : Int) ≤ i := by omega
        obtain rfl : i = ts.length := by omega
        obtain ⟨a4, g4, c4, rfl, ha4, hT4, hB4, hl4⟩ := ownT_form HO.out
        obtain rfl := ha4 (by omega)
        have hlast : ts.length - 1 < ts.length := by omega
        obtain ⟨T, u, t0, hv, hn, hmt⟩ := HG.out.b.b (ts.length - 1) hlast
        have hcell : wr.cell? ⟨g4, ts.length - 1, none⟩ = some (.iface T u) := by
          rw [← hv]
          exact hT4 (ts.length - 1) (by omega)
        obtain ⟨R, hR⟩ : ∃ R, (spotL t0 (st.getD (ts.length - 1) 0)).toArray = R := ⟨_, rfl⟩
        have hI := impl_begin t0 (st.getD (ts.length - 1) 0)
        rw [hR] at hmt hI
        have HZ : Hid (∀ W : World, ownTr W w.heap.size (.slice (some ⟨g4, 0, none⟩) vs.length c4) vs → TrEnd ts w.heap.size (.returned (.tuple #[.slice (some ⟨g4, 0, none⟩) vs.length c4, .bool (st.getD (ts.length - 1) 0 == 0)])) W) := by
          intro W hW
          refine Or.inl ⟨st, vs, _, hk1, hk2, HS.out, HG.out, hW, ?_⟩
          rw [HV.out, HS.out]
        have HO1 : Hid (ownTr (wr.alloc (.cells R 138)) w.heap.size (.slice (some ⟨g4, 0, none⟩) vs.length c4) vs) := HO.out.alloc _
        generalize st.getD (ts.length - 1) 0 = P2 at *
        have HI : Hid (∀ w : World, Calls Tryz.prog 158 #[.agg R] w fun e w' => e = .returned (.int .i64 P2) ∧ w' = w.alloc (.cells R 138)) := hI
        have HLV : Hid (vs.length = ts.length) := hlv
        rw [hlv] at *
        have e2 : (0 : Int) ≤ (ts.length : Int) - 1 := by omega
        have e3 : (ts.length : Int) - 1 < ts.length := by omega
        clear hR hI hv hT4 hl4 ha4 HO hlv
        go_wp2_with fail
        refine (HI.out _).mono ?_
        rintro e w3 ⟨rfl, rfl⟩
        go_wp2
        go_ret2
        exact ⟨HZ.out _ HO1.out, hbel.alloc (by omega) _⟩
  · have HZ : Hid (TrEnd ts w.heap.size (.returned (.tuple #[.slice none 0 0, .bool false])) w) := by
      refine Or.inr ⟨?_, rfl⟩
      rw [HN.out, decide_eq_false hk, Bool.false_and]
    clear HN
    by_cases h1 : ts.length < 1
    · have e1 : (ts.length : Int) < 1 := by omega
      clear hk
      go_enter Tryz.func35, Tryz.ntmps35
      go_wp2
      go_ret2
      exact ⟨HZ.out, Below.refl _ _⟩
    · have e1 : ¬ (ts.length : Int) < 1 := by omega
      have e2 : (150 : Int) < ts.length := by omega
      clear hk
      go_enter Tryz.func35, Tryz.ntmps35
      go_wp2
      go_ret2
      exact ⟨HZ.out, Below.refl _ _⟩
end

section
open Go.ChangeShapes Go.WideShapes Go.ChangeAt Go.RowKit

theorem impl_nodes (a : Option Addr) (g cap : Nat) (ts : List Nod) (hne : 0 < ts.length → a = some ⟨g, 0, none⟩) (hl : ts.length ≤ 1048576)
    (hst : ∀ i, i < ts.length → (ts.getD i noNod).name.size ≤ maxLen ∧ (ts.getD i noNod).other.size ≤ maxLen) (w : World) (hA : NodAt w g ts) :
    Calls Tryz.prog 17 #[.slice a ts.length cap] w fun e w' => e = .returned (.bool (nodesB ts)) ∧ Below w.heap.size w w' := by
  have HI : Hid (Calls Tryz.prog 35 #[.slice a ts.length cap] w fun e w' => TrEnd ts w.heap.size e w' ∧ Below w.heap.size w w') := impl_trees a g cap ts hne hl hst w hA
  clear hA hst
  go_enter Tryz.func17, Tryz.ntmps17
  go_wp2_with fail
  refine HI.out.mono ?_
  rintro e w1 ⟨hend, hb1⟩
  rcases hend with ⟨st, vs, v, h1, h2, hS, hG, hown, rfl⟩ | ⟨hno, rfl⟩
  · clear hS hG hown
    go_wp2
    go_ret
    exact ⟨rfl, hb1⟩
  · have HN : Hid (nodesB ts = false) := hno
    clear hno
    go_wp2
    go_ret
    exact ⟨by rw [HN.out]; rfl, hb1⟩

/-- What a call of treeAt ends with. -/
def TaEnd (ts : List Nod) (i : Int) (e : Ending) : Prop :=
  (∃ (st : List Int) (vs : List Value) (m : Nat), i = m ∧ m < ts.length ∧ ts.length ≤ 150 ∧ nodesB ts = true ∧ startsF ts ts.length = some st ∧ TreesG ts st vs ts.length ∧ e = .returned (.tuple #[vs.getD m .nilIface, .bool true])) ∨
  (startB ts i = -1 ∧ e = .returned (.tuple #[.nilIface, .bool false]))

theorem startB_no {ts : List Nod} {i : Int} (h : nodesB ts = false ∨ i < 0 ∨ (ts.length : Int) ≤ i) : startB ts i = -1 := by
  unfold startB
  rw [if_neg]
  rintro ⟨h1, h2, h3⟩
  rcases h with h | h | h
  · rw [h1] at h; cases h
  · omega
  · omega

theorem startB_yes {ts : List Nod} {m : Nat} {st : List Int} (hn : nodesB ts = true) (hm : m < ts.length) (hS : startsF ts ts.length = some st) : startB ts m = st.getD m 0 := by
  unfold startB
  rw [if_pos ⟨hn, by omega, by omega⟩, hS]
  rfl
end

section
open Go.ChangeShapes Go.WideShapes Go.ChangeAt Go.RowKit

theorem textN_pos {ts : List Nod} {st : List Nat} (hR : Right ts st) : ∀ (f i : Nat), i < f → i < ts.length → textN ts f i ≠ []
  | 0, i, h, _ => absurd h (by omega)
  | f + 1, i, h, hi => by
    obtain ⟨hF, _⟩ := hR.2 i hi
    show nodeT (textN ts f) (ts.getD i noNod) ≠ []
    unfold nodeT
    by_cases h1 : (ts.getD i noNod).kind = 1
    · rw [if_pos h1]
      have hn := hF.2.2.1.2.1 (by rw [h1]; decide)
      have hw := of_decide_eq_true (Bool.and_eq_true_iff.1 hn).1
      intro e
      have : (ts.getD i noNod).name.data.toList.length = (ts.getD i noNod).name.size := by rw [Array.length_toList]; rfl
      rw [e, List.length_nil] at this
      omega
    by_cases h2 : (ts.getD i noNod).kind = 2
    · rw [if_neg h1, if_pos h2]
      have hn := hF.2.2.2.1 h2
      obtain ⟨u, hu⟩ : ∃ u : Nat, (ts.getD i noNod).n = u := ⟨(ts.getD i noNod).n.toNat, by omega⟩
      rw [hu, itoa_pos]
      intro e
      have := dd_pos u
      rw [e] at this
      simp at this
    by_cases h12 : (ts.getD i noNod).kind = 12
    · rw [if_neg h1, if_neg h2, if_pos h12]
      simp
    rw [if_neg h1, if_neg h2, if_neg h12]
    simp [formT]

theorem pr_start (w : World) (nv : Value) : PrS w.heap.size w.heap.size [] false nv (w.alloc (.cells #[.pointer none, .slice none 0 0, .bool false, nv] 46)) :=
  Or.inl ⟨Nat.le_refl _, _, (MapKept.heap_alloc w _).1, World.ownsRowF_nil _ _ _ _⟩

set_option maxRecDepth 20000 in
theorem impl_print (a : Option Addr) (g cap : Nat) (ts : List Nod) (hne : 0 < ts.length → a = some ⟨g, 0, none⟩) (hl : ts.length ≤ 1048576)
    (hst : ∀ i, i < ts.length → (ts.getD i noNod).name.size ≤ maxLen ∧ (ts.getD i noNod).other.size ≤ maxLen) (w : World) (hp : PowIs w) (hA : NodAt w g ts) :
    Calls Tryz.prog 6 #[.slice a ts.length cap] w fun e w' => e = .returned (.string (printB ts)) ∧ Below w.heap.size w w' := by
  have HA : Hid (NodAt w g ts) := hA
  have HW : Hid (PowIs w) := hp
  have HC : Hid (Calls Tryz.prog 17 #[.slice a ts.length cap] w fun e w' => e = .returned (.bool (nodesB ts)) ∧ Below w.heap.size w w') := impl_nodes a g cap ts hne hl hst w hA
  have hgp : 2 < w.heap.size := var_lt gPow hp
  clear hA hst hp
  cases hn : nodesB ts
  · have HN : Hid (printB ts = ⟨#[]⟩) := by
      show printB ts = _
      unfold printB
      rw [hn]
      rfl
    rw [hn] at HC
    clear hn
    go_enter Tryz.func6, Tryz.ntmps6
    go_wp2_with fail
    refine Calls.mono HC.out ?_
    rintro e w1 ⟨rfl, b1⟩
    go_wp2
    go_ret
    exact ⟨by rw [HN.out]; rfl, b1⟩
  · obtain ⟨l1, l2, st, hR⟩ := nodesB_right hn
    have HN : Hid (printB ts = ⟨(textN ts ts.length (ts.length - 1)).toArray⟩) := by
      show printB ts = _
      unfold printB
      rw [hn]
      rfl
    obtain rfl := hne (by omega)
    have HS : Hid (NodeAt ts g cap ts.length (ts.length - 1)) := pr_node hR g cap ts.length (ts.length - 1) (by omega) (by omega)
    have hlen := textN_len hR ts.length (ts.length - 1) (by omega) (by omega)
    have HP0 : Hid (textN ts ts.length (ts.length - 1) ≠ []) := textN_pos hR ts.length (ts.length - 1) (by omega) (by omega)
    rw [hn] at HC
    have hcast : ((ts.length - 1 : Nat) : Int) = (ts.length : Int) - 1 := by omega
    have hgl := HA.out.lt (by omega)
    clear hn hR
    go_enter Tryz.func6, Tryz.ntmps6
    go_wp2_with fail
    refine Calls.mono HC.out ?_
    rintro e w1 ⟨rfl, b1⟩
    have s1 := b1.size
    obtain ⟨wa, hwa⟩ : ∃ wa, w1.alloc (.cells #[.pointer none, .slice none 0 0, .bool false, .slice (some ⟨g, 0, none⟩) ts.length cap] 46) = wa := ⟨_, rfl⟩
    have HWA : Hid (w1.alloc (.cells #[.pointer none, .slice none 0 0, .bool false, .slice (some ⟨g, 0, none⟩) ts.length cap] 46) = wa) := hwa
    have hPS : PrS w1.heap.size w1.heap.size [] false (.slice (some ⟨g, 0, none⟩) ts.length cap) wa := by rw [← hwa]; exact pr_start w1 _
    have hBA : Below w1.heap.size w1 wa := by rw [← hwa]; exact (Below.refl _ w1).alloc (Nat.le_refl _) _
    have sa : wa.heap.size = w1.heap.size + 1 := by rw [← hwa]; simp
    have BA : Hid (Below w1.heap.size w1 wa) := hBA
    have bA : Below w.heap.size w wa := b1.trans (hBA.mono s1)
    have hS := HS.out w1.heap.size w1.heap.size [] false wa (var?_below bA gPow hgp HW.out) (HA.out.below bA (fun _ => hgl)) (by omega) (by omega) (by omega) hPS (by show 0 + 0 + _ + 100 ≤ _; omega)
    rw [hcast] at hS
    have HS2 : Hid (Calls Tryz.prog 18 #[.pointer (some ⟨w1.heap.size, 0, none⟩), .int .i64 ((ts.length : Int) - 1)] wa _) := hS
    have B1 : Hid (Below w.heap.size w w1) := b1
    clear hS hcast hPS hwa b1 hBA bA HC
    go_wp2_with fail
    rw [HWA.out]
    refine Calls.mono HS2.out ?_
    rintro e w2 ⟨rfl, h2, f2⟩
    have h3 : PrS w1.heap.size w1.heap.size (textN ts ts.length (ts.length - 1)) true (.slice (some ⟨g, 0, none⟩) ts.length cap) w2 := h2
    have HT : Hid (Calls Tryz.prog 19 #[.pointer (some ⟨w1.heap.size, 0, none⟩)] w2 _) := wr_string w1.heap.size w1.heap.size _ true _ w2 h3 HP0.out
    have F2 : Hid (Below w1.heap.size w1 w2) := BA.out.trans f2.bel
    clear h2 f2 h3 HS2
    go_wp2_with fail
    refine Calls.mono HT.out ?_
    rintro e w3 ⟨rfl, b3⟩
    have B3 : Hid (Below w.heap.size w w3) := B1.out.trans ((F2.out.trans b3).mono s1)
    clear b3 HT
    go_wp2
    go_ret
    exact ⟨by rw [HN.out]; rfl, B3.out⟩
end
end Go.Proofs.YtobijbhgpgnfkaaGreatDoor
