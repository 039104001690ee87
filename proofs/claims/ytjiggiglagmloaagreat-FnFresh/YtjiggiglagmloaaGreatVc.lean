/-
  Several texts in one, in their order: each is told at its own place by its theorems. Conditions: written at each theorem.
-/
import Derived.Test.YtjiggiglagmloaaGreatVa
import Derived.Test.YtjiggiglagmloaaGreatVb
import Derived.Test.YtjiggiglagmloaaGreatSt
import Derived.Test.YtjiggiglagmloaaGreatShelf
import Derived.Maps.OwnSet
import Derived.Maps.Ext
import Derived.Lib.QuietBelow
import Derived.Test.YtjiggiglagmloaaGreatNk
import Derived.Deep.QuietTactic
import Derived.BigQuiet
import Derived.Laws.StructEq
namespace Go.Proofs.YtjiggiglagmloaaGreat
set_option linter.unusedVariables false

section
open Go.ChangeShapes Go.WideShapes Go.ChangeAt Go.RowKit

def frN (k : Nat) : List UInt8 := if k ≤ 9999 then 122 :: 113 :: frL k else []

theorem frT_frN (k : Nat) : frT k = ⟨(frN k).toArray⟩ := by
  unfold frT frN
  by_cases h : k ≤ 9999
  · rw [if_pos ⟨by omega, by omega⟩, if_pos h]
    rfl
  · rw [if_neg (by omega), if_neg h]

theorem frC_nat {d : Nat} (h : d < 26) : (frC d).toNat = 97 + d := by
  rw [frC, UInt8.toNat_ofNat']
  omega

def frV (l : List UInt8) : Nat := l.foldl (fun v c => v * 26 + (c.toNat - 97)) 0

theorem frV_frL {n : Nat} (h : n < 17576) : frV (frL n) = n := by
  unfold frL
  by_cases h1 : n < 26
  · rw [if_pos h1]
    simp [frV, frC_nat h1]
  · by_cases h2 : n < 676
    · rw [if_neg h1, if_pos h2]
      simp [frV, frC_nat (show n / 26 < 26 by omega), frC_nat (show n % 26 < 26 by omega)]
      omega
    · rw [if_neg h1, if_neg h2]
      simp [frV, frC_nat (show n / 676 < 26 by omega), frC_nat (show n / 26 % 26 < 26 by omega), frC_nat (show n % 26 < 26 by omega)]
      omega

theorem frN_inj {i j : Nat} (hi : i ≤ 9999) (hj : j ≤ 9999) (h : frN i = frN j) : i = j := by
  unfold frN at h
  rw [if_pos hi, if_pos hj] at h
  have h1 : frL i = frL j := by injection h with _ h; injection h
  rw [← frV_frL (show i < 17576 by omega), ← frV_frL (show j < 17576 by omega), h1]

theorem frN_length (k : Nat) : (frN k).length ≤ 5 := by
  unfold frN
  have := (frL_length k).2
  split
  · simp only [List.length_cons]; omega
  · simp

def isF (fr : List (List UInt8)) (k : Nat) : Bool := decide (frN k ∈ fr)

/-- The new names among the first k that are not free. -/
def fkL (fr : List (List UInt8)) : Nat → List (List UInt8)
  | 0 => []
  | k + 1 => fkL fr k ++ (if isF fr k = true then [] else [frN k])

/-- Those that are. -/
def fkT (fr : List (List UInt8)) : Nat → List (List UInt8)
  | 0 => []
  | k + 1 => fkT fr k ++ (if isF fr k = true then [frN k] else [])

theorem fkL_skip {fr : List (List UInt8)} {k : Nat} (h : isF fr k = true) : fkL fr (k + 1) = fkL fr k := by rw [fkL, if_pos h, List.append_nil]
theorem fkL_take {fr : List (List UInt8)} {k : Nat} (h : isF fr k = false) : fkL fr (k + 1) = fkL fr k ++ [frN k] := by rw [fkL, if_neg (by rw [h]; simp)]

theorem fkL_pre (fr : List (List UInt8)) (k : Nat) : ∀ d, ∃ r, fkL fr (k + d) = fkL fr k ++ r
  | 0 => ⟨[], by simp⟩
  | d + 1 => by
    obtain ⟨r, h⟩ := fkL_pre fr k d
    refine ⟨r ++ (if isF fr (k + d) = true then [] else [frN (k + d)]), ?_⟩
    rw [← Nat.add_assoc, fkL, h, List.append_assoc]

theorem fkT_len (fr : List (List UInt8)) : ∀ k, (fkL fr k).length + (fkT fr k).length = k
  | 0 => rfl
  | k + 1 => by
    have := fkT_len fr k
    rw [fkL, fkT, List.length_append, List.length_append]
    split <;> simp <;> omega

theorem fkT_mem (fr : List (List UInt8)) (x : List UInt8) : ∀ k, x ∈ fkT fr k → x ∈ fr ∧ ∃ j, j < k ∧ x = frN j
  | 0, h => by simp [fkT] at h
  | k + 1, h => by
    rw [fkT, List.mem_append] at h
    rcases h with h | h
    · obtain ⟨h1, j, hj, e⟩ := fkT_mem fr x k h
      exact ⟨h1, j, by omega, e⟩
    · split at h
      · rename_i hc
        rw [List.mem_singleton] at h
        subst h
        exact ⟨of_decide_eq_true hc, k, by omega, rfl⟩
      · simp at h

theorem fkT_nodup (fr : List (List UInt8)) : ∀ k, k ≤ 10000 → (fkT fr k).Nodup
  | 0, _ => by simp [fkT]
  | k + 1, h => by
    have ih := fkT_nodup fr k (by omega)
    rw [fkT]
    split
    · refine List.nodup_append.2 ⟨ih, by simp, fun a ha b hb e => ?_⟩
      rw [List.mem_singleton] at hb
      subst e
      obtain ⟨_, j, hj, e2⟩ := fkT_mem fr a k ha
      rw [hb] at e2
      have := frN_inj (by omega) (by omega) e2
      omega
    · rw [List.append_nil]; exact ih

theorem nodup_le : ∀ (l m : List (List UInt8)), l.Nodup → (∀ x ∈ l, x ∈ m) → l.length ≤ m.length
  | [], m, _, _ => by simp
  | x :: l, m, h, hm => by
    obtain ⟨h1, h2⟩ := List.nodup_cons.1 h
    have hx := hm x List.mem_cons_self
    have ih := nodup_le l (m.erase x) h2 (fun y hy => (List.mem_erase_of_ne (fun e => h1 (by rw [← e]; exact hy))).2 (hm y (List.mem_cons_of_mem _ hy)))
    rw [List.length_erase_of_mem hx] at ih
    have := List.length_pos_of_mem hx
    simp only [List.length_cons]
    omega

theorem fk_count {fr : List (List UInt8)} {k : Nat} (h : k ≤ 10000) : k ≤ (fkL fr k).length + fr.length := by
  have h1 := fkT_len fr k
  have h2 := nodup_le (fkT fr k) fr (fkT_nodup fr k h) (fun x hx => (fkT_mem fr x k hx).1)
  omega

theorem fkL_mem (fr : List (List UInt8)) (x : List UInt8) : ∀ k, x ∈ fkL fr k → x ∉ fr ∧ ∃ j, j < k ∧ x = frN j
  | 0, h => by simp [fkL] at h
  | k + 1, h => by
    rw [fkL, List.mem_append] at h
    rcases h with h | h
    · obtain ⟨h1, j, hj, e⟩ := fkL_mem fr x k h
      exact ⟨h1, j, by omega, e⟩
    · split at h
      · simp at h
      · rename_i hc
        rw [List.mem_singleton] at h
        subst h
        exact ⟨fun hm => hc (decide_eq_true hm), k, by omega, rfl⟩

/-- As many new names as are wanted. -/
def nwL (fr : List (List UInt8)) (n : Nat) : List (List UInt8) := (fkL fr (n + fr.length)).take n

theorem nw_length {fr : List (List UInt8)} {n : Nat} (h : n + fr.length ≤ 10000) : (nwL fr n).length = n := by
  have := fk_count (fr := fr) h
  rw [nwL, List.length_take]
  omega

theorem nw_at {fr : List (List UInt8)} {n i k : Nat} (h : (fkL fr k).length = i) (hk : k < 10000) (hf : isF fr k = false) (hi : i < n) (hn : n + fr.length ≤ 10000) : (nwL fr n).getD i [] = frN k := by
  have h1 := fk_count (fr := fr) (show k + 1 ≤ 10000 by omega)
  have h2 := fkL_take hf
  rw [h2] at h1
  simp only [List.length_append, List.length_singleton] at h1
  obtain ⟨r, hr⟩ := fkL_pre fr (k + 1) (n + fr.length - (k + 1))
  rw [show k + 1 + (n + fr.length - (k + 1)) = n + fr.length by omega, h2] at hr
  rw [nwL, hr, List.append_assoc]
  simp only [List.getD]
  rw [List.getElem?_take_of_lt hi, List.getElem?_append_right (by omega), h, Nat.sub_self]
  rfl

theorem nw_end {fr : List (List UInt8)} {n k : Nat} (h : (fkL fr k).length = n) (hk : k ≤ 10000) : fkL fr k = nwL fr n := by
  have h1 := fk_count (fr := fr) hk
  obtain ⟨r, hr⟩ := fkL_pre fr k (n + fr.length - k)
  rw [show k + (n + fr.length - k) = n + fr.length by omega] at hr
  rw [nwL, hr, List.take_append_of_le_length (by omega), List.take_of_length_le (by omega)]

theorem nw_mem {fr : List (List UInt8)} {n : Nat} {x : List UInt8} (h : x ∈ nwL fr n) : x ∉ fr ∧ ∃ j, j < n + fr.length ∧ x = frN j := fkL_mem fr x _ (List.mem_of_mem_take h)

/-- What the first k binders are to be named. -/
def sgF (bl : List Bnd) (nms : List (List UInt8)) : Nat → Int → Int → Option (List UInt8)
  | 0, _, _ => none
  | k + 1, n, r => if sameB (bl.getD k noBnd) n r = true then some (nms.getD k []) else sgF bl nms k n r

theorem sameB_iff (x : Bnd) (n r : Int) : sameB x n r = true ↔ x = ⟨n, r⟩ := by
  obtain ⟨a, b⟩ := x
  simp [sameB]

theorem sg_none (bl : List Bnd) (nms : List (List UInt8)) (n r : Int) : ∀ k, (∀ j, j < k → bl.getD j noBnd ≠ ⟨n, r⟩) → sgF bl nms k n r = none
  | 0, _ => rfl
  | k + 1, h => by
    rw [sgF, if_neg (fun e => h k (by omega) ((sameB_iff _ _ _).1 e)), sg_none bl nms n r k (fun j hj => h j (by omega))]

theorem sg_at {bl : List Bnd} (hd : bl.Nodup) (nms : List (List UInt8)) (i : Nat) (hi : i < bl.length) : ∀ k, i < k → k ≤ bl.length → sgF bl nms k (bl.getD i noBnd).node (bl.getD i noBnd).role = some (nms.getD i [])
  | 0, h, _ => by omega
  | k + 1, h, hk => by
    rw [sgF]
    by_cases e : i = k
    · subst e
      rw [if_pos ((sameB_iff _ _ _).2 rfl)]
    · rw [if_neg, sg_at hd nms i hi k (by omega) (by omega)]
      intro e2
      have e3 : bl.getD k noBnd = bl.getD i noBnd := (sameB_iff _ _ _).1 e2
      simp only [List.getD, List.getElem?_eq_getElem hi, List.getElem?_eq_getElem (show k < bl.length by omega), Option.getD_some] at e3
      exact List.pairwise_iff_getElem.1 hd i k hi (by omega) (by omega) e3.symm

theorem site_nodup (ts : List Nod) : ∀ n, (siteF ts n).Nodup
  | 0 => by simp [siteF]
  | n + 1 => by
    have hL : ∀ m, (siteL n m).Nodup := fun m => by
      induction m with
      | zero => simp [siteL]
      | succ m ih =>
        rw [siteL]
        refine List.nodup_append.2 ⟨ih, by simp, fun a ha b hb e => ?_⟩
        rw [List.mem_singleton] at hb
        obtain ⟨r, e2, hr⟩ := siteL_from n m a ha
        rw [e2, hb] at e
        injection e with _ e
        omega
    rw [siteF]
    refine List.nodup_append.2 ⟨site_nodup ts n, hL _, fun a ha b hb e => ?_⟩
    obtain ⟨p, r, e2, hp, _⟩ := siteF_from ts n a ha
    obtain ⟨r', e3, _⟩ := siteL_from n _ b hb
    rw [e2, e3] at e
    injection e with e _
    omega

def nmO (o : Option (List UInt8)) (s : ByteArray) : ByteArray := match o with
  | some x => ⟨x.toArray⟩
  | none => s

/-- A node with other names. -/
def renN (ts : List Nod) (sg : Int → Int → Option (List UInt8)) (j : Nat) : Nod :=
  { ts.getD j noNod with
    name := if (ts.getD j noNod).kind = 1 then nmO (sg (binN ts j).node (binN ts j).role) (ts.getD j noNod).name else nmO (sg j 0) (ts.getD j noNod).name,
    other := if (ts.getD j noNod).kind = 1 then (ts.getD j noNod).other else nmO (sg j 1) (ts.getD j noNod).other }

def renL (ts : List Nod) (sg : Int → Int → Option (List UInt8)) : List Nod := (List.range ts.length).map (renN ts sg)

theorem renL_length (ts : List Nod) (sg : Int → Int → Option (List UInt8)) : (renL ts sg).length = ts.length := by simp [renL]
theorem renL_at (ts : List Nod) (sg : Int → Int → Option (List UInt8)) {j : Nat} (h : j < ts.length) : (renL ts sg).getD j noNod = renN ts sg j := by simp [renL, List.getD, List.getElem?_range h]

theorem nod_list_ext {a b : List Nod} (hl : a.length = b.length) (h : ∀ j, j < a.length → a.getD j noNod = b.getD j noNod) : a = b := by
  refine List.ext_getElem hl fun j h1 h2 => ?_
  have := h j h1
  simpa [List.getD, h1, h2] using this

theorem renN_none (ts : List Nod) (j : Nat) : renN ts (fun _ _ => none) j = ts.getD j noNod := by
  unfold renN nmO
  simp

theorem renL_none (ts : List Nod) : renL ts (fun _ _ => none) = ts := nod_list_ext (renL_length _ _) fun j hj => by
  rw [renL_length] at hj
  rw [renL_at _ _ hj, renN_none]

/-- One name of one node is another one. -/
def putN (l : List Nod) (j : Nat) (r : Int) (s : ByteArray) : List Nod := l.set j (if r = 0 then { l.getD j noNod with name := s } else { l.getD j noNod with other := s })

theorem putN_length (l : List Nod) (j : Nat) (r : Int) (s : ByteArray) : (putN l j r s).length = l.length := by simp [putN]
theorem putN_hit {l : List Nod} {j : Nat} (h : j < l.length) (r : Int) (s : ByteArray) : (putN l j r s).getD j noNod = if r = 0 then { l.getD j noNod with name := s } else { l.getD j noNod with other := s } := by
  simp [putN, List.getD, h]
theorem putN_miss {l : List Nod} {i j : Nat} (h : i ≠ j) (r : Int) (s : ByteArray) : (putN l j r s).getD i noNod = l.getD i noNod := by
  simp only [putN, List.getD]
  rw [List.getElem?_set_ne (Ne.symm h)]

/-- So are those of the first k uses. -/
def putU (l : List Nod) (us : List Int) (s : ByteArray) : Nat → List Nod
  | 0 => l
  | k + 1 => putN (putU l us s k) (us.getD k 0).toNat 0 s

theorem putU_length (l : List Nod) (us : List Int) (s : ByteArray) : ∀ k, (putU l us s k).length = l.length
  | 0 => rfl
  | k + 1 => by rw [putU, putN_length, putU_length l us s k]

theorem putU_miss (l : List Nod) (us : List Int) (s : ByteArray) (i : Nat) : ∀ k, (∀ m, m < k → (us.getD m 0).toNat ≠ i) → (putU l us s k).getD i noNod = l.getD i noNod
  | 0, _ => rfl
  | k + 1, h => by rw [putU, putN_miss (Ne.symm (h k (by omega))), putU_miss l us s i k (fun m hm => h m (by omega))]

theorem putU_hit (l : List Nod) (us : List Int) (s : ByteArray) (i : Nat) (hi : i < l.length) : ∀ k m, m < k → (us.getD m 0).toNat = i → (putU l us s k).getD i noNod = { l.getD i noNod with name := s }
  | 0, m, h, _ => by omega
  | k + 1, m, h, e => by
    rw [putU]
    by_cases e2 : (us.getD k 0).toNat = i
    · rw [e2, putN_hit (by rw [putU_length]; exact hi), if_pos rfl]
      by_cases h3 : ∃ m', m' < k ∧ (us.getD m' 0).toNat = i
      · obtain ⟨m', h4, h5⟩ := h3
        rw [putU_hit l us s i hi k m' h4 h5]
      · rw [putU_miss l us s i k (fun m' h4 h5 => h3 ⟨m', h4, h5⟩)]
    · have : m ≠ k := fun e3 => e2 (by rw [← e3]; exact e)
      rw [putN_miss (fun e3 => e2 e3.symm), putU_hit l us s i hi k m (by omega) e]

theorem useF_mem (ts : List Nod) (n r : Int) (x : Int) : ∀ k, x ∈ useF ts n r k ↔ ∃ j : Nat, j < k ∧ x = j ∧ sameB (binN ts j) n r = true
  | 0 => by simp [useF]
  | k + 1 => by
    rw [useF, List.mem_append, useF_mem ts n r x k]
    constructor
    · rintro (⟨j, h1, h2, h3⟩ | h)
      · exact ⟨j, by omega, h2, h3⟩
      · split at h
        · rename_i hc
          rw [List.mem_singleton] at h
          exact ⟨k, by omega, h, hc⟩
        · simp at h
    · rintro ⟨j, h1, h2, h3⟩
      by_cases e : j = k
      · subst e
        rw [if_pos h3]
        exact Or.inr (by rw [h2]; simp)
      · exact Or.inl ⟨j, by omega, h2, h3⟩

/-- One name more is given. -/
def upS (p r : Int) (s : List UInt8) (sg : Int → Int → Option (List UInt8)) : Int → Int → Option (List UInt8) := fun n r' => if sameB ⟨p, r⟩ n r' = true then some s else sg n r'

theorem sg_up (bl : List Bnd) (nms : List (List UInt8)) (k : Nat) : sgF bl nms (k + 1) = upS (bl.getD k noBnd).node (bl.getD k noBnd).role (nms.getD k []) (sgF bl nms k) := rfl

theorem rolK_one : rolK 1 = 0 := by unfold rolK; rw [if_pos rfl]

theorem ren_step {ts : List Nod} (h : nodesB ts = true) (sg : Int → Int → Option (List UInt8)) (p r : Nat) (hp : p < ts.length) (hr : r < rolK (ts.getD p noNod).kind) (s : List UInt8) :
    putU (putN (renL ts sg) p r ⟨s.toArray⟩) (usesB ts p r) ⟨s.toArray⟩ (usesB ts p r).length = renL ts (upS p r s sg) := by
  have hU : usesB ts p r = useF ts p r ts.length := by rw [usesB, if_pos ⟨h, by omega⟩]
  have hpk : (ts.getD p noNod).kind ≠ 1 := fun e => by rw [e, rolK_one] at hr; omega
  have hr2 := rolK_le (ts.getD p noNod).kind
  refine nod_list_ext (by rw [putU_length, putN_length, renL_length, renL_length]) fun j hj => ?_
  rw [putU_length, putN_length, renL_length] at hj
  rw [renL_at _ _ hj]
  have hpl : p < (renL ts sg).length := by rw [renL_length]; exact hp
  by_cases hk : (ts.getD j noNod).kind = 1
  · have hjp : j ≠ p := fun e => hpk (by rw [← e]; exact hk)
    by_cases hs : sameB (binN ts j) p r = true
    · have hm : (j : Int) ∈ usesB ts p r := by rw [hU, useF_mem]; exact ⟨j, hj, rfl, hs⟩
      obtain ⟨m, hm1, hm2⟩ := List.getElem_of_mem hm
      rw [putU_hit _ _ _ j (by rw [putN_length, renL_length]; exact hj) _ m hm1 (by simp [List.getD, hm1, hm2]), putN_miss hjp, renL_at _ _ hj]
      have e : upS p r s sg (binN ts j).node (binN ts j).role = some s := by
        rw [upS, if_pos]
        rw [(sameB_iff _ _ _).1 hs]
        exact (sameB_iff _ _ _).2 rfl
      unfold renN
      rw [if_pos hk, if_pos hk, if_pos hk, if_pos hk, e]
      rfl
    · have hnm : ∀ m, m < (usesB ts p r).length → ((usesB ts p r).getD m 0).toNat ≠ j := fun m hm e => by
        have hmem : (usesB ts p r).getD m 0 ∈ usesB ts p r := by simp [List.getD, hm]
        rw [hU] at hmem
        obtain ⟨j', h1, h2, h3⟩ := (useF_mem ts p r _ _).1 hmem
        rw [← hU, ] at h2
        rw [h2] at e
        have : j' = j := by omega
        subst this
        exact hs h3
      rw [putU_miss _ _ _ j _ hnm, putN_miss hjp, renL_at _ _ hj]
      have e : upS p r s sg (binN ts j).node (binN ts j).role = sg (binN ts j).node (binN ts j).role := by
        rw [upS, if_neg]
        intro e2
        apply hs
        rw [sameB_iff] at e2 ⊢
        rw [e2]
      unfold renN
      rw [if_pos hk, if_pos hk, if_pos hk, if_pos hk, e]
  · have hb : binN ts j = ⟨-1, -1⟩ := if_neg hk
    have hnm : ∀ m, m < (usesB ts p r).length → ((usesB ts p r).getD m 0).toNat ≠ j := fun m hm e => by
      have hmem : (usesB ts p r).getD m 0 ∈ usesB ts p r := by simp [List.getD, hm]
      rw [hU] at hmem
      obtain ⟨j', h1, h2, h3⟩ := (useF_mem ts p r _ _).1 hmem
      rw [← hU] at h2
      rw [h2] at e
      have : j' = j := by omega
      subst this
      rw [hb, sameB_iff] at h3
      injection h3 with h3 _
      omega
    rw [putU_miss _ _ _ j _ hnm]
    by_cases hjp : j = p
    · subst hjp
      rw [putN_hit hpl, renL_at _ _ hj]
      unfold renN
      rcases (by omega : r = 0 ∨ r = 1) with rfl | rfl
      · have e0 : upS j (0 : Nat) s sg j 0 = some s := by rw [upS, if_pos (show sameB ⟨(j : Int), ((0 : Nat) : Int)⟩ j 0 = true from (sameB_iff _ _ _).2 rfl)]
        have e1 : upS j (0 : Nat) s sg j 1 = sg j 1 := by rw [upS, if_neg (fun e => by have := (sameB_iff _ _ _).1 e; injection this with _ this; omega)]
        rw [if_neg hk, if_neg hk, if_neg hk, if_neg hk, e0, e1]
        rfl
      · have e0 : upS j (1 : Nat) s sg j 0 = sg j 0 := by rw [upS, if_neg (fun e => by have := (sameB_iff _ _ _).1 e; injection this with _ this; omega)]
        have e1 : upS j (1 : Nat) s sg j 1 = some s := by rw [upS, if_pos (show sameB ⟨(j : Int), ((1 : Nat) : Int)⟩ j 1 = true from (sameB_iff _ _ _).2 rfl)]
        rw [if_neg hk, if_neg hk, if_neg hk, if_neg hk, e0, e1]
        rfl
    · rw [putN_miss hjp, renL_at _ _ hj]
      have e0 : ∀ q, upS p r s sg j q = sg j q := fun q => by rw [upS, if_neg (fun e => by have := (sameB_iff _ _ _).1 e; injection this with this _; omega)]
      unfold renN
      rw [if_neg hk, if_neg hk, if_neg hk, if_neg hk, e0, e0]

/-- What comes of Canon. -/
def canB (ts : List Nod) : List Nod := if nodesB ts = true then renL ts (sgF (siteF ts ts.length) (nwL (freeB ts) (siteF ts ts.length).length) (siteF ts ts.length).length) else []

theorem kid_in {ts : List Nod} {st : List Nat} (h : Right ts st) {j : Nat} (hj : j < ts.length) {p : Nat} (h1 : st.getD j 0 ≤ p) (h2 : p < j) :
    ∃ c : Nat, hasI (kidL (ts.getD j noNod)) (c : Int) = true ∧ st.getD c 0 ≤ p ∧ p ≤ c ∧ c < j ∧ ∀ d : Nat, hasI (kidL (ts.getD j noNod)) (d : Int) = true → d < st.getD c 0 ∨ c ≤ d := by
  obtain ⟨hF, h0, k0, k1, k2, k3⟩ := h.2 j hj
  have hs : ∀ c, c < j → st.getD c 0 ≤ c := fun c hc => (h.2 c (by omega)).2.1
  rcases (by have := arN_le (ts.getD j noNod).kind; omega : arN (ts.getD j noNod).kind = 0 ∨ arN (ts.getD j noNod).kind = 1 ∨ arN (ts.getD j noNod).kind = 2 ∨ arN (ts.getD j noNod).kind = 3) with e | e | e | e
  · have := k0 e
    omega
  · obtain ⟨a, ha, g1, g2⟩ := k1 e
    rw [kidL_1 e, ha]
    refine ⟨a, by simp [hasI], by omega, by omega, by omega, fun d hd => ?_⟩
    simp [hasI] at hd
    omega
  · obtain ⟨a, b, ha, hb, g1, g2, g3⟩ := k2 e
    have q1 := hs b (by omega)
    have q2 := hs a (by omega)
    rw [kidL_2 e, ha, hb]
    by_cases hb' : st.getD b 0 ≤ p
    · refine ⟨b, by simp [hasI], by omega, by omega, by omega, fun d hd => ?_⟩
      simp [hasI] at hd
      omega
    · refine ⟨a, by simp [hasI], by omega, by omega, by omega, fun d hd => ?_⟩
      simp [hasI] at hd
      omega
  · obtain ⟨a, b, c, ha, hb, hc, g1, g2, g3, g4⟩ := k3 e
    have q1 := hs c (by omega)
    have q2 := hs b (by omega)
    have q3 := hs a (by omega)
    rw [kidL_3 e, ha, hb, hc]
    by_cases hc' : st.getD c 0 ≤ p
    · refine ⟨c, by simp [hasI], by omega, by omega, by omega, fun d hd => ?_⟩
      simp [hasI] at hd
      omega
    · by_cases hb' : st.getD b 0 ≤ p
      · refine ⟨b, by simp [hasI], by omega, by omega, by omega, fun d hd => ?_⟩
        simp [hasI] at hd
        omega
      · refine ⟨a, by simp [hasI], by omega, by omega, by omega, fun d hd => ?_⟩
        simp [hasI] at hd
        omega

theorem nest_c {ts : List Nod} {st : List Nat} (hR : Right ts st) : ∀ (b j : Nat), j < b → j < ts.length → ∀ q, st.getD j 0 ≤ q → q ≤ j → st.getD j 0 ≤ st.getD q 0
  | 0, j, hb, _, _, _, _ => by omega
  | b + 1, j, hb, hj, q, h1, h2 => by
    by_cases hq : q = j
    · subst hq; omega
    · obtain ⟨c, hc1, hc2, hc3, hc4, _⟩ := kid_in hR hj h1 (by omega)
      obtain ⟨c', e, _, hl⟩ := kids_low hR hj hc1
      have e' : c = c' := by omega
      subst e'
      have h3 := nest_c hR b c (by omega) (by omega) q hc2 hc3
      have h4 : st.getD j 0 ≤ st.getD c 0 := by
        obtain ⟨hF, h0, k0, k1, k2, k3⟩ := hR.2 j hj
        have hs : ∀ c, c < j → st.getD c 0 ≤ c := fun c hc => (hR.2 c (by omega)).2.1
        rcases (by have := arN_le (ts.getD j noNod).kind; omega : arN (ts.getD j noNod).kind = 0 ∨ arN (ts.getD j noNod).kind = 1 ∨ arN (ts.getD j noNod).kind = 2 ∨ arN (ts.getD j noNod).kind = 3) with e | e | e | e
        · rw [kidL_0 e] at hc1
          simp [hasI] at hc1
        · obtain ⟨a, ha, g1, g2⟩ := k1 e
          rw [kidL_1 e, ha] at hc1
          simp [hasI] at hc1
          obtain rfl : c = a := by omega
          omega
        · obtain ⟨a, b, ha, hb, g1, g2, g3⟩ := k2 e
          have q1 := hs b (by omega)
          have q2 := hs a (by omega)
          rw [kidL_2 e, ha, hb] at hc1
          simp [hasI] at hc1
          rcases hc1 with hc1 | hc1 <;> (obtain rfl := Int.ofNat.inj hc1; omega)
        · obtain ⟨a, b, d, ha, hb, hd, g1, g2, g3, g4⟩ := k3 e
          have q1 := hs d (by omega)
          have q2 := hs b (by omega)
          have q3 := hs a (by omega)
          rw [kidL_3 e, ha, hb, hd] at hc1
          simp [hasI] at hc1
          rcases hc1 with hc1 | hc1 | hc1 <;> (obtain rfl := Int.ofNat.inj hc1; omega)
      omega

theorem no_two {ts : List Nod} {st : List Nat} (hR : Right ts st) {p i c : Nat} (hpi : p < i) (hi : i < ts.length) (h1 : hasI (kidL (ts.getD p noNod)) (c : Int) = true) (h2 : hasI (kidL (ts.getD i noNod)) (c : Int) = true) : False := by
  obtain ⟨c1, e1, g1, g2⟩ := kids_low hR (show p < ts.length by omega) h1
  obtain ⟨c2, e2, g3, g4⟩ := kids_low hR hi h2
  obtain rfl : c = c1 := by omega
  obtain rfl : c = c2 := by omega
  obtain ⟨d, hd1, hd2, hd3, hd4, hd5⟩ := kid_in hR hi (p := p) (by omega) hpi
  have h5 := nest_c hR (d + 1) d (by omega) (by omega) p hd2 hd3
  rcases hd5 c h2 with h | h
  · omega
  · omega

theorem par_kid {ts : List Nod} (h : nodesB ts = true) {st : List Nat} (hR : Right ts st) {i c : Nat} (hi : i < ts.length) (hc : hasI (kidL (ts.getD i noNod)) (c : Int) = true) : parP ts c = i := by
  obtain ⟨_, _, _, hp, _⟩ := right_par h
  have h0 := parU_some ts c i hi hc ts.length (Nat.le_refl _) (by omega)
  rcases hp c with e | ⟨p, c', e, hpl, hcc, hcp, hk⟩
  · rw [parP] at e
    omega
  · rcases Nat.lt_trichotomy p i with hlt | rfl | hgt
    · exact (no_two hR hlt hi hk hc).elim
    · exact e
    · exact (no_two hR hgt hpl hc hk).elim

theorem int_mem (l : List Int) (k : Nat) (h : k < l.length) : l.getD k 0 ∈ l := by simp [List.getD, h]

/-- The scope in a kid. -/
theorem scB_kid {ts : List Nod} (h : nodesB ts = true) {st : List Nat} (hR : Right ts st) {i : Nat} (hi : i < ts.length) {k c : Nat} (hk : k < (kidL (ts.getD i noNod)).length) (hc : (kidL (ts.getD i noNod)).getD k 0 = c) (s : ByteArray) :
    scB ts c s = match lookR s (rolL (ts.getD i noNod) (rolN (ts.getD i noNod).kind k)) with
      | some r => ((i : Int), r)
      | none => scB ts i s := by
  obtain ⟨_, hl, _, hp, _⟩ := right_par h
  have hm : hasI (kidL (ts.getD i noNod)) (c : Int) = true := by
    rw [← hc]
    exact List.contains_iff_mem.2 (int_mem _ k hk)
  obtain ⟨c', ec, hci, _⟩ := kids_low hR hi hm
  have e := par_kid h hR hi hm
  have h1 : scB ts c s = scF ts s (ts.length - 1 + 1) c := by rw [scB]; congr 1; omega
  rw [h1, scF_step, e, if_neg (by omega), ← bndL_rol hR hi hk, hc]
  have e2 : ((i : Nat) : Int).toNat = i := by omega
  rw [e2]
  cases lookR s (bndL (ts.getD i noNod) c) with
  | some r => rfl
  | none => exact scB_at hp s i (ts.length - 1) (by omega)
end

section
open Go.ChangeShapes Go.WideShapes Go.ChangeAt Go.RowKit

/-- A slice of the call's own, at a place that is known, holds these nodes. -/
def OwnM (w : World) (B g n cap : Nat) (l : List Nod) : Prop := l.length = n ∧ w.ownsRow B 38 7 (.slice (some ⟨g, 0, none⟩) n cap) n (l.flatMap nodCells)

theorem OwnM.own {w : World} {B g n cap : Nat} {l : List Nod} (h : OwnM w B g n cap l) : ownNod w B (.slice (some ⟨g, 0, none⟩) n cap) l := by
  obtain ⟨rfl, h⟩ := h
  exact h

theorem OwnM.ge {w : World} {B g n cap : Nat} {l : List Nod} (h : OwnM w B g n cap l) : B ≤ g ∧ g < w.heap.size := h.2.lt g rfl

theorem OwnM.cap_le {w : World} {B g n cap : Nat} {l : List Nod} (h : OwnM w B g n cap l) : n ≤ cap := by
  rcases h.2.2 with ⟨h0, _⟩ | ⟨g', cap', cur, hv, _, _, hn, _⟩
  · simp at h0
  · simp only [Value.slice.injEq] at hv
    obtain ⟨_, _, rfl⟩ := hv
    exact hn

theorem OwnM.at {w : World} {B g n cap : Nat} {l : List Nod} (h : OwnM w B g n cap l) : NodAt w g l := by
  obtain ⟨hl, h⟩ := h
  rcases h.2 with ⟨h0, _⟩ | ⟨g', cap', cur, hv, hb, hg, hn, hm, hs, ht⟩
  · simp at h0
  · simp only [Value.slice.injEq, Option.some.injEq, Addr.mk.injEq, and_true, true_and] at hv
    obtain ⟨rfl, rfl⟩ := hv
    subst hl
    have hc : cur = (l.flatMap nodCells ++ cur.toList.drop (l.length * 7)).toArray := by
      apply Array.toList_inj.1
      rw [← ht]
      simp
    rw [hc] at hg
    exact nod_of_row hg

theorem OwnM.frozen {w : World} {B g n cap : Nat} {l : List Nod} (h : OwnM w B g n cap l) (j : Nat) : w.frozen? ⟨g, j, none⟩ = false := h.2.frozenAt j

theorem OwnM.kept {w w' : World} {B g n cap : Nat} {l : List Nod} {row : Option Nat} (h : OwnM w B g n cap l) (hg : w.grownBy w' row) (hne : some g ≠ row) : OwnM w' B g n cap l := ⟨h.1, h.2.kept hg (Or.inr hne)⟩

theorem grown_of_below {w w' : World} (h : Below w.heap.size w w') (row : Option Nat) : w.grownBy w' row := ⟨h.os, h.tape, h.output, h.size, fun k hk _ => h.block k hk⟩

theorem grown_trans {a b c : World} {row : Option Nat} (h : a.grownBy b row) (h' : b.grownBy c row) : a.grownBy c row :=
  ⟨h'.os.trans h.os, h'.tape.trans h.tape, h'.output.trans h.output, Nat.le_trans h.size h'.size, fun k hk hr => (h'.block k (Nat.lt_of_lt_of_le hk h.size) hr).trans (h.block k hk hr)⟩

theorem grown_drew (w : World) (row : Option Nat) : w.grownBy w.drew row := ⟨rfl, rfl, rfl, Nat.le_refl _, fun _ _ _ => rfl⟩

theorem OwnM.below {w w' : World} {B g n cap : Nat} {l : List Nod} (h : OwnM w B g n cap l) (hb : Below w.heap.size w w') : OwnM w' B g n cap l := h.kept (grown_of_below hb none) (by simp)

theorem flat_name (s : ByteArray) : ∀ (l : List Nod) (k : Nat), k < l.length → (l.flatMap nodCells).set (k * 7 + 5) (.string s) = (putN l k 0 s).flatMap nodCells
  | [], k, h => by simp at h
  | y :: l, 0, h => by simp [nodCells, putN]
  | y :: l, k + 1, h => by
    have ih := flat_name s l k (by simpa using h)
    have e : (k + 1) * 7 + 5 = (k * 7 + 5) + 7 := by omega
    have e2 : putN (y :: l) (k + 1) 0 s = y :: putN l k 0 s := by simp [putN]
    rw [e2, List.flatMap_cons, List.flatMap_cons, ← ih, e, List.set_append_right _ _ (by simp [nodCells])]
    simp [nodCells]

theorem flat_other (s : ByteArray) : ∀ (l : List Nod) (k : Nat), k < l.length → (l.flatMap nodCells).set (k * 7 + 6) (.string s) = (putN l k 1 s).flatMap nodCells
  | [], k, h => by simp at h
  | y :: l, 0, h => by simp [nodCells, putN]
  | y :: l, k + 1, h => by
    have ih := flat_other s l k (by simpa using h)
    have e : (k + 1) * 7 + 6 = (k * 7 + 6) + 7 := by omega
    have e2 : putN (y :: l) (k + 1) 1 s = y :: putN l k 1 s := by simp [putN]
    rw [e2, List.flatMap_cons, List.flatMap_cons, ← ih, e, List.set_append_right _ _ (by simp [nodCells])]
    simp [nodCells]

theorem OwnM.name {w : World} {B g n cap : Nat} {l : List Nod} (h : OwnM w B g n cap l) (k : Nat) (hk : k < l.length) (s : ByteArray) : OwnM (w.setCell ⟨g, k * 7 + 5, none⟩ (.string s)) B g n cap (putN l k 0 s) ∧ w.grownBy (w.setCell ⟨g, k * 7 + 5, none⟩ (.string s)) (some g) := by
  obtain ⟨h1, h2⟩ := h.2.stored (k * 7 + 5) (.string s)
  rw [flat_name s l k hk] at h1
  exact ⟨⟨by rw [putN_length]; exact h.1, h1⟩, h2⟩

theorem OwnM.other {w : World} {B g n cap : Nat} {l : List Nod} (h : OwnM w B g n cap l) (k : Nat) (hk : k < l.length) (s : ByteArray) : OwnM (w.setCell ⟨g, k * 7 + 6, none⟩ (.string s)) B g n cap (putN l k 1 s) ∧ w.grownBy (w.setCell ⟨g, k * 7 + 6, none⟩ (.string s)) (some g) := by
  obtain ⟨h1, h2⟩ := h.2.stored (k * 7 + 6) (.string s)
  rw [flat_other s l k hk] at h1
  exact ⟨⟨by rw [putN_length]; exact h.1, h1⟩, h2⟩

set_option maxRecDepth 20000 in
theorem spec_hasT (a : Option Addr) (g cap : Nat) (l : List (List UInt8)) (s : List UInt8) (hl : l.length ≤ 1000) (ha : 0 < l.length → a = some ⟨g, 0, none⟩) (w : World) (hc : ∀ j, j < l.length → w.cell? ⟨g, j, none⟩ = some (.string ⟨(l.getD j []).toArray⟩)) :
    Calls Tryz.prog 49 #[.slice a l.length cap, .string ⟨s.toArray⟩] w fun e w' => e = .returned (.bool (decide (s ∈ l))) ∧ w' = w := by
  have HC : Hid (∀ j, j < l.length → w.cell? ⟨g, j, none⟩ = some (.string ⟨(l.getD j []).toArray⟩)) := hc
  clear hc
  obtain ⟨S, hS⟩ : ∃ S : ByteArray, ⟨s.toArray⟩ = S := ⟨_, rfl⟩
  have HS : Hid ((⟨s.toArray⟩ : ByteArray) = S) := hS
  have HS2 : Hid (S.data.toList = s) := by show S.data.toList = s; rw [← hS]
  rw [hS]
  clear hS
  go_enter Tryz.func49, Tryz.ntmps49
  go_wp2
  go_loop [5] (fun i => ∃ k : Nat, k ≤ l.length ∧ i = .int .i64 k ∧ Hid (∀ j, j < k → l.getD j [] ≠ s)) (fun i => l.length - (intOf i).toNat)
  case atStart => exact ⟨0, by omega, rfl, fun j hj => absurd hj (by omega)⟩
  case round =>
    obtain ⟨k, hk, rfl, HJ⟩ := hrel
    by_cases hin : k < l.length
    · have hin' : (k : Int) < l.length := by omega
      obtain rfl := ha (by omega)
      have ck := HC.out k hin
      obtain ⟨x, hx⟩ : ∃ x, l.getD k [] = x := ⟨_, rfl⟩
      have hm : x ∈ l := by rw [← hx]; simp [List.getD, hin]
      have HM : Hid (x ∈ l) := hm
      have HN : Hid (¬ x = s → ∀ j, j < k + 1 → l.getD j [] ≠ s) := fun h j hj => by
        by_cases e : j = k
        · subst e; rw [hx]; exact h
        · exact HJ.out j (by omega)
      rw [hx] at ck
      clear hx hm
      by_cases hxs : x = s
      · have HV : Hid (decide (s ∈ l) = true) := decide_eq_true (by rw [← hxs]; exact HM.out)
        have e : (⟨x.toArray⟩ : ByteArray) = S := by rw [hxs]; exact HS.out
        rw [e] at ck
        clear hxs HN HM
        go_wp2
        go_ret
        exact ⟨by rw [HV.out] <;> rfl, rfl⟩
      · have hne : ((⟨x.toArray⟩ : ByteArray).toList == S.toList) = false := tx_ne (by rw [HS2.out]; exact hxs)
        have HN2 : Hid (∀ j, j < k + 1 → l.getD j [] ≠ s) := HN.out hxs
        clear hxs HN HM
        generalize (⟨x.toArray⟩ : ByteArray) = X at *
        go_wp2
        go_round
        case rel => exact ⟨k + 1, by omega, by go_num, HN2⟩
        case measure => simp [intOf]; omega
    · obtain rfl : k = l.length := by omega
      have HV : Hid (decide (s ∈ l) = false) := decide_eq_false (fun hm => by
        obtain ⟨j, hj, e⟩ := List.getElem_of_mem hm
        exact HJ.out j hj (by simp [List.getD, hj, e]))
      go_wp2
      go_ret
      exact ⟨by rw [HV.out] <;> rfl, rfl⟩

set_option maxHeartbeats 2000000 in
set_option maxRecDepth 20000 in
theorem spec_set (B g n cap Bu : Nat) (l : List Nod) (uv : Value) (us : List Int) (p : Nat) (r : Int) (s : ByteArray) (hr : r = 0 ∨ r = 1) (hp : p < n) (hn : n ≤ 1048576) (hul : us.length ≤ 1000) (hu : ∀ j, j < us.length → 0 ≤ us.getD j 0 ∧ us.getD j 0 < n) (w : World) (ho : OwnM w B g n cap l) (hi : ownI w Bu uv us) (hg : g < Bu) :
    Calls Tryz.prog 51 #[.slice (some ⟨g, 0, none⟩) n cap, uv, .agg #[.int .i64 p, .int .i64 r], .string s] w fun e w' => e = .returned (.slice (some ⟨g, 0, none⟩) n cap) ∧ OwnM w' B g n cap (putU (putN l p r s) us s us.length) ∧ w.grownBy w' (some g) := by
  have hcap := ho.cap_le
  have hln := ho.1
  obtain ⟨hBg, hgl⟩ := ho.ge
  obtain ⟨ua, gu, uc, usp, rfl, hua, hBu, hur⟩ := ownI_open hi
  have HU : Hid (IntAt w gu us) := int_of_row hur
  have HUR : Hid (∀ j, j < us.length → 0 ≤ us.getD j 0 ∧ us.getD j 0 < n) := hu
  have HO : Hid (OwnM w B g n cap l) := ho
  clear ho hur hu hi
  have hx := HO.out.at p (by omega)
  have fz := fun j => HO.out.frozen j
  obtain ⟨⟨x0, x1, x2, x3, x4, x5, x6⟩, hxx⟩ : ∃ y, l.getD p noNod = y := ⟨_, rfl⟩
  rw [hxx] at hx
  have hp' : (p : Int) < n := by omega
  have HUA : Hid (∀ W : World, w.grownBy W (some g) → IntAt W gu us) := fun W hW j hj => (hW.cell (HU.out j hj) (by simp; omega))
  have hlp : p < l.length := by omega
  clear hxx
  rcases hr with rfl | rfl
  · have c5 : w.cell? ⟨g, p * 7 + 5, none⟩ = some (.string x5) := hx.c5
    obtain ⟨hO1, hG1⟩ := HO.out.name p hlp s
    have HO1 : Hid (OwnM ((w.setCell ⟨g, p * 7 + 5, none⟩ (.string s)).alloc (.cells #[.int .i64 p, .int .i64 0] 32)) B g n cap (putN l p 0 s)) := hO1.kept (World.grownBy_alloc _ _ none) (by simp)
    have HG1 : Hid (w.grownBy ((w.setCell ⟨g, p * 7 + 5, none⟩ (.string s)).alloc (.cells #[.int .i64 p, .int .i64 0] 32)) (some g)) := grown_trans hG1 (World.grownBy_alloc _ _ _)
    clear hO1 hG1 hx
    go_enter Tryz.func51, Tryz.ntmps51
    go_wp2
    go_loopw [9] (fun i wr => ∃ k : Nat, k ≤ us.length ∧ i = .int .i64 k ∧ Hid (OwnM wr B g n cap (putU (putN l p 0 s) us s k)) ∧ Hid (w.grownBy wr (some g))) (fun i _ => us.length - (intOf i).toNat)
    case atStart => exact ⟨0, by omega, rfl, HO1, HG1⟩
    case round =>
      obtain ⟨k, hk, rfl, HOk, HGk⟩ := hrel
      clear c5 fz hgl
      by_cases hin : k < us.length
      · have hin' : (k : Int) < us.length := by omega
        obtain rfl := hua (by omega)
        have cu := HUA.out wr HGk.out k hin
        obtain ⟨hm0, hm1⟩ := HUR.out k hin
        obtain ⟨m, hm⟩ := Int.eq_ofNat_of_zero_le hm0
        have HM : Hid (us.getD k 0 = m) := hm
        rw [hm] at cu hm1
        have hm2 : m < n := by omega
        have hln2 := HOk.out.1
        have t := HOk.out.at m (by omega)
        generalize (putU (putN l p 0 s) us s k).getD m noNod = y at t
        have c5' : wr.cell? ⟨g, m * 7 + 5, none⟩ = some (.string y.name) := t.c5
        have f5 : wr.frozen? ⟨g, m * 7 + 5, none⟩ = false := HOk.out.frozen _
        obtain ⟨hO2, hG2⟩ := HOk.out.name m (by omega) s
        have HO2 : Hid (OwnM (wr.setCell ⟨g, m * 7 + 5, none⟩ (.string s)) B g n cap (putU (putN l p 0 s) us s (k + 1))) := by
          show OwnM _ B g n cap _
          rw [putU, HM.out]
          exact hO2
        have HG2 : Hid (w.grownBy (wr.setCell ⟨g, m * 7 + 5, none⟩ (.string s)) (some g)) := grown_trans HGk.out hG2
        generalize y.name = y5 at c5'
        clear hO2 hG2 t hm hm0 hln2 HOk HGk
        go_wp2
        go_roundw
        case rel => exact ⟨k + 1, by omega, by go_num, HO2, HG2⟩
        case measure => simp [intOf]; omega
      · obtain rfl : k = us.length := by omega
        go_wp2
        go_ret
        exact ⟨rfl, HOk.out, HGk.out⟩
  · have c6 : w.cell? ⟨g, p * 7 + 6, none⟩ = some (.string x6) := hx.c6
    obtain ⟨hO1, hG1⟩ := HO.out.other p hlp s
    have HO1 : Hid (OwnM ((w.setCell ⟨g, p * 7 + 6, none⟩ (.string s)).alloc (.cells #[.int .i64 p, .int .i64 1] 32)) B g n cap (putN l p 1 s)) := hO1.kept (World.grownBy_alloc _ _ none) (by simp)
    have HG1 : Hid (w.grownBy ((w.setCell ⟨g, p * 7 + 6, none⟩ (.string s)).alloc (.cells #[.int .i64 p, .int .i64 1] 32)) (some g)) := grown_trans hG1 (World.grownBy_alloc _ _ _)
    clear hO1 hG1 hx
    go_enter Tryz.func51, Tryz.ntmps51
    go_wp2
    go_loopw [9] (fun i wr => ∃ k : Nat, k ≤ us.length ∧ i = .int .i64 k ∧ Hid (OwnM wr B g n cap (putU (putN l p 1 s) us s k)) ∧ Hid (w.grownBy wr (some g))) (fun i _ => us.length - (intOf i).toNat)
    case atStart => exact ⟨0, by omega, rfl, HO1, HG1⟩
    case round =>
      obtain ⟨k, hk, rfl, HOk, HGk⟩ := hrel
      clear c6 fz hgl
      by_cases hin : k < us.length
      · have hin' : (k : Int) < us.length := by omega
        obtain rfl := hua (by omega)
        have cu := HUA.out wr HGk.out k hin
        obtain ⟨hm0, hm1⟩ := HUR.out k hin
        obtain ⟨m, hm⟩ := Int.eq_ofNat_of_zero_le hm0
        have HM : Hid (us.getD k 0 = m) := hm
        rw [hm] at cu hm1
        have hm2 : m < n := by omega
        have hln2 := HOk.out.1
        have t := HOk.out.at m (by omega)
        generalize (putU (putN l p 1 s) us s k).getD m noNod = y at t
        have c5' : wr.cell? ⟨g, m * 7 + 5, none⟩ = some (.string y.name) := t.c5
        have f5 : wr.frozen? ⟨g, m * 7 + 5, none⟩ = false := HOk.out.frozen _
        obtain ⟨hO2, hG2⟩ := HOk.out.name m (by omega) s
        have HO2 : Hid (OwnM (wr.setCell ⟨g, m * 7 + 5, none⟩ (.string s)) B g n cap (putU (putN l p 1 s) us s (k + 1))) := by
          show OwnM _ B g n cap _
          rw [putU, HM.out]
          exact hO2
        have HG2 : Hid (w.grownBy (wr.setCell ⟨g, m * 7 + 5, none⟩ (.string s)) (some g)) := grown_trans HGk.out hG2
        generalize y.name = y5 at c5'
        clear hO2 hG2 t hm hm0 hln2 HOk HGk
        go_wp2
        go_roundw
        case rel => exact ⟨k + 1, by omega, by go_num, HO2, HG2⟩
        case measure => simp [intOf]; omega
      · obtain rfl : k = us.length := by omega
        go_wp2
        go_ret
        exact ⟨rfl, HOk.out, HGk.out⟩
end

section
open Go.ChangeShapes Go.WideShapes Go.ChangeAt Go.RowKit

theorem flat_oneC (ts : List Nod) : ∀ u ∈ ts.flatMap nodCells, u.oneCell' = true := by
  intro u hu
  obtain ⟨t, _, ht⟩ := List.mem_flatMap.1 hu
  exact nod_one t u ht

theorem nod_cells_at {w : World} {g : Nat} {ts : List Nod} (h : NodAt w g ts) (j : Nat) (u : Value) (hu : (ts.flatMap nodCells)[j]? = some u) : w.cell? ((⟨g, 0, none⟩ : Addr).add j) = some u := by
  have hj : j < ts.length * 7 := by
    have := (List.getElem?_eq_some_iff.1 hu).1
    rwa [nod_flat_length] at this
  have e : j / 7 * 7 + j % 7 = j := by omega
  have h1 := nod_flat_at ts (j / 7) (j % 7) (by omega) (by omega)
  rw [e, hu] at h1
  rw [add_plain]
  have t := h (j / 7) (by omega)
  have hm : j % 7 = 0 ∨ j % 7 = 1 ∨ j % 7 = 2 ∨ j % 7 = 3 ∨ j % 7 = 4 ∨ j % 7 = 5 ∨ j % 7 = 6 := by omega
  rw [h1]
  rcases hm with hm | hm | hm | hm | hm | hm | hm
  · rw [hm]; exact (congrArg (fun x => w.cell? ⟨g, x, none⟩) (show 0 + j = j / 7 * 7 by omega)).trans t.c0
  · rw [hm]; exact (congrArg (fun x => w.cell? ⟨g, x, none⟩) (show 0 + j = j / 7 * 7 + 1 by omega)).trans t.c1
  · rw [hm]; exact (congrArg (fun x => w.cell? ⟨g, x, none⟩) (show 0 + j = j / 7 * 7 + 2 by omega)).trans t.c2
  · rw [hm]; exact (congrArg (fun x => w.cell? ⟨g, x, none⟩) (show 0 + j = j / 7 * 7 + 3 by omega)).trans t.c3
  · rw [hm]; exact (congrArg (fun x => w.cell? ⟨g, x, none⟩) (show 0 + j = j / 7 * 7 + 4 by omega)).trans t.c4
  · rw [hm]; exact (congrArg (fun x => w.cell? ⟨g, x, none⟩) (show 0 + j = j / 7 * 7 + 5 by omega)).trans t.c5
  · rw [hm]; exact (congrArg (fun x => w.cell? ⟨g, x, none⟩) (show 0 + j = j / 7 * 7 + 6 by omega)).trans t.c6

theorem site_from2 (ts : List Nod) : ∀ (n : Nat) (b : Bnd), b ∈ siteF ts n → ∃ p r : Nat, b = ⟨p, r⟩ ∧ p < n ∧ r < rolK (ts.getD p noNod).kind
  | 0, b, h => by simp [siteF] at h
  | n + 1, b, h => by
    rw [siteF, List.mem_append] at h
    rcases h with h | h
    · obtain ⟨p, r, e, hp, hr⟩ := site_from2 ts n b h
      exact ⟨p, r, e, by omega, hr⟩
    · obtain ⟨r, e, hr⟩ := siteL_from n _ b h
      exact ⟨n, r, e, by omega, hr⟩

theorem site_at (ts : List Nod) (i : Nat) (h : i < (siteF ts ts.length).length) : ∃ p r : Nat, (siteF ts ts.length).getD i noBnd = ⟨p, r⟩ ∧ p < ts.length ∧ r < rolK (ts.getD p noNod).kind := by
  refine site_from2 ts ts.length _ ?_
  have : (siteF ts ts.length).getD i noBnd = (siteF ts ts.length)[i] := by simp [List.getD, h]
  rw [this]
  exact List.getElem_mem h

theorem uses_range (ts : List Nod) (n r : Int) (j : Nat) (h : j < (usesB ts n r).length) : 0 ≤ (usesB ts n r).getD j 0 ∧ (usesB ts n r).getD j 0 < ts.length := by
  have hm : (usesB ts n r).getD j 0 ∈ usesB ts n r := by simp [List.getD, h]
  unfold usesB at hm ⊢
  split at hm
  · rename_i hc
    rw [if_pos hc]
    obtain ⟨k, hk, e, _⟩ := (useF_mem ts n r _ ts.length).1 hm
    rw [e]
    omega
  · simp at hm

theorem cn_u_name : (Tryz.f52.name == "runtime.NumGoroutine") = false := by kernel_rfl
theorem cn_u_body : Tryz.f52.body.isNone = false := by kernel_rfl
theorem cn_f_name : (Tryz.f50.name == "runtime.NumGoroutine") = false := by kernel_rfl
theorem cn_f_body : Tryz.f50.body.isNone = false := by kernel_rfl
theorem cn_s_name : (Tryz.f51.name == "runtime.NumGoroutine") = false := by kernel_rfl
theorem cn_s_body : Tryz.f51.body.isNone = false := by kernel_rfl

/-- What a call that names a program otherwise ends with. -/
def CanEnd (w : World) (l : List Nod) (e : Ending) (w' : World) : Prop := ∃ G c, e = .returned (.slice (some ⟨G, 0, none⟩) l.length c) ∧ OwnM w' w.heap.size G l.length c l ∧ Below w.heap.size w w'

theorem canB_no {ts : List Nod} (h : nodesB ts = false) : canB ts = [] := by rw [canB, if_neg (by rw [h]; simp)]

set_option maxHeartbeats 4000000 in
set_option maxRecDepth 20000 in
theorem spec_canon (g cap : Nat) (ts : List Nod) (hl : ts.length ≤ 1048576)
    (hst : ∀ i, i < ts.length → (ts.getD i noNod).name.size ≤ maxLen ∧ (ts.getD i noNod).other.size ≤ maxLen) (w : World) (hA : NodAt w g ts) :
    Calls Tryz.prog 21 #[.slice (some ⟨g, 0, none⟩) ts.length cap] w (CanEnd w (canB ts)) := by
  have HA : Hid (NodAt w g ts) := hA
  have HT : Hid (∀ i, i < ts.length → (ts.getD i noNod).name.size ≤ maxLen ∧ (ts.getD i noNod).other.size ≤ maxLen) := hst
  have OE : Hid (ownNod (w.alloc (.cells #[] 38)) w.heap.size (.slice (some ⟨w.heap.size, 0, none⟩) 0 0) []) := ownNod_empty (Nat.le_refl _)
  have HC : Hid (∀ j u, (ts.flatMap nodCells)[j]? = some u → (w.alloc (.cells #[] 38)).cell? ((⟨g, 0, none⟩ : Addr).add j) = some u) := fun j u hu => by
    have h1 := nod_cells_at hA j u hu
    have h2 := nod_lt h1
    rw [add_plain] at h1 h2 ⊢
    rw [World.cell?_alloc_lt _ _ _ (by simpa using h2)]
    exact h1
  obtain ⟨i0, hi, hz0, hz1, hz2⟩ := info_parts info_nod
  clear hA hst
  go_enter Tryz.func21, Tryz.ntmps21
  go_wp2_with (at_builtin; refine wpList_append_own _ rfl _ _ 24 rfl w.heap.size 38 i0 _ 7 72 Tryz.underlying24 hi hz0 hz1 hz2 rfl (by decide) _ _ _ rfl OE.out ⟨g, 0, none⟩ ts.length cap (ts.flatMap nodCells) rfl (by rw [nod_flat_length]) HC.out (flat_oneC _) (by unfold maxLen; simp; omega) (by simp; omega) (by simp) ?_)
  intro v3 w3 ho3 hg3 hn3
  have hv3 : ∃ g3 c3, v3 = .slice (some ⟨g3, 0, none⟩) ts.length c3 := by
    rcases ho3.2 with ⟨h0, _⟩ | ⟨g3, c3, cur3, h3, _⟩
    · exact (hn3 h0).elim
    · exact ⟨g3, c3, h3⟩
  obtain ⟨g3, c3, rfl⟩ := hv3
  have HO3 : Hid (OwnM w3 w.heap.size g3 ts.length c3 ts) := ⟨rfl, by simpa using ho3⟩
  have hb3 : Below w.heap.size w w3 := ((Below.refl _ w).alloc (Nat.le_refl _) _).grown hg3 (by simp) (fun k hk => (OE.out.lt k hk).1)
  have s3 := hb3.size
  have B3 : Hid (Below w.heap.size w w3) := hb3
  clear ho3 hg3 hn3 hb3 OE HC hi hz0 hz1 hz2
  go_wp2_with fail
  refine (spec_nodes _ g cap ts (fun _ => rfl) hl HT.out w3 (HA.out.below B3.out (fun h => HA.out.lt h))).mono ?_
  rintro e w4 ⟨rfl, b4⟩
  have HO4 : Hid (OwnM w4 w.heap.size g3 ts.length c3 ts) := HO3.out.below b4
  have B4 : Hid (Below w.heap.size w w4) := B3.out.trans (b4.mono s3)
  have s4 := B4.out.size
  clear b4 HO3 B3
  cases hok : nodesB ts
  · have HV : Hid (canB ts = []) := canB_no hok
    clear hok
    go_wp2
    go_ret
    exact ⟨w4.heap.size, 0, by rw [HV.out] <;> rfl, by rw [HV.out]; exact ⟨rfl, World.ownsRow_lit w4 #[] 0 s4 (by omega) rfl⟩, B4.out.alloc s4 _⟩
  · have HOK : Hid (nodesB ts = true) := hok
    have HV : Hid (canB ts = renL ts (sgF (siteF ts ts.length) (nwL (freeB ts) (siteF ts ts.length).length) (siteF ts ts.length).length)) := by show canB ts = _; rw [canB, if_pos hok]
    have HSB : Hid (sitesB ts = siteF ts ts.length) := by show sitesB ts = _; rw [sitesB, if_pos hok]
    obtain ⟨hl1, hl2, _⟩ := nodesB_starts hok
    have hbl := sitesB_length ts
    rw [HSB.out] at hbl
    have hfl := freeB_length ts
    clear hok
    go_wp2_with fail
    refine (spec_free _ g cap ts (fun _ => rfl) hl HT.out w4 (HA.out.below B4.out (fun h => HA.out.lt h))).mono ?_
    rintro e w5 ⟨v5, rfl, ho5, b5⟩
    obtain ⟨a5, g5, c5, rfl, ha5, hc5⟩ := ownS_form ho5
    have HO5 : Hid (OwnM w5 w.heap.size g3 ts.length c3 ts) := HO4.out.below b5
    have B5 : Hid (Below w.heap.size w w5) := B4.out.trans (b5.mono s4)
    have s5 := B5.out.size
    have HC5 : Hid (∀ j, j < (freeB ts).length → w5.cell? ⟨g5, j, none⟩ = some (.string ⟨((freeB ts).getD j []).toArray⟩) ∧ w5.frozen? ⟨g5, j, none⟩ = false) := hc5
    have HA5 : Hid (0 < (freeB ts).length → a5 = some ⟨g5, 0, none⟩ ∧ w4.heap.size ≤ g5 ∧ g5 < w5.heap.size) := ha5
    have hg34 : g3 < w4.heap.size := HO4.out.ge.2
    have hgw : g < w.heap.size := HA.out.lt (by omega)
    have hgb := HO4.out.ge.1
    clear b5 ho5 HO4 B4 hc5 ha5
    go_wp2_with fail
    refine (spec_sites _ g cap ts (fun _ => rfl) hl HT.out w5 (HA.out.below B5.out (fun h => HA.out.lt h))).mono ?_
    rintro e w6 ⟨v6, rfl, ho6, b6⟩
    rw [HSB.out] at ho6
    obtain ⟨a6, g6, c6, sp6, rfl, ha6, hb6, hge6, hlt6, _⟩ := ownBnd_form ho6
    have HO6 : Hid (OwnM w6 w.heap.size g3 ts.length c3 ts) := HO5.out.below b6
    have B6 : Hid (Below w.heap.size w w6) := B5.out.trans (b6.mono s5)
    have s6 := B6.out.size
    have hg35 : g3 < w5.heap.size := HO5.out.ge.2
    have HFC : Hid (∀ W : World, w6.grownBy W (some g3) → ∀ j, j < (freeB ts).length → W.cell? ⟨g5, j, none⟩ = some (.string ⟨((freeB ts).getD j []).toArray⟩)) := fun W hW j hj => by
      have h1 := (b6.cell (p := ⟨g5, j, none⟩) (HA5.out (by omega)).2.2).trans (HC5.out j hj).1
      exact hW.cell h1 (by have := (HA5.out (by omega)).2.1; simp; omega)
    have HBC : Hid (∀ W : World, w6.grownBy W (some g3) → BndAt W g6 (siteF ts ts.length)) := fun W hW j hj => by
      have h1 := hb6 j hj
      exact ⟨hW.cell h1.c0 (by simp; omega), hW.cell h1.c1 (by simp; omega)⟩
    have HAC : Hid (∀ W : World, w6.grownBy W (some g3) → NodAt W g ts) := fun W hW => by
      have hb := HA.out.below B6.out (fun _ => hgw)
      intro j hj
      have h1 := hb j hj
      have hne : some g ≠ some g3 := by simp; omega
      exact ⟨hW.cell h1.c0 hne, hW.cell h1.c1 hne, hW.cell h1.c2 hne, hW.cell h1.c3 hne, hW.cell h1.c4 hne, hW.cell h1.c5 hne, hW.cell h1.c6 hne⟩
    have HA6 : Hid (0 < (siteF ts ts.length).length → a6 = some ⟨g6, 0, none⟩) := ha6
    have HA5' : Hid (0 < (freeB ts).length → a5 = some ⟨g5, 0, none⟩) := fun h => (HA5.out h).1
    have HSI : Hid (∀ i, i < (siteF ts ts.length).length → ∃ p r : Nat, (siteF ts ts.length).getD i noBnd = ⟨p, r⟩ ∧ p < ts.length ∧ r < rolK (ts.getD p noNod).kind) := fun i h => site_at ts i h
    have HUS : Hid (∀ (p r : Nat) (W : World), w6.grownBy W (some g3) → Calls Tryz.prog 52 #[.slice (some ⟨g, 0, none⟩) ts.length cap, .agg #[.int .i64 p, .int .i64 r]] W fun e w' => ∃ v, e = .returned v ∧ ownI w' W.heap.size v (usesB ts p r) ∧ Below W.heap.size W w') := fun p r W hW => spec_uses _ g cap ts p r (fun _ => rfl) hl HT.out W (HAC.out W hW)
    have HRS : Hid (∀ (sg : Int → Int → Option (List UInt8)) (p r : Nat) (s : List UInt8), p < ts.length → r < rolK (ts.getD p noNod).kind → putU (putN (renL ts sg) p r ⟨s.toArray⟩) (usesB ts p r) ⟨s.toArray⟩ (usesB ts p r).length = renL ts (upS p r s sg)) := fun sg p r s hp hr => ren_step HOK.out sg p r hp hr s
    have HUL : Hid (∀ p r : Int, (usesB ts p r).length ≤ 1000 ∧ ∀ j, j < (usesB ts p r).length → 0 ≤ (usesB ts p r).getD j 0 ∧ (usesB ts p r).getD j 0 < ts.length) := fun p r => ⟨by have := usesB_length ts p r; omega, fun j hj => uses_range ts p r j hj⟩
    have HRK : Hid (∀ p r : Nat, r < rolK (ts.getD p noNod).kind → (r : Int) = 0 ∨ (r : Int) = 1) := fun p r h => by have := rolK_le (ts.getD p noNod).kind; omega
    have hS0 : OwnM w6 w.heap.size g3 ts.length c3 (renL ts (sgF (siteF ts ts.length) (nwL (freeB ts) (siteF ts ts.length).length) 0)) := by
      have e : sgF (siteF ts ts.length) (nwL (freeB ts) (siteF ts ts.length).length) 0 = fun _ _ => none := rfl
      rw [e, renL_none]
      exact HO6.out
    have HS0 : Hid (_) := hS0
    have hc3 := HO6.out.cap_le
    clear hS0 HO5 HO6 B5 b6 ho6 hb6 ha6 HC5 HA5 hlt6
    generalize hblq : siteF ts ts.length = bl at *
    generalize hfrq : freeB ts = fr at *
    have HNA : Hid (∀ i k, (fkL fr k).length = i → k < 10000 → isF fr k = false → i < bl.length → (nwL fr bl.length).getD i [] = frN k) := fun i k h1 h2 h3 h4 => nw_at h1 h2 h3 h4 (by omega)
    clear hblq hfrq
    go_wp2
    go_loopw [3, 6, 7] (fun out kv iv wr => ∃ i k : Nat, i ≤ bl.length ∧ out = .slice (some ⟨g3, 0, none⟩) ts.length c3 ∧ kv = .int .i64 k ∧ iv = .int .i64 i ∧ k ≤ 1000 ∧ Hid ((fkL fr k).length = i) ∧ Hid (OwnM wr w.heap.size g3 ts.length c3 (renL ts (sgF bl (nwL fr bl.length) i))) ∧ Hid (w6.grownBy wr (some g3))) (fun _ _ iv _ => bl.length - (intOf iv).toNat)
    case atStart => exact ⟨0, 0, by omega, rfl, rfl, rfl, by omega, rfl, HS0, ⟨rfl, rfl, rfl, Nat.le_refl _, fun _ _ _ => rfl⟩⟩
    case round =>
      obtain ⟨i, k, hi, rfl, rfl, rfl, hk, HK, HOr, HGr⟩ := hrel
      clear HS0
      by_cases hin : i < bl.length
      · have hin' : (i : Int) < bl.length := by omega
        obtain rfl := HA6.out (by omega)
        obtain ⟨p, r, hpr, hp, hr⟩ := HSI.out i hin
        have HPR : Hid (bl.getD i noBnd = ⟨p, r⟩) := hpr
        have HR : Hid (r < rolK (ts.getD p noNod).kind) := hr
        clear hpr hr
        go_wp2
        go_loopw [6] (fun kv wq => ∃ q : Nat, kv = .int .i64 q ∧ q ≤ 1000 ∧ Hid ((fkL fr q).length = i) ∧ Hid (OwnM wq w.heap.size g3 ts.length c3 (renL ts (sgF bl (nwL fr bl.length) i))) ∧ Hid (w6.grownBy wq (some g3))) (fun kv _ => 1001 - (intOf kv).toNat)
        case atStart => exact ⟨k, rfl, hk, HK, HOr, HGr⟩
        case round =>
          obtain ⟨q, rfl, hq, HQ, HOq, HGq⟩ := hrel
          clear HOr HGr HK
          have hcnt := fk_count (fr := fr) (show q ≤ 10000 by omega)
          rw [HQ.out] at hcnt
          go_wp2_with fail
          refine (spec_fresh q wr).mono ?_
          rintro e w7 ⟨rfl, b7⟩
          rw [frT_frN]
          have HO7 : Hid (OwnM w7 w.heap.size g3 ts.length c3 (renL ts (sgF bl (nwL fr bl.length) i))) := HOq.out.below b7
          have HG7 : Hid (w6.grownBy w7 (some g3)) := grown_trans HGq.out (grown_of_below b7 _)
          clear b7 HOq HGq
          go_wp2_with fail
          refine (spec_hasT a5 g5 c5 fr (frN q) (by omega) HA5'.out w7 (HFC.out w7 HG7.out)).mono ?_
          rintro e w8 ⟨rfl, rfl⟩
          cases hf : isF fr q with
          | true =>
            have hf' : decide (frN q ∈ fr) = true := hf
            have HQ2 : Hid ((fkL fr (q + 1)).length = i) := by show (fkL fr (q + 1)).length = i; rw [fkL_skip hf]; exact HQ.out
            rw [hf']
            clear hf hf' HQ
            go_wp2
            go_roundw
            case rel => exact ⟨q + 1, by go_num, by omega, HQ2, HO7, HG7⟩
            case measure => simp [intOf]; omega
          | false =>
            have hf' : decide (frN q ∈ fr) = false := hf
            have HQ2 : Hid ((fkL fr (q + 1)).length = i + 1) := by show (fkL fr (q + 1)).length = i + 1; rw [fkL_take hf, List.length_append, HQ.out]; rfl
            have HNM : Hid ((nwL fr bl.length).getD i [] = frN q) := HNA.out i q HQ.out (by omega) hf hin
            have HUP : Hid (sgF bl (nwL fr bl.length) (i + 1) = upS p r (frN q) (sgF bl (nwL fr bl.length) i)) := by
              show sgF bl _ (i + 1) = _
              rw [sg_up, HPR.out, HNM.out]
            have HST : Hid (∀ (W : World) (Bu : Nat) (uv : Value), OwnM W w.heap.size g3 ts.length c3 (renL ts (sgF bl (nwL fr bl.length) i)) → ownI W Bu uv (usesB ts p r) → g3 < Bu → Calls Tryz.prog 51 #[.slice (some ⟨g3, 0, none⟩) ts.length c3, uv, .agg #[.int .i64 p, .int .i64 r], .string ⟨(frN q).toArray⟩] W fun e w' => e = .returned (.slice (some ⟨g3, 0, none⟩) ts.length c3) ∧ OwnM w' w.heap.size g3 ts.length c3 (renL ts (sgF bl (nwL fr bl.length) (i + 1))) ∧ W.grownBy w' (some g3)) := fun W Bu uv h1 h2 h3 => by
              rw [HUP.out, ← HRS.out _ p r (frN q) hp HR.out]
              exact spec_set w.heap.size g3 ts.length c3 Bu _ uv (usesB ts p r) p r ⟨(frN q).toArray⟩ (HRK.out p r HR.out) hp hl (HUL.out p r).1 (HUL.out p r).2 W h1 h2 h3
            have HFS : Hid (∀ W : World, Calls Tryz.prog 50 #[.int .i64 q] W fun e w' => e = .returned (.string ⟨(frN q).toArray⟩) ∧ Below W.heap.size W w') := fun W => by rw [← frT_frN]; exact spec_fresh q W
            have HBX : Hid (∀ W : World, w6.grownBy W (some g3) → W.cell? ⟨g6, i * 2, none⟩ = some (.int .i64 p) ∧ W.cell? ⟨g6, i * 2 + 1, none⟩ = some (.int .i64 r)) := fun W hW => by
              have h1 := HBC.out W hW i hin
              rw [HPR.out] at h1
              exact ⟨h1.c0, h1.c1⟩
            obtain ⟨k0, k1⟩ := HBX.out w8 HG7.out
            have hg3w : g3 < w8.heap.size := HO7.out.ge.2
            have HUSw : Hid (_) := HUS.out p r
            rw [hf']
            clear hf hf' HQ HNM HUP HRS HUL HRK HUS HSI HNA HR
            go_wp2
            go_region_law (first
              | (refine step_call rfl 52 #[.tmp 32, .tmp 36] #[24, 32] rfl #[.slice (some ⟨g, 0, none⟩) ts.length cap, .agg #[.int .i64 p, .int .i64 r]] (by simp [Act.eval]) Tryz.func52 cn_u_name cn_u_body _ (HUSw.out w8.drew (grown_trans HG7.out (grown_drew _ _))) ?_; rintro e wA ⟨vA, rfl, oA, bA⟩; have OA : Hid (ownI wA w8.heap.size vA (usesB ts p r)) := oA; have GA : Hid (w6.grownBy wA (some g3)) := grown_trans (grown_trans HG7.out (grown_drew _ _)) (grown_of_below bA _); have MA : Hid (OwnM wA w.heap.size g3 ts.length c3 (renL ts (sgF bl (nwL fr bl.length) i))) := OwnM.below (w := w8.drew) HO7.out bA; obtain ⟨kA0, kA1⟩ := HBX.out wA GA.out; clear oA bA; refine ⟨_, rfl, ?_⟩)
              | (refine step_call rfl 50 #[.tmp 42] #[3] rfl #[.int .i64 q] (by simp [Act.eval, Act.put]) Tryz.func50 cn_f_name cn_f_body _ (HFS.out w8.drew) ?_; rintro e wB ⟨rfl, bB⟩; have GB : Hid (w6.grownBy wB (some g3)) := grown_trans (grown_trans HG7.out (grown_drew _ _)) (grown_of_below bB _); have MB : Hid (OwnM wB w.heap.size g3 ts.length c3 (renL ts (sgF bl (nwL fr bl.length) i))) := OwnM.below (w := w8.drew) HO7.out bB; have zB : g3 < wB.heap.size := MB.out.ge.2; obtain ⟨kB0, kB1⟩ := HBX.out wB GB.out; clear bB; refine ⟨_, rfl, ?_⟩)
              | (refine step_call rfl 50 #[.tmp 42] #[3] rfl #[.int .i64 q] (by simp [Act.eval]) Tryz.func50 cn_f_name cn_f_body _ (HFS.out wA) ?_; rintro e wC ⟨rfl, bC⟩; have GC : Hid (w6.grownBy wC (some g3)) := grown_trans GA.out (grown_of_below bC _); have MC : Hid (OwnM wC w.heap.size g3 ts.length c3 (renL ts (sgF bl (nwL fr bl.length) i))) := MA.out.below bC; have OC : Hid (ownI wC w8.heap.size vA (usesB ts p r)) := ownI_kept OA.out bC (Nat.le_refl _); obtain ⟨kC0, kC1⟩ := HBX.out wC GC.out; clear bC kA0 kA1; refine ⟨_, rfl, ?_⟩)
              | (refine step_call rfl 52 #[.tmp 32, .tmp 36] #[24, 32] rfl #[.slice (some ⟨g, 0, none⟩) ts.length cap, .agg #[.int .i64 p, .int .i64 r]] (by simp [Act.eval, Act.put]) Tryz.func52 cn_u_name cn_u_body _ (HUSw.out wB GB.out) ?_; rintro e wD ⟨vD, rfl, oD, bD⟩; have OD : Hid (ownI wD wB.heap.size vD (usesB ts p r)) := oD; have GD : Hid (w6.grownBy wD (some g3)) := grown_trans GB.out (grown_of_below bD _); have MD : Hid (OwnM wD w.heap.size g3 ts.length c3 (renL ts (sgF bl (nwL fr bl.length) i))) := MB.out.below bD; obtain ⟨kD0, kD1⟩ := HBX.out wD GD.out; clear oD bD kB0 kB1; refine ⟨_, rfl, ?_⟩)
              | (refine step_call rfl 51 #[.tmp 31, .tmp 37, .tmp 41, .tmp 43] #[24, 57, 32, 9] rfl #[.slice (some ⟨g3, 0, none⟩) ts.length c3, vA, .agg #[.int .i64 p, .int .i64 r], .string ⟨(frN q).toArray⟩] (by simp [Act.eval]) Tryz.func51 cn_s_name cn_s_body _ (HST.out wC w8.heap.size vA MC.out OC.out hg3w) ?_; rintro e wE ⟨rfl, mE, gE⟩; have xM : Hid (OwnM wE w.heap.size g3 ts.length c3 (renL ts (sgF bl (nwL fr bl.length) (i + 1)))) := mE; have xG : Hid (w6.grownBy wE (some g3)) := grown_trans GC.out gE; clear mE gE; refine ⟨_, rfl, ?_⟩)
              | (refine step_call rfl 51 #[.tmp 31, .tmp 37, .tmp 41, .tmp 43] #[24, 57, 32, 9] rfl #[.slice (some ⟨g3, 0, none⟩) ts.length c3, vD, .agg #[.int .i64 p, .int .i64 r], .string ⟨(frN q).toArray⟩] (by simp [Act.eval, Act.put]) Tryz.func51 cn_s_name cn_s_body _ (HST.out wD wB.heap.size vD MD.out OD.out zB) ?_; rintro e wE ⟨rfl, mE, gE⟩; have xM : Hid (OwnM wE w.heap.size g3 ts.length c3 (renL ts (sgF bl (nwL fr bl.length) (i + 1)))) := mE; have xG : Hid (w6.grownBy wE (some g3)) := grown_trans GD.out gE; clear mE gE; refine ⟨_, rfl, ?_⟩))
            all_goals
              go_wp2
              go_roundw
              case rel => exact ⟨i + 1, q + 1, by omega, rfl, by go_num, by go_num, by omega, HQ2, xM, xG⟩
              case measure => simp [intOf]; omega
      · obtain rfl : i = bl.length := by omega
        have HB : Hid (Below w.heap.size w wr) := B6.out.grown HGr.out s6 (fun k hk => by cases hk; exact hgb)
        have hcl : (canB ts).length = ts.length := by rw [HV.out, renL_length]
        have HF : Hid (OwnM wr w.heap.size g3 (canB ts).length c3 (canB ts)) := by
          show OwnM wr _ _ _ _ _
          rw [hcl, HV.out]
          exact HOr.out
        have HL : Hid (ts.length = (canB ts).length) := hcl.symm
        clear HOr hcl
        go_wp2
        go_ret
        exact ⟨g3, c3, by rw [← HL.out] <;> rfl, HF.out, HB.out⟩
end

section
open Go.ChangeShapes Go.WideShapes Go.ChangeAt Go.RowKit

theorem impl_clone (s : ByteArray) (hs : s.size ≤ 281474976710656) (w : World) : Calls Tryz.prog 75 #[.string s] w fun e w' => e = .returned (.string s) ∧ Below w.heap.size w w' := by
  have HI : Hid (Calls Tryz.prog 101 #[.string s] w fun e w' => e = .returned (.string s) ∧ Below w.heap.size w w') := Tryz.stringslite_Clone s w hs
  go_enter Tryz.func75, Tryz.ntmps75
  go_wp2_with fail
  refine HI.out.mono ?_
  rintro e w1 ⟨rfl, hb1⟩
  go_wp2
  go_ret
  exact ⟨rfl, hb1⟩

theorem node_stored {W : World} {g : Nat} {z0 z1 z2 z3 z4 z5 z6 : Value} {t : TypeId} (h : W.heap[g]? = some (.cells #[z0, z1, z2, z3, z4, z5, z6] t (0, 0))) (v0 v1 v2 v3 v4 v5 v6 : Value) :
    (((((((W.setCell ⟨g, 0, none⟩ v0).setCell ⟨g, 1, none⟩ v1).setCell ⟨g, 2, none⟩ v2).setCell ⟨g, 3, none⟩ v3).setCell ⟨g, 4, none⟩ v4).setCell ⟨g, 5, none⟩ v5).setCell ⟨g, 6, none⟩ v6).heap[g]? = some (.cells #[v0, v1, v2, v3, v4, v5, v6] t (0, 0)) := by
  have h0 : (W.setCell ⟨g, 0, none⟩ v0).heap[g]? = some (.cells #[v0, z1, z2, z3, z4, z5, z6] t (0, 0)) := heap_setCell_same W g 0 _ _ v0 h
  have h1 : ((W.setCell ⟨g, 0, none⟩ v0).setCell ⟨g, 1, none⟩ v1).heap[g]? = some (.cells #[v0, v1, z2, z3, z4, z5, z6] t (0, 0)) := heap_setCell_same (W.setCell ⟨g, 0, none⟩ v0) g 1 _ _ v1 h0
  have h2 : (((W.setCell ⟨g, 0, none⟩ v0).setCell ⟨g, 1, none⟩ v1).setCell ⟨g, 2, none⟩ v2).heap[g]? = some (.cells #[v0, v1, v2, z3, z4, z5, z6] t (0, 0)) := heap_setCell_same ((W.setCell ⟨g, 0, none⟩ v0).setCell ⟨g, 1, none⟩ v1) g 2 _ _ v2 h1
  have h3 : ((((W.setCell ⟨g, 0, none⟩ v0).setCell ⟨g, 1, none⟩ v1).setCell ⟨g, 2, none⟩ v2).setCell ⟨g, 3, none⟩ v3).heap[g]? = some (.cells #[v0, v1, v2, v3, z4, z5, z6] t (0, 0)) := heap_setCell_same (((W.setCell ⟨g, 0, none⟩ v0).setCell ⟨g, 1, none⟩ v1).setCell ⟨g, 2, none⟩ v2) g 3 _ _ v3 h2
  have h4 : (((((W.setCell ⟨g, 0, none⟩ v0).setCell ⟨g, 1, none⟩ v1).setCell ⟨g, 2, none⟩ v2).setCell ⟨g, 3, none⟩ v3).setCell ⟨g, 4, none⟩ v4).heap[g]? = some (.cells #[v0, v1, v2, v3, v4, z5, z6] t (0, 0)) := heap_setCell_same ((((W.setCell ⟨g, 0, none⟩ v0).setCell ⟨g, 1, none⟩ v1).setCell ⟨g, 2, none⟩ v2).setCell ⟨g, 3, none⟩ v3) g 4 _ _ v4 h3
  have h5 : ((((((W.setCell ⟨g, 0, none⟩ v0).setCell ⟨g, 1, none⟩ v1).setCell ⟨g, 2, none⟩ v2).setCell ⟨g, 3, none⟩ v3).setCell ⟨g, 4, none⟩ v4).setCell ⟨g, 5, none⟩ v5).heap[g]? = some (.cells #[v0, v1, v2, v3, v4, v5, z6] t (0, 0)) := heap_setCell_same (((((W.setCell ⟨g, 0, none⟩ v0).setCell ⟨g, 1, none⟩ v1).setCell ⟨g, 2, none⟩ v2).setCell ⟨g, 3, none⟩ v3).setCell ⟨g, 4, none⟩ v4) g 5 _ _ v5 h4
  have h6 : (((((((W.setCell ⟨g, 0, none⟩ v0).setCell ⟨g, 1, none⟩ v1).setCell ⟨g, 2, none⟩ v2).setCell ⟨g, 3, none⟩ v3).setCell ⟨g, 4, none⟩ v4).setCell ⟨g, 5, none⟩ v5).setCell ⟨g, 6, none⟩ v6).heap[g]? = some (.cells #[v0, v1, v2, v3, v4, v5, v6] t (0, 0)) := heap_setCell_same ((((((W.setCell ⟨g, 0, none⟩ v0).setCell ⟨g, 1, none⟩ v1).setCell ⟨g, 2, none⟩ v2).setCell ⟨g, 3, none⟩ v3).setCell ⟨g, 4, none⟩ v4).setCell ⟨g, 5, none⟩ v5) g 6 _ _ v6 h5
  exact h6

theorem node_below {B : Nat} {w W : World} {g : Nat} (h : Below B w W) (hg : B ≤ g) (v0 v1 v2 v3 v4 v5 v6 : Value) :
    Below B w (((((((W.setCell ⟨g, 0, none⟩ v0).setCell ⟨g, 1, none⟩ v1).setCell ⟨g, 2, none⟩ v2).setCell ⟨g, 3, none⟩ v3).setCell ⟨g, 4, none⟩ v4).setCell ⟨g, 5, none⟩ v5).setCell ⟨g, 6, none⟩ v6) :=
  ((((((h.setCell (p := ⟨g, 0, none⟩) hg v0).setCell (p := ⟨g, 1, none⟩) hg v1).setCell (p := ⟨g, 2, none⟩) hg v2).setCell (p := ⟨g, 3, none⟩) hg v3).setCell (p := ⟨g, 4, none⟩) hg v4).setCell (p := ⟨g, 5, none⟩) hg v5).setCell (p := ⟨g, 6, none⟩) hg v6

set_option maxHeartbeats 1000000 in
theorem impl_copy (t : Nod) (hs : t.name.size ≤ 281474976710656) (ho : t.other.size ≤ 281474976710656) (w : World) :
    Calls Tryz.prog 65 #[.agg (nodCells t).toArray] w fun e w' => e = .returned (.agg (nodCells t).toArray) ∧ Below w.heap.size w w' := by
  obtain ⟨x0, x1, x2, x3, x4, x5, x6⟩ := t
  have HS : Hid (x5.size ≤ 281474976710656 ∧ x6.size ≤ 281474976710656) := ⟨hs, ho⟩
  clear hs ho
  show Calls Tryz.prog 65 #[.agg #[.int .i64 x0, .int .i64 x1, .int .i64 x2, .int .i64 x3, .int .i64 x4, .string x5, .string x6]] w fun e w' => e = .returned (.agg #[.int .i64 x0, .int .i64 x1, .int .i64 x2, .int .i64 x3, .int .i64 x4, .string x5, .string x6]) ∧ Below w.heap.size w w'
  obtain ⟨W0, hW0⟩ : ∃ W0, (w.alloc (.cells #[.int .i64 x0, .int .i64 x1, .int .i64 x2, .int .i64 x3, .int .i64 x4, .string x5, .string x6] 38)).alloc (.cells #[.int .i64 0, .int .i64 0, .int .i64 0, .int .i64 0, .int .i64 0, .string ⟨#[]⟩, .string ⟨#[]⟩] 38) = W0 := ⟨_, rfl⟩
  have HW0 : Hid ((w.alloc (.cells #[.int .i64 x0, .int .i64 x1, .int .i64 x2, .int .i64 x3, .int .i64 x4, .string x5, .string x6] 38)).alloc (.cells #[.int .i64 0, .int .i64 0, .int .i64 0, .int .i64 0, .int .i64 0, .string ⟨#[]⟩, .string ⟨#[]⟩] 38) = W0) := hW0
  have RA0 : Hid (W0.heap[w.heap.size]? = some (.cells #[.int .i64 x0, .int .i64 x1, .int .i64 x2, .int .i64 x3, .int .i64 x4, .string x5, .string x6] 38 (0, 0))) := by
    rw [← hW0]
    exact ((Below.refl (w.heap.size + 1) (w.alloc (.cells #[.int .i64 x0, .int .i64 x1, .int .i64 x2, .int .i64 x3, .int .i64 x4, .string x5, .string x6] 38))).alloc (by simp) _).block w.heap.size (by omega) |>.trans (MapKept.heap_alloc w _).1
  have RB0 : Hid (W0.heap[w.heap.size + 1]? = some (.cells #[.int .i64 0, .int .i64 0, .int .i64 0, .int .i64 0, .int .i64 0, .string ⟨#[]⟩, .string ⟨#[]⟩] 38 (0, 0))) := by
    have h := (MapKept.heap_alloc (w.alloc (.cells #[.int .i64 x0, .int .i64 x1, .int .i64 x2, .int .i64 x3, .int .i64 x4, .string x5, .string x6] 38)) (.cells #[.int .i64 0, .int .i64 0, .int .i64 0, .int .i64 0, .int .i64 0, .string ⟨#[]⟩, .string ⟨#[]⟩] 38)).1
    rw [hW0] at h
    have e : (w.alloc (.cells #[.int .i64 x0, .int .i64 x1, .int .i64 x2, .int .i64 x3, .int .i64 x4, .string x5, .string x6] 38)).heap.size = w.heap.size + 1 := by simp
    rw [e] at h
    exact h
  have S0 : Hid (W0.heap.size = w.heap.size + 2) := by
    show W0.heap.size = w.heap.size + 2
    rw [← hW0]; simp
  have B0 : Hid (Below w.heap.size w W0) := by rw [← hW0]; exact ((Below.refl _ w).alloc (Nat.le_refl _) _).alloc (by simp) _
  clear hW0
  go_enter Tryz.func65, Tryz.ntmps65
  go_wp2_with fail
  rw [HW0.out]
  refine (impl_clone x5 HS.out.1 W0).mono ?_
  rintro e w1 ⟨rfl, hb1⟩
  have s1 := hb1.size
  rw [S0.out] at s1
  have ra1 := (hb1.block w.heap.size (by rw [S0.out]; omega)).trans RA0.out
  have RA1 : Hid (w1.heap[w.heap.size]? = some (.cells #[.int .i64 x0, .int .i64 x1, .int .i64 x2, .int .i64 x3, .int .i64 x4, .string x5, .string x6] 38 (0, 0))) := ra1
  have RB1 : Hid (w1.heap[w.heap.size + 1]? = some (.cells #[.int .i64 0, .int .i64 0, .int .i64 0, .int .i64 0, .int .i64 0, .string ⟨#[]⟩, .string ⟨#[]⟩] 38 (0, 0))) := (hb1.block (w.heap.size + 1) (by rw [S0.out]; omega)).trans RB0.out
  have B1 : Hid (Below w.heap.size w w1) := B0.out.trans (hb1.mono (by rw [S0.out]; omega))
  obtain ⟨q0, q1, q2, q3, q4, q5, q6⟩ := cells7_of ra1
  have f1 : ∀ o, w1.frozen? ⟨w.heap.size, o, none⟩ = false := fun o => frozen_of_row w1 _ _ _ _ RA1.out
  clear hb1 ra1 HW0 RA0 RB0 B0
  have RA2 : Hid ((w1.setCell ⟨w.heap.size, 5, none⟩ (.string x5)).heap[w.heap.size]? = some (.cells #[.int .i64 x0, .int .i64 x1, .int .i64 x2, .int .i64 x3, .int .i64 x4, .string x5, .string x6] 38 (0, 0))) := heap_setCell_same w1 w.heap.size 5 _ _ (.string x5) RA1.out
  have RB2 : Hid ((w1.setCell ⟨w.heap.size, 5, none⟩ (.string x5)).heap[w.heap.size + 1]? = some (.cells #[.int .i64 0, .int .i64 0, .int .i64 0, .int .i64 0, .int .i64 0, .string ⟨#[]⟩, .string ⟨#[]⟩] 38 (0, 0))) := (heap_setCell_other w1 _ _ _ (by simp)).trans RB1.out
  have B2 : Hid (Below w.heap.size w (w1.setCell ⟨w.heap.size, 5, none⟩ (.string x5))) := B1.out.setCell (p := ⟨w.heap.size, 5, none⟩) (Nat.le_refl _) _
  clear RA1 RB1 B1
  go_wp2_with fail
  refine (impl_clone x6 HS.out.2 _).mono ?_
  rintro e w2 ⟨rfl, hb2⟩
  have l2 : w.heap.size + 1 < (w1.setCell ⟨w.heap.size, 5, none⟩ (.string x5)).heap.size := (Array.getElem?_eq_some_iff.1 RB2.out).1
  have ra3 := (hb2.block w.heap.size (by omega)).trans RA2.out
  have rb3 := (hb2.block (w.heap.size + 1) l2).trans RB2.out
  have B3 : Hid (Below w.heap.size w w2) := B2.out.trans (hb2.mono (by omega))
  have RA3 : Hid (w2.heap[w.heap.size]? = some (.cells #[.int .i64 x0, .int .i64 x1, .int .i64 x2, .int .i64 x3, .int .i64 x4, .string x5, .string x6] 38 (0, 0))) := ra3
  have RB3 : Hid (w2.heap[w.heap.size + 1]? = some (.cells #[.int .i64 0, .int .i64 0, .int .i64 0, .int .i64 0, .int .i64 0, .string ⟨#[]⟩, .string ⟨#[]⟩] 38 (0, 0))) := rb3
  have l3 : w.heap.size + 1 < w2.heap.size := (Array.getElem?_eq_some_iff.1 rb3).1
  clear q0 q1 q2 q3 q4 q5 q6 f1 hb2 RA2 RB2 B2 l2 s1
  obtain ⟨q0, q1, q2, q3, q4, q5, q6⟩ := cells7_of ra3
  obtain ⟨r0, r1, r2, r3, r4, r5, r6⟩ := cells7_of rb3
  have f1 : ∀ o, w2.frozen? ⟨w.heap.size, o, none⟩ = false := fun o => frozen_of_row w2 _ _ _ _ RA3.out
  have f2 : ∀ o, w2.frozen? ⟨w.heap.size + 1, o, none⟩ = false := fun o => frozen_of_row w2 _ _ _ _ RB3.out
  clear ra3 rb3
  have RZ : Hid ((w2.setCell ⟨w.heap.size, 6, none⟩ (.string x6)).heap[w.heap.size + 1]? = some (.cells #[.int .i64 0, .int .i64 0, .int .i64 0, .int .i64 0, .int .i64 0, .string ⟨#[]⟩, .string ⟨#[]⟩] 38 (0, 0))) := (heap_setCell_other w2 _ _ _ (by simp)).trans RB3.out
  have BZ : Hid (Below w.heap.size w (w2.setCell ⟨w.heap.size, 6, none⟩ (.string x6))) := B3.out.setCell (p := ⟨w.heap.size, 6, none⟩) (Nat.le_refl _) _
  clear RA3 RB3 B3
  go_wp2
  refine bodyPost_ret (results_cell_row rfl _ _ (w.heap.size + 1) 38 #[.int .i64 x0, .int .i64 x1, .int .i64 x2, .int .i64 x3, .int .i64 x4, .string x5, .string x6] (0, 0) _ rfl (node_stored RZ.out _ _ _ _ _ _ _) Tryz.underlying38 rfl (by kernel_rfl)) rfl ?_
  exact ⟨rfl, node_below BZ.out (by omega) _ _ _ _ _ _ _⟩
end

section
open Go.ChangeShapes Go.WideShapes Go.ChangeAt Go.RowKit

/-- Where a binder stands in a list, counted from o on. -/
def idxB : List Bnd → Int → Int → Int → Int
  | [], _, _, _ => -1
  | b :: l, n, r, o => if sameB b n r = true then o else idxB l n r (o + 1)

theorem idxB_step (bl : List Bnd) (n r : Int) (k : Nat) (h : k < bl.length) : idxB (bl.drop k) n r k = if sameB (bl.getD k noBnd) n r = true then (k : Int) else idxB (bl.drop (k + 1)) n r ((k + 1 : Nat) : Int) := by
  rw [List.drop_eq_getElem_cons h, idxB]
  have e : bl.getD k noBnd = bl[k] := by simp [List.getD, h]
  rw [e]
  rfl

theorem idxB_end (bl : List Bnd) (n r : Int) (k : Nat) (h : bl.length ≤ k) : idxB (bl.drop k) n r k = -1 := by
  rw [List.drop_eq_nil_of_le h]; rfl

theorem idxB_none (n r : Int) : ∀ (bl : List Bnd) (o : Int), (∀ b ∈ bl, b ≠ ⟨n, r⟩) → idxB bl n r o = -1
  | [], o, _ => rfl
  | b :: l, o, h => by
    rw [idxB, if_neg (fun e => h b List.mem_cons_self ((sameB_iff _ _ _).1 e)), idxB_none n r l _ (fun b hb => h b (List.mem_cons_of_mem _ hb))]

theorem idxB_at (n r : Int) : ∀ (bl : List Bnd) (o : Int) (i : Nat), bl.Nodup → i < bl.length → bl.getD i noBnd = ⟨n, r⟩ → idxB bl n r o = o + i
  | [], o, i, _, h, _ => by simp at h
  | b :: l, o, 0, _, _, e => by
    have e' : b = ⟨n, r⟩ := e
    rw [idxB, if_pos ((sameB_iff _ _ _).2 e')]
    simp
  | b :: l, o, i + 1, hd, h, e => by
    obtain ⟨h1, h2⟩ := List.nodup_cons.1 hd
    have hi : i < l.length := by simpa using h
    have e' : l.getD i noBnd = ⟨n, r⟩ := e
    have hm : (⟨n, r⟩ : Bnd) ∈ l := by rw [← e']; simp [List.getD, hi]
    rw [idxB, if_neg (fun e2 => h1 (by rw [(sameB_iff _ _ _).1 e2]; exact hm)), idxB_at n r l (o + 1) i h2 hi e']
    omega

theorem idxB_range (n r : Int) : ∀ (bl : List Bnd) (o : Int), idxB bl n r o = -1 ∨ ∃ i : Nat, i < bl.length ∧ bl.getD i noBnd = ⟨n, r⟩ ∧ idxB bl n r o = o + i
  | [], o => Or.inl rfl
  | b :: l, o => by
    rw [idxB]
    by_cases h : sameB b n r = true
    · rw [if_pos h]
      exact Or.inr ⟨0, by simp, (sameB_iff _ _ _).1 h, by simp⟩
    · rw [if_neg h]
      rcases idxB_range n r l (o + 1) with e | ⟨i, hi, e, e2⟩
      · exact Or.inl e
      · exact Or.inr ⟨i + 1, by simpa using hi, e, by rw [e2]; omega⟩

theorem sameB_comm (a b c d : Int) : sameB ⟨a, b⟩ c d = sameB ⟨c, d⟩ a b := by
  unfold sameB
  simp only
  rw [show (a == c) = (c == a) from Bool.beq_comm, show (b == d) = (d == b) from Bool.beq_comm]

set_option maxRecDepth 20000 in
theorem lib_indexB (a : Option Addr) (g cap : Nat) (bl : List Bnd) (n r : Int) (hl : bl.length ≤ 1048576) (ha : 0 < bl.length → a = some ⟨g, 0, none⟩) (w : World) (hA : BndAt w g bl) :
    Calls Tryz.prog 34 #[.slice a bl.length cap, .agg #[.int .i64 n, .int .i64 r]] w fun e w' => e = .returned (.int .i64 (idxB bl n r 0)) ∧ Below w.heap.size w w' := by
  have HA : Hid (BndAt w g bl) := hA
  have BA : Hid (Below w.heap.size w (w.alloc (.cells #[.int .i64 n, .int .i64 r] 32))) := (Below.refl _ w).alloc (Nat.le_refl _) _
  have RA : Hid ((w.alloc (.cells #[.int .i64 n, .int .i64 r] 32)).heap[w.heap.size]? = some (.cells #[.int .i64 n, .int .i64 r] 32 (0, 0))) := (MapKept.heap_alloc w _).1
  obtain ⟨wa, hwa⟩ : ∃ wa, w.alloc (.cells #[.int .i64 n, .int .i64 r] 32) = wa := ⟨_, rfl⟩
  have sa : wa.heap.size = w.heap.size + 1 := by rw [← hwa]; simp
  have HSA : Hid (wa.heap.size = w.heap.size + 1) := sa
  rw [hwa] at BA RA
  have HWA : Hid (w.alloc (.cells #[.int .i64 n, .int .i64 r] 32) = wa) := hwa
  clear hA hwa sa
  go_enter Tryz.func34, Tryz.ntmps34
  go_wp2
  rw [HWA.out]
  go_loopw [8] (fun i wr => ∃ k : Nat, k ≤ bl.length ∧ i = .int .i64 k ∧ Hid (idxB bl n r 0 = idxB (bl.drop k) n r k) ∧ Below wa.heap.size wa wr) (fun i _ => bl.length - (intOf i).toNat)
  case atStart => exact ⟨0, by omega, rfl, rfl, Below.refl _ _⟩
  case round =>
    obtain ⟨k, hk, rfl, HC, hbl⟩ := hrel
    have hs := hbl.size
    have HB : Hid (Below w.heap.size w wr) := BA.out.trans (hbl.mono (by have := HSA.out; omega))
    obtain ⟨q0, q1, q2⟩ := row2_cells ((hbl.block w.heap.size (by have := HSA.out; omega)).trans RA.out)
    by_cases hin : k < bl.length
    · have e1 : (k : Int) < bl.length := by omega
      obtain rfl := ha (by omega)
      have t := (HA.out.below HB.out (fun h => HA.out.lt h)) k hin
      have HST : Hid (_) := idxB_step bl n r k hin
      generalize bl.getD k noBnd = y at t HST
      obtain ⟨y0, y1⟩ := y
      have c0 : wr.cell? ⟨g, k * 2, none⟩ = some (.int .i64 y0) := t.c0
      have c1 : wr.cell? ⟨g, k * 2 + 1, none⟩ = some (.int .i64 y1) := t.c1
      have heq := bnd_eql n r y0 y1
      rw [sameB_comm] at heq
      clear t q2
      by_cases hy : sameB ⟨y0, y1⟩ n r = true
      · have HV : Hid (idxB bl n r 0 = k) := by show idxB bl n r 0 = k; rw [HC.out, HST.out, if_pos hy]
        rw [hy] at heq
        clear HST HC hy
        go_wp2
        go_quiet (fail)
        go_wp2
        go_ret
        exact ⟨by rw [HV.out] <;> rfl, below_drew_n HB.out _⟩
      · have HV : Hid (idxB bl n r 0 = idxB (bl.drop (k + 1)) n r ((k + 1 : Nat) : Int)) := by show idxB bl n r 0 = _; rw [HC.out, HST.out, if_neg hy]
        have hyf : sameB ⟨y0, y1⟩ n r = false := by simpa using hy
        rw [hyf] at heq
        clear HST HC hy hyf
        go_wp2
        go_quiet (fail)
        go_wp2
        go_roundw
        case rel => exact ⟨k + 1, by omega, by go_num, HV, below_drew_n hbl _⟩
        case measure => simp [intOf]; omega
    · have HV : Hid (idxB bl n r 0 = -1) := by show idxB bl n r 0 = -1; rw [HC.out, idxB_end bl n r k (by omega)]
      clear HC q2
      go_wp2
      go_ret
      exact ⟨by rw [HV.out] <;> rfl, HB.out⟩

/-- A place that tells whether a text stands in a list. -/
def IdxS (l : List (List UInt8)) (s : List UInt8) (x : Int) : Prop := decide (s ∈ l) = decide (x ≥ 0)

set_option maxRecDepth 20000 in
theorem lib_indexS (a : Option Addr) (g cap : Nat) (l : List (List UInt8)) (s : List UInt8) (hl : l.length ≤ 1000) (ha : 0 < l.length → a = some ⟨g, 0, none⟩) (w : World) (hc : ∀ j, j < l.length → w.cell? ⟨g, j, none⟩ = some (.string ⟨(l.getD j []).toArray⟩)) :
    Calls Tryz.prog 96 #[.slice a l.length cap, .string ⟨s.toArray⟩] w fun e w' => (∃ x : Int, e = .returned (.int .i64 x) ∧ IdxS l s x) ∧ w' = w := by
  have HC : Hid (∀ j, j < l.length → w.cell? ⟨g, j, none⟩ = some (.string ⟨(l.getD j []).toArray⟩)) := hc
  clear hc
  obtain ⟨S, hS⟩ : ∃ S : ByteArray, ⟨s.toArray⟩ = S := ⟨_, rfl⟩
  have HS : Hid ((⟨s.toArray⟩ : ByteArray) = S) := hS
  have HS2 : Hid (S.data.toList = s) := by show S.data.toList = s; rw [← hS]
  rw [hS]
  clear hS
  go_enter Tryz.func96, Tryz.ntmps96
  go_wp2
  go_loop [8] (fun i => ∃ k : Nat, k ≤ l.length ∧ i = .int .i64 k ∧ Hid (∀ j, j < k → l.getD j [] ≠ s)) (fun i => l.length - (intOf i).toNat)
  case atStart => exact ⟨0, by omega, rfl, fun j hj => absurd hj (by omega)⟩
  case round =>
    obtain ⟨k, hk, rfl, HJ⟩ := hrel
    by_cases hin : k < l.length
    · have hin' : (k : Int) < l.length := by omega
      obtain rfl := ha (by omega)
      have ck := HC.out k hin
      obtain ⟨x, hx⟩ : ∃ x, l.getD k [] = x := ⟨_, rfl⟩
      have hm : x ∈ l := by rw [← hx]; simp [List.getD, hin]
      have HM : Hid (x ∈ l) := hm
      have HN : Hid (¬ x = s → ∀ j, j < k + 1 → l.getD j [] ≠ s) := fun h j hj => by
        by_cases e : j = k
        · subst e; rw [hx]; exact h
        · exact HJ.out j (by omega)
      rw [hx] at ck
      clear hx hm
      by_cases hxs : x = s
      · have HV : Hid (decide (s ∈ l) = true) := decide_eq_true (by rw [← hxs]; exact HM.out)
        have e : (⟨x.toArray⟩ : ByteArray) = S := by rw [hxs]; exact HS.out
        rw [e] at ck
        clear hxs HN HM
        go_wp2
        go_ret
        exact ⟨⟨_, rfl, by unfold IdxS; rw [HV.out]; exact (decide_eq_true (by omega)).symm⟩, rfl⟩
      · have hne : (S.toList == (⟨x.toArray⟩ : ByteArray).toList) = false := by
          rw [Bool.beq_comm]
          exact tx_ne (by rw [HS2.out]; exact hxs)
        have HN2 : Hid (∀ j, j < k + 1 → l.getD j [] ≠ s) := HN.out hxs
        clear hxs HN HM
        generalize (⟨x.toArray⟩ : ByteArray) = X at *
        go_wp2
        go_round
        case rel => exact ⟨k + 1, by omega, by go_num, HN2⟩
        case measure => simp [intOf]; omega
    · obtain rfl : k = l.length := by omega
      have HV : Hid (decide (s ∈ l) = false) := decide_eq_false (fun hm => by
        obtain ⟨j, hj, e⟩ := List.getElem_of_mem hm
        exact HJ.out j hj (by simp [List.getD, hj, e]))
      go_wp2
      go_ret
      exact ⟨⟨_, rfl, by unfold IdxS; rw [HV.out]; rfl⟩, rfl⟩

theorem lib_containsS (a : Option Addr) (g cap : Nat) (l : List (List UInt8)) (s : List UInt8) (hl : l.length ≤ 1000) (ha : 0 < l.length → a = some ⟨g, 0, none⟩) (w : World) (hc : ∀ j, j < l.length → w.cell? ⟨g, j, none⟩ = some (.string ⟨(l.getD j []).toArray⟩)) :
    Calls Tryz.prog 69 #[.slice a l.length cap, .string ⟨s.toArray⟩] w fun e w' => e = .returned (.bool (decide (s ∈ l))) ∧ w' = w := by
  have HI : Hid (Calls Tryz.prog 96 #[.slice a l.length cap, .string ⟨s.toArray⟩] w fun e w' => (∃ x : Int, e = .returned (.int .i64 x) ∧ IdxS l s x) ∧ w' = w) := lib_indexS a g cap l s hl ha w hc
  clear hc
  go_enter Tryz.func69, Tryz.ntmps69
  go_wp2_with fail
  refine HI.out.mono ?_
  rintro e w1 ⟨⟨x, rfl, hx⟩, rfl⟩
  have HX : Hid (decide (s ∈ l) = decide (x ≥ 0)) := hx
  clear hx
  go_wp2
  go_ret
  exact ⟨by rw [HX.out] <;> rfl, rfl⟩

set_option maxHeartbeats 1000000 in
set_option maxRecDepth 20000 in
theorem impl_names7 (n : Nat) (hn : n ≤ 300) (a5 : Option Addr) (g5 c5 : Nat) (fr : List (List UInt8)) (hf : fr.length ≤ 150) (ha : 0 < fr.length → a5 = some ⟨g5, 0, none⟩) (w : World) (hc : ∀ j, j < fr.length → w.cell? ⟨g5, j, none⟩ = some (.string ⟨(fr.getD j []).toArray⟩)) :
    Calls Tryz.prog 41 #[.int .i64 n, .slice a5 fr.length c5] w fun e w' => ∃ v, e = .returned v ∧ ownS w' w.heap.size v (nwL fr n) ∧ Below w.heap.size w w' := by
  have HC : Hid (∀ W : World, Below w.heap.size w W → ∀ j, j < fr.length → W.cell? ⟨g5, j, none⟩ = some (.string ⟨(fr.getD j []).toArray⟩)) := fun W hW j hj => (hW.cell (p := ⟨g5, j, none⟩) (nod_lt (hc j hj))).trans (hc j hj)
  obtain ⟨i0, hi, hz0, hz1, hz2⟩ := info_parts info_str
  clear hc
  go_enter Tryz.func41, Tryz.ntmps41
  go_wp2
  go_loopw [5, 6] (fun v kv wr => ∃ k : Nat, kv = .int .i64 k ∧ k ≤ 1000 ∧ Hid (ownS wr w.heap.size v (fkL fr k)) ∧ (fkL fr k).length ≤ n ∧ Below w.heap.size w wr) (fun _ kv _ => 1001 - (intOf kv).toNat)
  case atStart => exact ⟨0, rfl, by omega, ownS_nil, by simp [fkL], Below.refl _ _⟩
  case round =>
    obtain ⟨k, rfl, hk, HO, hle, hb⟩ := hrel
    have hs := hb.size
    obtain ⟨av, gv, cv, rfl, _, _⟩ := ownS_form HO.out
    have hcnt := fk_count (fr := fr) (show k ≤ 10000 by omega)
    by_cases hin : (fkL fr k).length < n
    · have hin' : ((fkL fr k).length : Int) < n := by omega
      go_wp2_with fail
      refine (impl_fresh k wr).mono ?_
      rintro e w1 ⟨rfl, b1⟩
      rw [frT_frN]
      have HO1 : Hid (ownS w1 w.heap.size (.slice av (fkL fr k).length cv) (fkL fr k)) := ownS_kept HO.out b1 (Nat.le_refl _)
      have B1 : Hid (Below w.heap.size w w1) := hb.trans (b1.mono hs)
      have s1 := B1.out.size
      clear b1 HO hb
      go_wp2_with fail
      refine (lib_containsS a5 g5 c5 fr (frN k) (by omega) ha w1 (HC.out w1 B1.out)).mono ?_
      rintro e w2 ⟨rfl, rfl⟩
      cases hfk : isF fr k with
      | true =>
        have hf' : decide (frN k ∈ fr) = true := hfk
        have HL2 : Hid (fkL fr (k + 1) = fkL fr k) := fkL_skip hfk
        rw [hf']
        have HM : Hid (ownS w2 w.heap.size (.slice av (fkL fr k).length cv) (fkL fr (k + 1)) ∧ (fkL fr (k + 1)).length ≤ n) := by
          show ownS _ _ _ _ ∧ _ ≤ _
          rw [HL2.out]
          exact ⟨HO1.out, hle⟩
        clear hfk hf' HL2
        go_wp2
        go_roundw
        case rel => exact ⟨k + 1, by go_num, by omega, HM.out.1, HM.out.2, B1.out⟩
        case measure => simp [intOf]; omega
      | false =>
        have hf' : decide (frN k ∈ fr) = false := hfk
        have HL2 : Hid (fkL fr (k + 1) = fkL fr k ++ [frN k]) := fkL_take hfk
        rw [hf']
        clear hfk hf'
        generalize hFk : fkL fr k = F at *
        clear hFk
        go_wp2_with (at_builtin; refine wpList_append_own _ rfl _ _ 35 rfl w.heap.size 9 i0 (.string ⟨#[]⟩) 1 16 Tryz.underlying35 hi hz0 hz1 hz2 rfl (by decide) _ _ _ rfl (HO1.out.alloc _) ⟨w2.heap.size, 0, none⟩ 1 1 [.string ⟨(frN k).toArray⟩] rfl rfl ?a1 ?a2 ?a3 ?a4 ?a5 ?_)
        case a1 => exact str_new
        case a2 => intro u hu; simp at hu; subst hu; rfl
        case a3 => unfold maxLen; omega
        case a4 => omega
        case a5 => simp; omega
        intro v' W3 hown' hgrow _
        have HM : Hid (ownS W3 w.heap.size v' (fkL fr (k + 1))) := by
          show ownS W3 w.heap.size v' _
          rw [HL2.out]
          exact ownS_next _ hown' rfl rfl
        have HB3 : Hid (Below w.heap.size w W3) := (B1.out.alloc s1 _).grown hgrow (by simp; omega) (fun q hq => (HO1.out.lt q hq).1)
        have HLE : Hid ((fkL fr (k + 1)).length ≤ n) := by show (fkL fr (k + 1)).length ≤ n; rw [HL2.out, List.length_append]; simp; omega
        clear hown' hgrow HO1 B1 HL2
        go_wp2
        go_roundw
        case rel => exact ⟨k + 1, by go_num, by omega, HM, HLE.out, HB3.out⟩
        case measure => simp [intOf]; omega
    · have HV : Hid (fkL fr k = nwL fr n) := nw_end (by omega) (by omega)
      have HF : Hid (ownS wr w.heap.size (.slice av (fkL fr k).length cv) (nwL fr n)) := by show ownS _ _ _ _; rw [← HV.out]; exact HO.out
      have hnin : ¬ ((fkL fr k).length : Int) < n := by omega
      clear HO
      go_wp2
      go_ret
      exact ⟨_, rfl, HF.out, hb⟩

theorem nod_made (m : Nat) : madeCells (Value.agg #[.int .i64 0, .int .i64 0, .int .i64 0, .int .i64 0, .int .i64 0, .string ⟨#[]⟩, .string ⟨#[]⟩]).cells (m * 7) = ((List.replicate m noNod).flatMap nodCells).toArray := by
  have hl : ((List.replicate m noNod).flatMap nodCells).length = m * 7 := by rw [nod_flat_length]; simp
  refine Array.ext (by simp [madeCells, hl]) (fun i h1 h2 => ?_)
  have hi : i < m * 7 := by simpa [madeCells] using h1
  have e : ((List.replicate m noNod).flatMap nodCells)[i / 7 * 7 + i % 7]? = (nodCells ((List.replicate m noNod).getD (i / 7) noNod))[i % 7]? := nod_flat_at _ (i / 7) (i % 7) (by simp; omega) (by omega)
  have e2 : i / 7 * 7 + i % 7 = i := by omega
  rw [e2] at e
  have e3 : (List.replicate m noNod).getD (i / 7) noNod = noNod := by simp [List.getD, show i / 7 < m by omega]
  rw [e3] at e
  have hm : i % 7 = 0 ∨ i % 7 = 1 ∨ i % 7 = 2 ∨ i % 7 = 3 ∨ i % 7 = 4 ∨ i % 7 = 5 ∨ i % 7 = 6 := by omega
  rcases hm with hm | hm | hm | hm | hm | hm | hm <;> rw [hm] at e <;> simp [madeCells, Value.cells, hm, nodCells, noNod] at e ⊢ <;> exact ((List.getElem?_eq_some_iff.1 e).2).symm

/-- A row of nodes, the first k of them set. -/
def cpMix (ts : List Nod) (k : Nat) : List Nod := ts.take k ++ List.replicate (ts.length - k) noNod

theorem cpMix_length (ts : List Nod) (k : Nat) (h : k ≤ ts.length) : (cpMix ts k).length = ts.length := by simp [cpMix]; omega

theorem cpMix_set (ts : List Nod) (k : Nat) (h : k < ts.length) : (cpMix ts k).set k (ts.getD k noNod) = cpMix ts (k + 1) := by
  unfold cpMix
  have e : ts.length - k = (ts.length - (k + 1)) + 1 := by omega
  have el : (ts.take k).length = k := by simp; omega
  rw [e, List.replicate_succ, List.set_append_right _ _ (by omega), el, Nat.sub_self, List.set_cons_zero]
  have e2 : ts.take (k + 1) = ts.take k ++ [ts.getD k noNod] := by
    rw [List.take_succ_eq_append_getElem h]
    simp [List.getD, h]
  rw [e2, List.append_assoc]
  rfl

theorem OwnM.node {w : World} {B g n cap : Nat} {l : List Nod} (h : OwnM w B g n cap l) (k : Nat) (hk : k < l.length) (t : Nod) :
    OwnM (((((((w.setCell ⟨g, k * 7, none⟩ (.int .i64 t.kind)).setCell ⟨g, k * 7 + 1, none⟩ (.int .i64 t.a)).setCell ⟨g, k * 7 + 2, none⟩ (.int .i64 t.b)).setCell ⟨g, k * 7 + 3, none⟩ (.int .i64 t.c)).setCell ⟨g, k * 7 + 4, none⟩ (.int .i64 t.n)).setCell ⟨g, k * 7 + 5, none⟩ (.string t.name)).setCell ⟨g, k * 7 + 6, none⟩ (.string t.other)) B g n cap (l.set k t) ∧
    w.grownBy (((((((w.setCell ⟨g, k * 7, none⟩ (.int .i64 t.kind)).setCell ⟨g, k * 7 + 1, none⟩ (.int .i64 t.a)).setCell ⟨g, k * 7 + 2, none⟩ (.int .i64 t.b)).setCell ⟨g, k * 7 + 3, none⟩ (.int .i64 t.c)).setCell ⟨g, k * 7 + 4, none⟩ (.int .i64 t.n)).setCell ⟨g, k * 7 + 5, none⟩ (.string t.name)).setCell ⟨g, k * 7 + 6, none⟩ (.string t.other)) (some g) := by
  obtain ⟨h0, g0⟩ := h.2.stored (k * 7) (.int .i64 t.kind)
  obtain ⟨h1, g1⟩ := h0.stored (k * 7 + 1) (.int .i64 t.a)
  obtain ⟨h2, g2⟩ := h1.stored (k * 7 + 2) (.int .i64 t.b)
  obtain ⟨h3, g3⟩ := h2.stored (k * 7 + 3) (.int .i64 t.c)
  obtain ⟨h4, g4⟩ := h3.stored (k * 7 + 4) (.int .i64 t.n)
  obtain ⟨h5, g5⟩ := h4.stored (k * 7 + 5) (.string t.name)
  obtain ⟨h6, g6⟩ := h5.stored (k * 7 + 6) (.string t.other)
  rw [nod_flat_set t l k hk] at h6
  exact ⟨⟨by rw [List.length_set]; exact h.1, h6⟩, grown_trans g0 (grown_trans g1 (grown_trans g2 (grown_trans g3 (grown_trans g4 (grown_trans g5 g6)))))⟩

set_option maxHeartbeats 4000000 in
set_option maxRecDepth 20000 in
theorem impl_copies (g cap : Nat) (ts : List Nod) (hl : ts.length ≤ 1048576)
    (hst : ∀ i, i < ts.length → (ts.getD i noNod).name.size ≤ 281474976710656 ∧ (ts.getD i noNod).other.size ≤ 281474976710656) (w : World) (hA : NodAt w g ts) :
    Calls Tryz.prog 36 #[.slice (some ⟨g, 0, none⟩) ts.length cap] w (CanEnd w ts) := by
  have HA : Hid (NodAt w g ts) := hA
  have HT : Hid (∀ i, i < ts.length → (ts.getD i noNod).name.size ≤ 281474976710656 ∧ (ts.getD i noNod).other.size ≤ 281474976710656) := hst
  clear hA hst
  obtain ⟨i0, hi, hz0, hz1, hz2⟩ := info_parts info_nod
  have hmk := run_make (P := Tryz.prog) w 24 38 i0 _ Tryz.underlying24 hi hz0 .i64 .i64 (ts.length : Int) (ts.length : Int) (by omega) (by omega) (by rw [hz2]; omega) (by omega)
  have ez : ((ts.length : Nat) : Int).toNat = ts.length := by omega
  rw [hz1, ez, nod_made] at hmk
  have hO0 : OwnM (w.alloc (.cells ((List.replicate ts.length noNod).flatMap nodCells).toArray 38)) w.heap.size w.heap.size ts.length ts.length (List.replicate ts.length noNod) := by
    refine ⟨by simp, ?_⟩
    have h := World.ownsRow_lit (base := w.heap.size) (e := 38) (size := 7) w ((List.replicate ts.length noNod).flatMap nodCells).toArray ts.length (Nat.le_refl _) (by unfold maxLen; omega) (by rw [List.size_toArray, nod_flat_length, List.length_replicate])
    simpa using h
  have HO0 : Hid (OwnM (w.alloc (.cells ((List.replicate ts.length noNod).flatMap nodCells).toArray 38)) w.heap.size w.heap.size ts.length ts.length (cpMix ts 0)) := by
    show OwnM _ _ _ _ _ _
    rw [cpMix, List.take_zero, List.nil_append, Nat.sub_zero]
    exact hO0
  have b0 : Below w.heap.size w (w.alloc (.cells ((List.replicate ts.length noNod).flatMap nodCells).toArray 38)) := (Below.refl _ w).alloc (Nat.le_refl _) _
  generalize w.alloc (.cells ((List.replicate ts.length noNod).flatMap nodCells).toArray 38) = wa at *
  have B0 : Hid (_) := b0
  clear hO0 ez hi hz0 hz1 hz2 b0
  go_enter Tryz.func36, Tryz.ntmps36
  go_wp2
  clear hmk
  go_loopw [11] (fun r wr => ∃ k : Nat, k ≤ ts.length ∧ r = .int .i64 k ∧ Hid (OwnM wr w.heap.size w.heap.size ts.length ts.length (cpMix ts k)) ∧ Hid (Below w.heap.size w wr)) (fun r _ => ts.length - (intOf r).toNat)
  case atStart => exact ⟨0, by omega, rfl, HO0, B0⟩
  case round =>
    obtain ⟨k, hk, rfl, HO, HB⟩ := hrel
    clear HO0 B0
    have hs := HB.out.size
    by_cases hin : k < ts.length
    · have hin' : (k : Int) < ts.length := by omega
      have t := (HA.out.below HB.out (fun h => HA.out.lt h)) k hin
      have hsz := HT.out k hin
      have HST : Hid ((cpMix ts k).set k (ts.getD k noNod) = cpMix ts (k + 1)) := cpMix_set ts k hin
      have hml := cpMix_length ts k hk
      obtain ⟨⟨x0, x1, x2, x3, x4, x5, x6⟩, hx⟩ : ∃ y, ts.getD k noNod = y := ⟨_, rfl⟩
      rw [hx] at t hsz HST
      have q0 : wr.cell? ⟨g, k * 7, none⟩ = some (.int .i64 x0) := t.c0
      have q1 : wr.cell? ⟨g, k * 7 + 1, none⟩ = some (.int .i64 x1) := t.c1
      have q2 : wr.cell? ⟨g, k * 7 + 2, none⟩ = some (.int .i64 x2) := t.c2
      have q3 : wr.cell? ⟨g, k * 7 + 3, none⟩ = some (.int .i64 x3) := t.c3
      have q4 : wr.cell? ⟨g, k * 7 + 4, none⟩ = some (.int .i64 x4) := t.c4
      have q5 : wr.cell? ⟨g, k * 7 + 5, none⟩ = some (.string x5) := t.c5
      have q6 : wr.cell? ⟨g, k * 7 + 6, none⟩ = some (.string x6) := t.c6
      have hgw : g < wr.heap.size := nod_lt q0
      have HCP : Hid (∀ W : World, Calls Tryz.prog 65 #[.agg #[.int .i64 x0, .int .i64 x1, .int .i64 x2, .int .i64 x3, .int .i64 x4, .string x5, .string x6]] W fun e w' => e = .returned (.agg #[.int .i64 x0, .int .i64 x1, .int .i64 x2, .int .i64 x3, .int .i64 x4, .string x5, .string x6]) ∧ Below W.heap.size W w') := fun W =>
        impl_copy ⟨x0, x1, x2, x3, x4, x5, x6⟩ hsz.1 hsz.2 W
      clear t hx hsz
      go_wp2_with fail
      refine (HCP.out _).mono ?_
      rintro e w2 ⟨rfl, b2⟩
      have HO2 : Hid (OwnM w2 w.heap.size w.heap.size ts.length ts.length (cpMix ts k)) := OwnM.below (HO.out.kept (World.grownBy_alloc wr _ none) (by simp)) b2
      have HB2 : Hid (Below w.heap.size w w2) := (HB.out.alloc hs _).trans (b2.mono (by simp; omega))
      have u := HO2.out.at k (by omega)
      have fz := fun j => HO2.out.frozen j
      generalize (cpMix ts k).getD k noNod = y at u
      obtain ⟨y0, y1, y2, y3, y4, y5, y6⟩ := y
      have r0 : w2.cell? ⟨w.heap.size, k * 7, none⟩ = some (.int .i64 y0) := u.c0
      have r1 : w2.cell? ⟨w.heap.size, k * 7 + 1, none⟩ = some (.int .i64 y1) := u.c1
      have r2 : w2.cell? ⟨w.heap.size, k * 7 + 2, none⟩ = some (.int .i64 y2) := u.c2
      have r3 : w2.cell? ⟨w.heap.size, k * 7 + 3, none⟩ = some (.int .i64 y3) := u.c3
      have r4 : w2.cell? ⟨w.heap.size, k * 7 + 4, none⟩ = some (.int .i64 y4) := u.c4
      have r5 : w2.cell? ⟨w.heap.size, k * 7 + 5, none⟩ = some (.string y5) := u.c5
      have r6 : w2.cell? ⟨w.heap.size, k * 7 + 6, none⟩ = some (.string y6) := u.c6
      obtain ⟨hO3, hG3⟩ := HO2.out.node k (by omega) ⟨x0, x1, x2, x3, x4, x5, x6⟩
      rw [HST.out] at hO3
      have HO3 : Hid (_) := hO3
      have HB3 : Hid (_) := HB2.out.grown hG3 HB2.out.size (fun j hj => by cases hj; exact Nat.le_refl _)
      clear hO3 hG3 u HO2 HB2 HO HB HST b2 q0 q1 q2 q3 q4 q5 q6 HCP
      go_wp2
      go_roundw
      case rel => exact ⟨k + 1, by omega, by go_num, HO3, HB3⟩
      case measure => simp [intOf]; omega
    · obtain rfl : k = ts.length := by omega
      have HE : Hid (OwnM wr w.heap.size w.heap.size ts.length ts.length ts) := by
        have := HO.out
        rw [cpMix, Nat.sub_self, List.replicate_zero, List.append_nil, List.take_length] at this
        exact this
      clear HO
      go_wp2
      go_ret
      exact ⟨w.heap.size, ts.length, rfl, HE.out, HB.out⟩
end

section
open Go.ChangeShapes Go.WideShapes Go.ChangeAt Go.RowKit Go.Sort

/-- All but two blocks are as they were. -/
structure Mov (m o : Nat) (w w' : World) : Prop where
  os : w'.os = w.os
  tape : w'.tape = w.tape
  output : w'.output = w.output
  size : w.heap.size ≤ w'.heap.size
  block : ∀ k, k < w.heap.size → k ≠ m → k ≠ o → w'.heap[k]? = w.heap[k]?

theorem Mov.refl (m o : Nat) (w : World) : Mov m o w w := ⟨rfl, rfl, rfl, Nat.le_refl _, fun _ _ _ _ => rfl⟩
theorem Mov.trans {m o : Nat} {a b c : World} (h : Mov m o a b) (h' : Mov m o b c) : Mov m o a c :=
  ⟨h'.os.trans h.os, h'.tape.trans h.tape, h'.output.trans h.output, Nat.le_trans h.size h'.size, fun k hk h1 h2 => (h'.block k (Nat.lt_of_lt_of_le hk h.size) h1 h2).trans (h.block k hk h1 h2)⟩
theorem Mov.of_below {m o : Nat} {a b : World} (h : Below a.heap.size a b) : Mov m o a b := ⟨h.os, h.tape, h.output, h.size, fun k hk _ _ => h.block k hk⟩
theorem Mov.of_grown {m o x : Nat} {a b : World} (h : a.grownBy b (some x)) (hx : x = m ∨ x = o) : Mov m o a b :=
  ⟨h.os, h.tape, h.output, h.size, fun k hk h1 h2 => h.block k hk (fun e => by injection e with e; rcases hx with hx | hx <;> omega)⟩
theorem Mov.drew {m o : Nat} {a b : World} (h : Mov m o a b) : Mov m o a b.drew := ⟨h.os, h.tape, h.output, h.size, h.block⟩
theorem Mov.cell {m o : Nat} {a b : World} (h : Mov m o a b) {p : Addr} {v : Value} (hc : a.cell? p = some v) (h1 : p.block ≠ m) (h2 : p.block ≠ o) : b.cell? p = some v :=
  (World.cell?_of_block (h.block p.block (World.block_lt_of_cell? a p hc) h1 h2)).trans hc
theorem Mov.below {m o B : Nat} {a b : World} (h : Mov m o a b) (hB : B ≤ a.heap.size) (h1 : B ≤ m) (h2 : B ≤ o) : Below B a b := ⟨h.os, h.tape, h.output, h.size, fun k hk => h.block k (by omega) (by omega) (by omega)⟩

/-- Where the parts of a namer lie. -/
structure NmP where
  rb : Nat
  mb : Nat
  go : Nat
  co : Nat
  g : Nat
  cap : Nat
  sa : Option Addr
  gs : Nat
  cs : Nat
  na : Option Addr
  gn : Nat
  cn : Nat

/-- What stands still in a namer. -/
structure NmW (P : NmP) (ts : List Nod) (bl : List Bnd) (nms : List (List UInt8)) (w : World) : Prop where
  row : w.heap[P.rb]? = some (.cells #[.slice (some ⟨P.g, 0, none⟩) ts.length P.cap, .slice P.sa bl.length P.cs, .slice P.na nms.length P.cn, .map (some P.mb), .slice (some ⟨P.go, 0, none⟩) ts.length P.co] 86 (0, 0))
  nodes : NodAt w P.g ts
  sites : BndAt w P.gs bl
  names : ∀ j, j < nms.length → w.cell? ⟨P.gn, j, none⟩ = some (.string ⟨(nms.getD j []).toArray⟩)

structure NmS (P : NmP) (ts : List Nod) (bl : List Bnd) (nms : List (List UInt8)) : Prop where
  rm : P.rb ≠ P.mb
  ro : P.rb ≠ P.go
  mo : P.mb ≠ P.go
  gm : P.g ≠ P.mb
  g1 : P.g ≠ P.go
  sm : 0 < bl.length → P.sa = some ⟨P.gs, 0, none⟩ ∧ P.gs ≠ P.mb ∧ P.gs ≠ P.go
  nm : 0 < nms.length → P.na = some ⟨P.gn, 0, none⟩ ∧ P.gn ≠ P.mb ∧ P.gn ≠ P.go
  len : nms.length = bl.length
  tl : ts.length ≤ 150
  bl3 : bl.length ≤ 300
  small : ∀ j, j < nms.length → (nms.getD j []).length ≤ 1000000

theorem NmW.mov {P : NmP} {ts : List Nod} {bl : List Bnd} {nms : List (List UInt8)} {w w' : World} (S : NmS P ts bl nms) (h : NmW P ts bl nms w) (hm : Mov P.mb P.go w w') : NmW P ts bl nms w' where
  row := (hm.block P.rb (Array.getElem?_eq_some_iff.1 h.row).1 S.rm S.ro).trans h.row
  nodes := fun i hi => by
    have t := h.nodes i hi
    exact ⟨hm.cell t.c0 S.gm S.g1, hm.cell t.c1 S.gm S.g1, hm.cell t.c2 S.gm S.g1, hm.cell t.c3 S.gm S.g1, hm.cell t.c4 S.gm S.g1, hm.cell t.c5 S.gm S.g1, hm.cell t.c6 S.gm S.g1⟩
  sites := fun i hi => by
    have t := h.sites i hi
    obtain ⟨_, h1, h2⟩ := S.sm (by omega)
    exact ⟨hm.cell t.c0 h1 h2, hm.cell t.c1 h1 h2⟩
  names := fun i hi => by
    obtain ⟨_, h1, h2⟩ := S.nm (by omega)
    exact hm.cell (h.names i hi) h1 h2

theorem nm_cells {w : World} {g : Nat} {v0 v1 v2 v3 v4 : Value} {t : TypeId} (h : w.heap[g]? = some (.cells #[v0, v1, v2, v3, v4] t (0, 0))) :
    w.cell? ⟨g, 0, none⟩ = some v0 ∧ w.cell? ⟨g, 1, none⟩ = some v1 ∧ w.cell? ⟨g, 2, none⟩ = some v2 ∧ w.cell? ⟨g, 3, none⟩ = some v3 ∧ w.cell? ⟨g, 4, none⟩ = some v4 := by
  refine ⟨?_, ?_, ?_, ?_, ?_⟩ <;> (rw [cell_of_row _ _ _ _ _ _ h]; rfl)

theorem ix_name : (Tryz.f34.name == "runtime.NumGoroutine") = false := by kernel_rfl
theorem ix_body : Tryz.f34.body.isNone = false := by kernel_rfl

section
variable {P : NmP} {ts : List Nod} {bl : List Bnd} {nms : List (List UInt8)}

set_option maxRecDepth 20000 in
theorem impl_siteOf (S : NmS P ts bl nms) (n r : Int) (w : World) (hW : NmW P ts bl nms w) :
    Calls Tryz.prog 109 #[.pointer (some ⟨P.rb, 0, none⟩), .agg #[.int .i64 n, .int .i64 r]] w fun e w' => e = .returned (.int .i64 (idxB bl n r 0)) ∧ Below w.heap.size w w' := by
  have HB : Hid (Below w.heap.size w (w.alloc (.cells #[.int .i64 n, .int .i64 r] 32))) := (Below.refl _ w).alloc (Nat.le_refl _) _
  have ra : (w.alloc (.cells #[.int .i64 n, .int .i64 r] 32)).heap[w.heap.size]? = some (.cells #[.int .i64 n, .int .i64 r] 32 (0, 0)) := (MapKept.heap_alloc w _).1
  obtain ⟨q0, q1, q2⟩ := row2_cells ra
  have hWa : NmW P ts bl nms (w.alloc (.cells #[.int .i64 n, .int .i64 r] 32)) := hW.mov S (Mov.of_below HB.out)
  obtain ⟨_, p1, _, _, _⟩ := nm_cells hWa.row
  obtain ⟨wa, hwa⟩ : ∃ wa, w.alloc (.cells #[.int .i64 n, .int .i64 r] 32) = wa := ⟨_, rfl⟩
  have HWA : Hid (w.alloc (.cells #[.int .i64 n, .int .i64 r] 32) = wa) := hwa
  rw [hwa] at HB q0 q1 hWa p1
  have cD : ∀ d os, Calls Tryz.prog 34 #[.slice P.sa bl.length P.cs, .agg #[.int .i64 n, .int .i64 r]] (grow (redrawn wa d) os) fun e w'' => e = .returned (.int .i64 (idxB bl n r 0)) ∧ ∃ q : Regrown, w'' = grow (redrawn wa q.d) q.os := fun d os =>
    Calls.regrown_of (lib_indexB P.sa P.gs P.cs bl n r (by have := S.bl3; omega) (fun h => (S.sm h).1) _ (hWa.mov S (Mov.of_below (below_regrown wa d os))).sites)
  have d0 := cell_regrown q0
  have d1 := cell_regrown q1
  have e1 := cell_regrown p1
  have HBD : Hid (∀ d os, Below w.heap.size w (grow (redrawn wa d) os)) := fun d os => HB.out.trans ((below_regrown wa d os).mono HB.out.size)
  clear hwa hW hWa ra q2 q0 q1 p1 HB
  generalize idxB bl n r 0 = X at *
  go_enter Tryz.func109, Tryz.ntmps109
  go_wp2
  rw [HWA.out]
  refine wp_region_quiet_below (by kernel_rfl) (by kernel_rfl) ?_
  repeat (go_big_quiet_step (exact cD _ _))
  refine wpQuiet_nil ?_
  intro _ hw'
  obtain ⟨⟨dq, osq⟩, hw''⟩ := hw'
  subst hw''
  have HBQ : Hid (_) := HBD.out dq osq
  clear cD d0 d1 e1 HBD
  generalize grow (redrawn wa dq) osq = wz at *
  go_wp2
  go_ret
  exact ⟨rfl, HBQ.out⟩
end
end

section
open Go.ChangeShapes Go.WideShapes Go.ChangeAt Go.RowKit Go.Sort

theorem bnd_role (t : Nod) (c : Int) : ∀ x ∈ bndL t c, ∃ r : Nat, r < rolK t.kind ∧ x.2 = r ∧ roleS t r = x.1 := by
  intro x hx
  unfold bndL at hx
  split at hx
  · rename_i h
    rw [List.mem_singleton] at hx
    exact ⟨0, by rw [h]; decide, by rw [hx]; rfl, by rw [hx]; rfl⟩
  · split at hx
    · rename_i h
      split at hx
      · rw [List.mem_singleton] at hx
        exact ⟨0, by rcases h with h | h <;> rw [h] <;> decide, by rw [hx]; rfl, by rw [hx]; rfl⟩
      · simp at hx
    · split at hx
      · rename_i h
        have hk : rolK t.kind = 2 := by rw [h]; decide
        split at hx
        · simp only [List.mem_cons, List.not_mem_nil, or_false] at hx
          rcases hx with hx | hx
          · exact ⟨1, by omega, by rw [hx]; rfl, by rw [hx]; rfl⟩
          · exact ⟨0, by omega, by rw [hx]; rfl, by rw [hx]; rfl⟩
        · rw [List.mem_singleton] at hx
          exact ⟨0, by omega, by rw [hx]; rfl, by rw [hx]; rfl⟩
      · split at hx
        · rename_i h
          have hk : rolK t.kind = 2 := by rw [h]; decide
          split at hx
          · simp only [List.mem_cons, List.not_mem_nil, or_false] at hx
            rcases hx with hx | hx
            · exact ⟨1, by omega, by rw [hx]; rfl, by rw [hx]; rfl⟩
            · exact ⟨0, by omega, by rw [hx]; rfl, by rw [hx]; rfl⟩
          · simp at hx
        · simp at hx

theorem lookR_mem (s : ByteArray) : ∀ (L : List (ByteArray × Int)) (r : Int), lookR s L = some r → (s, r) ∈ L
  | [], r, h => by simp [lookR] at h
  | (n, q) :: L, r, h => by
    rw [lookR] at h
    split at h
    · rename_i e
      injection h with h
      subst e
      subst h
      exact List.mem_cons_self
    · exact List.mem_cons_of_mem _ (lookR_mem s L r h)

/-- What binds a name is one of the sites, and has the name. -/
theorem scF_site {ts : List Nod} (hp : ∀ (m : Int), parP ts m = -1 ∨ ∃ p c : Nat, parP ts m = p ∧ p < ts.length ∧ m = c ∧ c < p ∧ hasI (kidL (ts.getD p noNod)) m = true) (s : ByteArray) : ∀ (f : Nat) (kid : Int), 0 ≤ (scF ts s f kid).1 → ∃ p r : Nat, scF ts s f kid = ((p : Int), (r : Int)) ∧ p < ts.length ∧ r < rolK (ts.getD p noNod).kind ∧ roleS (ts.getD p noNod) r = s
  | 0, kid, h => by simp [scF] at h
  | f + 1, kid, h => by
    rw [scF_step] at h ⊢
    rcases hp kid with e | ⟨p, c, e, h1, h2, h3, _⟩
    · rw [if_pos (by omega)] at h
      simp at h
    · rw [e, if_neg (by omega)] at h ⊢
      rw [show ((p : Nat) : Int).toNat = p by omega] at h ⊢
      cases hl : lookR s (bndL (ts.getD p noNod) kid) with
      | some r =>
        obtain ⟨q, h4, h5, h6⟩ := bnd_role _ _ _ (lookR_mem s _ r hl)
        have h5' : r = q := h5
        subst h5'
        exact ⟨p, q, rfl, h1, h4, h6⟩
      | none =>
        rw [hl] at h
        exact scF_site hp s f p h

theorem scB_site {ts : List Nod} (h : nodesB ts = true) (s : ByteArray) (i : Int) (h0 : 0 ≤ (scB ts i s).1) : ∃ (p r k : Nat), scB ts i s = ((p : Int), (r : Int)) ∧ p < ts.length ∧ r < rolK (ts.getD p noNod).kind ∧ roleS (ts.getD p noNod) r = s ∧ k < (siteF ts ts.length).length ∧ (siteF ts ts.length).getD k noBnd = ⟨p, r⟩ := by
  obtain ⟨_, _, _, hp, _⟩ := right_par h
  obtain ⟨p, r, e, h1, h2, h3⟩ := scF_site hp s ts.length i h0
  have hm := siteF_mem ts p r h2 ts.length h1
  obtain ⟨k, hk, e2⟩ := List.getElem_of_mem hm
  exact ⟨p, r, k, e, h1, h2, h3, hk, by simp [List.getD, hk, e2]⟩

abbrev ownMp (w : World) (mb n : Nat) (D : DataW Unit) : Prop := w.ownsMap Tryz.prog 9 (plainElem Tryz.prog 3) mb n D

def keyL (s : ByteArray) : Lit := .string s.data.toList

/-- The map tells of each name which site binds it. -/
def Rp (D : DataW Unit) (bl : List Bnd) (sc : ByteArray → Int × Int) : Prop := ∀ s : ByteArray, Maps.has D (keyL s) = decide (0 ≤ (sc s).1) ∧ (0 ≤ (sc s).1 → D.atKey (keyL s) (.lit (.int .i64 0)) = .lit (.int .i64 (idxB bl (sc s).1 (sc s).2 0)))

theorem map_law : Maps.Keyed Tryz.prog 9 := Maps.string_keyed Tryz.underlying9
theorem map_zero (w : World) : (zeroValue 3).run Tryz.prog w = .ok (.int .i64 0) w := by kernel_rfl

theorem map_look {w : World} {mb n : Nat} {D : DataW Unit} {bl : List Bnd} {sc : ByteArray → Int × Int} (h : ownMp w mb n D) (hR : Rp D bl sc) (s : ByteArray) (hs : s.size ≤ maxLen) :
    (0 ≤ (sc s).1 → (Instr.lookup 84 (.map (some mb)) (.string s) true).run Tryz.prog w = .ok (.tuple #[.int .i64 (idxB bl (sc s).1 (sc s).2 0), .bool true]) w) ∧
    (¬ 0 ≤ (sc s).1 → (Instr.lookup 84 (.map (some mb)) (.string s) true).run Tryz.prog w = .ok (.tuple #[.int .i64 0, .bool false]) w) := by
  obtain ⟨v, ps, hrun, hv⟩ := h.look_ok map_law Tryz.underlying84 (map_zero w) (plainElem_int Tryz.underlying3 (by decide)) (WideMaps.keyOf_string_mk Tryz.underlying9 hs)
  obtain ⟨h1, h2⟩ := hR s
  unfold keyL at h1 h2
  rw [hrun]
  refine ⟨fun h0 => ?_, fun h0 => ?_⟩
  · rw [h2 h0] at hv
    obtain ⟨c, rfl, hc, _⟩ := plainElem_int_inv Tryz.underlying3 hv
    have e : c = idxB bl (sc s).1 (sc s).2 0 := by
      have := congrArg Prod.fst hc
      simp at this
      exact this.symm
    rw [h1, decide_eq_true h0, e]
  · rw [Maps.atKey_of_not_has (by rw [h1, decide_eq_false h0])] at hv
    obtain ⟨c, rfl, hc, _⟩ := plainElem_int_inv Tryz.underlying3 hv
    have e : c = 0 := by
      have := congrArg Prod.fst hc
      simp at this
      exact this.symm
    rw [h1, decide_eq_false h0, e]

theorem cl_name : (Tryz.f75.name == "runtime.NumGoroutine") = false := by kernel_rfl
theorem cl_body : Tryz.f75.body.isNone = false := by kernel_rfl

section
variable {P : NmP} {ts : List Nod} {bl : List Bnd} {nms : List (List UInt8)}

theorem use_bound {i k : Nat} {l : List Nod} (hk1 : (ts.getD i noNod).kind = 1) (hd : bl.Nodup) (hli : l.getD i noNod = ts.getD i noNod) (hk : k < bl.length) (e : bl.getD k noBnd = ⟨(scB ts i (ts.getD i noNod).name).1, (scB ts i (ts.getD i noNod).name).2⟩) :
    putN l i 0 ⟨(nms.getD k []).toArray⟩ = l.set i (renN ts (sgF bl nms bl.length) i) := by
  have hb : binN ts i = bl.getD k noBnd := by rw [e]; exact if_pos hk1
  have hs := sg_at hd nms k hk bl.length hk (Nat.le_refl _)
  unfold putN renN
  rw [if_pos rfl, hli, if_pos hk1, if_pos hk1, hb, hs]
  rfl

theorem use_free {i : Nat} {l : List Nod} (hk1 : (ts.getD i noNod).kind = 1) (hli : l.getD i noNod = ts.getD i noNod) (hi : i < l.length) (hpos : ∀ j, j < bl.length → 0 ≤ (bl.getD j noBnd).node) (h0 : ¬ 0 ≤ (scB ts i (ts.getD i noNod).name).1) :
    l = l.set i (renN ts (sgF bl nms bl.length) i) := by
  have hb : binN ts i = ⟨(scB ts i (ts.getD i noNod).name).1, (scB ts i (ts.getD i noNod).name).2⟩ := if_pos hk1
  have hs : sgF bl nms bl.length (binN ts i).node (binN ts i).role = none := sg_none bl nms _ _ _ (fun j hj e => by
    have h1 := hpos j hj
    rw [e, hb] at h1
    exact h0 h1)
  have e : renN ts (sgF bl nms bl.length) i = l.getD i noNod := by
    unfold renN
    rw [if_pos hk1, if_pos hk1, hs, hli]
    rfl
  rw [e]
  refine nod_list_ext (by simp) fun j hj => ?_
  by_cases e2 : j = i
  · subst e2; simp [List.getD, hi]
  · simp only [List.getD]; rw [List.getElem?_set_ne (Ne.symm e2)]

/-- What naming a part of a program ends with. -/
def NmEnd (P : NmP) (B n : Nat) (D : DataW Unit) (w : World) (T : List Nod → Prop) (len : Nat) (e : Ending) (w' : World) : Prop :=
  e = .returned (.tuple #[]) ∧ ∃ l', OwnM w' B P.go len P.co l' ∧ ownMp w' P.mb n D ∧ Mov P.mb P.go w w' ∧ T l'

set_option maxHeartbeats 2000000 in
set_option maxRecDepth 20000 in
theorem impl_nameUse (S : NmS P ts bl nms) (hd : bl.Nodup) (hpos : ∀ j, j < bl.length → 0 ≤ (bl.getD j noBnd).node) (B n : Nat) (D : DataW Unit) (i : Nat) (l : List Nod) (w : World) (hW : NmW P ts bl nms w) (hM : ownMp w P.mb n D) (hR : Rp D bl (scB ts i)) (hO : OwnM w B P.go ts.length P.co l) (hi : i < ts.length)
    (hk1 : (ts.getD i noNod).kind = 1) (hli : l.getD i noNod = ts.getD i noNod) (hsz : (ts.getD i noNod).name.size ≤ 8) (hin : 0 ≤ (scB ts i (ts.getD i noNod).name).1 → ∃ k : Nat, k < bl.length ∧ bl.getD k noBnd = ⟨(scB ts i (ts.getD i noNod).name).1, (scB ts i (ts.getD i noNod).name).2⟩) :
    Calls Tryz.prog 89 #[.pointer (some ⟨P.rb, 0, none⟩), .int .i64 i] w (NmEnd P B n D w (fun l' => l' = l.set i (renN ts (sgF bl nms bl.length) i)) ts.length) := by
  have hl := hO.1
  have hil : i < l.length := by omega
  have hi' : (i : Int) < ts.length := by omega
  have hco := hO.cap_le
  have hlk : ∀ d os, (0 ≤ (scB ts i (ts.getD i noNod).name).1 → (Instr.lookup 84 (.map (some P.mb)) (.string (ts.getD i noNod).name) true).run Tryz.prog (grow (redrawn w d) os) = .ok (.tuple #[.int .i64 (idxB bl (scB ts i (ts.getD i noNod).name).1 (scB ts i (ts.getD i noNod).name).2 0), .bool true]) (grow (redrawn w d) os)) ∧
    (¬ 0 ≤ (scB ts i (ts.getD i noNod).name).1 → (Instr.lookup 84 (.map (some P.mb)) (.string (ts.getD i noNod).name) true).run Tryz.prog (grow (redrawn w d) os) = .ok (.tuple #[.int .i64 0, .bool false]) (grow (redrawn w d) os)) := fun d os =>
    map_look (hM.kept (grown_of_below (below_regrown w d os) none) (by simp)) hR _ (by unfold maxLen; omega)
  obtain ⟨p0, p1, p2, p3, p4⟩ := nm_cells hW.row
  have t := (hW.nodes i hi).c5
  have hWX : Hid (∀ W, Mov P.mb P.go w W → NmW P ts bl nms W) := fun W h => hW.mov S h
  have HMX : Hid (∀ W, Below w.heap.size w W → ownMp W P.mb n D) := fun W h => hM.kept (grown_of_below h none) (by simp)
  have HOX : Hid (∀ W, Below w.heap.size w W → OwnM W B P.go ts.length P.co l) := fun W h => hO.below h
  have HS : Hid (NmS P ts bl nms) := S
  by_cases h0 : 0 ≤ (scB ts i (ts.getD i noNod).name).1
  · obtain ⟨k, hk, ek⟩ := hin h0
    have eix : idxB bl (scB ts i (ts.getD i noNod).name).1 (scB ts i (ts.getD i noNod).name).2 0 = k := by
      rw [idxB_at _ _ bl 0 k hd hk ek]; omega
    have HV : Hid (putN l i 0 ⟨(nms.getD k []).toArray⟩ = l.set i (renN ts (sgF bl nms bl.length) i)) := use_bound hk1 hd hli hk ek
    have hlk1 : ∀ d os, (Instr.lookup 84 (.map (some P.mb)) (.string (ts.getD i noNod).name) true).run Tryz.prog (grow (redrawn w d) os) = .ok (.tuple #[.int .i64 k, .bool true]) (grow (redrawn w d) os) := fun d os => by rw [(hlk d os).1 h0, eix]
    have hkn : k < nms.length := by rw [S.len]; exact hk
    have hkn' : (k : Int) < nms.length := by omega
    obtain ⟨hna, _, _⟩ := S.nm (by omega)
    rw [hna] at p2
    have hsm := S.small k hkn
    have d0 := cell_regrown p0
    have d3 := cell_regrown p3
    have d5 := cell_regrown t
    clear hlk eix ek hin h0 p0 p1 p3 hna
    generalize (ts.getD i noNod).name = s at *
    go_enter Tryz.func89, Tryz.ntmps89
    go_wp2
    refine wp_region_quiet_below (by kernel_rfl) (by kernel_rfl) ?_
    repeat (go_big_quiet_step (fail))
    refine wpQuiet_nil ?_
    intro _ hw'
    obtain ⟨⟨dq, osq⟩, hw''⟩ := hw'
    subst hw''
    have HBQ : Hid (Below w.heap.size w (grow (redrawn w dq) osq)) := below_regrown w dq osq
    clear d0 d3 d5 hlk1 t p2 p4
    generalize grow (redrawn w dq) osq = wz at *
    have hWz := hWX.out wz (Mov.of_below HBQ.out)
    obtain ⟨_, _, z2, _, z4⟩ := nm_cells hWz.row
    rw [(HS.out.nm (by omega)).1] at z2
    have zk := hWz.names k hkn
    have HWz : Hid (NmW P ts bl nms wz) := hWz
    clear hWz
    obtain ⟨NM, hNM⟩ : ∃ NM : ByteArray, ⟨(nms.getD k []).toArray⟩ = NM := ⟨_, rfl⟩
    rw [hNM] at zk HV
    have hns : NM.size ≤ 281474976710656 := by
      rw [← hNM]
      show (nms.getD k []).toArray.size ≤ _
      rw [List.size_toArray]
      omega
    clear hNM
    have HCL : Hid (Calls Tryz.prog 75 #[.string NM] wz.drew fun e w' => e = .returned (.string NM) ∧ Below wz.drew.heap.size wz.drew w') := lib_clone NM hns wz.drew
    go_wp2
    go_region_law (refine step_call rfl 75 #[.tmp 34] #[9] rfl #[.string NM] (by simp [Act.eval]) Tryz.func75 cl_name cl_body _ HCL.out ?_; rintro e w2 ⟨rfl, b2⟩; have B2 : Hid (Below wz.heap.size wz w2) := (Below.refl _ wz).drew.trans b2; have hO2 := HOX.out w2 (HBQ.out.trans (B2.out.mono HBQ.out.size)); have u5 := (hO2.at i hil).c5; have f5 := hO2.frozen (i * 7 + 5); obtain ⟨_, _, _, _, y4⟩ := nm_cells (HWz.out.mov HS.out (Mov.of_below B2.out)).row; have xO : Hid (OwnM w2 B P.go ts.length P.co l) := hO2; clear b2 hO2; refine ⟨_, rfl, ?_⟩)
    all_goals
      have BW : Hid (Below w.heap.size w w2) := HBQ.out.trans (B2.out.mono HBQ.out.size)
      obtain ⟨hO3, hG3⟩ := xO.out.name i hil NM
      rw [HV.out] at hO3
      have HO3 : Hid (_) := hO3
      have HM3 : Hid (ownMp (w2.setCell ⟨P.go, i * 7 + 5, none⟩ (.string NM)) P.mb n D) := (HMX.out w2 BW.out).kept hG3 (by have := HS.out.mo; simp; omega)
      have HMV : Hid (Mov P.mb P.go w (w2.setCell ⟨P.go, i * 7 + 5, none⟩ (.string NM))) := (Mov.of_below BW.out).trans (Mov.of_grown hG3 (Or.inr rfl))
      clear hO3 hG3 xO
      go_wp2
      go_end0
      exact ⟨rfl, _, HO3.out, HM3.out, HMV.out, rfl⟩
  · have HV : Hid (l = l.set i (renN ts (sgF bl nms bl.length) i)) := use_free hk1 hli hil hpos h0
    have hlk1 : ∀ d os, (Instr.lookup 84 (.map (some P.mb)) (.string (ts.getD i noNod).name) true).run Tryz.prog (grow (redrawn w d) os) = .ok (.tuple #[.int .i64 0, .bool false]) (grow (redrawn w d) os) := fun d os => (hlk d os).2 h0
    have d0 := cell_regrown p0
    have d3 := cell_regrown p3
    have d5 := cell_regrown t
    clear hlk hin h0 p0 p1 p2 p3 p4
    generalize (ts.getD i noNod).name = s at *
    go_enter Tryz.func89, Tryz.ntmps89
    go_wp2
    refine wp_region_quiet_below (by kernel_rfl) (by kernel_rfl) ?_
    repeat (go_big_quiet_step (fail))
    refine wpQuiet_nil ?_
    intro _ hw'
    obtain ⟨⟨dq, osq⟩, hw''⟩ := hw'
    subst hw''
    have HBQ : Hid (Below w.heap.size w (grow (redrawn w dq) osq)) := below_regrown w dq osq
    clear d0 d3 d5 hlk1 t
    generalize grow (redrawn w dq) osq = wz at *
    go_wp2
    go_end0
    exact ⟨rfl, l, HOX.out wz HBQ.out, HMX.out wz HBQ.out, Mov.of_below HBQ.out, HV.out⟩

set_option maxHeartbeats 2000000 in
set_option maxRecDepth 20000 in
theorem impl_nameBinder (S : NmS P ts bl nms) (hd : bl.Nodup) (B n : Nat) (D : DataW Unit) (i k : Nat) (r : Int) (l : List Nod) (w : World) (hW : NmW P ts bl nms w) (hM : ownMp w P.mb n D) (hO : OwnM w B P.go ts.length P.co l) (hi : i < ts.length) (hr : r = 0 ∨ r = 1)
    (hk : k < bl.length) (ek : bl.getD k noBnd = ⟨i, r⟩) :
    Calls Tryz.prog 90 #[.pointer (some ⟨P.rb, 0, none⟩), .agg #[.int .i64 i, .int .i64 r]] w (NmEnd P B n D w (fun l' => l' = putN l i r ⟨(nms.getD k []).toArray⟩) ts.length) := by
  have hl := hO.1
  have hil : i < l.length := by omega
  have hi' : (i : Int) < ts.length := by omega
  have hco := hO.cap_le
  have hkn : k < nms.length := by rw [S.len]; exact hk
  have hkn' : (k : Int) < nms.length := by omega
  have hsm := S.small k hkn
  have eix : idxB bl i r 0 = k := by rw [idxB_at _ _ bl 0 k hd hk ek]; omega
  have HS : Hid (NmS P ts bl nms) := S
  have BA : Hid (Below w.heap.size w (w.alloc (.cells #[.int .i64 i, .int .i64 r] 32))) := (Below.refl _ w).alloc (Nat.le_refl _) _
  have ra : (w.alloc (.cells #[.int .i64 i, .int .i64 r] 32)).heap[w.heap.size]? = some (.cells #[.int .i64 i, .int .i64 r] 32 (0, 0)) := (MapKept.heap_alloc w _).1
  have HRA : Hid ((w.alloc (.cells #[.int .i64 i, .int .i64 r] 32)).heap[w.heap.size]? = some (.cells #[.int .i64 i, .int .i64 r] 32 (0, 0))) := ra
  obtain ⟨q0, q1, q2⟩ := row2_cells ra
  have hWa : NmW P ts bl nms (w.alloc (.cells #[.int .i64 i, .int .i64 r] 32)) := hW.mov S (Mov.of_below BA.out)
  have hsa : (w.alloc (.cells #[.int .i64 i, .int .i64 r] 32)).heap.size = w.heap.size + 1 := by simp
  have HSA : Hid (_) := hsa
  have HMX : Hid (∀ W, Below w.heap.size w W → ownMp W P.mb n D) := fun W h => hM.kept (grown_of_below h none) (by simp)
  have HOX : Hid (∀ W, Below w.heap.size w W → OwnM W B P.go ts.length P.co l) := fun W h => hO.below h
  have HWX : Hid (∀ W, Below w.heap.size w W → NmW P ts bl nms W) := fun W h => hW.mov S (Mov.of_below h)
  obtain ⟨wa, hwa⟩ : ∃ wa, w.alloc (.cells #[.int .i64 i, .int .i64 r] 32) = wa := ⟨_, rfl⟩
  have HWA : Hid (w.alloc (.cells #[.int .i64 i, .int .i64 r] 32) = wa) := hwa
  rw [hwa] at BA q0 q1 q2 hWa HRA HSA
  obtain ⟨p0, p1, p2, p3, p4⟩ := nm_cells hWa.row
  rw [(HS.out.nm (by omega)).1] at p2
  have zk := hWa.names k hkn
  obtain ⟨NM, hNM⟩ : ∃ NM : ByteArray, ⟨(nms.getD k []).toArray⟩ = NM := ⟨_, rfl⟩
  rw [hNM] at zk ⊢
  have hns : NM.size ≤ 281474976710656 := by
    rw [← hNM]
    show (nms.getD k []).toArray.size ≤ _
    rw [List.size_toArray]
    omega
  have cD1 : ∀ d os, Calls Tryz.prog 109 #[.pointer (some ⟨P.rb, 0, none⟩), .agg #[.int .i64 i, .int .i64 r]] (grow (redrawn wa d) os) fun e w'' => e = .returned (.int .i64 k) ∧ ∃ q : Regrown, w'' = grow (redrawn wa q.d) q.os := fun d os => by
    have := Calls.regrown_of (impl_siteOf S i r _ (hWa.mov S (Mov.of_below (below_regrown wa d os))))
    rw [eix] at this
    exact this
  have cD2 : ∀ d os, Calls Tryz.prog 75 #[.string NM] (grow (redrawn wa d) os) fun e w'' => e = .returned (.string NM) ∧ ∃ q : Regrown, w'' = grow (redrawn wa q.d) q.os := fun d os => Calls.regrown_of (lib_clone NM hns _)
  have d0 := cell_regrown q0
  have d1 := cell_regrown q1
  have e2 := cell_regrown p2
  have ez := cell_regrown zk
  have HBD : Hid (∀ d os, Below wa.heap.size wa (grow (redrawn wa d) os)) := fun d os => below_regrown wa d os
  clear hwa hW hWa ra q0 q1 q2 p0 p1 p2 p3 p4 zk hNM hns hM hO hsa
  rcases hr with rfl | rfl
  · go_enter Tryz.func90, Tryz.ntmps90
    go_wp2
    rw [HWA.out]
    refine wp_region_quiet_below (by kernel_rfl) (by kernel_rfl) ?_
    repeat (go_big_quiet_step (first | exact cD1 _ _ | exact cD2 _ _))
    refine wpQuiet_nil ?_
    intro _ hw'
    obtain ⟨⟨dq, osq⟩, hw''⟩ := hw'
    subst hw''
    have HBQ : Hid (Below wa.heap.size wa (grow (redrawn wa dq) osq)) := HBD.out dq osq
    clear d0 d1 e2 ez cD1 cD2 HBD
    generalize grow (redrawn wa dq) osq = wz at *
    obtain ⟨z0, z1, z2⟩ := row2_cells ((HBQ.out.block _ (by have := HSA.out; omega)).trans HRA.out)
    have HBZ : Hid (Below w.heap.size w wz) := BA.out.trans (HBQ.out.mono (by have := HSA.out; omega))
    obtain ⟨_, _, _, _, y4⟩ := nm_cells (HWX.out wz HBZ.out).row
    have HOZ : Hid (OwnM wz B P.go ts.length P.co l) := HOX.out wz HBZ.out
    have u5 := (HOZ.out.at i hil).c5
    have f5 := HOZ.out.frozen (i * 7 + 5)
    obtain ⟨hO3, hG3⟩ := HOZ.out.name i hil NM
    have HO3 : Hid (_) := hO3
    have HM3 : Hid (ownMp (wz.setCell ⟨P.go, i * 7 + 5, none⟩ (.string NM)) P.mb n D) := (HMX.out wz HBZ.out).kept hG3 (by have := HS.out.mo; simp; omega)
    have HMV : Hid (Mov P.mb P.go w (wz.setCell ⟨P.go, i * 7 + 5, none⟩ (.string NM))) := (Mov.of_below HBZ.out).trans (Mov.of_grown hG3 (Or.inr rfl))
    clear hO3 hG3
    go_wp2
    go_region
    all_goals
      go_wp2
      go_end0
      exact ⟨rfl, _, HO3.out, HM3.out, HMV.out.drew, rfl⟩
  · go_enter Tryz.func90, Tryz.ntmps90
    go_wp2
    rw [HWA.out]
    refine wp_region_quiet_below (by kernel_rfl) (by kernel_rfl) ?_
    repeat (go_big_quiet_step (first | exact cD1 _ _ | exact cD2 _ _))
    refine wpQuiet_nil ?_
    intro _ hw'
    obtain ⟨⟨dq, osq⟩, hw''⟩ := hw'
    subst hw''
    have HBQ : Hid (Below wa.heap.size wa (grow (redrawn wa dq) osq)) := HBD.out dq osq
    clear d0 d1 e2 ez cD1 cD2 HBD
    generalize grow (redrawn wa dq) osq = wz at *
    obtain ⟨z0, z1, z2⟩ := row2_cells ((HBQ.out.block _ (by have := HSA.out; omega)).trans HRA.out)
    have HBZ : Hid (Below w.heap.size w wz) := BA.out.trans (HBQ.out.mono (by have := HSA.out; omega))
    obtain ⟨_, _, _, _, y4⟩ := nm_cells (HWX.out wz HBZ.out).row
    have HOZ : Hid (OwnM wz B P.go ts.length P.co l) := HOX.out wz HBZ.out
    have u6 := (HOZ.out.at i hil).c6
    have f6 := HOZ.out.frozen (i * 7 + 6)
    obtain ⟨hO3, hG3⟩ := HOZ.out.other i hil NM
    have HO3 : Hid (_) := hO3
    have HM3 : Hid (ownMp (wz.setCell ⟨P.go, i * 7 + 6, none⟩ (.string NM)) P.mb n D) := (HMX.out wz HBZ.out).kept hG3 (by have := HS.out.mo; simp; omega)
    have HMV : Hid (Mov P.mb P.go w (wz.setCell ⟨P.go, i * 7 + 6, none⟩ (.string NM))) := (Mov.of_below HBZ.out).trans (Mov.of_grown hG3 (Or.inr rfl))
    clear hO3 hG3
    go_wp2
    go_region
    all_goals
      go_wp2
      go_end0
      exact ⟨rfl, _, HO3.out, HM3.out, HMV.out.drew, rfl⟩
end
end

section
open Go.ChangeShapes Go.WideShapes Go.ChangeAt Go.RowKit Go.Sort

/-- The scope in a kid, with so many roles of its parent. -/
def scX (t : Nod) (i : Nat) (sc : ByteArray → Int × Int) (q : Nat) (s : ByteArray) : Int × Int := match lookR s (rolL t q) with
  | some r => ((i : Int), r)
  | none => sc s

theorem scX_zero (t : Nod) (i : Nat) (sc : ByteArray → Int × Int) : scX t i sc 0 = sc := rfl

theorem scX_step (t : Nod) (i : Nat) (sc : ByteArray → Int × Int) (q : Nat) (hq : q < 2) : scX t i sc (q + 1) = fun s => if roleS t q = s then ((i : Int), (q : Int)) else scX t i sc q s := by
  funext s
  rcases (by omega : q = 0 ∨ q = 1) with rfl | rfl
  · simp only [scX, rolL, lookR, roleS]
    by_cases h : t.name = s
    · rw [if_pos h]; simp [h]
    · rw [if_neg h]; simp [h]
  · simp only [scX, rolL, lookR, roleS]
    by_cases h : t.other = s
    · rw [if_pos h]; simp [h]
    · rw [if_neg h]
      by_cases h2 : t.name = s
      · rw [if_pos h2]; simp [h]
      · rw [if_neg h2]; simp [h]

theorem keyL_ne {a b : ByteArray} (h : ¬ a = b) : keyL b ≠ keyL a := fun e => h (by
  unfold keyL at e
  injection e with e
  exact (data_ext e).symm)

theorem rp_put {D : DataW Unit} {bl : List Bnd} {sc : ByteArray → Int × Int} (h : Rp D bl sc) (hD : Maps.IsMap D) (nm : ByteArray) (p : Int × Int) (hp : 0 ≤ p.1) (x : Int) (hx : x = idxB bl p.1 p.2 0) :
    Rp (D.put (keyL nm) (.lit (.int .i64 x))) bl (fun s => if nm = s then p else sc s) := by
  intro s
  by_cases e : nm = s
  · subst e
    simp only [if_true]
    exact ⟨by rw [Maps.has_put_same hD (show WideAt.IsKeyLit (keyL nm) from trivial), decide_eq_true hp], fun _ => by rw [Maps.atKey_put_same hD (show WideAt.IsKeyLit (keyL nm) from trivial), hx]⟩
  · simp only [if_neg e]
    rw [Maps.has_put_other (keyL_ne e), Maps.atKey_put_other (keyL_ne e)]
    exact h s

theorem atKey_any {D : DataW Unit} {k : Lit} (h : Maps.has D k = true) (z z' : DataW Unit) : D.atKey k z = D.atKey k z' := by
  cases D with
  | map es =>
    rw [Maps.has_eq] at h
    cases hf : es.find? (fun p => p.1.sameKey k) with
    | some p => simp only [DataW.atKey, hf]
    | none =>
      exfalso
      rw [List.find?_eq_none] at hf
      obtain ⟨x, hx, hx2⟩ := List.any_eq_true.1 h
      exact hf x hx hx2
  | _ => simp [Maps.has] at h

theorem map_back {D : DataW Unit} {k : Lit} {d d' z0 : DataW Unit} (hc : Maps.Canon D) (hc' : Maps.Canon ((D.put k d').put k d)) (hk : WideAt.IsKeyLit k) (hh : Maps.has D k = true) (hat : D.atKey k z0 = d) : (D.put k d').put k d = D := by
  have hD : Maps.IsMap D := by obtain ⟨es, e, _⟩ := hc; exact ⟨es, e⟩
  refine Maps.ext hc' hc (fun k' => ?_) (fun k' z h => ?_)
  · by_cases e : k' = k
    · subst e
      rw [Maps.has_put_same (hD.put _ _) hk, hh]
    · rw [Maps.has_put_other e, Maps.has_put_other e]
  · by_cases e : k' = k
    · subst e
      rw [Maps.atKey_put_same (hD.put _ _) hk, atKey_any hh z z0, hat]
    · rw [Maps.atKey_put_other e, Maps.atKey_put_other e]

theorem map_gone {D : DataW Unit} {k : Lit} {d' : DataW Unit} (hc : Maps.Canon D) (hc' : Maps.Canon ((D.put k d').del k)) (hh : Maps.has D k = false) : (D.put k d').del k = D := by
  refine Maps.ext hc' hc (fun k' => ?_) (fun k' z h => ?_)
  · by_cases e : k' = k
    · subst e
      rw [Maps.has_del_same, hh]
    · rw [Maps.has_del_other e, Maps.has_put_other e]
  · by_cases e : k' = k
    · subst e
      rw [Maps.has_del_same] at h
      cases h
    · rw [Maps.atKey_del_other e, Maps.atKey_put_other e]

theorem map_tight {w : World} {mb n m : Nat} {D : DataW Unit} (h : ownMp w mb m D) (hs : Maps.size D ≤ n) : ownMp w mb n D := by
  obtain ⟨es, clock, hb, F, _, rfl⟩ := h
  refine ⟨es, clock, hb, F, ?_, rfl⟩
  simpa [Maps.size, length_sorted] using hs

/-- The nodes of a part are as they came; they are named otherwise, all else is as it was. -/
def PartS (ts : List Nod) (st : List Nat) (c : Nat) (l : List Nod) : Prop := ∀ j, st.getD c 0 ≤ j → j ≤ c → l.getD j noNod = ts.getD j noNod
def PartT (ts : List Nod) (sg : Int → Int → Option (List UInt8)) (st : List Nat) (c : Nat) (l l' : List Nod) : Prop :=
  (∀ j, st.getD c 0 ≤ j → j ≤ c → l'.getD j noNod = renN ts sg j) ∧ ∀ j, (j < st.getD c 0 ∨ c < j) → l'.getD j noNod = l.getD j noNod

theorem so_name : (Tryz.f109.name == "runtime.NumGoroutine") = false := by kernel_rfl
theorem so_body : Tryz.f109.body.isNone = false := by kernel_rfl

section
variable {P : NmP} {ts : List Nod} {bl : List Bnd} {nms : List (List UInt8)}

/-- What visiting a node does. -/
def VisC (P : NmP) (ts : List Nod) (bl : List Bnd) (nms : List (List UInt8)) (B : Nat) (st : List Nat) (c : Nat) : Prop :=
  ∀ (w : World) (l : List Nod) (n : Nat) (D : DataW Unit), NmW P ts bl nms w → ownMp w P.mb n D → Rp D bl (scB ts c) → OwnM w B P.go ts.length P.co l → PartS ts st c l → n + 4 * (c + 1) ≤ 100000 →
    Calls Tryz.prog 67 #[.pointer (some ⟨P.rb, 0, none⟩), .int .i64 c] w (NmEnd P B n D w (PartT ts (sgF bl nms bl.length) st c l) ts.length)

def KidC (P : NmP) (ts : List Nod) (bl : List Bnd) (nms : List (List UInt8)) (B : Nat) (st : List Nat) (i k c q : Nat) : Prop :=
  ∀ (w : World) (l : List Nod) (n : Nat) (D : DataW Unit), NmW P ts bl nms w → ownMp w P.mb n D → Rp D bl (scX (ts.getD i noNod) i (scB ts i) q) → OwnM w B P.go ts.length P.co l → PartS ts st c l → n + (2 - q) + 4 * (c + 1) ≤ 100000 →
    Calls Tryz.prog 92 #[.pointer (some ⟨P.rb, 0, none⟩), .int .i64 i, .int .i64 k, .int .i64 q] w (NmEnd P B n D w (PartT ts (sgF bl nms bl.length) st c l) ts.length)

theorem kid_end (S : NmS P ts bl nms) (B : Nat) (st : List Nat) (i k c : Nat) (hi : i < ts.length) (hk : k < (kidL (ts.getD i noNod)).length) (hc : (kidL (ts.getD i noNod)).getD k 0 = c) (hV : VisC P ts bl nms B st c)
    (hscope : ∀ s, scB ts c s = scX (ts.getD i noNod) i (scB ts i) (rolN (ts.getD i noNod).kind k) s) : KidC P ts bl nms B st i k c (rolN (ts.getD i noNod).kind k) := by
  intro w l n D hW hM hR hO hS hn
  have HR : Hid (Rp D bl (scB ts c)) := by
    show Rp D bl (scB ts c)
    have e : scB ts c = scX (ts.getD i noNod) i (scB ts i) (rolN (ts.getD i noNod).kind k) := funext hscope
    rw [e]; exact hR
  have HV : Hid (VisC P ts bl nms B st c) := hV
  have HS : Hid (NmS P ts bl nms) := S
  have HPS : Hid (PartS ts st c l) := hS
  have hi' : (i : Int) < ts.length := by omega
  have hk3 : k < 3 := by
    have := kidL_length (ts.getD i noNod)
    have := arN_le (ts.getD i noNod).kind
    omega
  have t := hW.nodes i hi
  have HKC : Hid (∀ (W : World) (g : Nat) (e : TypeId), W.heap[g]? = some (.cells #[.int .i64 (ts.getD i noNod).a, .int .i64 (ts.getD i noNod).b, .int .i64 (ts.getD i noNod).c] e (0, 0)) → W.cell? ⟨g, k, none⟩ = some (.int .i64 c)) := fun W g e h => by
    rw [kid_cell h k hk, hc]
  have hkar : (k : Int) < arN (ts.getD i noNod).kind := by
    have := kidL_length (ts.getD i noNod)
    omega
  have har3 := arN_le (ts.getD i noNod).kind
  have HRN : Hid (∀ W, Calls Tryz.prog 112 #[.int .i64 (ts.getD i noNod).kind, .int .i64 k] W fun e w' => e = .returned (.int .i64 (rolN (ts.getD i noNod).kind k : Nat)) ∧ w' = W) := fun W => impl_rolesInKid _ k hk3 W
  have hrn := rolN_le (ts.getD i noNod).kind k
  have HWX : Hid (∀ W, Below w.heap.size w W → NmW P ts bl nms W) := fun W h => hW.mov S (Mov.of_below h)
  have HMX : Hid (∀ W, Below w.heap.size w W → ownMp W P.mb n D) := fun W h => hM.kept (grown_of_below h none) (by simp)
  have HOX : Hid (∀ W, Below w.heap.size w W → OwnM W B P.go ts.length P.co l) := fun W h => hO.below h
  obtain ⟨p0, p1, p2, p3, p4⟩ := nm_cells hW.row
  clear hscope hR hV hS hW hM hO hc
  generalize hq : rolN (ts.getD i noNod).kind k = q at *
  obtain ⟨⟨x0, x1, x2, x3, x4, x5, x6⟩, hx⟩ : ∃ y, ts.getD i noNod = y := ⟨_, rfl⟩
  rw [hx] at t HKC hkar har3 HRN
  have c0 : w.cell? ⟨P.g, i * 7, none⟩ = some (.int .i64 x0) := t.c0
  have c1 : w.cell? ⟨P.g, i * 7 + 1, none⟩ = some (.int .i64 x1) := t.c1
  have c2 : w.cell? ⟨P.g, i * 7 + 2, none⟩ = some (.int .i64 x2) := t.c2
  have c3 : w.cell? ⟨P.g, i * 7 + 3, none⟩ = some (.int .i64 x3) := t.c3
  have c4 : w.cell? ⟨P.g, i * 7 + 4, none⟩ = some (.int .i64 x4) := t.c4
  have c5 : w.cell? ⟨P.g, i * 7 + 5, none⟩ = some (.string x5) := t.c5
  have c6 : w.cell? ⟨P.g, i * 7 + 6, none⟩ = some (.string x6) := t.c6
  have ra : (w.alloc (.cells #[.int .i64 x0, .int .i64 x1, .int .i64 x2, .int .i64 x3, .int .i64 x4, .string x5, .string x6] 38)).heap[w.heap.size]? = some (.cells #[.int .i64 x0, .int .i64 x1, .int .i64 x2, .int .i64 x3, .int .i64 x4, .string x5, .string x6] 38 (0, 0)) := (MapKept.heap_alloc w _).1
  obtain ⟨b0, b1, b2, b3, b4, b5, b6⟩ := cells7v ra
  have BA : Hid (Below w.heap.size w (w.alloc (.cells #[.int .i64 x0, .int .i64 x1, .int .i64 x2, .int .i64 x3, .int .i64 x4, .string x5, .string x6] 38))) := (Below.refl _ w).alloc (Nat.le_refl _) _
  obtain ⟨wa, hwa⟩ : ∃ wa, w.alloc (.cells #[.int .i64 x0, .int .i64 x1, .int .i64 x2, .int .i64 x3, .int .i64 x4, .string x5, .string x6] 38) = wa := ⟨_, rfl⟩
  have HWA : Hid (w.alloc (.cells #[.int .i64 x0, .int .i64 x1, .int .i64 x2, .int .i64 x3, .int .i64 x4, .string x5, .string x6] 38) = wa) := hwa
  rw [hwa] at b0 b1 b2 b3 b4 b5 b6 BA
  have har0 : (0 : Int) ≤ (arN x0 : Int) := by omega
  have har3' : (arN x0 : Int) ≤ 3 := by have := arN_le x0; omega
  clear hwa ra t hx hq
  simp only at HRN HKC hkar har3
  go_enter Tryz.func92, Tryz.ntmps92
  go_wp2_with fail
  rw [HWA.out]
  refine (HRN.out wa).mono ?_
  rintro e w1 ⟨rfl, rfl⟩
  go_wp2_with fail
  refine (impl_kids x0 x1 x2 x3 x4 x5 x6 w1).mono ?_
  rintro e w2 ⟨rfl, hr2, bl2⟩
  have ck := HKC.out w2 (w1.heap.size + 3) _ hr2
  have HB2 : Hid (Below w.heap.size w w2) := BA.out.trans (bl2.mono BA.out.size)
  have hl2 : w1.heap.size + 3 < w2.heap.size := (Array.getElem?_eq_some_iff.1 hr2).1
  clear hr2 bl2 p0 p1 p2 p3 p4 c0 c1 c2 c3 c4 c5 c6 b0 b1 b2 b3 b4 b5 b6
  go_wp2_with fail
  refine (HV.out w2 l n D (HWX.out w2 HB2.out) (HMX.out w2 HB2.out) HR.out (HOX.out w2 HB2.out) HPS.out (by omega)).mono ?_
  rintro e w3 ⟨rfl, l', hO', hM', hMv, hT⟩
  have HE : Hid (OwnM w3 B P.go ts.length P.co l' ∧ ownMp w3 P.mb n D ∧ Mov P.mb P.go w w3 ∧ PartT ts (sgF bl nms bl.length) st c l l') := ⟨hO', hM', (Mov.of_below HB2.out).trans hMv, hT⟩
  clear hO' hM' hMv hT
  go_wp2
  go_end0
  exact ⟨rfl, l', HE.out⟩

set_option maxHeartbeats 4000000 in
set_option maxRecDepth 20000 in
theorem kid_step (S : NmS P ts bl nms) (hd : bl.Nodup) (B : Nat) (st : List Nat) (i k c q kx : Nat) (hi : i < ts.length) (hk3 : k < 3) (hq : q < rolN (ts.getD i noNod).kind k) (hsz : (ts.getD i noNod).name.size ≤ 8 ∧ (ts.getD i noNod).other.size ≤ 8)
    (hkx : kx < bl.length) (ekx : bl.getD kx noBnd = ⟨i, q⟩) (hN : KidC P ts bl nms B st i k c (q + 1)) : KidC P ts bl nms B st i k c q := by
  intro w l n D hW hM hR hO hS hn
  have hq2 : q < 2 := by have := rolN_le (ts.getD i noNod).kind k; omega
  have hqr : (q : Int) < rolN (ts.getD i noNod).kind k := by omega
  have HN : Hid (KidC P ts bl nms B st i k c (q + 1)) := hN
  have HS : Hid (NmS P ts bl nms) := S
  have HPS : Hid (PartS ts st c l) := hS
  have hi' : (i : Int) < ts.length := by omega
  have t := hW.nodes i hi
  have eix : idxB bl i q 0 = kx := by rw [idxB_at _ _ bl 0 kx hd hkx ekx]; omega
  have hIM := hM.isMap
  have hCN : Maps.Canon D := hM.canon map_law
  have HCN : Hid (Maps.Canon D) := hCN
  have HSZ : Hid (Maps.size D ≤ n) := hM.size_le
  have hR2 : ∀ nm, nm = roleS (ts.getD i noNod) q → Rp (D.put (keyL nm) (.lit (.int .i64 kx))) bl (scX (ts.getD i noNod) i (scB ts i) (q + 1)) := fun nm hnm => by
    rw [scX_step _ _ _ q hq2, ← hnm]
    exact rp_put hR hIM nm ((i : Int), (q : Int)) (by simp) kx eix.symm
  have HR2 : Hid (∀ nm, nm = roleS (ts.getD i noNod) q → Rp (D.put (keyL nm) (.lit (.int .i64 kx))) bl (scX (ts.getD i noNod) i (scB ts i) (q + 1))) := hR2
  have HRR : Hid (Rp D bl (scX (ts.getD i noNod) i (scB ts i) q)) := hR
  have hns : (roleS (ts.getD i noNod) q).size ≤ 8 := by
    unfold roleS
    split
    · exact hsz.2
    · exact hsz.1
  have HRN : Hid (∀ W, Calls Tryz.prog 112 #[.int .i64 (ts.getD i noNod).kind, .int .i64 k] W fun e w' => e = .returned (.int .i64 (rolN (ts.getD i noNod).kind k : Nat)) ∧ w' = W) := fun W => impl_rolesInKid _ k hk3 W
  have HWX : Hid (∀ W, Mov P.mb P.go w W → NmW P ts bl nms W) := fun W h => hW.mov S h
  have HMX : Hid (∀ W, Below w.heap.size w W → ownMp W P.mb n D) := fun W h => hM.kept (grown_of_below h none) (by simp)
  have HOX : Hid (∀ W, Below w.heap.size w W → OwnM W B P.go ts.length P.co l) := fun W h => hO.below h
  have HLT : Hid (P.mb < w.heap.size ∧ P.go < w.heap.size) := ⟨hM.lt, hO.ge.2⟩
  obtain ⟨p0, p1, p2, p3, p4⟩ := nm_cells hW.row
  obtain ⟨ro, hro⟩ : ∃ ro, rolN (ts.getD i noNod).kind k = ro := ⟨_, rfl⟩
  obtain ⟨NM, hNM⟩ : ∃ NM, roleS (ts.getD i noNod) q = NM := ⟨_, rfl⟩
  have HNM : Hid (roleS (ts.getD i noNod) q = NM) := hNM
  rw [hro] at hqr HRN
  rw [hNM] at hns
  obtain ⟨⟨x0, x1, x2, x3, x4, x5, x6⟩, hx⟩ : ∃ y, ts.getD i noNod = y := ⟨_, rfl⟩
  have HNR : Hid (∀ W, Calls Tryz.prog 66 #[.agg #[.int .i64 x0, .int .i64 x1, .int .i64 x2, .int .i64 x3, .int .i64 x4, .string x5, .string x6], .int .i64 q] W fun e w' => e = .returned (.string NM) ∧ Below W.heap.size W w') := fun W => by
    rw [← hNM, hx]
    exact impl_nameOfRole x0 x1 x2 x3 x4 x5 x6 q W
  rw [hx] at t HRN
  have c0 : w.cell? ⟨P.g, i * 7, none⟩ = some (.int .i64 x0) := t.c0
  have c1 : w.cell? ⟨P.g, i * 7 + 1, none⟩ = some (.int .i64 x1) := t.c1
  have c2 : w.cell? ⟨P.g, i * 7 + 2, none⟩ = some (.int .i64 x2) := t.c2
  have c3 : w.cell? ⟨P.g, i * 7 + 3, none⟩ = some (.int .i64 x3) := t.c3
  have c4 : w.cell? ⟨P.g, i * 7 + 4, none⟩ = some (.int .i64 x4) := t.c4
  have c5 : w.cell? ⟨P.g, i * 7 + 5, none⟩ = some (.string x5) := t.c5
  have c6 : w.cell? ⟨P.g, i * 7 + 6, none⟩ = some (.string x6) := t.c6
  have ra : (w.alloc (.cells #[.int .i64 x0, .int .i64 x1, .int .i64 x2, .int .i64 x3, .int .i64 x4, .string x5, .string x6] 38)).heap[w.heap.size]? = some (.cells #[.int .i64 x0, .int .i64 x1, .int .i64 x2, .int .i64 x3, .int .i64 x4, .string x5, .string x6] 38 (0, 0)) := (MapKept.heap_alloc w _).1
  obtain ⟨b0, b1, b2, b3, b4, b5, b6⟩ := cells7v ra
  have BA : Hid (Below w.heap.size w (w.alloc (.cells #[.int .i64 x0, .int .i64 x1, .int .i64 x2, .int .i64 x3, .int .i64 x4, .string x5, .string x6] 38))) := (Below.refl _ w).alloc (Nat.le_refl _) _
  obtain ⟨wa, hwa⟩ : ∃ wa, w.alloc (.cells #[.int .i64 x0, .int .i64 x1, .int .i64 x2, .int .i64 x3, .int .i64 x4, .string x5, .string x6] 38) = wa := ⟨_, rfl⟩
  have HWA : Hid (w.alloc (.cells #[.int .i64 x0, .int .i64 x1, .int .i64 x2, .int .i64 x3, .int .i64 x4, .string x5, .string x6] 38) = wa) := hwa
  rw [hwa] at b0 b1 b2 b3 b4 b5 b6 BA
  have HSO : Hid (∀ W, Mov P.mb P.go w W → Calls Tryz.prog 109 #[.pointer (some ⟨P.rb, 0, none⟩), .agg #[.int .i64 i, .int .i64 q]] W fun e w' => e = .returned (.int .i64 kx) ∧ Below W.heap.size W w') := fun W h => by
    have := impl_siteOf S i q W (hW.mov S h)
    rw [eix] at this
    exact this
  clear hwa ra t hx hro hNM hR hR2 hS hW hM hO hN hIM hCN eix
  simp only at HRN
  go_enter Tryz.func92, Tryz.ntmps92
  go_wp2_with fail
  rw [HWA.out]
  refine (HRN.out wa).mono ?_
  rintro e w1 ⟨rfl, rfl⟩
  go_wp2_with fail
  refine (HNR.out w1).mono ?_
  rintro e w2 ⟨rfl, bl2⟩
  have HB2 : Hid (Below w.heap.size w w2) := BA.out.trans (bl2.mono BA.out.size)
  obtain ⟨_, _, _, z3, _⟩ := nm_cells (HWX.out w2 (Mov.of_below HB2.out)).row
  have HM2 : Hid (ownMp w2 P.mb n D) := HMX.out w2 HB2.out
  have HO2 : Hid (OwnM w2 B P.go ts.length P.co l) := HOX.out w2 HB2.out
  obtain ⟨hl1, hl2⟩ := map_look HM2.out HRR.out NM (by unfold maxLen; omega)
  have hkey : keyOf Tryz.prog 9 (.string NM) = some (keyL NM) := WideMaps.keyOf_string_mk Tryz.underlying9 (by unfold maxLen; omega)
  have HKY : Hid (keyOf Tryz.prog 9 (.string NM) = some (keyL NM)) := hkey
  have HSO2 : Hid (Calls Tryz.prog 109 #[.pointer (some ⟨P.rb, 0, none⟩), .agg #[.int .i64 i, .int .i64 q]] w2.drew fun e w' => e = .returned (.int .i64 kx) ∧ Below w2.drew.heap.size w2.drew w') := HSO.out w2.drew (Mov.of_below HB2.out).drew
  have HWF : Hid ((Lit.int .i64 (kx : Int)).wf = true) := WalkArith.wf_i64 (by have := HS.out.bl3; omega)
  clear bl2 hkey p0 p1 p2 p3 p4 c0 c1 c2 c3 c4 c5 c6 b0 b1 b2 b3 b4 b5 b6 HSO HRN HNR
  by_cases h0 : 0 ≤ (scX (ts.getD i noNod) i (scB ts i) q NM).1
  · obtain ⟨hh, hat⟩ := HRR.out NM
    have hat := hat h0
    rw [decide_eq_true h0] at hh
    have hlk := hl1 h0
    obtain ⟨old, hold⟩ : ∃ old, idxB bl (scX (ts.getD i noNod) i (scB ts i) q NM).1 (scX (ts.getD i noNod) i (scB ts i) q NM).2 0 = old := ⟨_, rfl⟩
    rw [hold] at hlk hat
    have HHH : Hid (Maps.has D (keyL NM) = true) := hh
    have HAT : Hid (D.atKey (keyL NM) (.lit (.int .i64 0)) = .lit (.int .i64 old)) := hat
    have hor : -1 ≤ old ∧ old ≤ 300 := by
      have := HS.out.bl3
      rcases idxB_range (scX (ts.getD i noNod) i (scB ts i) q NM).1 (scX (ts.getD i noNod) i (scB ts i) q NM).2 bl 0 with e | ⟨j, hj, _, e⟩ <;> omega
    have HWO : Hid ((Lit.int .i64 old).wf = true) := WalkArith.wf_i64 (by omega)
    clear hl1 hl2 h0 hh hat hold
    go_wp2
    go_region_law (refine step_call rfl 109 #[.tmp 49, .tmp 52] #[104, 32] rfl #[.pointer (some ⟨P.rb, 0, none⟩), .agg #[.int .i64 i, .int .i64 q]] (by first | (simp [Act.eval]; done) | simp [Act.eval, Act.put]) Tryz.func109 so_name so_body _ HSO2.out ?_; rintro e w3 ⟨rfl, b3⟩; have HB3 : Hid (Below w.heap.size w w3) := HB2.out.trans ((Below.refl _ w2).drew.trans b3 |>.mono HB2.out.size); have HM3 : Hid (ownMp w3 P.mb n D) := HMX.out w3 HB3.out; obtain ⟨_, _, _, y3, _⟩ := nm_cells (HWX.out w3 (Mov.of_below HB3.out)).row; obtain ⟨w4, hrun4, hM4, hG4⟩ := HM3.out.update map_law Tryz.underlying84 (by unfold maxLen; omega) HKY.out (plainElem_int Tryz.underlying3 HWF.out); have HM4 : Hid (ownMp w4 P.mb (n + 1) (D.put (keyL NM) (.lit (.int .i64 kx)))) := hM4; have HMV4 : Hid (Mov P.mb P.go w w4) := (Mov.of_below HB3.out).trans (Mov.of_grown hG4 (Or.inl rfl)); have HO4 : Hid (OwnM w4 B P.go ts.length P.co l) := (HOX.out w3 HB3.out).kept hG4 (by have := HS.out.mo; simp; omega); clear b3 hM4 hG4; refine ⟨_, rfl, ?_⟩)
    all_goals
      go_wp2_with fail
      refine (HN.out w4 l (n + 1) _ (HWX.out w4 HMV4.out) HM4.out (HR2.out NM HNM.out.symm) HO4.out HPS.out (by omega)).mono ?_
      rintro e w5 ⟨rfl, l', hO5, hM5, hMv5, hT5⟩
      have HO5 : Hid (OwnM w5 B P.go ts.length P.co l') := hO5
      have HM5 : Hid (ownMp w5 P.mb (n + 1) (D.put (keyL NM) (.lit (.int .i64 kx)))) := hM5
      have HMV5 : Hid (Mov P.mb P.go w w5) := HMV4.out.trans hMv5
      have HT5 : Hid (PartT ts (sgF bl nms bl.length) st c l l') := hT5
      obtain ⟨_, _, _, y5, _⟩ := nm_cells (HWX.out w5 HMV5.out).row
      clear hO5 hM5 hMv5 hT5
      go_wp2_with (at_mapUpdate; refine wpList_mapUpdate_own _ rfl _ _ _ 84 rfl 9 3 map_law Tryz.underlying84 _ P.mb (n + 1) _ rfl HM5.out (by unfold maxLen; omega) _ _ _ rfl rfl HKY.out (.lit (.int .i64 old)) [] (plainElem_int Tryz.underlying3 HWO.out) ?_)
      intro w6 hM6 hG6
      have HM6 : Hid (ownMp w6 P.mb n D) := by
        have e := map_back HCN.out (hM6.canon map_law) (show WideAt.IsKeyLit (keyL NM) from trivial) HHH.out HAT.out
        rw [e] at hM6
        exact map_tight hM6 HSZ.out
      have HO6 : Hid (OwnM w6 B P.go ts.length P.co l') := HO5.out.kept hG6 (by have := HS.out.mo; simp; omega)
      have HMV6 : Hid (Mov P.mb P.go w w6) := HMV5.out.trans (Mov.of_grown hG6 (Or.inl rfl))
      clear hM6 hG6
      go_wp2
      go_end0
      exact ⟨rfl, l', HO6.out, HM6.out, HMV6.out, HT5.out⟩
  · obtain ⟨hh, _⟩ := HRR.out NM
    rw [decide_eq_false h0] at hh
    have hlk := hl2 h0
    have HHH : Hid (Maps.has D (keyL NM) = false) := hh
    clear hl1 hl2 h0 hh
    go_wp2
    go_region_law (refine step_call rfl 109 #[.tmp 49, .tmp 52] #[104, 32] rfl #[.pointer (some ⟨P.rb, 0, none⟩), .agg #[.int .i64 i, .int .i64 q]] (by first | (simp [Act.eval]; done) | simp [Act.eval, Act.put]) Tryz.func109 so_name so_body _ HSO2.out ?_; rintro e w3 ⟨rfl, b3⟩; have HB3 : Hid (Below w.heap.size w w3) := HB2.out.trans ((Below.refl _ w2).drew.trans b3 |>.mono HB2.out.size); have HM3 : Hid (ownMp w3 P.mb n D) := HMX.out w3 HB3.out; obtain ⟨_, _, _, y3, _⟩ := nm_cells (HWX.out w3 (Mov.of_below HB3.out)).row; obtain ⟨w4, hrun4, hM4, hG4⟩ := HM3.out.update map_law Tryz.underlying84 (by unfold maxLen; omega) HKY.out (plainElem_int Tryz.underlying3 HWF.out); have HM4 : Hid (ownMp w4 P.mb (n + 1) (D.put (keyL NM) (.lit (.int .i64 kx)))) := hM4; have HMV4 : Hid (Mov P.mb P.go w w4) := (Mov.of_below HB3.out).trans (Mov.of_grown hG4 (Or.inl rfl)); have HO4 : Hid (OwnM w4 B P.go ts.length P.co l) := (HOX.out w3 HB3.out).kept hG4 (by have := HS.out.mo; simp; omega); clear b3 hM4 hG4; refine ⟨_, rfl, ?_⟩)
    all_goals
      go_wp2_with fail
      refine (HN.out w4 l (n + 1) _ (HWX.out w4 HMV4.out) HM4.out (HR2.out NM HNM.out.symm) HO4.out HPS.out (by omega)).mono ?_
      rintro e w5 ⟨rfl, l', hO5, hM5, hMv5, hT5⟩
      have HO5 : Hid (OwnM w5 B P.go ts.length P.co l') := hO5
      have HM5 : Hid (ownMp w5 P.mb (n + 1) (D.put (keyL NM) (.lit (.int .i64 kx)))) := hM5
      have HMV5 : Hid (Mov P.mb P.go w w5) := HMV4.out.trans hMv5
      have HT5 : Hid (PartT ts (sgF bl nms bl.length) st c l l') := hT5
      obtain ⟨_, _, _, y5, _⟩ := nm_cells (HWX.out w5 HMV5.out).row
      clear hO5 hM5 hMv5 hT5
      go_wp2_with (at_delete; refine wpList_delete_own _ rfl _ _ 84 9 rfl 3 map_law Tryz.underlying84 _ P.mb (n + 1) _ rfl HM5.out _ _ rfl HKY.out ?_)
      intro w6 hM6 hturn
      have hG6 := hturn.grown
      have HM6 : Hid (ownMp w6 P.mb n D) := by
        have e := map_gone HCN.out (hM6.canon map_law) HHH.out
        rw [e] at hM6
        exact map_tight hM6 HSZ.out
      have HO6 : Hid (OwnM w6 B P.go ts.length P.co l') := HO5.out.kept hG6 (by have := HS.out.mo; simp; omega)
      have HMV6 : Hid (Mov P.mb P.go w w6) := HMV5.out.trans (Mov.of_grown hG6 (Or.inl rfl))
      clear hM6 hG6 hturn
      go_wp2
      go_end0
      exact ⟨rfl, l', HO6.out, HM6.out, HMV6.out, HT5.out⟩
end
end

section
open Go.ChangeShapes Go.WideShapes Go.ChangeAt Go.RowKit Go.Sort

theorem hidI {p : Prop} (h : p) : Hid p := h

theorem rolN_rolK (kind : Int) (k : Nat) : rolN kind k ≤ rolK kind := by
  unfold rolN
  have hg : ∀ (l : List Nat) (b : Nat), (∀ x ∈ l, x ≤ b) → l.getD k 0 ≤ b := fun l b h => by
    simp only [List.getD]
    cases e : l[k]? with
    | none => simp
    | some y => exact h y (List.mem_of_getElem? e)
  by_cases h3 : kind = 3
  · rw [if_pos h3, h3]
    exact hg _ _ (by decide)
  rw [if_neg h3]
  by_cases h5 : kind = 5 ∨ kind = 19
  · rw [if_pos h5]
    rcases h5 with h5 | h5 <;> rw [h5] <;> exact hg _ _ (by decide)
  rw [if_neg h5]
  by_cases h6 : kind = 6
  · rw [if_pos h6, h6]
    exact hg _ _ (by decide)
  rw [if_neg h6]
  by_cases h14 : kind = 14
  · rw [if_pos h14, h14]
    exact hg _ _ (by decide)
  rw [if_neg h14]
  omega

/-- Where the kids of a node lie. -/
theorem kid_bounds {ts : List Nod} {st : List Nat} (h : Right ts st) {i : Nat} (hi : i < ts.length) : ∃ cs : Nat → Nat,
    (∀ m, m < (kidL (ts.getD i noNod)).length → (kidL (ts.getD i noNod)).getD m 0 = (cs m : Int) ∧ cs m < i ∧ st.getD (cs m) 0 = (if m = 0 then st.getD i 0 else cs (m - 1) + 1) ∧ st.getD (cs m) 0 ≤ cs m) ∧
    ((kidL (ts.getD i noNod)).length = 0 → st.getD i 0 = i) ∧ (0 < (kidL (ts.getD i noNod)).length → cs ((kidL (ts.getD i noNod)).length - 1) + 1 = i) := by
  obtain ⟨hF, h0, k0, k1, k2, k3⟩ := h.2 i hi
  have hs : ∀ c, c < i → st.getD c 0 ≤ c := fun c hc => (h.2 c (by omega)).2.1
  rcases (by have := arN_le (ts.getD i noNod).kind; omega : arN (ts.getD i noNod).kind = 0 ∨ arN (ts.getD i noNod).kind = 1 ∨ arN (ts.getD i noNod).kind = 2 ∨ arN (ts.getD i noNod).kind = 3) with e | e | e | e
  · rw [kidL_0 e]
    exact ⟨fun _ => 0, fun m hm => absurd hm (by simp), fun _ => k0 e, fun h => absurd h (by simp)⟩
  · obtain ⟨a, ha, g1, g2⟩ := k1 e
    rw [kidL_1 e, ha]
    refine ⟨fun _ => a, fun m hm => ?_, fun h => absurd h (by simp), fun _ => g1⟩
    obtain rfl : m = 0 := by simp at hm; omega
    exact ⟨rfl, show a < i by omega, g2, hs a (by omega)⟩
  · obtain ⟨a, b, ha, hb, g1, g2, g3⟩ := k2 e
    have q1 := hs b (by omega)
    rw [kidL_2 e, ha, hb]
    refine ⟨fun m => if m = 0 then a else b, fun m hm => ?_, fun h => absurd h (by simp), fun _ => g1⟩
    rcases (by simp at hm; omega : m = 0 ∨ m = 1) with rfl | rfl
    · exact ⟨rfl, show a < i by omega, g3, hs a (by omega)⟩
    · exact ⟨rfl, show b < i by omega, g2.symm, q1⟩
  · obtain ⟨a, b, c, ha, hb, hc, g1, g2, g3, g4⟩ := k3 e
    have q1 := hs c (by omega)
    have q2 := hs b (by omega)
    rw [kidL_3 e, ha, hb, hc]
    refine ⟨fun m => if m = 0 then a else if m = 1 then b else c, fun m hm => ?_, fun h => absurd h (by simp), fun _ => g1⟩
    rcases (by simp at hm; omega : m = 0 ∨ m = 1 ∨ m = 2) with rfl | rfl | rfl
    · exact ⟨rfl, show a < i by omega, g4, hs a (by omega)⟩
    · exact ⟨rfl, show b < i by omega, g3.symm, q2⟩
    · exact ⟨rfl, show c < i by omega, g2.symm, q1⟩

theorem site_ix {ts : List Nod} {p r : Nat} (hp : p < ts.length) (hr : r < rolK (ts.getD p noNod).kind) : ∃ k, k < (siteF ts ts.length).length ∧ (siteF ts ts.length).getD k noBnd = ⟨p, r⟩ := by
  have hm := siteF_mem ts p r hr ts.length hp
  obtain ⟨k, hk, e⟩ := List.getElem_of_mem hm
  exact ⟨k, hk, by simp [List.getD, hk, e]⟩

theorem not_site {ts : List Nod} (nms : List (List UInt8)) (i q : Nat) (h : ¬ q < rolK (ts.getD i noNod).kind) : sgF (siteF ts ts.length) nms (siteF ts ts.length).length i q = none :=
  sg_none _ nms _ _ _ (fun j hj e => by
    obtain ⟨p, r, e2, _, hr⟩ := site_at ts j hj
    rw [e2] at e
    injection e with e3 e4
    have e5 : p = i := by omega
    have e6 : r = q := by omega
    rw [e5, e6] at hr
    exact h hr)

/-- A node whose first q names are given. -/
def binM (t : Nod) (sg : Int → Int → Option (List UInt8)) (i q : Nat) : Nod :=
  { t with name := if 0 < q then nmO (sg i 0) t.name else t.name, other := if 1 < q then nmO (sg i 1) t.other else t.other }

theorem binM_step (l : List Nod) (t : Nod) (sg : Int → Int → Option (List UInt8)) (i q : Nat) (x : List UInt8) (hi : i < l.length) (hq : q < 2) (hs : sg i q = some x) :
    putN (l.set i (binM t sg i q)) i q ⟨x.toArray⟩ = l.set i (binM t sg i (q + 1)) := by
  have e : (l.set i (binM t sg i q)).getD i noNod = binM t sg i q := by simp [List.getD, hi]
  unfold putN
  rw [e, List.set_set]
  congr 1
  rcases (by omega : q = 0 ∨ q = 1) with rfl | rfl
  · rw [if_pos (by rfl)]
    have hs' : sg i 0 = some x := hs
    simp [binM, hs', nmO]
  · rw [if_neg (by decide)]
    have hs' : sg i 1 = some x := hs
    simp [binM, hs', nmO]

theorem binM_end {ts : List Nod} (nms : List (List UInt8)) (i : Nat) (hk : ¬ (ts.getD i noNod).kind = 1) : binM (ts.getD i noNod) (sgF (siteF ts ts.length) nms (siteF ts ts.length).length) i (rolK (ts.getD i noNod).kind) = renN ts (sgF (siteF ts ts.length) nms (siteF ts ts.length).length) i := by
  have hr := rolK_le (ts.getD i noNod).kind
  unfold binM renN
  rw [if_neg hk, if_neg hk]
  have h0 : ¬ 0 < rolK (ts.getD i noNod).kind → sgF (siteF ts ts.length) nms (siteF ts ts.length).length i 0 = none := fun h => not_site nms i 0 h
  have h1 : ¬ 1 < rolK (ts.getD i noNod).kind → sgF (siteF ts ts.length) nms (siteF ts ts.length).length i 1 = none := fun h => not_site nms i 1 h
  by_cases q0 : 0 < rolK (ts.getD i noNod).kind
  · by_cases q1 : 1 < rolK (ts.getD i noNod).kind
    · rw [if_pos q0, if_pos q1]
    · rw [if_pos q0, if_neg q1, h1 q1]; rfl
  · rw [if_neg q0, if_neg (by omega), h0 q0, h1 (by omega)]; rfl

/-- Behind so many kids. -/
def kbF (cs : Nat → Nat) (s m : Nat) : Nat := if m = 0 then s else cs (m - 1) + 1

def LoopT (ts : List Nod) (sg : Int → Int → Option (List UInt8)) (s i e : Nat) (l l' : List Nod) : Prop :=
  (∀ j, s ≤ j → j < e → l'.getD j noNod = renN ts sg j) ∧ l'.getD i noNod = renN ts sg i ∧ ∀ j, (j < s ∨ e ≤ j) → j ≠ i → l'.getD j noNod = l.getD j noNod

section
variable {P : NmP} {ts : List Nod} {nms : List (List UInt8)}

theorem kids_all (S : NmS P ts (siteF ts ts.length) nms) (hok : nodesB ts = true) (B : Nat) (st : List Nat) (hR : Right ts st) (i m c : Nat) (hi : i < ts.length) (hm : m < (kidL (ts.getD i noNod)).length) (hc : (kidL (ts.getD i noNod)).getD m 0 = c)
    (hV : VisC P ts (siteF ts ts.length) nms B st c) : ∀ d q, q + d = rolN (ts.getD i noNod).kind m → KidC P ts (siteF ts ts.length) nms B st i m c q
  | 0, q, h => by
    have e : q = rolN (ts.getD i noNod).kind m := by omega
    rw [e]
    exact kid_end S B st i m c hi hm hc hV (fun s => scB_kid hok hR hi hm hc s)
  | d + 1, q, h => by
    have h1 := rolN_rolK (ts.getD i noNod).kind m
    have h3 : m < 3 := by
      have := kidL_length (ts.getD i noNod)
      have := arN_le (ts.getD i noNod).kind
      omega
    obtain ⟨kx, hkx, ekx⟩ := site_ix (r := q) hi (by omega)
    exact kid_step S (site_nodup ts _) B st i m c q kx hi h3 (by omega) (name_small hok i hi) hkx ekx (kids_all S hok B st hR i m c hi hm hc hV d (q + 1) (by omega))

set_option maxHeartbeats 4000000 in
set_option maxRecDepth 20000 in
theorem vis_step (S : NmS P ts (siteF ts ts.length) nms) (hok : nodesB ts = true) (B : Nat) (st : List Nat) (hR : Right ts st) (i : Nat) (hi : i < ts.length) (hV : ∀ c, c < i → VisC P ts (siteF ts ts.length) nms B st c) : VisC P ts (siteF ts ts.length) nms B st i := by
  intro w l n D hW hM hRp hO hPS hn
  have HS : Hid (NmS P ts (siteF ts ts.length) nms) := S
  have hi' : (i : Int) < ts.length := by omega
  have t := hW.nodes i hi
  have hl := hO.1
  have hil : i < l.length := by omega
  have hPS0 : st.getD i 0 ≤ i := (hR.2 i hi).2.1
  have hli : l.getD i noNod = ts.getD i noNod := hPS i hPS0 (Nat.le_refl _)
  have HWX : Hid (∀ W, Mov P.mb P.go w W → NmW P ts (siteF ts ts.length) nms W) := fun W h => hW.mov S h
  have HMX : Hid (∀ W, Below w.heap.size w W → ownMp W P.mb n D) := fun W h => hM.kept (grown_of_below h none) (by simp)
  have HOX : Hid (∀ W, Below w.heap.size w W → OwnM W B P.go ts.length P.co l) := fun W h => hO.below h
  have HLT : Hid (P.mb < w.heap.size ∧ P.go < w.heap.size) := ⟨hM.lt, hO.ge.2⟩
  have HRp : Hid (Rp D (siteF ts ts.length) (scB ts i)) := hRp
  have HPS : Hid (PartS ts st i l) := hPS
  obtain ⟨p0, p1, p2, p3, p4⟩ := nm_cells hW.row
  have HK1 : Hid ((ts.getD i noNod).kind = 1 → ∀ (W : World), NmW P ts (siteF ts ts.length) nms W → ownMp W P.mb n D → OwnM W B P.go ts.length P.co l → Calls Tryz.prog 89 #[.pointer (some ⟨P.rb, 0, none⟩), .int .i64 i] W (NmEnd P B n D W (fun l' => l' = l.set i (renN ts (sgF (siteF ts ts.length) nms (siteF ts ts.length).length) i)) ts.length)) := fun hk W h1 h2 h3 =>
    impl_nameUse S (site_nodup ts _) (fun j hj => by obtain ⟨p, r, e, _, _⟩ := site_at ts j hj; rw [e]; simp) B n D i l W h1 h2 hRp h3 hi hk hli (name_small hok i hi).1 (fun h0 => by
      obtain ⟨p, r, k, e, _, _, _, hk, e2⟩ := scB_site hok _ _ h0
      exact ⟨k, hk, by rw [e2, e]⟩)
  have HST1 : Hid ((ts.getD i noNod).kind = 1 → st.getD i 0 = i) := fun hk => (hR.2 i hi).2.2.1 (by rw [hk]; rfl)
  obtain ⟨cs, hcs, hcs0, hcs1⟩ := kid_bounds hR hi
  have HCS : Hid (∀ m, m < (kidL (ts.getD i noNod)).length → (kidL (ts.getD i noNod)).getD m 0 = (cs m : Int) ∧ cs m < i ∧ st.getD (cs m) 0 = kbF cs (st.getD i 0) m ∧ st.getD (cs m) 0 ≤ cs m) := hcs
  have HKE : Hid (kbF cs (st.getD i 0) (kidL (ts.getD i noNod)).length = i) := by
    show kbF cs _ _ = i
    unfold kbF
    split
    · rename_i h; exact hcs0 h
    · exact hcs1 (by omega)
  have HKC : Hid (∀ m, m < (kidL (ts.getD i noNod)).length → KidC P ts (siteF ts ts.length) nms B st i m (cs m) 0) := fun m hm => by
    obtain ⟨e, h1, _, _⟩ := hcs m hm
    exact kids_all S hok B st hR i m (cs m) hi hm e (hV _ h1) (rolN (ts.getD i noNod).kind m) 0 (by omega)
  have HIX : Hid (∀ q : Nat, q < rolK (ts.getD i noNod).kind → ∃ k, k < (siteF ts ts.length).length ∧ (siteF ts ts.length).getD k noBnd = ⟨i, q⟩) := fun q hq => site_ix hi hq
  have HND : Hid ((siteF ts ts.length).Nodup) := site_nodup ts _
  have HBE : Hid (¬ (ts.getD i noNod).kind = 1 → binM (ts.getD i noNod) (sgF (siteF ts ts.length) nms (siteF ts ts.length).length) i (rolK (ts.getD i noNod).kind) = renN ts (sgF (siteF ts ts.length) nms (siteF ts ts.length).length) i) := binM_end nms i
  have HB0 : Hid (l.set i (binM (ts.getD i noNod) (sgF (siteF ts ts.length) nms (siteF ts ts.length).length) i 0) = l) := by
    show l.set i _ = l
    have e : binM (ts.getD i noNod) (sgF (siteF ts ts.length) nms (siteF ts ts.length).length) i 0 = l.getD i noNod := by rw [hli]; rfl
    rw [e]
    refine nod_list_ext (by simp) fun j hj => ?_
    by_cases e2 : j = i
    · subst e2; simp [List.getD, hil]
    · simp only [List.getD]; rw [List.getElem?_set_ne (Ne.symm e2)]
  have hkl : (kidL (ts.getD i noNod)).length = arN (ts.getD i noNod).kind := kidL_length _
  have hal := arN_le (ts.getD i noNod).kind
  have hrk := rolK_le (ts.getD i noNod).kind
  clear hcs hcs0 hcs1 hW hM hRp hO hPS hV hR hok hli
  generalize siteF ts ts.length = bl at *
  obtain ⟨⟨x0, x1, x2, x3, x4, x5, x6⟩, hx⟩ : ∃ y, ts.getD i noNod = y := ⟨_, rfl⟩
  rw [hx] at t
  have HX : Hid (ts.getD i noNod = ⟨x0, x1, x2, x3, x4, x5, x6⟩) := hx
  have hkl' : (kidL (ts.getD i noNod)).length = arN x0 := by rw [hkl, hx]
  have c0 : w.cell? ⟨P.g, i * 7, none⟩ = some (.int .i64 x0) := t.c0
  have c1 : w.cell? ⟨P.g, i * 7 + 1, none⟩ = some (.int .i64 x1) := t.c1
  have c2 : w.cell? ⟨P.g, i * 7 + 2, none⟩ = some (.int .i64 x2) := t.c2
  have c3 : w.cell? ⟨P.g, i * 7 + 3, none⟩ = some (.int .i64 x3) := t.c3
  have c4 : w.cell? ⟨P.g, i * 7 + 4, none⟩ = some (.int .i64 x4) := t.c4
  have c5 : w.cell? ⟨P.g, i * 7 + 5, none⟩ = some (.string x5) := t.c5
  have c6 : w.cell? ⟨P.g, i * 7 + 6, none⟩ = some (.string x6) := t.c6
  have ra : (w.alloc (.cells #[.int .i64 x0, .int .i64 x1, .int .i64 x2, .int .i64 x3, .int .i64 x4, .string x5, .string x6] 38)).heap[w.heap.size]? = some (.cells #[.int .i64 x0, .int .i64 x1, .int .i64 x2, .int .i64 x3, .int .i64 x4, .string x5, .string x6] 38 (0, 0)) := (MapKept.heap_alloc w _).1
  have HRA : Hid (_) := ra
  obtain ⟨b0, b1, b2, b3, b4, b5, b6⟩ := cells7v ra
  have BA : Hid (Below w.heap.size w (w.alloc (.cells #[.int .i64 x0, .int .i64 x1, .int .i64 x2, .int .i64 x3, .int .i64 x4, .string x5, .string x6] 38))) := (Below.refl _ w).alloc (Nat.le_refl _) _
  have hsa : (w.alloc (.cells #[.int .i64 x0, .int .i64 x1, .int .i64 x2, .int .i64 x3, .int .i64 x4, .string x5, .string x6] 38)).heap.size = w.heap.size + 1 := by simp
  have HSA : Hid (_) := hsa
  by_cases hk1 : x0 = 1
  · subst hk1
    have HT : Hid (∀ l', l' = l.set i (renN ts (sgF bl nms bl.length) i) → PartT ts (sgF bl nms bl.length) st i l l') := by
      rintro l' rfl
      have h0 := HST1.out (by rw [hx])
      refine ⟨fun j h1 h2 => ?_, fun j h1 => ?_⟩
      · have : j = i := by omega
        subst this
        simp [List.getD, hil]
      · have : j ≠ i := by omega
        simp only [List.getD]; rw [List.getElem?_set_ne (Ne.symm this)]
    have HC1 := hidI <| HK1.out (by rw [hx]) _ (HWX.out _ (Mov.of_below BA.out)) (HMX.out _ BA.out) (HOX.out _ BA.out)
    clear t hx ra hsa hkl hkl'
    go_enter Tryz.func67, Tryz.ntmps67
    go_wp2_with fail
    refine HC1.out.mono ?_
    rintro e w2 ⟨rfl, l', hO', hM', hMv, hl'⟩
    have HE : Hid (OwnM w2 B P.go ts.length P.co l' ∧ ownMp w2 P.mb n D ∧ Mov P.mb P.go w w2 ∧ PartT ts (sgF bl nms bl.length) st i l l') := ⟨hO', hM', (Mov.of_below BA.out).trans hMv, HT.out l' hl'⟩
    clear hO' hM' hMv hl'
    go_wp2
    go_end0
    exact ⟨rfl, l', HE.out⟩
  · have HBE2 : Hid (binM (ts.getD i noNod) (sgF bl nms bl.length) i (rolK (ts.getD i noNod).kind) = renN ts (sgF bl nms bl.length) i) := HBE.out (by rw [hx]; exact hk1)
    have HRO : Hid (∀ W, Calls Tryz.prog 64 #[.int .i64 x0] W fun e w' => e = .returned (.int .i64 (rolK x0 : Nat)) ∧ w' = W) := fun W => impl_roles x0 W
    have hrx : rolK (ts.getD i noNod).kind = rolK x0 := by rw [hx]
    rw [hrx] at HBE2 HIX hrk
    obtain ⟨wa, hwa⟩ : ∃ wa, w.alloc (.cells #[.int .i64 x0, .int .i64 x1, .int .i64 x2, .int .i64 x3, .int .i64 x4, .string x5, .string x6] 38) = wa := ⟨_, rfl⟩
    have HWA : Hid (w.alloc (.cells #[.int .i64 x0, .int .i64 x1, .int .i64 x2, .int .i64 x3, .int .i64 x4, .string x5, .string x6] 38) = wa) := hwa
    rw [hwa] at b0 b1 b2 b3 b4 b5 b6 BA HRA HSA
    have HBX : Hid (∀ W, Mov P.mb P.go wa W → W.heap[w.heap.size]? = some (.cells #[.int .i64 x0, .int .i64 x1, .int .i64 x2, .int .i64 x3, .int .i64 x4, .string x5, .string x6] 38 (0, 0))) := fun W h =>
      (h.block _ (by have := HSA.out; omega) (by have := HLT.out; omega) (by have := HLT.out; omega)).trans HRA.out
    have HBS : Hid (∀ q : Nat, q < rolK x0 → ∃ k, k < bl.length ∧ bl.getD k noBnd = ⟨i, q⟩ ∧ putN (l.set i (binM (ts.getD i noNod) (sgF bl nms bl.length) i q)) i q ⟨(nms.getD k []).toArray⟩ = l.set i (binM (ts.getD i noNod) (sgF bl nms bl.length) i (q + 1))) := fun q hq => by
      obtain ⟨k, hk, ek⟩ := HIX.out q hq
      refine ⟨k, hk, ek, binM_step l _ _ i q _ hil (by omega) ?_⟩
      have := sg_at HND.out nms k hk bl.length hk (Nat.le_refl _)
      rw [ek] at this
      exact this
    have HO0 : Hid (OwnM wa B P.go ts.length P.co (l.set i (binM (ts.getD i noNod) (sgF bl nms bl.length) i 0))) := by
      show OwnM _ _ _ _ _ _
      rw [HB0.out]; exact HOX.out wa BA.out
    have HM0 : Hid (ownMp wa P.mb n D) := HMX.out wa BA.out
    have HWM : Hid (Mov P.mb P.go w wa) := Mov.of_below BA.out
    clear hwa t hx ra hsa hkl HBE HB0 HK1 HST1 HMX HOX hrx
    generalize rolK x0 = ro at *
    go_enter Tryz.func67, Tryz.ntmps67
    go_wp2_with fail
    rw [HWA.out]
    refine (HRO.out wa).mono ?_
    rintro e w1 ⟨rfl, rfl⟩
    clear p0 p1 p2 p3 p4 c0 c1 c2 c3 c4 c5 c6 b0 b1 b2 b3 b4 b5 b6
    go_wp2
    go_loopw [23] (fun r wr => ∃ q : Nat, q ≤ ro ∧ r = .int .i64 q ∧ Hid (OwnM wr B P.go ts.length P.co (l.set i (binM (ts.getD i noNod) (sgF bl nms bl.length) i q))) ∧ Hid (ownMp wr P.mb n D) ∧ Hid (Mov P.mb P.go w1 wr)) (fun r _ => ro - (intOf r).toNat)
    case atStart => exact ⟨0, by omega, rfl, HO0, HM0, Mov.refl _ _ _⟩
    case round =>
      obtain ⟨q, hq, rfl, HOq, HMq, HVq⟩ := hrel
      clear HO0 HM0
      by_cases hin : q < ro
      · have hin' : (q : Int) < ro := by omega
        obtain ⟨kx, hkx, ekx, hput⟩ := HBS.out q hin
        have HPUT : Hid (_) := hput
        have HNB := hidI <| impl_nameBinder HS.out HND.out B n D i kx (q : Int) _ wr (HWX.out wr (HWM.out.trans HVq.out)) HMq.out HOq.out hi (by omega) hkx ekx
        clear hput
        go_wp2_with fail
        refine HNB.out.mono ?_
        rintro e w2 ⟨rfl, l', hO', hM', hMv, rfl⟩
        rw [HPUT.out] at hO'
        have HO2 : Hid (_) := hO'
        have HM2 : Hid (ownMp w2 P.mb n D) := hM'
        have HV2 : Hid (Mov P.mb P.go w1 w2) := HVq.out.trans hMv
        clear hO' hM' hMv HOq HMq HVq HNB HPUT
        go_wp2
        go_roundw
        case rel => exact ⟨q + 1, by omega, by go_num, HO2, HM2, HV2⟩
        case measure => simp [intOf]; omega
      · obtain rfl : q = ro := by omega
        obtain ⟨b0, b1, b2, b3, b4, b5, b6⟩ := cells7v (HBX.out wr HVq.out)
        have HO1 : Hid (OwnM wr B P.go ts.length P.co (l.set i (renN ts (sgF bl nms bl.length) i))) := by
          show OwnM _ _ _ _ _ _
          rw [← HBE2.out]; exact HOq.out
        have HVw : Hid (Mov P.mb P.go w wr) := HWM.out.trans HVq.out
        clear HOq
        go_wp2_with fail
        refine (impl_kids x0 x1 x2 x3 x4 x5 x6 wr).mono ?_
        rintro e w2 ⟨rfl, hr2, bl2⟩
        have HO2 : Hid (OwnM w2 B P.go ts.length P.co (l.set i (renN ts (sgF bl nms bl.length) i))) := HO1.out.below bl2
        have HM2 : Hid (ownMp w2 P.mb n D) := HMq.out.kept (grown_of_below bl2 none) (by simp)
        have HV2 : Hid (Mov P.mb P.go w w2) := HVw.out.trans (Mov.of_below bl2)
        have HL2 : Hid (LoopT ts (sgF bl nms bl.length) (st.getD i 0) i (kbF cs (st.getD i 0) 0) l (l.set i (renN ts (sgF bl nms bl.length) i))) := by
          refine ⟨fun j h1 h2 => absurd h2 (by have : kbF cs (st.getD i 0) 0 = st.getD i 0 := rfl; omega), by simp [List.getD, hil], fun j _ h2 => ?_⟩
          simp only [List.getD]; rw [List.getElem?_set_ne (Ne.symm h2)]
        rw [← hkl']
        have hkz : (kidL (ts.getD i noNod)).length ≤ 3 := by have := arN_le x0; omega
        clear hr2 bl2 HO1 HMq HVq HVw b0 b1 b2 b3 b4 b5 b6
        generalize (kidL (ts.getD i noNod)).length = kn at *
        go_wp2
        go_loopw [35] (fun r wz => ∃ (m : Nat) (l' : List Nod), m ≤ kn ∧ r = .int .i64 m ∧ Hid (OwnM wz B P.go ts.length P.co l') ∧ Hid (ownMp wz P.mb n D) ∧ Hid (Mov P.mb P.go w wz) ∧ Hid (LoopT ts (sgF bl nms bl.length) (st.getD i 0) i (kbF cs (st.getD i 0) m) l l')) (fun r _ => kn - (intOf r).toNat)
        case atStart => exact ⟨0, _, by omega, rfl, HO2, HM2, HV2, HL2⟩
        case round =>
          obtain ⟨m, l', hm, rfl, HOm, HMm, HVm, HLm⟩ := hrel
          clear HO2 HM2 HV2 HL2
          by_cases hin2 : m < kn
          · have hin2' : (m : Int) < kn := by omega
            obtain ⟨_, hc1, hc2, hc3⟩ := HCS.out m hin2
            have hkb : st.getD i 0 ≤ kbF cs (st.getD i 0) m := by
              unfold kbF
              split
              · omega
              · have := HCS.out (m - 1) (by omega)
                have hrec : ∀ z, z < kn → st.getD i 0 ≤ cs z := by
                  intro z
                  induction z with
                  | zero => intro hz; have := HCS.out 0 hz; have e0 : kbF cs (st.getD i 0) 0 = st.getD i 0 := rfl; omega
                  | succ z ih => intro hz; have h1 := ih (by omega); have := HCS.out (z + 1) hz; have e0 : kbF cs (st.getD i 0) (z + 1) = cs z + 1 := (by unfold kbF; rw [if_neg (by omega)]; rfl); omega
                have := hrec (m - 1) (by omega)
                omega
            have HKB : Hid (_) := hkb
            have HCC : Hid (cs m < i ∧ st.getD (cs m) 0 = kbF cs (st.getD i 0) m ∧ st.getD (cs m) 0 ≤ cs m) := ⟨hc1, hc2, hc3⟩
            have hpart : PartS ts st (cs m) l' := fun j h1 h2 => by
              rw [HLm.out.2.2 j (Or.inr (by omega)) (by omega)]
              exact HPS.out j (by omega) (by omega)
            have HCAL := hidI <| HKC.out m hin2 wr l' n D (HWX.out wr HVm.out) HMm.out (by rw [scX_zero]; exact HRp.out) HOm.out hpart (by omega)
            clear hc1 hc2 hc3 hkb hpart
            go_wp2_with fail
            refine HCAL.out.mono ?_
            rintro e w3 ⟨rfl, l3, hO3, hM3, hMv3, hT3⟩
            have HO3 : Hid (OwnM w3 B P.go ts.length P.co l3) := hO3
            have HM3 : Hid (ownMp w3 P.mb n D) := hM3
            have HV3 : Hid (Mov P.mb P.go w w3) := HVm.out.trans hMv3
            have HL3 : Hid (LoopT ts (sgF bl nms bl.length) (st.getD i 0) i (kbF cs (st.getD i 0) (m + 1)) l l3) := by
              obtain ⟨h1, h2, h3⟩ := HCC.out
              have h4 := HKB.out
              have e1 : kbF cs (st.getD i 0) (m + 1) = cs m + 1 := by simp [kbF]
              refine ⟨fun j g1 g2 => ?_, ?_, fun j g1 g2 => ?_⟩
              · rw [e1] at g2
                by_cases g3 : j < kbF cs (st.getD i 0) m
                · rw [hT3.2 j (Or.inl (by omega))]
                  exact HLm.out.1 j g1 g3
                · exact hT3.1 j (by omega) (by omega)
              · rw [hT3.2 i (Or.inr (by omega))]
                exact HLm.out.2.1
              · rw [e1] at g1
                rw [hT3.2 j (by omega)]
                exact HLm.out.2.2 j (by omega) g2
            clear hO3 hM3 hMv3 hT3 HOm HMm HVm HLm HKB HCC HCAL
            go_wp2
            go_roundw
            case rel => exact ⟨m + 1, l3, by omega, by go_num, HO3, HM3, HV3, HL3⟩
            case measure => simp [intOf]; omega
          · obtain rfl : m = kn := by omega
            have HT : Hid (PartT ts (sgF bl nms bl.length) st i l l') := by
              obtain ⟨h1, h2, h3⟩ := HLm.out
              rw [HKE.out] at h1 h3
              refine ⟨fun j g1 g2 => ?_, fun j g1 => ?_⟩
              · by_cases g3 : j = i
                · rw [g3]; exact h2
                · exact h1 j g1 (by omega)
              · exact h3 j (by omega) (by omega)
            clear HLm
            go_wp2
            go_end0
            exact ⟨rfl, l', HOm.out, HMm.out, HVm.out, HT.out⟩

theorem vis_all (S : NmS P ts (siteF ts ts.length) nms) (hok : nodesB ts = true) (B : Nat) (st : List Nat) (hR : Right ts st) : ∀ b c, c < b → c < ts.length → VisC P ts (siteF ts ts.length) nms B st c
  | 0, c, h, _ => by omega
  | b + 1, c, h, hc => vis_step S hok B st hR c hc (fun d hd => vis_all S hok B st hR b d (by omega) (by omega))
end
end

section
open Go.ChangeShapes Go.WideShapes Go.ChangeAt Go.RowKit Go.Sort

theorem OwnM.mono {w : World} {B B' g n cap : Nat} {l : List Nod} (h : OwnM w B' g n cap l) (hB : B ≤ B') : OwnM w B g n cap l := by
  refine ⟨h.1, h.2.1, ?_⟩
  rcases h.2.2 with h0 | ⟨g', cap', cur, hv, hbg, rest⟩
  · exact .inl h0
  · exact .inr ⟨g', cap', cur, hv, by omega, rest⟩

theorem last_scope {ts : List Nod} (h : nodesB ts = true) (s : ByteArray) : scB ts ((ts.length - 1 : Nat) : Int) s = (-1, -1) := by
  obtain ⟨_, hl, _, hp, _⟩ := right_par h
  have h1 : scB ts ((ts.length - 1 : Nat) : Int) s = scF ts s (ts.length - 1 + 1) ((ts.length - 1 : Nat) : Int) := by rw [scB]; congr 1; omega
  rw [h1, scF_step]
  rcases hp ((ts.length - 1 : Nat) : Int) with e | ⟨p, c, e, h2, h3, h4, _⟩
  · rw [if_pos (by omega)]
  · omega

theorem right_whole {ts : List Nod} (h : nodesB ts = true) : ∃ st, Right ts st ∧ st.getD (ts.length - 1) 0 = 0 := by
  obtain ⟨h1, h2, st, hS⟩ := nodesB_starts h
  have hR := right_of (by omega) hS
  refine ⟨_, hR, ?_⟩
  have h0 : st.getD (ts.length - 1) 0 = 0 := by
    have := (Bool.and_eq_true_iff.1 h).2
    rw [hS] at this
    simpa using this
  rw [getD_nat, h0]
  rfl

theorem rp_empty {bl : List Bnd} {sc : ByteArray → Int × Int} (h : ∀ s, sc s = (-1, -1)) : Rp (.map []) bl sc := by
  intro s
  rw [h s]
  exact ⟨rfl, fun h0 => absurd h0 (by decide)⟩

set_option maxHeartbeats 2000000 in
set_option maxRecDepth 20000 in
theorem impl_named (g cap : Nat) (ts : List Nod) (hok : nodesB ts = true) (na : Option Addr) (gn cn : Nat) (nms : List (List UInt8)) (hlen : nms.length = (siteF ts ts.length).length) (hsm : ∀ j, j < nms.length → (nms.getD j []).length ≤ 1000000) (hna : 0 < nms.length → na = some ⟨gn, 0, none⟩) (w : World) (hA : NodAt w g ts)
    (hN : ∀ j, j < nms.length → w.cell? ⟨gn, j, none⟩ = some (.string ⟨(nms.getD j []).toArray⟩)) :
    Calls Tryz.prog 38 #[.slice (some ⟨g, 0, none⟩) ts.length cap, .slice na nms.length cn] w (CanEnd w (renL ts (sgF (siteF ts ts.length) nms (siteF ts ts.length).length))) := by
  have HA : Hid (NodAt w g ts) := hA
  have HN : Hid (∀ j, j < nms.length → w.cell? ⟨gn, j, none⟩ = some (.string ⟨(nms.getD j []).toArray⟩)) := hN
  have HOK : Hid (nodesB ts = true) := hok
  obtain ⟨hl1, hl2, _⟩ := nodesB_starts hok
  have HT : Hid (∀ i, i < ts.length → (ts.getD i noNod).name.size ≤ 281474976710656 ∧ (ts.getD i noNod).other.size ≤ 281474976710656) := fun i hi => by have := name_small hok i hi; omega
  have HT2 : Hid (∀ i, i < ts.length → (ts.getD i noNod).name.size ≤ maxLen ∧ (ts.getD i noNod).other.size ≤ maxLen) := fun i hi => by have := name_small hok i hi; unfold maxLen; omega
  have HSB : Hid (sitesB ts = siteF ts ts.length) := by show sitesB ts = _; rw [sitesB, if_pos hok]
  have hbl := sitesB_length ts
  rw [HSB.out] at hbl
  have hgw : g < w.heap.size := hA.lt (by omega)
  have hgn : 0 < nms.length → gn < w.heap.size := fun h => nod_lt (hN 0 h)
  obtain ⟨st, hR, hst0⟩ := right_whole hok
  have HR : Hid (Right ts st) := hR
  have HS0 : Hid (st.getD (ts.length - 1) 0 = 0) := hst0
  have HSM : Hid (∀ j, j < nms.length → (nms.getD j []).length ≤ 1000000) := hsm
  have HLN : Hid (nms.length = (siteF ts ts.length).length) := hlen
  have hRL := renL_length ts (sgF (siteF ts ts.length) nms (siteF ts ts.length).length)
  have HRL : Hid (_) := hRL
  have hmm := @run_makeMap Tryz.prog
  clear hA hN hok hR hst0 hsm hlen hRL
  go_enter Tryz.func38, Tryz.ntmps38
  go_wp2_with fail
  refine (impl_sites _ g cap ts (fun _ => rfl) (by omega) HT2.out w HA.out).mono ?_
  rintro e w1 ⟨v1, rfl, ho1, b1⟩
  rw [HSB.out] at ho1
  obtain ⟨sa, gs, cs, sp, rfl, hsa, hbA, hge, hlt, _⟩ := ownBnd_form ho1
  have HSA : Hid (0 < (siteF ts ts.length).length → sa = some ⟨gs, 0, none⟩ ∧ gs < w1.heap.size) := fun h => ⟨hsa h, hlt h⟩
  have HBA : Hid (BndAt w1 gs (siteF ts ts.length)) := hbA
  have B1 : Hid (Below w.heap.size w w1) := b1
  have s1 := b1.size
  have HM1 : Hid (ownMp (w1.alloc (.map #[] 0)) w1.heap.size 0 (.map [])) := World.ownsMap_made w1 _ _ _
  have BM : Hid (Below w1.heap.size w1 (w1.alloc (.map #[] 0))) := (Below.refl _ _).alloc (Nat.le_refl _) _
  have hsm1 : (w1.alloc (.map #[] 0)).heap.size = w1.heap.size + 1 := by simp
  have HSM1 : Hid ((w1.alloc (.map #[] 0)).heap.size = w1.heap.size + 1) := hsm1
  clear hsa hbA hlt ho1 b1 hsm1
  go_wp2_with fail
  refine (impl_copies g cap ts (by omega) HT.out _ (HA.out.below (B1.out.trans (BM.out.mono s1)) (fun _ => hgw))).mono ?_
  rintro e w3 ⟨G, c, rfl, hO3, b3⟩
  have z3 : w1.heap.size + 1 ≤ w3.heap.size := by have := b3.size; have := HSM1.out; omega
  have hG : w1.heap.size + 1 ≤ G ∧ G < w3.heap.size := by have := hO3.ge; have := HSM1.out; omega
  have HO3 : Hid (OwnM w3 w.heap.size G ts.length c ts) := hO3.mono (by have := HSM1.out; omega)
  have HM3 : Hid (ownMp w3 w1.heap.size 0 (.map [])) := HM1.out.kept (grown_of_below b3 none) (by simp)
  have B13 : Hid (Below w1.heap.size w1 w3) := BM.out.trans (b3.mono (by have := HSM1.out; omega))
  have B3 : Hid (Below w.heap.size w w3) := B1.out.trans (B13.out.mono s1)
  clear hO3 b3 BM HM1
  obtain ⟨P, hP⟩ : ∃ P : NmP, P = ⟨w3.heap.size, w1.heap.size, G, c, g, cap, sa, gs, cs, na, gn, cn⟩ := ⟨_, rfl⟩
  have r4 : (w3.alloc (.cells #[.slice (some ⟨g, 0, none⟩) ts.length cap, .slice sa (siteF ts ts.length).length cs, .slice na nms.length cn, .map (some w1.heap.size), .slice (some ⟨G, 0, none⟩) ts.length c] 86)).heap[w3.heap.size]? = some (.cells #[.slice (some ⟨g, 0, none⟩) ts.length cap, .slice sa (siteF ts ts.length).length cs, .slice na nms.length cn, .map (some w1.heap.size), .slice (some ⟨G, 0, none⟩) ts.length c] 86 (0, 0)) := (MapKept.heap_alloc w3 _).1
  have B34 : Below w3.heap.size w3 (w3.alloc (.cells #[.slice (some ⟨g, 0, none⟩) ts.length cap, .slice sa (siteF ts ts.length).length cs, .slice na nms.length cn, .map (some w1.heap.size), .slice (some ⟨G, 0, none⟩) ts.length c] 86)) := (Below.refl _ _).alloc (Nat.le_refl _) _
  obtain ⟨w4, hw4⟩ : ∃ w4, w3.alloc (.cells #[.slice (some ⟨g, 0, none⟩) ts.length cap, .slice sa (siteF ts ts.length).length cs, .slice na nms.length cn, .map (some w1.heap.size), .slice (some ⟨G, 0, none⟩) ts.length c] 86) = w4 := ⟨_, rfl⟩
  have HW4 : Hid (w3.alloc (.cells #[.slice (some ⟨g, 0, none⟩) ts.length cap, .slice sa (siteF ts ts.length).length cs, .slice na nms.length cn, .map (some w1.heap.size), .slice (some ⟨G, 0, none⟩) ts.length c] 86) = w4) := hw4
  rw [hw4] at r4 B34
  have hS : NmS P ts (siteF ts ts.length) nms := by
    subst hP
    exact ⟨show w3.heap.size ≠ w1.heap.size by omega, show w3.heap.size ≠ G by omega, show w1.heap.size ≠ G by omega, show g ≠ w1.heap.size by omega, show g ≠ G by omega,
      fun h => ⟨(HSA.out h).1, show gs ≠ w1.heap.size by have := (HSA.out h).2; omega, show gs ≠ G by have := (HSA.out h).2; omega⟩,
      fun h => ⟨hna h, show gn ≠ w1.heap.size by have := hgn h; omega, show gn ≠ G by have := hgn h; omega⟩, HLN.out, hl2, hbl, HSM.out⟩
  have hb4 : Below w.heap.size w w4 := B3.out.trans (B34.mono (by have := B3.out.size; omega))
  have hW4 : NmW P ts (siteF ts ts.length) nms w4 := by
    subst hP
    refine ⟨r4, HA.out.below hb4 (fun _ => hgw), HBA.out.below (B13.out.trans (B34.mono (by omega))) (fun h => (HSA.out h).2), fun j hj => ?_⟩
    exact (hb4.cell (p := ⟨gn, j, none⟩) (hgn (by omega))).trans (HN.out j hj)
  have HPP : Hid (P.rb = w3.heap.size ∧ P.mb = w1.heap.size ∧ P.go = G ∧ P.co = c) := by subst hP; exact ⟨rfl, rfl, rfl, rfl⟩
  have HSS : Hid (NmS P ts (siteF ts ts.length) nms) := hS
  have HWW : Hid (NmW P ts (siteF ts ts.length) nms w4) := hW4
  have hvis := vis_all hS HOK.out w.heap.size st HR.out ts.length (ts.length - 1) (by omega) (by omega) w4 ts 0 (.map []) hW4
    (by rw [HPP.out.2.1]; exact HM3.out.kept (grown_of_below B34 none) (by simp)) (rp_empty (last_scope HOK.out)) (by rw [HPP.out.2.2.1, HPP.out.2.2.2]; exact HO3.out.below B34) (fun j _ _ => rfl) (by omega)
  rw [HPP.out.1] at hvis
  have HVIS := hidI hvis
  have B4 : Hid (Below w.heap.size w w4) := hb4
  have e1 : (ts.length : Int) - 1 = ((ts.length - 1 : Nat) : Int) := by omega
  have HE1 : Hid ((ts.length : Int) - 1 = ((ts.length - 1 : Nat) : Int)) := e1
  clear hP r4 B34 hw4 hS hW4 hb4 hvis e1 hmm B3 B13 HM3 HO3
  go_wp2_with fail
  rw [HW4.out, HE1.out]
  refine HVIS.out.mono ?_
  rintro e w5 ⟨rfl, l', hO5, hM5, hMv5, hT5⟩
  obtain ⟨_, _, _, _, y4⟩ := nm_cells (HWW.out.mov HSS.out hMv5).row
  rw [HPP.out.1, HPP.out.2.2.1, HPP.out.2.2.2] at y4
  rw [HPP.out.2.2.1, HPP.out.2.2.2] at hO5
  have el : l' = renL ts (sgF (siteF ts ts.length) nms (siteF ts ts.length).length) := by
    refine nod_list_ext (by rw [hO5.1, HRL.out]) fun j hj => ?_
    have hj' : j < ts.length := by rw [hO5.1] at hj; exact hj
    rw [renL_at _ _ hj']
    exact hT5.1 j (by have := HS0.out; omega) (by omega)
  rw [el] at hO5
  have HO5 : Hid (OwnM w5 w.heap.size G ts.length c (renL ts (sgF (siteF ts ts.length) nms (siteF ts ts.length).length))) := hO5
  have HB5 : Hid (Below w.heap.size w w5) := B4.out.trans (hMv5.below (by have := B4.out.size; omega) (by have := HPP.out; omega) (by have := HPP.out; omega))
  clear hO5 hM5 hMv5 hT5 el
  generalize renL ts (sgF (siteF ts ts.length) nms (siteF ts ts.length).length) = R at *
  go_wp2
  go_ret
  exact ⟨G, c, by rw [HRL.out] <;> rfl, by rw [HRL.out]; exact HO5.out, HB5.out⟩

set_option maxHeartbeats 1000000 in
set_option maxRecDepth 20000 in
theorem impl_canon (g cap : Nat) (ts : List Nod) (hl : ts.length ≤ 1048576)
    (hst : ∀ i, i < ts.length → (ts.getD i noNod).name.size ≤ maxLen ∧ (ts.getD i noNod).other.size ≤ maxLen) (w : World) (hA : NodAt w g ts) :
    Calls Tryz.prog 13 #[.slice (some ⟨g, 0, none⟩) ts.length cap] w fun e w' => ∃ v, e = .returned v ∧ ownNod w' w.heap.size v (canB ts) ∧ (nodesB ts = true → CanEnd w (canB ts) e w') ∧ Below w.heap.size w w' := by
  have HA : Hid (NodAt w g ts) := hA
  have HT : Hid (∀ i, i < ts.length → (ts.getD i noNod).name.size ≤ maxLen ∧ (ts.getD i noNod).other.size ≤ maxLen) := hst
  clear hA hst
  cases hok : nodesB ts
  · have HV : Hid (canB ts = []) := canB_no hok
    have HOK : Hid (nodesB ts = false) := hok
    clear hok
    go_enter Tryz.func13, Tryz.ntmps13
    go_wp2_with fail
    refine (impl_nodes _ g cap ts (fun _ => rfl) hl HT.out w HA.out).mono ?_
    rintro e w1 ⟨rfl, b1⟩
    rw [HOK.out]
    go_wp2
    go_ret
    exact ⟨_, rfl, by rw [HV.out]; exact ⟨rfl, Or.inl ⟨rfl, rfl⟩⟩, fun h => absurd h (by simp), b1⟩
  · have HOK : Hid (nodesB ts = true) := hok
    have HSB : Hid (sitesB ts = siteF ts ts.length) := by show sitesB ts = _; rw [sitesB, if_pos hok]
    have HV : Hid (canB ts = renL ts (sgF (siteF ts ts.length) (nwL (freeB ts) (siteF ts ts.length).length) (siteF ts ts.length).length)) := by show canB ts = _; rw [canB, if_pos hok]
    have hbl := sitesB_length ts
    rw [HSB.out] at hbl
    have hfl := freeB_length ts
    obtain ⟨hl1, hl2, _⟩ := nodesB_starts hok
    have hgw : g < w.heap.size := HA.out.lt (by omega)
    have HNL : Hid ((nwL (freeB ts) (siteF ts ts.length).length).length = (siteF ts ts.length).length) := nw_length (by omega)
    have HNS : Hid (∀ j, j < (nwL (freeB ts) (siteF ts ts.length).length).length → ((nwL (freeB ts) (siteF ts ts.length).length).getD j []).length ≤ 1000000) := fun j hj => by
      have hm : (nwL (freeB ts) (siteF ts ts.length).length).getD j [] ∈ nwL (freeB ts) (siteF ts ts.length).length := by simp [List.getD, hj]
      obtain ⟨_, k, _, e⟩ := nw_mem hm
      rw [e]
      have := frN_length k
      omega
    clear hok
    go_enter Tryz.func13, Tryz.ntmps13
    go_wp2_with fail
    refine (impl_nodes _ g cap ts (fun _ => rfl) hl HT.out w HA.out).mono ?_
    rintro e w1 ⟨rfl, b1⟩
    have B1 : Hid (Below w.heap.size w w1) := b1
    have s1 := b1.size
    rw [HOK.out]
    clear b1
    go_wp2_with fail
    refine (impl_sites _ g cap ts (fun _ => rfl) hl HT.out w1 (HA.out.below B1.out (fun _ => hgw))).mono ?_
    rintro e w2 ⟨v2, rfl, ho2, b2⟩
    rw [HSB.out] at ho2
    obtain ⟨sa, gs, cs, sp, rfl, _, _, _, _, _⟩ := ownBnd_form ho2
    have B2 : Hid (Below w.heap.size w w2) := B1.out.trans (b2.mono s1)
    have s2 := B2.out.size
    clear b2 ho2 B1
    go_wp2_with fail
    refine (impl_free _ g cap ts (fun _ => rfl) hl HT.out w2 (HA.out.below B2.out (fun _ => hgw))).mono ?_
    rintro e w3 ⟨v3, rfl, ho3, b3⟩
    obtain ⟨a5, g5, c5, rfl, ha5, hc5⟩ := ownS_form ho3
    have B3 : Hid (Below w.heap.size w w3) := B2.out.trans (b3.mono s2)
    have s3 := B3.out.size
    have HNM := hidI <| impl_names7 (siteF ts ts.length).length hbl a5 g5 c5 (freeB ts) hfl (fun h => (ha5 h).1) w3 (fun j hj => (hc5 j hj).1)
    clear b3 ho3 B2 ha5 hc5
    go_wp2_with fail
    refine HNM.out.mono ?_
    rintro e w4 ⟨v4, rfl, ho4, b4⟩
    obtain ⟨na, gn, cn, rfl, hna, hcn⟩ := ownS_form ho4
    have B4 : Hid (Below w.heap.size w w4) := B3.out.trans (b4.mono s3)
    have s4 := B4.out.size
    have HND := hidI <| impl_named g cap ts HOK.out na gn cn (nwL (freeB ts) (siteF ts ts.length).length) HNL.out HNS.out (fun h => (hna h).1) w4 (HA.out.below B4.out (fun _ => hgw)) (fun j hj => (hcn j hj).1)
    clear b4 ho4 B3 hna hcn HNM
    go_wp2_with fail
    refine HND.out.mono ?_
    rintro e w5 ⟨G, c, rfl, hO5, b5⟩
    rw [← HV.out] at hO5
    have HL : Hid ((renL ts (sgF (siteF ts ts.length) (nwL (freeB ts) (siteF ts ts.length).length) (siteF ts ts.length).length)).length = (canB ts).length) := by show _ = _; rw [HV.out]
    have HO5 : Hid (OwnM w5 w.heap.size G (canB ts).length c (canB ts)) := hO5.mono s4
    have B5 : Hid (Below w.heap.size w w5) := B4.out.trans (b5.mono s4)
    rw [HL.out]
    clear hO5 b5 HV HL HND
    go_wp2
    go_ret
    exact ⟨_, rfl, HO5.out.own, fun _ => ⟨G, c, rfl, HO5.out, B5.out⟩, B5.out⟩
end

section
open Go.ChangeShapes Go.WideShapes Go.ChangeAt Go.RowKit

/-- Are two nodes the same, field by field? -/
def nodSame (x y : Nod) : Bool := x.kind == y.kind && x.a == y.a && x.b == y.b && x.c == y.c && x.n == y.n && x.name.toList == y.name.toList && x.other.toList == y.other.toList

theorem nod_bytes_ext {a b : ByteArray} (h : a.toList = b.toList) : a = b := by
  rw [ByteArray.toList_eq, ByteArray.toList_eq] at h
  cases a; cases b
  simp only at h
  congr 1
  exact Array.toList_inj.1 h

theorem nodSame_iff (x y : Nod) : nodSame x y = true ↔ x = y := by
  constructor
  · intro h
    simp only [nodSame, Bool.and_eq_true, beq_iff_eq] at h
    obtain ⟨⟨⟨⟨⟨⟨h0, h1⟩, h2⟩, h3⟩, h4⟩, h5⟩, h6⟩ := h
    have h5 := nod_bytes_ext h5
    have h6 := nod_bytes_ext h6
    cases x; cases y
    simp_all
  · rintro rfl
    simp [nodSame]

theorem nod_neq (x y : Nod) (w : World) : (binOp .neq 38 (.agg (nodCells x).toArray) (.agg (nodCells y).toArray)).run Tryz.prog w = .ok (.bool (!nodSame x y)) w := by
  have hu : Tryz.prog.underlying 38 = some (.struct (Tryz.prog.fieldsOf 38)) := by kernel_rfl
  rw [run_neq_struct, run_equalIn_agg _ _ _ _ _ hu (by kernel_rfl)]
  obtain ⟨x0, x1, x2, x3, x4, x5, x6⟩ := x
  obtain ⟨y0, y1, y2, y3, y4, y5, y6⟩ := y
  simp only [Program.fieldsOf, Tryz.underlying38, nodCells, nodSame]
  simp [go_sem, Op.eqFields, Tryz.underlying3, Tryz.underlying9]
  repeat' split
  all_goals simp [*]

theorem nod_eql (x y : Nod) (w : World) : (binOp .eql 38 (.agg (nodCells x).toArray) (.agg (nodCells y).toArray)).run Tryz.prog w = .ok (.bool (nodSame x y)) w := by
  have hu : Tryz.prog.underlying 38 = some (.struct (Tryz.prog.fieldsOf 38)) := by kernel_rfl
  rw [run_eql_struct, run_equalIn_agg _ _ _ _ _ hu (by kernel_rfl)]
  obtain ⟨x0, x1, x2, x3, x4, x5, x6⟩ := x
  obtain ⟨y0, y1, y2, y3, y4, y5, y6⟩ := y
  simp only [Program.fieldsOf, Tryz.underlying38, nodCells, nodSame]
  simp [go_sem, Op.eqFields, Tryz.underlying3, Tryz.underlying9]
  repeat' split
  all_goals simp [*]

/-- Are two lists of nodes the same? -/
def sameNod (ts us : List Nod) : Bool := ts.length == us.length && (List.range ts.length).all fun i => nodSame (ts.getD i noNod) (us.getD i noNod)

theorem sameNod_yes {ts us : List Nod} (hl : ts.length = us.length) (h : ∀ j, j < ts.length → nodSame (ts.getD j noNod) (us.getD j noNod) = true) : sameNod ts us = true := by
  simp only [sameNod, hl, beq_self_eq_true, Bool.true_and, List.all_eq_true, List.mem_range]
  intro j hj
  exact h j (by omega)

theorem sameNod_no {ts us : List Nod} {j : Nat} (hj : j < ts.length) (h : nodSame (ts.getD j noNod) (us.getD j noNod) = false) : sameNod ts us = false := by
  cases hs : sameNod ts us with
  | false => rfl
  | true =>
    simp only [sameNod, Bool.and_eq_true, List.all_eq_true, List.mem_range] at hs
    rw [hs.2 j hj] at h
    cases h

theorem sameNod_len {ts us : List Nod} (h : ¬ ts.length = us.length) : sameNod ts us = false := by
  simp [sameNod, h]

set_option maxHeartbeats 2000000 in
set_option maxRecDepth 20000 in
theorem spec_same (a b : Option Addr) (g h ca cb : Nat) (ts us : List Nod) (hl : ts.length ≤ 1048576) (hl2 : us.length ≤ 1048576) (ha : 0 < ts.length → a = some ⟨g, 0, none⟩) (hb : 0 < us.length → b = some ⟨h, 0, none⟩) (w : World) (hA : NodAt w g ts) (hB : NodAt w h us) :
    Calls Tryz.prog 39 #[.slice a ts.length ca, .slice b us.length cb] w fun e w' => e = .returned (.bool (sameNod ts us)) ∧ Below w.heap.size w w' := by
  have HA : Hid (NodAt w g ts) := hA
  have HB : Hid (NodAt w h us) := hB
  clear hA hB
  by_cases hlen : ts.length = us.length
  · have HL : Hid (ts.length = us.length) := hlen
    rw [← hlen]
    clear hlen
    go_enter Tryz.func39, Tryz.ntmps39
    go_wp2
    go_loopw [5] (fun i wr => ∃ k : Nat, k ≤ ts.length ∧ i = .int .i64 k ∧ Hid (∀ j, j < k → nodSame (ts.getD j noNod) (us.getD j noNod) = true) ∧ Below w.heap.size w wr) (fun i _ => ts.length - (intOf i).toNat)
    case atStart => exact ⟨0, by omega, rfl, (fun j hj => absurd hj (by omega)), Below.refl _ _⟩
    case round =>
      obtain ⟨k, hk, rfl, HJ, hbl⟩ := hrel
      by_cases hin : k < ts.length
      · have e1 : (k : Int) < ts.length := by omega
        obtain rfl := ha (by omega)
        obtain rfl := hb (by have := HL.out; omega)
        have t := (HA.out.below hbl (fun h => HA.out.lt h)) k hin
        have u := (HB.out.below hbl (fun h => HB.out.lt h)) k (by have := HL.out; omega)
        have HN : Hid (∀ v : Bool, nodSame (ts.getD k noNod) (us.getD k noNod) = v → (v = true → ∀ j, j < k + 1 → nodSame (ts.getD j noNod) (us.getD j noNod) = true) ∧ (v = false → sameNod ts us = false)) := by
          intro v hv
          refine ⟨fun h j hj => ?_, fun h => sameNod_no hin (by rw [hv]; exact h)⟩
          rcases Nat.lt_or_ge j k with hl | hg
          · exact HJ.out j hl
          · obtain rfl : j = k := by omega
            rw [hv]; exact h
        have hq := nod_neq (ts.getD k noNod) (us.getD k noNod)
        obtain ⟨v, hv⟩ : ∃ v, nodSame (ts.getD k noNod) (us.getD k noNod) = v := ⟨_, rfl⟩
        have HN' := HN.out v hv
        rw [hv] at hq
        clear HN hv
        generalize ts.getD k noNod = x at t hq
        generalize us.getD k noNod = y at u hq
        obtain ⟨x0, x1, x2, x3, x4, x5, x6⟩ := x
        obtain ⟨y0, y1, y2, y3, y4, y5, y6⟩ := y
        have HN2 : Hid ((v = true → ∀ j, j < k + 1 → nodSame (ts.getD j noNod) (us.getD j noNod) = true) ∧ (v = false → sameNod ts us = false)) := HN'
        clear HN'
        have q0 : wr.cell? ⟨g, k * 7, none⟩ = some (.int .i64 x0) := t.c0
        have r0 : wr.cell? ⟨h, k * 7, none⟩ = some (.int .i64 y0) := u.c0
        have q1 : wr.cell? ⟨g, k * 7 + 1, none⟩ = some (.int .i64 x1) := t.c1
        have r1 : wr.cell? ⟨h, k * 7 + 1, none⟩ = some (.int .i64 y1) := u.c1
        have q2 : wr.cell? ⟨g, k * 7 + 2, none⟩ = some (.int .i64 x2) := t.c2
        have r2 : wr.cell? ⟨h, k * 7 + 2, none⟩ = some (.int .i64 y2) := u.c2
        have q3 : wr.cell? ⟨g, k * 7 + 3, none⟩ = some (.int .i64 x3) := t.c3
        have r3 : wr.cell? ⟨h, k * 7 + 3, none⟩ = some (.int .i64 y3) := u.c3
        have q4 : wr.cell? ⟨g, k * 7 + 4, none⟩ = some (.int .i64 x4) := t.c4
        have r4 : wr.cell? ⟨h, k * 7 + 4, none⟩ = some (.int .i64 y4) := u.c4
        have q5 : wr.cell? ⟨g, k * 7 + 5, none⟩ = some (.string x5) := t.c5
        have r5 : wr.cell? ⟨h, k * 7 + 5, none⟩ = some (.string y5) := u.c5
        have q6 : wr.cell? ⟨g, k * 7 + 6, none⟩ = some (.string x6) := t.c6
        have r6 : wr.cell? ⟨h, k * 7 + 6, none⟩ = some (.string y6) := u.c6
        have hq' : ∀ w : World, (binOp .neq 38 (.agg #[.int .i64 x0, .int .i64 x1, .int .i64 x2, .int .i64 x3, .int .i64 x4, .string x5, .string x6]) (.agg #[.int .i64 y0, .int .i64 y1, .int .i64 y2, .int .i64 y3, .int .i64 y4, .string y5, .string y6])).run Tryz.prog w = .ok (.bool (!v)) w := hq
        clear t u hq
        cases v
        · have HF : Hid (sameNod ts us = false) := HN2.out.2 rfl
          clear HN2
          go_wp2
          go_quiet (fail)
          go_wp2
          go_ret
          exact ⟨by rw [HF.out]; rfl, below_drew_n hbl _⟩
        · have HT : Hid (∀ j, j < k + 1 → nodSame (ts.getD j noNod) (us.getD j noNod) = true) := HN2.out.1 rfl
          clear HN2
          go_wp2
          go_quiet (fail)
          go_wp2
          go_roundw
          case rel => exact ⟨k + 1, by omega, by go_num, HT.out, below_drew_n hbl _⟩
          case measure => simp [intOf]; omega
      · go_wp2
        go_ret
        exact ⟨by rw [sameNod_yes HL.out (fun j hj => HJ.out j (by omega))]; rfl, hbl⟩
  · have HN : Hid (sameNod ts us = false) := sameNod_len hlen
    have hlen' : ¬ (ts.length : Int) = us.length := by omega
    go_enter Tryz.func39, Tryz.ntmps39
    go_wp2
    go_ret
    exact ⟨by rw [HN.out]; rfl, Below.refl _ _⟩
end

section
open Go.ChangeShapes Go.WideShapes Go.ChangeAt Go.RowKit

set_option maxHeartbeats 2000000 in
set_option maxRecDepth 20000 in
theorem equal_same (a b : Option Addr) (g h ca cb : Nat) (ts us : List Nod) (hl : ts.length ≤ 1048576) (hl2 : us.length ≤ 1048576) (ha : 0 < ts.length → a = some ⟨g, 0, none⟩) (hb : 0 < us.length → b = some ⟨h, 0, none⟩) (w : World) (hA : NodAt w g ts) (hB : NodAt w h us) :
    Calls Tryz.prog 78 #[.slice a ts.length ca, .slice b us.length cb] w fun e w' => e = .returned (.bool (sameNod ts us)) ∧ Below w.heap.size w w' := by
  have HA : Hid (NodAt w g ts) := hA
  have HB : Hid (NodAt w h us) := hB
  clear hA hB
  by_cases hlen : ts.length = us.length
  · have HL : Hid (ts.length = us.length) := hlen
    rw [← hlen]
    clear hlen
    go_enter Tryz.func78, Tryz.ntmps78
    go_wp2
    go_loopw [13] (fun i wr => ∃ k : Nat, k ≤ ts.length ∧ i = .int .i64 k ∧ Hid (∀ j, j < k → nodSame (ts.getD j noNod) (us.getD j noNod) = true) ∧ Below w.heap.size w wr) (fun i _ => ts.length - (intOf i).toNat)
    case atStart => exact ⟨0, by omega, rfl, (fun j hj => absurd hj (by omega)), Below.refl _ _⟩
    case round =>
      obtain ⟨k, hk, rfl, HJ, hbl⟩ := hrel
      by_cases hin : k < ts.length
      · have e1 : (k : Int) < ts.length := by omega
        obtain rfl := ha (by omega)
        obtain rfl := hb (by have := HL.out; omega)
        have t := (HA.out.below hbl (fun h => HA.out.lt h)) k hin
        have u := (HB.out.below hbl (fun h => HB.out.lt h)) k (by have := HL.out; omega)
        have HN : Hid (∀ v : Bool, nodSame (ts.getD k noNod) (us.getD k noNod) = v → (v = true → ∀ j, j < k + 1 → nodSame (ts.getD j noNod) (us.getD j noNod) = true) ∧ (v = false → sameNod ts us = false)) := by
          intro v hv
          refine ⟨fun h j hj => ?_, fun h => sameNod_no hin (by rw [hv]; exact h)⟩
          rcases Nat.lt_or_ge j k with hl | hg
          · exact HJ.out j hl
          · obtain rfl : j = k := by omega
            rw [hv]; exact h
        have hq := nod_neq (ts.getD k noNod) (us.getD k noNod)
        obtain ⟨v, hv⟩ : ∃ v, nodSame (ts.getD k noNod) (us.getD k noNod) = v := ⟨_, rfl⟩
        have HN' := HN.out v hv
        rw [hv] at hq
        clear HN hv
        generalize ts.getD k noNod = x at t hq
        generalize us.getD k noNod = y at u hq
        obtain ⟨x0, x1, x2, x3, x4, x5, x6⟩ := x
        obtain ⟨y0, y1, y2, y3, y4, y5, y6⟩ := y
        have HN2 : Hid ((v = true → ∀ j, j < k + 1 → nodSame (ts.getD j noNod) (us.getD j noNod) = true) ∧ (v = false → sameNod ts us = false)) := HN'
        clear HN'
        have q0 : wr.cell? ⟨g, k * 7, none⟩ = some (.int .i64 x0) := t.c0
        have r0 : wr.cell? ⟨h, k * 7, none⟩ = some (.int .i64 y0) := u.c0
        have q1 : wr.cell? ⟨g, k * 7 + 1, none⟩ = some (.int .i64 x1) := t.c1
        have r1 : wr.cell? ⟨h, k * 7 + 1, none⟩ = some (.int .i64 y1) := u.c1
        have q2 : wr.cell? ⟨g, k * 7 + 2, none⟩ = some (.int .i64 x2) := t.c2
        have r2 : wr.cell? ⟨h, k * 7 + 2, none⟩ = some (.int .i64 y2) := u.c2
        have q3 : wr.cell? ⟨g, k * 7 + 3, none⟩ = some (.int .i64 x3) := t.c3
        have r3 : wr.cell? ⟨h, k * 7 + 3, none⟩ = some (.int .i64 y3) := u.c3
        have q4 : wr.cell? ⟨g, k * 7 + 4, none⟩ = some (.int .i64 x4) := t.c4
        have r4 : wr.cell? ⟨h, k * 7 + 4, none⟩ = some (.int .i64 y4) := u.c4
        have q5 : wr.cell? ⟨g, k * 7 + 5, none⟩ = some (.string x5) := t.c5
        have r5 : wr.cell? ⟨h, k * 7 + 5, none⟩ = some (.string y5) := u.c5
        have q6 : wr.cell? ⟨g, k * 7 + 6, none⟩ = some (.string x6) := t.c6
        have r6 : wr.cell? ⟨h, k * 7 + 6, none⟩ = some (.string y6) := u.c6
        have hq' : ∀ w : World, (binOp .neq 38 (.agg #[.int .i64 x0, .int .i64 x1, .int .i64 x2, .int .i64 x3, .int .i64 x4, .string x5, .string x6]) (.agg #[.int .i64 y0, .int .i64 y1, .int .i64 y2, .int .i64 y3, .int .i64 y4, .string y5, .string y6])).run Tryz.prog w = .ok (.bool (!v)) w := hq
        clear t u hq
        cases v
        · have HF : Hid (sameNod ts us = false) := HN2.out.2 rfl
          clear HN2
          go_wp2
          go_quiet (fail)
          go_wp2
          go_ret
          exact ⟨by rw [HF.out]; rfl, below_drew_n hbl _⟩
        · have HT : Hid (∀ j, j < k + 1 → nodSame (ts.getD j noNod) (us.getD j noNod) = true) := HN2.out.1 rfl
          clear HN2
          go_wp2
          go_quiet (fail)
          go_wp2
          go_roundw
          case rel => exact ⟨k + 1, by omega, by go_num, HT.out, below_drew_n hbl _⟩
          case measure => simp [intOf]; omega
      · go_wp2
        go_ret
        exact ⟨by rw [sameNod_yes HL.out (fun j hj => HJ.out j (by omega))]; rfl, hbl⟩
  · have HN : Hid (sameNod ts us = false) := sameNod_len hlen
    have hlen' : ¬ (ts.length : Int) = us.length := by omega
    go_enter Tryz.func78, Tryz.ntmps78
    go_wp2
    go_ret
    exact ⟨by rw [HN.out]; rfl, Below.refl _ _⟩

theorem impl_same (a b : Option Addr) (g h ca cb : Nat) (ts us : List Nod) (hl : ts.length ≤ 1048576) (hl2 : us.length ≤ 1048576) (ha : 0 < ts.length → a = some ⟨g, 0, none⟩) (hb : 0 < us.length → b = some ⟨h, 0, none⟩) (w : World) (hA : NodAt w g ts) (hB : NodAt w h us) :
    Calls Tryz.prog 56 #[.slice a ts.length ca, .slice b us.length cb] w fun e w' => e = .returned (.bool (sameNod ts us)) ∧ Below w.heap.size w w' := by
  have HI : Hid (Calls Tryz.prog 78 #[.slice a ts.length ca, .slice b us.length cb] w fun e w' => e = .returned (.bool (sameNod ts us)) ∧ Below w.heap.size w w') := equal_same a b g h ca cb ts us hl hl2 ha hb w hA hB
  clear hA hB
  go_enter Tryz.func56, Tryz.ntmps56
  go_wp2_with fail
  refine HI.out.mono ?_
  rintro e w1 ⟨rfl, hb1⟩
  go_wp2
  go_ret
  exact ⟨rfl, hb1⟩
end

section
open Go.ChangeShapes Go.WideShapes Go.ChangeAt Go.RowKit

def alphaB (ts us : List Nod) : Bool := nodesB ts && nodesB us && sameNod (canB ts) (canB us)

theorem canB_len (ts : List Nod) : (canB ts).length ≤ 150 := by
  unfold canB
  split
  · rename_i h
    obtain ⟨_, h2, _⟩ := nodesB_starts h
    rw [renL_length]
    exact h2
  · simp

set_option maxHeartbeats 1000000 in
set_option maxRecDepth 20000 in
theorem spec_alpha (g h ca cb : Nat) (ts us : List Nod) (hl : ts.length ≤ 1048576) (hl2 : us.length ≤ 1048576)
    (hst : ∀ i, i < ts.length → (ts.getD i noNod).name.size ≤ maxLen ∧ (ts.getD i noNod).other.size ≤ maxLen) (hsu : ∀ i, i < us.length → (us.getD i noNod).name.size ≤ maxLen ∧ (us.getD i noNod).other.size ≤ maxLen) (w : World) (hA : NodAt w g ts) (hB : NodAt w h us) :
    Calls Tryz.prog 12 #[.slice (some ⟨g, 0, none⟩) ts.length ca, .slice (some ⟨h, 0, none⟩) us.length cb] w fun e w' => e = .returned (.bool (alphaB ts us)) ∧ Below w.heap.size w w' := by
  have HA : Hid (∀ W, Below w.heap.size w W → NodAt W g ts) := fun W hW => hA.below hW (fun h => hA.lt h)
  have HB : Hid (∀ W, Below w.heap.size w W → NodAt W h us) := fun W hW => hB.below hW (fun h => hB.lt h)
  have HT : Hid (∀ i, i < ts.length → (ts.getD i noNod).name.size ≤ maxLen ∧ (ts.getD i noNod).other.size ≤ maxLen) := hst
  have HU : Hid (∀ i, i < us.length → (us.getD i noNod).name.size ≤ maxLen ∧ (us.getD i noNod).other.size ≤ maxLen) := hsu
  have HV : Hid (alphaB ts us = (nodesB ts && nodesB us && sameNod (canB ts) (canB us))) := rfl
  have hct := canB_len ts
  have hcu := canB_len us
  clear hA hB hst hsu
  go_enter Tryz.func12, Tryz.ntmps12
  go_wp2_with fail
  refine (spec_nodes _ g ca ts (fun _ => rfl) hl HT.out w (HA.out w (Below.refl _ w))).mono ?_
  rintro e w1 ⟨rfl, b1⟩
  have B1 : Hid (Below w.heap.size w w1) := b1
  have s1 := b1.size
  clear b1
  cases hok : nodesB ts
  · have HW : Hid (alphaB ts us = false) := by show alphaB ts us = false; rw [HV.out, hok]; rfl
    clear HV hok
    go_wp2
    go_ret
    exact ⟨by rw [HW.out] <;> rfl, B1.out⟩
  · have HW : Hid (alphaB ts us = (nodesB us && sameNod (canB ts) (canB us))) := by show alphaB ts us = _; rw [HV.out, hok]; rfl
    clear HV hok
    go_wp2_with fail
    refine (spec_nodes _ h cb us (fun _ => rfl) hl2 HU.out w1 (HB.out w1 B1.out)).mono ?_
    rintro e w2 ⟨rfl, b2⟩
    have B2 : Hid (Below w.heap.size w w2) := B1.out.trans (b2.mono s1)
    have s2 := B2.out.size
    clear b2 B1
    cases hok : nodesB us
    · have HZ : Hid (alphaB ts us = false) := by show alphaB ts us = false; rw [HW.out, hok]; rfl
      clear HW hok
      go_wp2
      go_ret
      exact ⟨by rw [HZ.out] <;> rfl, B2.out⟩
    · have HZ : Hid (alphaB ts us = sameNod (canB ts) (canB us)) := by show alphaB ts us = _; rw [HW.out, hok]; rfl
      clear HW hok
      have HC1 := hidI <| spec_canon g ca ts hl HT.out w2 (HA.out w2 B2.out)
      go_wp2_with fail
      refine HC1.out.mono ?_
      rintro e w3 ⟨G3, c3, rfl, hO3, b3⟩
      have B3 : Hid (Below w.heap.size w w3) := B2.out.trans (b3.mono s2)
      have s3 := B3.out.size
      have HO3 : Hid (OwnM w3 w2.heap.size G3 (canB ts).length c3 (canB ts)) := hO3
      have HC2 := hidI <| spec_canon h cb us hl2 HU.out w3 (HB.out w3 B3.out)
      clear hO3 b3 B2 HC1
      go_wp2_with fail
      refine HC2.out.mono ?_
      rintro e w4 ⟨G4, c4, rfl, hO4, b4⟩
      have B4 : Hid (Below w.heap.size w w4) := B3.out.trans (b4.mono s3)
      have s4 := B4.out.size
      have HSM := hidI <| spec_same (some ⟨G3, 0, none⟩) (some ⟨G4, 0, none⟩) G3 G4 c3 c4 (canB ts) (canB us) (by omega) (by omega) (fun _ => rfl) (fun _ => rfl) w4 (HO3.out.below b4).at hO4.at
      clear hO4 b4 B3 HC2 HO3
      go_wp2_with fail
      refine HSM.out.mono ?_
      rintro e w5 ⟨rfl, b5⟩
      have B5 : Hid (Below w.heap.size w w5) := B4.out.trans (b5.mono s4)
      clear b5 B4 HSM
      go_wp2
      go_ret
      exact ⟨by rw [HZ.out] <;> rfl, B5.out⟩

set_option maxHeartbeats 1000000 in
set_option maxRecDepth 20000 in
theorem impl_alpha (g h ca cb : Nat) (ts us : List Nod) (hl : ts.length ≤ 1048576) (hl2 : us.length ≤ 1048576)
    (hst : ∀ i, i < ts.length → (ts.getD i noNod).name.size ≤ maxLen ∧ (ts.getD i noNod).other.size ≤ maxLen) (hsu : ∀ i, i < us.length → (us.getD i noNod).name.size ≤ maxLen ∧ (us.getD i noNod).other.size ≤ maxLen) (w : World) (hA : NodAt w g ts) (hB : NodAt w h us) :
    Calls Tryz.prog 26 #[.slice (some ⟨g, 0, none⟩) ts.length ca, .slice (some ⟨h, 0, none⟩) us.length cb] w fun e w' => e = .returned (.bool (alphaB ts us)) ∧ Below w.heap.size w w' := by
  have HA : Hid (∀ W, Below w.heap.size w W → NodAt W g ts) := fun W hW => hA.below hW (fun h => hA.lt h)
  have HB : Hid (∀ W, Below w.heap.size w W → NodAt W h us) := fun W hW => hB.below hW (fun h => hB.lt h)
  have HT : Hid (∀ i, i < ts.length → (ts.getD i noNod).name.size ≤ maxLen ∧ (ts.getD i noNod).other.size ≤ maxLen) := hst
  have HU : Hid (∀ i, i < us.length → (us.getD i noNod).name.size ≤ maxLen ∧ (us.getD i noNod).other.size ≤ maxLen) := hsu
  have HV : Hid (alphaB ts us = (nodesB ts && nodesB us && sameNod (canB ts) (canB us))) := rfl
  have hct := canB_len ts
  have hcu := canB_len us
  clear hA hB hst hsu
  go_enter Tryz.func26, Tryz.ntmps26
  go_wp2_with fail
  refine (impl_nodes _ g ca ts (fun _ => rfl) hl HT.out w (HA.out w (Below.refl _ w))).mono ?_
  rintro e w1 ⟨rfl, b1⟩
  have B1 : Hid (Below w.heap.size w w1) := b1
  have s1 := b1.size
  clear b1
  cases hok : nodesB ts
  · have HW : Hid (alphaB ts us = false) := by show alphaB ts us = false; rw [HV.out, hok]; rfl
    clear HV hok
    go_wp2
    go_ret
    exact ⟨by rw [HW.out] <;> rfl, B1.out⟩
  · have HW : Hid (alphaB ts us = (nodesB us && sameNod (canB ts) (canB us))) := by show alphaB ts us = _; rw [HV.out, hok]; rfl
    have HOK : Hid (nodesB ts = true) := hok
    clear HV hok
    go_wp2_with fail
    refine (impl_nodes _ h cb us (fun _ => rfl) hl2 HU.out w1 (HB.out w1 B1.out)).mono ?_
    rintro e w2 ⟨rfl, b2⟩
    have B2 : Hid (Below w.heap.size w w2) := B1.out.trans (b2.mono s1)
    have s2 := B2.out.size
    clear b2 B1
    cases hok : nodesB us
    · have HZ : Hid (alphaB ts us = false) := by show alphaB ts us = false; rw [HW.out, hok]; rfl
      clear HW hok
      go_wp2
      go_ret
      exact ⟨by rw [HZ.out] <;> rfl, B2.out⟩
    · have HZ : Hid (alphaB ts us = sameNod (canB ts) (canB us)) := by show alphaB ts us = _; rw [HW.out, hok]; rfl
      have HOK2 : Hid (nodesB us = true) := hok
      clear HW hok
      have HC1 : Hid (Calls Tryz.prog 13 #[.slice (some ⟨g, 0, none⟩) ts.length ca] w2 (CanEnd w2 (canB ts))) := (impl_canon g ca ts hl HT.out w2 (HA.out w2 B2.out)).mono fun e w' ⟨_, _, _, h, _⟩ => h HOK.out
      go_wp2_with fail
      refine HC1.out.mono ?_
      rintro e w3 ⟨G3, c3, rfl, hO3, b3⟩
      have B3 : Hid (Below w.heap.size w w3) := B2.out.trans (b3.mono s2)
      have s3 := B3.out.size
      have HO3 : Hid (OwnM w3 w2.heap.size G3 (canB ts).length c3 (canB ts)) := hO3
      have HC2 : Hid (Calls Tryz.prog 13 #[.slice (some ⟨h, 0, none⟩) us.length cb] w3 (CanEnd w3 (canB us))) := (impl_canon h cb us hl2 HU.out w3 (HB.out w3 B3.out)).mono fun e w' ⟨_, _, _, h, _⟩ => h HOK2.out
      clear hO3 b3 B2 HC1
      go_wp2_with fail
      refine HC2.out.mono ?_
      rintro e w4 ⟨G4, c4, rfl, hO4, b4⟩
      have B4 : Hid (Below w.heap.size w w4) := B3.out.trans (b4.mono s3)
      have s4 := B4.out.size
      have HSM := hidI <| impl_same (some ⟨G3, 0, none⟩) (some ⟨G4, 0, none⟩) G3 G4 c3 c4 (canB ts) (canB us) (by omega) (by omega) (fun _ => rfl) (fun _ => rfl) w4 (HO3.out.below b4).at hO4.at
      clear hO4 b4 B3 HC2 HO3
      go_wp2_with fail
      refine HSM.out.mono ?_
      rintro e w5 ⟨rfl, b5⟩
      have B5 : Hid (Below w.heap.size w w5) := B4.out.trans (b5.mono s4)
      clear b5 B4 HSM
      go_wp2
      go_ret
      exact ⟨by rw [HZ.out] <;> rfl, B5.out⟩
end

section
open Go.ChangeShapes Go.WideShapes Go.ChangeAt Go.RowKit

def noSg : Int → Int → Option (List UInt8) := fun _ _ => none

def hasB (bl : List Bnd) (n r : Int) : Bool := bl.any (fun b => sameB b n r)

def renO (ts : List Nod) (n r : Int) (s : ByteArray) : List Nod := renL ts (upS n r s.data.toList noSg)

/-- What RenameOne answers. -/
def renB (ts : List Nod) (n r : Int) (s : ByteArray) : List Nod × Bool :=
  if (hasB (sitesB ts) n r && isNameB s && alphaB ts (renO ts n r s)) = true then (renO ts n r s, true) else (ts, false)

theorem renB_length (ts : List Nod) (n r : Int) (s : ByteArray) : (renB ts n r s).1.length = ts.length := by
  unfold renB
  split
  · exact renL_length _ _
  · rfl

theorem name_size {s : ByteArray} (h : isNameB s = true) : s.size ≤ 8 := by
  have := (Bool.and_eq_true_iff.1 h).1
  have := of_decide_eq_true this
  exact this.2.1

theorem has_site {ts : List Nod} {n r : Int} (h : hasB (sitesB ts) n r = true) : nodesB ts = true ∧ ∃ (p q k : Nat), n = p ∧ r = q ∧ p < ts.length ∧ q < rolK (ts.getD p noNod).kind ∧ k < (siteF ts ts.length).length ∧ (siteF ts ts.length).getD k noBnd = ⟨p, q⟩ := by
  have hok : nodesB ts = true := by
    cases hn : nodesB ts
    · rw [sitesB, if_neg (by rw [hn]; simp)] at h
      simp [hasB] at h
    · rfl
  refine ⟨hok, ?_⟩
  rw [sitesB, if_pos hok] at h
  obtain ⟨b, hb, hs⟩ := List.any_eq_true.1 h
  obtain ⟨p, q, e, hp, hq⟩ := site_from2 ts ts.length b hb
  obtain ⟨k, hk, e2⟩ := List.getElem_of_mem hb
  rw [sameB_iff, e] at hs
  injection hs with h1 h2
  exact ⟨p, q, k, h1.symm, h2.symm, hp, hq, hk, by simp [List.getD, hk, e2, e]⟩

theorem bytes_of (s : ByteArray) : (⟨s.data.toList.toArray⟩ : ByteArray) = s := by
  cases s
  simp

theorem ren_small {ts : List Nod} (h : nodesB ts = true) (n r : Int) (s : ByteArray) (hs : s.size ≤ 8) : ∀ i, i < (renO ts n r s).length → ((renO ts n r s).getD i noNod).name.size ≤ 8 ∧ ((renO ts n r s).getD i noNod).other.size ≤ 8 := by
  intro i hi
  rw [renO, renL_length] at hi
  rw [renO, renL_at _ _ hi]
  have hsm := name_small h i hi
  have ho : ∀ (a b : Int) (x : ByteArray), x.size ≤ 8 → (nmO (upS n r s.data.toList noSg a b) x).size ≤ 8 := fun a b x hx => by
    unfold upS
    split
    · show (⟨s.data.toList.toArray⟩ : ByteArray).size ≤ 8
      rw [bytes_of]; exact hs
    · exact hx
  unfold renN
  constructor
  · show (if _ then _ else _ : ByteArray).size ≤ 8
    split
    · exact ho _ _ _ hsm.1
    · exact ho _ _ _ hsm.1
  · show (if _ then _ else _ : ByteArray).size ≤ 8
    split
    · exact hsm.2
    · exact ho _ _ _ hsm.2

/-- What RenameOne ends with. -/
def RenEnd (w : World) (ts : List Nod) (R : List Nod × Bool) (e : Ending) (w' : World) : Prop := ∃ G c, e = .returned (.tuple #[.slice (some ⟨G, 0, none⟩) ts.length c, .bool R.2]) ∧ OwnM w' w.heap.size G ts.length c R.1 ∧ Below w.heap.size w w'

theorem copy_own {W : World} {B : Nat} {v : Value} {ts : List Nod} (ho : W.ownsRow B 38 7 v ts.length (ts.flatMap nodCells)) (hn : v = .slice none 0 0 → False) :
    ∃ g3 c3, v = .slice (some ⟨g3, 0, none⟩) ts.length c3 ∧ OwnM W B g3 ts.length c3 ts := by
  rcases ho.2 with ⟨h0, _⟩ | ⟨g3, c3, cur3, h3, _⟩
  · exact (hn h0).elim
  · subst h3
    exact ⟨g3, c3, rfl, rfl, ho⟩

theorem cq_u_name : (Tryz.f52.name == "runtime.NumGoroutine") = false := by kernel_rfl
theorem cq_u_body : Tryz.f52.body.isNone = false := by kernel_rfl
theorem cq_s_name : (Tryz.f51.name == "runtime.NumGoroutine") = false := by kernel_rfl
theorem cq_s_body : Tryz.f51.body.isNone = false := by kernel_rfl

theorem hasB_step (bl : List Bnd) (n r : Int) (k : Nat) (h : k < bl.length) : hasB (bl.take (k + 1)) n r = (hasB (bl.take k) n r || sameB (bl.getD k noBnd) n r) := by
  unfold hasB
  rw [List.take_succ_eq_append_getElem h, List.any_append]
  have e : bl.getD k noBnd = bl[k] := by simp [List.getD, h]
  rw [e]
  simp

set_option maxHeartbeats 8000000 in
set_option maxRecDepth 20000 in
theorem spec_rename (g cap : Nat) (ts : List Nod) (n r : Int) (s : ByteArray) (hl : ts.length ≤ 1048576) (hsz : s.size ≤ maxLen)
    (hst : ∀ i, i < ts.length → (ts.getD i noNod).name.size ≤ maxLen ∧ (ts.getD i noNod).other.size ≤ maxLen) (w : World) (hA : NodAt w g ts) :
    Calls Tryz.prog 27 #[.slice (some ⟨g, 0, none⟩) ts.length cap, .agg #[.int .i64 n, .int .i64 r], .string s] w (RenEnd w ts (renB ts n r s)) := by
  have HAX : Hid (∀ W, Below w.heap.size w W → NodAt W g ts) := fun W hW => hA.below hW (fun h => hA.lt h)
  have HT : Hid (∀ i, i < ts.length → (ts.getD i noNod).name.size ≤ maxLen ∧ (ts.getD i noNod).other.size ≤ maxLen) := hst
  have HV : Hid (renB ts n r s = if (hasB (sitesB ts) n r && isNameB s && alphaB ts (renO ts n r s)) = true then (renO ts n r s, true) else (ts, false)) := rfl
  have BA : Hid (Below w.heap.size w (w.alloc (.cells #[.int .i64 n, .int .i64 r] 32))) := (Below.refl _ w).alloc (Nat.le_refl _) _
  have RA : Hid ((w.alloc (.cells #[.int .i64 n, .int .i64 r] 32)).heap[w.heap.size]? = some (.cells #[.int .i64 n, .int .i64 r] 32 (0, 0))) := (MapKept.heap_alloc w _).1
  have hsa : (w.alloc (.cells #[.int .i64 n, .int .i64 r] 32)).heap.size = w.heap.size + 1 := by simp
  obtain ⟨wa, hwa⟩ : ∃ wa, w.alloc (.cells #[.int .i64 n, .int .i64 r] 32) = wa := ⟨_, rfl⟩
  have HWA : Hid (w.alloc (.cells #[.int .i64 n, .int .i64 r] 32) = wa) := hwa
  rw [hwa] at BA RA hsa
  have HSA : Hid (wa.heap.size = w.heap.size + 1) := hsa
  have HRX : Hid (∀ W, Below wa.heap.size wa W → W.heap[w.heap.size]? = some (.cells #[.int .i64 n, .int .i64 r] 32 (0, 0)) ∧ Below w.heap.size w W) := fun W h => ⟨(h.block _ (by omega)).trans RA.out, BA.out.trans (h.mono (by omega))⟩
  have oe0 : ownNod ((w.alloc (.cells #[.int .i64 n, .int .i64 r] 32)).alloc (.cells #[] 38)) (w.heap.size + 1) (.slice (some ⟨w.heap.size + 1, 0, none⟩) 0 0) [] := by
    have h := ownNod_empty (w := w.alloc (.cells #[.int .i64 n, .int .i64 r] 32)) (Nat.le_refl _)
    have e : (w.alloc (.cells #[.int .i64 n, .int .i64 r] 32)).heap.size = w.heap.size + 1 := by simp
    rw [e] at h
    exact h
  have OE0 := hidI oe0
  have HC : Hid (∀ W : World, Below w.heap.size w W → ∀ j u, (ts.flatMap nodCells)[j]? = some u → (W.alloc (.cells #[] 38)).cell? ((⟨g, 0, none⟩ : Addr).add j) = some u) := fun W hW j u hu => by
    have h1 := nod_cells_at (HAX.out W hW) j u hu
    have h2 := nod_lt h1
    rw [add_plain] at h1 h2 ⊢
    rw [World.cell?_alloc_lt _ _ _ (by simpa using h2)]
    exact h1
  have hc0 := HC.out wa BA.out
  rw [← HWA.out] at hc0
  have HC0 := hidI hc0
  have HB0 : Hid (Below w.heap.size w ((w.alloc (.cells #[.int .i64 n, .int .i64 r] 32)).alloc (.cells #[] 38)) ∧ Below (w.heap.size + 1) wa ((w.alloc (.cells #[.int .i64 n, .int .i64 r] 32)).alloc (.cells #[] 38)) ∧ ((w.alloc (.cells #[.int .i64 n, .int .i64 r] 32)).alloc (.cells #[] 38)).heap.size = w.heap.size + 2) := by
    refine ⟨((Below.refl _ w).alloc (Nat.le_refl _) _).alloc (by simp) _, ?_, by simp⟩
    rw [hwa, ← hsa]
    exact (Below.refl _ wa).alloc (Nat.le_refl _) _
  obtain ⟨i0, hi, hz0, hz1, hz2⟩ := info_parts info_nod
  clear hA hst hwa hsa oe0 hc0
  go_enter Tryz.func27, Tryz.ntmps27
  go_wp2_with (at_builtin; refine wpList_append_own _ rfl _ _ 24 rfl (w.heap.size + 1) 38 i0 _ 7 72 Tryz.underlying24 hi hz0 hz1 hz2 rfl (by decide) _ _ _ rfl OE0.out ⟨g, 0, none⟩ ts.length cap (ts.flatMap nodCells) rfl (by rw [nod_flat_length]) HC0.out (flat_oneC _) (by unfold maxLen; simp; omega) (by simp; omega) (by simp) ?_)
  intro v3 w3 ho3 hg3 hn3
  obtain ⟨g3, c3, rfl, hO3⟩ := copy_own ho3 hn3
  have HO3 : Hid (OwnM w3 (w.heap.size + 1) g3 ts.length c3 ts) := hO3
  have B3 : Hid (Below wa.heap.size wa w3) := by
    show Below _ _ _
    rw [HSA.out]
    exact HB0.out.2.1.grown hg3 (by have := HB0.out.2.2; omega) (fun k hk => (OE0.out.lt k hk).1)
  have s3 : w.heap.size + 1 ≤ w3.heap.size := by have := B3.out.size; have := HSA.out; omega
  clear ho3 hg3 hn3 hO3 OE0 HC0 HB0
  go_wp2_with fail
  refine (spec_sites _ g cap ts (fun _ => rfl) hl HT.out w3 (HAX.out w3 (HRX.out w3 B3.out).2)).mono ?_
  rintro e w4 ⟨v4, rfl, ho4, b4⟩
  obtain ⟨a4, g4, c4, sp4, rfl, ha4, hA4, hge4, hlt4, _⟩ := ownBnd_form ho4
  have HO4 : Hid (OwnM w4 (w.heap.size + 1) g3 ts.length c3 ts) := HO3.out.below b4
  have B4 : Hid (Below wa.heap.size wa w4) := B3.out.trans (b4.mono (by have := HSA.out; omega))
  have HA4 : Hid (0 < (sitesB ts).length → a4 = some ⟨g4, 0, none⟩ ∧ g4 < w4.heap.size) := fun h => ⟨ha4 h, hlt4 h⟩
  have HBX : Hid (∀ W, Below w4.heap.size w4 W → BndAt W g4 (sitesB ts)) := fun W h => hA4.below h (fun h => hlt4 h)
  have s4 : w.heap.size + 1 ≤ w4.heap.size := by have := B4.out.size; have := HSA.out; omega
  have hbl := sitesB_length ts
  obtain ⟨bl, hblq⟩ : ∃ bl, sitesB ts = bl := ⟨_, rfl⟩
  have HBL : Hid (sitesB ts = bl) := hblq
  rw [hblq] at HV HA4 HBX hbl
  rw [hblq]
  clear ho4 ha4 hA4 hge4 hlt4 b4 HO3 B3 hblq
  go_wp2
  go_loopw [9, 11] (fun is iv wr => ∃ (k : Nat) (b : Bool), k ≤ bl.length ∧ is = .bool b ∧ iv = .int .i64 k ∧ Hid (b = hasB (bl.take k) n r) ∧ Below w4.heap.size w4 wr) (fun _ iv _ => bl.length - (intOf iv).toNat)
  case atStart => exact ⟨0, false, by omega, rfl, rfl, rfl, Below.refl _ _⟩
  case round =>
    obtain ⟨k, b, hk, rfl, rfl, HB, hbel⟩ := hrel
    have hs := hbel.size
    have HBW : Hid (Below wa.heap.size wa wr) := B4.out.trans (hbel.mono (by have := HSA.out; omega))
    obtain ⟨q0, q1, q2⟩ := row2_cells (HRX.out wr HBW.out).1
    by_cases hin : k < bl.length
    · have hin' : (k : Int) < bl.length := by omega
      have HST : Hid (hasB (bl.take (k + 1)) n r = (b || sameB (bl.getD k noBnd) n r)) := by
        show _ = _
        rw [hasB_step bl n r k hin, ← HB.out]
      cases b with
      | true =>
        have HN : Hid (true = hasB (bl.take (k + 1)) n r) := by show true = _; rw [HST.out]; rfl
        clear HST HB q2
        go_wp2
        go_quiet (fail)
        go_wp2
        go_roundw
        case rel => exact ⟨k + 1, true, by omega, rfl, by go_num, HN, below_drew_n hbel _⟩
        case measure => simp [intOf]; omega
      | false =>
        obtain ⟨rfl, _⟩ := HA4.out (by omega)
        have t := HBX.out wr hbel k hin
        generalize bl.getD k noBnd = y at t HST
        obtain ⟨y0, y1⟩ := y
        have c0 : wr.cell? ⟨g4, k * 2, none⟩ = some (.int .i64 y0) := t.c0
        have c1 : wr.cell? ⟨g4, k * 2 + 1, none⟩ = some (.int .i64 y1) := t.c1
        have heq := bnd_eql y0 y1 n r
        have HN : Hid (sameB ⟨y0, y1⟩ n r = hasB (bl.take (k + 1)) n r) := by show _ = _; rw [HST.out]; rfl
        generalize sameB ⟨y0, y1⟩ n r = z at *
        clear t HST HB q2
        go_wp2
        go_quiet (fail)
        go_wp2
        go_roundw
        case rel => exact ⟨k + 1, z, by omega, rfl, by go_num, HN, below_drew_n hbel _⟩
        case measure => simp [intOf]; omega
    · obtain rfl : k = bl.length := by omega
      have HBB : Hid (b = hasB bl n r) := by have := HB.out; rw [List.take_length] at this; exact this
      have HB2 : Hid (Below w.heap.size w wr) := (HRX.out wr HBW.out).2
      clear HB
      cases b with
      | false =>
        have HRF : Hid (renB ts n r s = (ts, false)) := by show renB ts n r s = _; rw [HV.out, ← HBB.out]; rfl
        clear q0 q1 q2
        have oeN : ownNod (wr.alloc (.cells #[] 38)) wr.heap.size (.slice (some ⟨wr.heap.size, 0, none⟩) 0 0) [] := ownNod_empty (Nat.le_refl _)
        have OEN := hidI oeN
        have HCN := hidI <| HC.out wr HB2.out
        have HSZ : Hid (w.heap.size ≤ wr.heap.size) := HB2.out.size
        clear oeN
        go_wp2_with (at_builtin; refine wpList_append_own _ rfl _ _ 24 rfl wr.heap.size 38 i0 _ 7 72 Tryz.underlying24 hi hz0 hz1 hz2 rfl (by decide) _ _ _ rfl OEN.out ⟨g, 0, none⟩ ts.length cap (ts.flatMap nodCells) rfl (by rw [nod_flat_length]) HCN.out (flat_oneC _) (by unfold maxLen; simp; omega) (by simp; omega) (by simp) ?_)
        intro v9 w9 ho9 hg9 hn9
        obtain ⟨g9, c9, rfl, hO9⟩ := copy_own ho9 hn9
        have HO9 : Hid (OwnM w9 w.heap.size g9 ts.length c9 ts) := hO9.mono HSZ.out
        have B9 : Hid (Below w.heap.size w w9) := (HB2.out.alloc HSZ.out _).grown hg9 (by have := HSZ.out; simp; omega) (fun k hk => Nat.le_trans HSZ.out (OEN.out.lt k hk).1)
        clear ho9 hg9 hn9 hO9 OEN HCN
        go_wp2
        go_ret2
        exact ⟨g9, c9, by rw [HRF.out] <;> rfl, by rw [HRF.out]; exact HO9.out, B9.out⟩
      | true =>
        obtain ⟨hok, p, q, kx, rfl, rfl, hp, hq, _, _⟩ := has_site (ts := ts) (n := n) (r := r) (by rw [HBL.out, ← HBB.out])
        have HOK : Hid (nodesB ts = true) := hok
        have HQ : Hid (q < rolK (ts.getD p noNod).kind) := hq
        have HV2 : Hid (renB ts p q s = if (isNameB s && alphaB ts (renO ts p q s)) = true then (renO ts p q s, true) else (ts, false)) := by show renB ts p q s = _; rw [HV.out, ← HBB.out, Bool.true_and]
        have HNA := hidI <| spec_name s hsz wr
        clear hok hq q0 q1 q2
        go_wp2_with fail
        refine HNA.out.mono ?_
        rintro e w5 ⟨rfl, b5⟩
        have hb5 : Below w4.heap.size w4 w5 := hbel.trans (b5.mono hs)
        have HB5 : Hid (Below wa.heap.size wa w5) := B4.out.trans (hb5.mono (by have := HSA.out; omega))
        have HO5 : Hid (OwnM w5 (w.heap.size + 1) g3 ts.length c3 ts) := HO4.out.kept (grown_of_below hb5 none) (by simp)
        have HB5w : Hid (Below w.heap.size w w5) := (HRX.out w5 HB5.out).2
        have s5 : w.heap.size + 1 ≤ w5.heap.size := by have := HB5.out.size; have := HSA.out; omega
        clear b5 hb5 HNA hbel hs HBW HB2
        cases hnm : isNameB s with
        | false =>
          have HRF : Hid (renB ts p q s = (ts, false)) := by show renB ts p q s = _; rw [HV2.out, hnm]; rfl
          clear hnm
          have oeN : ownNod (w5.alloc (.cells #[] 38)) w5.heap.size (.slice (some ⟨w5.heap.size, 0, none⟩) 0 0) [] := ownNod_empty (Nat.le_refl _)
          have OEN := hidI oeN
          have HCN := hidI <| HC.out w5 HB5w.out
          have HSZ : Hid (w.heap.size ≤ w5.heap.size) := HB5w.out.size
          clear oeN
          go_wp2_with (at_builtin; refine wpList_append_own _ rfl _ _ 24 rfl w5.heap.size 38 i0 _ 7 72 Tryz.underlying24 hi hz0 hz1 hz2 rfl (by decide) _ _ _ rfl OEN.out ⟨g, 0, none⟩ ts.length cap (ts.flatMap nodCells) rfl (by rw [nod_flat_length]) HCN.out (flat_oneC _) (by unfold maxLen; simp; omega) (by simp; omega) (by simp) ?_)
          intro v9 w9 ho9 hg9 hn9
          obtain ⟨g9, c9, rfl, hO9⟩ := copy_own ho9 hn9
          have HO9 : Hid (OwnM w9 w.heap.size g9 ts.length c9 ts) := hO9.mono HSZ.out
          have B9 : Hid (Below w.heap.size w w9) := (HB5w.out.alloc HSZ.out _).grown hg9 (by have := HSZ.out; simp; omega) (fun k hk => Nat.le_trans HSZ.out (OEN.out.lt k hk).1)
          clear ho9 hg9 hn9 hO9 OEN HCN
          go_wp2
          go_ret2
          exact ⟨g9, c9, by rw [HRF.out] <;> rfl, by rw [HRF.out]; exact HO9.out, B9.out⟩
        | true =>
          have HV3 : Hid (renB ts p q s = if alphaB ts (renO ts p q s) = true then (renO ts p q s, true) else (ts, false)) := by show renB ts p q s = _; rw [HV2.out, hnm, Bool.true_and]
          have HS8 : Hid (s.size ≤ 8) := name_size hnm
          obtain ⟨q0, q1, q2⟩ := row2_cells (HRX.out w5 HB5.out).1
          have HUS : Hid (Calls Tryz.prog 52 #[.slice (some ⟨g, 0, none⟩) ts.length cap, .agg #[.int .i64 p, .int .i64 q]] w5.drew fun e w' => ∃ v, e = .returned v ∧ ownI w' w5.drew.heap.size v (usesB ts p q) ∧ Below w5.drew.heap.size w5.drew w') := spec_uses _ g cap ts p q (fun _ => rfl) hl HT.out w5.drew (HAX.out _ HB5w.out.drew)
          have hr01 : (q : Int) = 0 ∨ (q : Int) = 1 := by have := rolK_le (ts.getD p noNod).kind; have := HQ.out; omega
          have hul := usesB_length ts p q
          have HST : Hid (∀ (W : World) (uv : Value), OwnM W (w.heap.size + 1) g3 ts.length c3 ts → ownI W w5.heap.size uv (usesB ts p q) → Calls Tryz.prog 51 #[.slice (some ⟨g3, 0, none⟩) ts.length c3, uv, .agg #[.int .i64 p, .int .i64 q], .string s] W fun e w' => e = .returned (.slice (some ⟨g3, 0, none⟩) ts.length c3) ∧ OwnM w' (w.heap.size + 1) g3 ts.length c3 (renO ts p q s) ∧ W.grownBy w' (some g3)) := fun W uv h1 h2 => by
            have h := spec_set (w.heap.size + 1) g3 ts.length c3 w5.heap.size ts uv (usesB ts p q) p q s hr01 hp hl (by omega) (fun j hj => uses_range ts p q j hj) W h1 h2 HO5.out.ge.2
            have e := ren_step HOK.out noSg p q hp HQ.out s.data.toList
            rw [bytes_of, show renL ts noSg = ts from renL_none ts] at e
            rw [e] at h
            exact h
          clear hnm q2
          go_wp2
          go_region_law (first
            | (refine step_call rfl 52 #[.tmp 43, .tmp 44] #[24, 32] rfl #[.slice (some ⟨g, 0, none⟩) ts.length cap, .agg #[.int .i64 p, .int .i64 q]] (by first | (simp [Act.eval]; done) | simp [Act.eval, Act.put]) Tryz.func52 cq_u_name cq_u_body _ HUS.out ?_; rintro e w6 ⟨v6, rfl, o6, b6⟩; have HI6 : Hid (ownI w6 w5.heap.size v6 (usesB ts p q)) := o6; have HB6 : Hid (Below w5.heap.size w5 w6) := (Below.refl _ w5).drew.trans b6; have HO6 : Hid (OwnM w6 (w.heap.size + 1) g3 ts.length c3 ts) := HO5.out.kept (grown_of_below HB6.out none) (by simp); obtain ⟨k0, k1, k2⟩ := row2_cells (HRX.out w6 (HB5.out.trans (HB6.out.mono HB5.out.size))).1; clear o6 b6 k2; refine ⟨_, rfl, ?_⟩)
            | (refine step_call rfl 51 #[.tmp 42, .tmp 45, .tmp 46, .tmp 47] #[24, 57, 32, 9] rfl #[.slice (some ⟨g3, 0, none⟩) ts.length c3, v6, .agg #[.int .i64 p, .int .i64 q], .string s] (by first | (simp [Act.eval]; done) | simp [Act.eval, Act.put]) Tryz.func51 cq_s_name cq_s_body _ (HST.out w6 v6 HO6.out HI6.out) ?_; rintro e w7 ⟨rfl, m7, g7⟩; have HO7 : Hid (OwnM w7 (w.heap.size + 1) g3 ts.length c3 (renO ts p q s)) := m7; have HB7 : Hid (Below w.heap.size w w7) := (HB5w.out.trans (HB6.out.mono HB5w.out.size)).grown g7 (by have := HB6.out.size; omega) (fun k hk => by cases hk; have := HO6.out.ge; omega); clear m7 g7; refine ⟨_, rfl, ?_⟩))
          all_goals
            have hrl : (renO ts p q s).length = ts.length := renL_length _ _
            have HAL := hidI <| spec_alpha g g3 cap c3 ts (renO ts p q s) hl (by rw [hrl]; exact hl) HT.out (fun i hi => by have := ren_small HOK.out p q s HS8.out i hi; unfold maxLen; omega) w7 (HAX.out w7 HB7.out) HO7.out.at
            rw [hrl] at HAL
            have s7 := HB7.out.size
            clear hrl
            go_wp2_with fail
            refine HAL.out.mono ?_
            rintro e w8 ⟨rfl, b8⟩
            have HO8 : Hid (OwnM w8 (w.heap.size + 1) g3 ts.length c3 (renO ts p q s)) := HO7.out.below b8
            have HB8 : Hid (Below w.heap.size w w8) := HB7.out.trans (b8.mono s7)
            clear b8 HO7 HB7 HAL HUS HST
            cases hal : alphaB ts (renO ts p q s) with
            | true =>
              have HRT : Hid (renB ts p q s = (renO ts p q s, true)) := by show renB ts p q s = _; rw [HV3.out, hal]; rfl
              clear hal
              go_wp2
              go_ret2
              exact ⟨g3, c3, by rw [HRT.out] <;> rfl, by rw [HRT.out]; exact HO8.out.mono (by omega), HB8.out⟩
            | false =>
              have HRF : Hid (renB ts p q s = (ts, false)) := by show renB ts p q s = _; rw [HV3.out, hal]; rfl
              clear hal
              have oeN : ownNod (w8.alloc (.cells #[] 38)) w8.heap.size (.slice (some ⟨w8.heap.size, 0, none⟩) 0 0) [] := ownNod_empty (Nat.le_refl _)
              have OEN := hidI oeN
              have HCN := hidI <| HC.out w8 HB8.out
              have HSZ : Hid (w.heap.size ≤ w8.heap.size) := HB8.out.size
              clear oeN
              go_wp2_with (at_builtin; refine wpList_append_own _ rfl _ _ 24 rfl w8.heap.size 38 i0 _ 7 72 Tryz.underlying24 hi hz0 hz1 hz2 rfl (by decide) _ _ _ rfl OEN.out ⟨g, 0, none⟩ ts.length cap (ts.flatMap nodCells) rfl (by rw [nod_flat_length]) HCN.out (flat_oneC _) (by unfold maxLen; simp; omega) (by simp; omega) (by simp) ?_)
              intro v9 w9 ho9 hg9 hn9
              obtain ⟨g9, c9, rfl, hO9⟩ := copy_own ho9 hn9
              have HO9 : Hid (OwnM w9 w.heap.size g9 ts.length c9 ts) := hO9.mono HSZ.out
              have B9 : Hid (Below w.heap.size w w9) := (HB8.out.alloc HSZ.out _).grown hg9 (by have := HSZ.out; simp; omega) (fun k hk => Nat.le_trans HSZ.out (OEN.out.lt k hk).1)
              clear ho9 hg9 hn9 hO9 OEN HCN
              go_wp2
              go_ret2
              exact ⟨g9, c9, by rw [HRF.out] <;> rfl, by rw [HRF.out]; exact HO9.out, B9.out⟩
end

section
open Go.ChangeShapes Go.WideShapes Go.ChangeAt Go.RowKit

/-- The names of binders as they are. -/
def ownN (ts : List Nod) (bl : List Bnd) : List (List UInt8) := bl.map (fun b => (siteS ts b).data.toList)

theorem ownN_length (ts : List Nod) (bl : List Bnd) : (ownN ts bl).length = bl.length := by simp [ownN]
theorem ownN_at (ts : List Nod) (bl : List Bnd) (k : Nat) (h : k < bl.length) : (ownN ts bl).getD k [] = (siteS ts (bl.getD k noBnd)).data.toList := by simp [ownN, List.getD, h]

/-- With all names but one as they are. -/
theorem ren_key {ts : List Nod} {bl : List Bnd} (hd : bl.Nodup) (k p q : Nat) (x : List UInt8) (hk : k < bl.length) (ek : bl.getD k noBnd = ⟨p, q⟩) (a b : Int) (old : ByteArray) (h : (∃ k', k' < bl.length ∧ bl.getD k' noBnd = ⟨a, b⟩ ∧ siteS ts ⟨a, b⟩ = old) ∨ (∀ j, j < bl.length → bl.getD j noBnd ≠ ⟨a, b⟩)) :
    nmO (sgF bl ((ownN ts bl).set k x) bl.length a b) old = nmO (upS p q x noSg a b) old := by
  rcases h with ⟨k', hk', ek', hs⟩ | hno
  · have h1 := sg_at hd ((ownN ts bl).set k x) k' hk' bl.length hk' (Nat.le_refl _)
    rw [ek'] at h1
    rw [h1]
    by_cases e : k' = k
    · subst e
      have e2 : (⟨a, b⟩ : Bnd) = ⟨p, q⟩ := by rw [← ek', ← ek]
      injection e2 with e3 e4
      have h2 : ((ownN ts bl).set k' x).getD k' [] = x := by simp [List.getD, ownN_length, hk']
      rw [h2, upS, if_pos ((sameB_iff _ _ _).2 (by rw [e3, e4]))]
    · have h2 : ((ownN ts bl).set k x).getD k' [] = old.data.toList := by
        simp only [List.getD]
        rw [List.getElem?_set_ne (Ne.symm e)]
        have := ownN_at ts bl k' hk'
        simp only [List.getD] at this
        rw [this]
        have e5 : bl[k']?.getD noBnd = ⟨a, b⟩ := ek'
        rw [e5, hs]
      rw [h2, upS, if_neg]
      · show (⟨old.data.toList.toArray⟩ : ByteArray) = old
        exact bytes_of old
      · intro e2
        have e3 := (sameB_iff _ _ _).1 e2
        have e4 : bl.getD k noBnd = bl.getD k' noBnd := by rw [ek, ek', ← e3]
        simp only [List.getD, List.getElem?_eq_getElem hk, List.getElem?_eq_getElem hk', Option.getD_some] at e4
        rcases Nat.lt_or_gt_of_ne e with hlt | hgt
        · exact List.pairwise_iff_getElem.1 hd k' k hk' hk hlt e4.symm
        · exact List.pairwise_iff_getElem.1 hd k k' hk hk' hgt e4
  · rw [sg_none bl _ a b bl.length hno, upS, if_neg]
    · rfl
    · intro e2
      exact hno k hk (by rw [ek]; exact (sameB_iff _ _ _).1 e2)

theorem ren_one {ts : List Nod} (hok : nodesB ts = true) (k p q : Nat) (x : List UInt8) (hk : k < (siteF ts ts.length).length) (ek : (siteF ts ts.length).getD k noBnd = ⟨p, q⟩) :
    renL ts (sgF (siteF ts ts.length) ((ownN ts (siteF ts ts.length)).set k x) (siteF ts ts.length).length) = renL ts (upS p q x noSg) := by
  have hd := site_nodup ts ts.length
  refine nod_list_ext (by rw [renL_length, renL_length]) fun j hj => ?_
  rw [renL_length] at hj
  rw [renL_at _ _ hj, renL_at _ _ hj]
  unfold renN
  by_cases h1 : (ts.getD j noNod).kind = 1
  · rw [if_pos h1, if_pos h1, if_pos h1, if_pos h1]
    have hb : binN ts j = ⟨(scB ts j (ts.getD j noNod).name).1, (scB ts j (ts.getD j noNod).name).2⟩ := if_pos h1
    have e := ren_key hd k p q x hk ek (binN ts j).node (binN ts j).role (ts.getD j noNod).name (by
      by_cases h0 : 0 ≤ (scB ts j (ts.getD j noNod).name).1
      · obtain ⟨p', r', k', e1, _, _, e2, hk', ek'⟩ := scB_site hok _ _ h0
        rw [hb, e1]
        exact Or.inl ⟨k', hk', ek', by
          unfold siteS
          simp only
          rw [show ((p' : Nat) : Int).toNat = p' by omega]
          exact e2⟩
      · refine Or.inr (fun j' hj' e1 => ?_)
        obtain ⟨p', r', e2, _, _⟩ := site_at ts j' hj'
        rw [e2, hb] at e1
        injection e1 with e3 _
        have e4 : (p' : Int) = (scB ts j (ts.getD j noNod).name).1 := e3
        omega)
    rw [e]
  · rw [if_neg h1, if_neg h1, if_neg h1, if_neg h1]
    have hkey : ∀ r : Nat, r ≤ 1 → nmO (sgF (siteF ts ts.length) ((ownN ts (siteF ts ts.length)).set k x) (siteF ts ts.length).length j r) (roleS (ts.getD j noNod) r) = nmO (upS p q x noSg j r) (roleS (ts.getD j noNod) r) := fun r hr => by
      refine ren_key hd k p q x hk ek j r _ ?_
      by_cases hs : r < rolK (ts.getD j noNod).kind
      · obtain ⟨k', hk', ek'⟩ := site_ix hj hs
        exact Or.inl ⟨k', hk', ek', by
          unfold siteS
          simp only
          rw [show ((j : Nat) : Int).toNat = j by omega]⟩
      · refine Or.inr (fun j' hj' e1 => ?_)
        obtain ⟨p', r', e2, _, hr'⟩ := site_at ts j' hj'
        rw [e2] at e1
        injection e1 with e3 e4
        have e5 : p' = j := by omega
        have e6 : r' = r := by omega
        rw [e5, e6] at hr'
        exact hs hr'
    have e0 := hkey 0 (by omega)
    have e1 := hkey 1 (by omega)
    have e0' : nmO (sgF (siteF ts ts.length) ((ownN ts (siteF ts ts.length)).set k x) (siteF ts ts.length).length j 0) (ts.getD j noNod).name = nmO (upS p q x noSg j 0) (ts.getD j noNod).name := e0
    have e1' : nmO (sgF (siteF ts ts.length) ((ownN ts (siteF ts ts.length)).set k x) (siteF ts ts.length).length j 1) (ts.getD j noNod).other = nmO (upS p q x noSg j 1) (ts.getD j noNod).other := e1
    rw [e0', e1']

theorem nr_name : (Tryz.f66.name == "runtime.NumGoroutine") = false := by kernel_rfl
theorem nr_body : Tryz.f66.body.isNone = false := by kernel_rfl

/-- The names so far. -/
def nmMix (nms : List (List UInt8)) (k : Nat) : List (List UInt8) := nms.take k ++ List.replicate (nms.length - k) []

theorem nmMix_set (nms : List (List UInt8)) (k : Nat) (h : k < nms.length) : (nmMix nms k).set k (nms.getD k []) = nmMix nms (k + 1) := by
  unfold nmMix
  have e : nms.length - k = (nms.length - (k + 1)) + 1 := by omega
  have el : (nms.take k).length = k := by simp; omega
  rw [e, List.replicate_succ, List.set_append_right _ _ (by omega), el, Nat.sub_self, List.set_cons_zero]
  have e2 : nms.take (k + 1) = nms.take k ++ [nms.getD k []] := by
    rw [List.take_succ_eq_append_getElem h]
    simp [List.getD, h]
  rw [e2, List.append_assoc]
  rfl

theorem nmMix_length (nms : List (List UInt8)) (k : Nat) (h : k ≤ nms.length) : (nmMix nms k).length = nms.length := by simp [nmMix]; omega

theorem str_row_set (w : World) (g k : Nat) (l : List (List UInt8)) (x : List UInt8) (s : ByteArray) (hs : s = ⟨x.toArray⟩) (hg : w.heap[g]? = some (.cells (l.map encStr).toArray 9 (0, 0))) :
    (w.setCell ⟨g, k, none⟩ (.string s)).heap[g]? = some (.cells ((l.set k x).map encStr).toArray 9 (0, 0)) := by
  rw [heap_setCell_same w g k _ _ (.string s) hg]
  congr 2
  rw [List.setIfInBounds_toArray, List.map_set, hs]

theorem str_row_cell {w : World} {g : Nat} {l : List (List UInt8)} (hg : w.heap[g]? = some (.cells (l.map encStr).toArray 9 (0, 0))) (k : Nat) (hk : k < l.length) : w.cell? ⟨g, k, none⟩ = some (.string ⟨(l.getD k []).toArray⟩) := by
  rw [cell_of_row _ _ _ _ _ _ hg]
  simp [List.getD, hk, encStr]

set_option maxHeartbeats 4000000 in
set_option maxRecDepth 20000 in
theorem impl_siteNames (g cap : Nat) (ts : List Nod) (sa : Option Addr) (gs cs : Nat) (bl : List Bnd) (hbl : bl.length ≤ 300) (hsa : 0 < bl.length → sa = some ⟨gs, 0, none⟩) (hin : ∀ k, k < bl.length → ∃ p r : Nat, bl.getD k noBnd = ⟨p, r⟩ ∧ p < ts.length) (w : World) (hA : NodAt w g ts) (hS : BndAt w gs bl) (hl : ts.length ≤ 1048576) :
    Calls Tryz.prog 37 #[.slice (some ⟨g, 0, none⟩) ts.length cap, .slice sa bl.length cs] w fun e w' => ∃ G, e = .returned (.slice (some ⟨G, 0, none⟩) bl.length bl.length) ∧ w.heap.size ≤ G ∧ w'.heap[G]? = some (.cells ((ownN ts bl).map encStr).toArray 9 (0, 0)) ∧ Below w.heap.size w w' := by
  have HA : Hid (NodAt w g ts) := hA
  have HS : Hid (BndAt w gs bl) := hS
  have HIN : Hid (∀ k, k < bl.length → ∃ p r : Nat, bl.getD k noBnd = ⟨p, r⟩ ∧ p < ts.length) := hin
  have hnl := ownN_length ts bl
  have HNA : Hid (∀ k, k < bl.length → (ownN ts bl).getD k [] = (siteS ts (bl.getD k noBnd)).data.toList) := fun k hk => ownN_at ts bl k hk
  clear hA hS hin
  obtain ⟨i0, hi, hz0, hz1, hz2⟩ := info_parts info_str
  have hmk := run_make (P := Tryz.prog) w 35 9 i0 _ Tryz.underlying35 hi hz0 .i64 .i64 (bl.length : Int) (bl.length : Int) (by omega) (by omega) (by rw [hz2]; omega) (by omega)
  have ez : ((bl.length : Nat) : Int).toNat = bl.length := by omega
  have em : madeCells (Value.string ⟨#[]⟩).cells (bl.length * 1) = ((nmMix (ownN ts bl) 0).map encStr).toArray := by
    apply Array.toList_inj.1
    have h := toList_madeCells_one (Value.string ⟨#[]⟩) (bl.length * 1)
    rw [show (Value.string ⟨#[]⟩).cells = #[Value.string ⟨#[]⟩] from rfl, h, nmMix, List.take_zero, List.nil_append, Nat.sub_zero, hnl, Nat.mul_one, List.map_replicate]
  rw [hz1, ez, em] at hmk
  have R0 : Hid ((w.alloc (.cells ((nmMix (ownN ts bl) 0).map encStr).toArray 9)).heap[w.heap.size]? = some (.cells ((nmMix (ownN ts bl) 0).map encStr).toArray 9 (0, 0))) := (MapKept.heap_alloc w _).1
  have B0 : Hid (Below w.heap.size w (w.alloc (.cells ((nmMix (ownN ts bl) 0).map encStr).toArray 9))) := (Below.refl _ w).alloc (Nat.le_refl _) _
  generalize w.alloc (.cells ((nmMix (ownN ts bl) 0).map encStr).toArray 9) = wa at *
  generalize hNq : ownN ts bl = nms at *
  clear ez em hi hz0 hz1 hz2 hNq
  go_enter Tryz.func37, Tryz.ntmps37
  go_wp2
  clear hmk
  go_loopw [13] (fun r wr => ∃ k : Nat, k ≤ bl.length ∧ r = .int .i64 k ∧ Hid (wr.heap[w.heap.size]? = some (.cells ((nmMix nms k).map encStr).toArray 9 (0, 0))) ∧ Hid (Below w.heap.size w wr)) (fun r _ => bl.length - (intOf r).toNat)
  case atStart => exact ⟨0, by omega, rfl, R0, B0⟩
  case round =>
    obtain ⟨k, hk, rfl, HR, HB⟩ := hrel
    clear R0 B0
    have hs := HB.out.size
    have hwl : w.heap.size < wr.heap.size := (Array.getElem?_eq_some_iff.1 HR.out).1
    by_cases hin : k < bl.length
    · have hin' : (k : Int) < bl.length := by omega
      obtain rfl := hsa (by omega)
      obtain ⟨p, r, epr, hp⟩ := HIN.out k hin
      have hp' : (p : Int) < ts.length := by omega
      have t := (HS.out.below HB.out (fun h => HS.out.lt h)) k hin
      rw [epr] at t
      have k0 : wr.cell? ⟨gs, k * 2, none⟩ = some (.int .i64 p) := t.c0
      have k1 : wr.cell? ⟨gs, k * 2 + 1, none⟩ = some (.int .i64 r) := t.c1
      have hgs : gs < wr.heap.size := nod_lt k0
      have HNK : Hid (nms.getD k [] = (roleS (ts.getD p noNod) r).data.toList) := by
        show _ = _
        rw [HNA.out k hin, epr]
        unfold siteS
        simp only
        rw [show ((p : Nat) : Int).toNat = p by omega]
      have HST : Hid ((nmMix nms k).set k (nms.getD k []) = nmMix nms (k + 1)) := nmMix_set nms k (by omega)
      have hml := nmMix_length nms k (by omega)
      have u := (HA.out.below HB.out (fun h => HA.out.lt h)) p hp
      obtain ⟨⟨x0, x1, x2, x3, x4, x5, x6⟩, hx⟩ : ∃ y, ts.getD p noNod = y := ⟨_, rfl⟩
      rw [hx] at u HNK
      have HBA : Hid (Below w.heap.size w (wr.alloc (.cells #[.int .i64 (p : Int), .int .i64 (r : Int)] 32))) := HB.out.alloc hs _
      have HRA : Hid ((wr.alloc (.cells #[.int .i64 (p : Int), .int .i64 (r : Int)] 32)).heap[w.heap.size]? = some (.cells ((nmMix nms k).map encStr).toArray 9 (0, 0))) := ((Below.refl _ wr).alloc (Nat.le_refl _) _ |>.block _ hwl).trans HR.out
      have ra : (wr.alloc (.cells #[.int .i64 (p : Int), .int .i64 (r : Int)] 32)).heap[wr.heap.size]? = some (.cells #[.int .i64 (p : Int), .int .i64 (r : Int)] 32 (0, 0)) := (MapKept.heap_alloc wr _).1
      have hua := (HA.out.below HBA.out (fun h => HA.out.lt h)) p hp
      rw [hx] at hua
      obtain ⟨b0, b1, _⟩ := row2_cells ra
      obtain ⟨wz, hwz⟩ : ∃ wz, wr.alloc (.cells #[.int .i64 (p : Int), .int .i64 (r : Int)] 32) = wz := ⟨_, rfl⟩
      have HWZ : Hid (wr.alloc (.cells #[.int .i64 (p : Int), .int .i64 (r : Int)] 32) = wz) := hwz
      rw [hwz] at HBA HRA b0 b1 hua
      have q0 : wz.cell? ⟨g, p * 7, none⟩ = some (.int .i64 x0) := hua.c0
      have q1 : wz.cell? ⟨g, p * 7 + 1, none⟩ = some (.int .i64 x1) := hua.c1
      have q2 : wz.cell? ⟨g, p * 7 + 2, none⟩ = some (.int .i64 x2) := hua.c2
      have q3 : wz.cell? ⟨g, p * 7 + 3, none⟩ = some (.int .i64 x3) := hua.c3
      have q4 : wz.cell? ⟨g, p * 7 + 4, none⟩ = some (.int .i64 x4) := hua.c4
      have q5 : wz.cell? ⟨g, p * 7 + 5, none⟩ = some (.string x5) := hua.c5
      have q6 : wz.cell? ⟨g, p * 7 + 6, none⟩ = some (.string x6) := hua.c6
      have hwz1 : w.heap.size < wz.heap.size := (Array.getElem?_eq_some_iff.1 HRA.out).1
      have HNR := hidI <| impl_nameOfRole x0 x1 x2 x3 x4 x5 x6 (r : Int) wz.drew
      clear hwz u t hx epr ra hua HR HB
      go_wp2_with fail
      rw [HWZ.out]
      go_region_law (refine step_call rfl 66 #[.tmp 24, .tmp 26] #[38, 3] rfl #[.agg #[.int .i64 x0, .int .i64 x1, .int .i64 x2, .int .i64 x3, .int .i64 x4, .string x5, .string x6], .int .i64 r] (by first | (simp [Act.eval]; done) | simp [Act.eval, Act.put]) Tryz.func66 nr_name nr_body _ HNR.out ?_; rintro e w2 ⟨rfl, b2⟩; have BZ2 : Hid (Below wz.heap.size wz w2) := (Below.refl _ wz).drew.trans b2; have R2 : Hid (w2.heap[w.heap.size]? = some (.cells ((nmMix nms k).map encStr).toArray 9 (0, 0))) := (BZ2.out.block _ hwz1).trans HRA.out; have g1 := str_row_cell R2.out k (by omega); have g2 : w2.frozen? ⟨w.heap.size, k, none⟩ = false := frozen_of_row w2 _ _ _ _ R2.out; clear b2; refine ⟨_, rfl, ?_⟩)
      all_goals
        have r3 := str_row_set w2 w.heap.size k _ (nms.getD k []) (roleS ⟨x0, x1, x2, x3, x4, x5, x6⟩ r) (by rw [HNK.out, bytes_of]) R2.out
        rw [HST.out] at r3
        have HR3 := hidI r3
        have HB3 : Hid (Below w.heap.size w (w2.setCell ⟨w.heap.size, k, none⟩ (.string (roleS ⟨x0, x1, x2, x3, x4, x5, x6⟩ r)))) := (HBA.out.trans (BZ2.out.mono HBA.out.size)).setCell (p := ⟨w.heap.size, k, none⟩) (Nat.le_refl _) _
        clear r3 R2 BZ2 HBA HRA
        go_wp2
        go_roundw
        case rel => exact ⟨k + 1, by omega, by go_num, HR3, HB3⟩
        case measure => simp [intOf]; omega
    · obtain rfl : k = bl.length := by omega
      have HE : Hid (wr.heap[w.heap.size]? = some (.cells (nms.map encStr).toArray 9 (0, 0))) := by
        have := HR.out
        rw [nmMix, ← hnl, Nat.sub_self, List.replicate_zero, List.append_nil, List.take_length] at this
        exact this
      clear HR
      go_wp2
      go_ret
      exact ⟨w.heap.size, rfl, Nat.le_refl _, HE.out, HB.out⟩

theorem hasB_idx (n r : Int) : ∀ (bl : List Bnd) (o : Int), 0 ≤ o → hasB bl n r = decide (0 ≤ idxB bl n r o)
  | [], o, _ => rfl
  | b :: l, o, h => by
    rw [idxB]
    by_cases hs : sameB b n r = true
    · rw [if_pos hs, decide_eq_true h]
      simp [hasB, hs]
    · rw [if_neg hs, ← hasB_idx n r l (o + 1) (by omega)]
      simp [hasB, hs]

set_option maxHeartbeats 4000000 in
set_option maxRecDepth 20000 in
theorem impl_rename (g cap : Nat) (ts : List Nod) (n r : Int) (s : ByteArray) (hl : ts.length ≤ 1048576) (hsz : s.size ≤ maxLen)
    (hst : ∀ i, i < ts.length → (ts.getD i noNod).name.size ≤ maxLen ∧ (ts.getD i noNod).other.size ≤ maxLen) (hsm : ∀ i, i < ts.length → (ts.getD i noNod).name.size ≤ 281474976710656 ∧ (ts.getD i noNod).other.size ≤ 281474976710656) (w : World) (hA : NodAt w g ts) :
    Calls Tryz.prog 11 #[.slice (some ⟨g, 0, none⟩) ts.length cap, .agg #[.int .i64 n, .int .i64 r], .string s] w (RenEnd w ts (renB ts n r s)) := by
  have HAX : Hid (∀ W, Below w.heap.size w W → NodAt W g ts) := fun W hW => hA.below hW (fun h => hA.lt h)
  have HT : Hid (∀ i, i < ts.length → (ts.getD i noNod).name.size ≤ maxLen ∧ (ts.getD i noNod).other.size ≤ maxLen) := hst
  have HSM : Hid (∀ i, i < ts.length → (ts.getD i noNod).name.size ≤ 281474976710656 ∧ (ts.getD i noNod).other.size ≤ 281474976710656) := hsm
  have HV : Hid (renB ts n r s = if (hasB (sitesB ts) n r && isNameB s && alphaB ts (renO ts n r s)) = true then (renO ts n r s, true) else (ts, false)) := rfl
  have BA : Hid (Below w.heap.size w (w.alloc (.cells #[.int .i64 n, .int .i64 r] 32))) := (Below.refl _ w).alloc (Nat.le_refl _) _
  have RA : Hid ((w.alloc (.cells #[.int .i64 n, .int .i64 r] 32)).heap[w.heap.size]? = some (.cells #[.int .i64 n, .int .i64 r] 32 (0, 0))) := (MapKept.heap_alloc w _).1
  have hsa : (w.alloc (.cells #[.int .i64 n, .int .i64 r] 32)).heap.size = w.heap.size + 1 := by simp
  obtain ⟨wa, hwa⟩ : ∃ wa, w.alloc (.cells #[.int .i64 n, .int .i64 r] 32) = wa := ⟨_, rfl⟩
  have HWA : Hid (w.alloc (.cells #[.int .i64 n, .int .i64 r] 32) = wa) := hwa
  rw [hwa] at BA RA hsa
  have HSA : Hid (wa.heap.size = w.heap.size + 1) := hsa
  have HRX : Hid (∀ W, Below wa.heap.size wa W → W.heap[w.heap.size]? = some (.cells #[.int .i64 n, .int .i64 r] 32 (0, 0)) ∧ Below w.heap.size w W) := fun W h => ⟨(h.block _ (by omega)).trans RA.out, BA.out.trans (h.mono (by omega))⟩
  clear hA hst hsm hwa hsa
  go_enter Tryz.func11, Tryz.ntmps11
  go_wp2_with fail
  rw [HWA.out]
  refine (impl_sites _ g cap ts (fun _ => rfl) hl HT.out wa (HAX.out wa BA.out)).mono ?_
  rintro e w4 ⟨v4, rfl, ho4, b4⟩
  obtain ⟨a4, g4, c4, sp4, rfl, ha4, hA4, hge4, hlt4, _⟩ := ownBnd_form ho4
  have B4 : Hid (Below wa.heap.size wa w4) := b4
  have HA4 : Hid (0 < (sitesB ts).length → a4 = some ⟨g4, 0, none⟩ ∧ g4 < w4.heap.size) := fun h => ⟨ha4 h, hlt4 h⟩
  have HBX : Hid (∀ W, Below w4.heap.size w4 W → BndAt W g4 (sitesB ts)) := fun W h => hA4.below h (fun h => hlt4 h)
  have s4 : w.heap.size + 1 ≤ w4.heap.size := by have := B4.out.size; have := HSA.out; omega
  have hbl := sitesB_length ts
  obtain ⟨q0, q1, q2⟩ := row2_cells (HRX.out w4 B4.out).1
  have HIX := hidI <| lib_indexB a4 g4 c4 (sitesB ts) n r (by omega) (fun h => ha4 h) w4 hA4
  have hix := hasB_idx n r (sitesB ts) 0 (by omega)
  have HHI := hidI hix
  have hrg := idxB_range n r (sitesB ts) 0
  clear ho4 ha4 hA4 hge4 hlt4 b4 q2 hix
  go_wp2_with fail
  refine HIX.out.mono ?_
  rintro e w5 ⟨rfl, b5⟩
  have HB45 : Hid (Below w4.heap.size w4 w5) := b5
  have HB5a : Hid (Below wa.heap.size wa w5) := B4.out.trans (b5.mono (by have := HSA.out; omega))
  have HB5 : Hid (Below w.heap.size w w5) := (HRX.out w5 HB5a.out).2
  have s5 := HB5.out.size
  clear b5 HIX q0 q1
  rcases hrg with hno | ⟨kx, hkx, ekx, hik⟩
  · have HRF : Hid (renB ts n r s = (ts, false)) := by show renB ts n r s = _; rw [HV.out, HHI.out, hno]; rfl
    rw [hno]
    clear HHI hno
    have HCP := hidI <| impl_copies g cap ts hl HSM.out w5 (HAX.out w5 HB5.out)
    have HSZ : Hid (w.heap.size ≤ w5.heap.size) := HB5.out.size
    go_wp2_with fail
    refine HCP.out.mono ?_
    rintro e w9 ⟨g9, c9, rfl, hO9, b9⟩
    have HO9 : Hid (OwnM w9 w.heap.size g9 ts.length c9 ts) := hO9.mono HSZ.out
    have B9 : Hid (Below w.heap.size w w9) := HB5.out.trans (b9.mono HSZ.out)
    clear hO9 b9 HCP
    go_wp2
    go_ret2
    exact ⟨g9, c9, by rw [HRF.out] <;> rfl, by rw [HRF.out]; exact HO9.out, B9.out⟩
  · have HHB : Hid (hasB (sitesB ts) n r = true) := by show _ = _; rw [HHI.out, hik]; exact decide_eq_true (by omega)
    rw [hik, Int.zero_add]
    have hkx' : (kx : Int) < (sitesB ts).length := by omega
    have HKX : Hid ((sitesB ts).getD kx noBnd = ⟨n, r⟩) := ekx
    obtain ⟨hok, p, q, _, rfl, rfl, hp, hq, _, _⟩ := has_site HHB.out
    have HOK : Hid (nodesB ts = true) := hok
    have HSB : Hid (sitesB ts = siteF ts ts.length) := by show sitesB ts = _; rw [sitesB, if_pos hok]
    have HV2 : Hid (renB ts p q s = if (isNameB s && alphaB ts (renO ts p q s)) = true then (renO ts p q s, true) else (ts, false)) := by show renB ts p q s = _; rw [HV.out, HHB.out, Bool.true_and]
    have HNA := hidI <| impl_name s hsz w5
    clear hok hq HHI hik ekx
    go_wp2_with fail
    refine HNA.out.mono ?_
    rintro e w6 ⟨rfl, rfl⟩
    clear HNA
    cases hnm : isNameB s with
    | false =>
      have HRF : Hid (renB ts p q s = (ts, false)) := by show renB ts p q s = _; rw [HV2.out, hnm]; rfl
      clear hnm
      have HCP := hidI <| impl_copies g cap ts hl HSM.out w6 (HAX.out w6 HB5.out)
      have HSZ : Hid (w.heap.size ≤ w6.heap.size) := HB5.out.size
      go_wp2_with fail
      refine HCP.out.mono ?_
      rintro e w9 ⟨g9, c9, rfl, hO9, b9⟩
      have HO9 : Hid (OwnM w9 w.heap.size g9 ts.length c9 ts) := hO9.mono HSZ.out
      have B9 : Hid (Below w.heap.size w w9) := HB5.out.trans (b9.mono HSZ.out)
      clear hO9 b9 HCP
      go_wp2
      go_ret2
      exact ⟨g9, c9, by rw [HRF.out] <;> rfl, by rw [HRF.out]; exact HO9.out, B9.out⟩
    | true =>
      have HV3 : Hid (renB ts p q s = if alphaB ts (renO ts p q s) = true then (renO ts p q s, true) else (ts, false)) := by show renB ts p q s = _; rw [HV2.out, hnm, Bool.true_and]
      have HS8 : Hid (s.size ≤ 8) := name_size hnm
      obtain ⟨rfl, _⟩ := HA4.out (by omega)
      have HSN := hidI <| impl_siteNames g cap ts (some ⟨g4, 0, none⟩) g4 c4 (sitesB ts) hbl (fun _ => rfl) (fun k hk => by rw [HSB.out] at hk ⊢; obtain ⟨p', r', e, hp', _⟩ := site_at ts k hk; exact ⟨p', r', e, hp'⟩) w6 (HAX.out w6 HB5.out) (HBX.out w6 HB45.out) hl
      clear hnm
      go_wp2_with fail
      refine HSN.out.mono ?_
      rintro e w7 ⟨G, rfl, hG, hr7, b7⟩
      have HB7 : Hid (Below w.heap.size w w7) := HB5.out.trans (b7.mono s5)
      have s7 := HB7.out.size
      have hnl := ownN_length ts (sitesB ts)
      have g1 := str_row_cell hr7 kx (by omega)
      have g2 : w7.frozen? ⟨G, kx, none⟩ = false := frozen_of_row w7 _ _ _ _ hr7
      have r8 := str_row_set w7 G kx _ s.data.toList s (bytes_of s).symm hr7
      have HR8 := hidI r8
      have HB8 : Hid (Below w.heap.size w (w7.setCell ⟨G, kx, none⟩ (.string s))) := HB7.out.setCell (p := ⟨G, kx, none⟩) (by show w.heap.size ≤ G; omega) _
      have hsl : ((ownN ts (sitesB ts)).set kx s.data.toList).length = (sitesB ts).length := by rw [List.length_set, hnl]
      have HSL := hidI hsl
      have hnmd : Calls Tryz.prog 38 #[.slice (some ⟨g, 0, none⟩) ts.length cap, .slice (some ⟨G, 0, none⟩) (sitesB ts).length (sitesB ts).length] (w7.setCell ⟨G, kx, none⟩ (.string s)) (CanEnd (w7.setCell ⟨G, kx, none⟩ (.string s)) (renO ts p q s)) := by
        have h := impl_named g cap ts HOK.out (some ⟨G, 0, none⟩) G (sitesB ts).length ((ownN ts (sitesB ts)).set kx s.data.toList) (by rw [hsl, HSB.out]) (fun j hj => by
          have hm : ((ownN ts (sitesB ts)).set kx s.data.toList).getD j [] ∈ (ownN ts (sitesB ts)).set kx s.data.toList := by simp only [List.getD, List.getElem?_eq_getElem hj, Option.getD_some]; exact List.getElem_mem hj
          rcases List.mem_or_eq_of_mem_set hm with h1 | h1
          · obtain ⟨b, hb, e⟩ := List.mem_map.1 h1
            rw [HSB.out] at hb
            have := role_small HOK.out b hb
            rw [← e, Array.length_toList]
            have e2 : (siteS ts b).size = (siteS ts b).data.size := rfl
            omega
          · rw [h1, Array.length_toList]
            have := HS8.out
            have e2 : s.size = s.data.size := rfl
            omega) (fun _ => rfl) (w7.setCell ⟨G, kx, none⟩ (.string s)) (HAX.out _ HB8.out) (fun j hj => str_row_cell HR8.out j hj)
        rw [hsl, HSB.out] at h
        rw [ren_one HOK.out kx p q s.data.toList (by rw [← HSB.out]; omega) (by rw [← HSB.out]; exact HKX.out)] at h
        rw [HSB.out]
        exact h
      have HND := hidI hnmd
      clear r8 hnmd hr7 b7 HSN hsl
      go_wp2_with fail
      refine HND.out.mono ?_
      rintro e w9 ⟨G9, c9, rfl, hO9, b9⟩
      have hrl : (renO ts p q s).length = ts.length := renL_length _ _
      rw [hrl] at hO9
      have HB9 : Hid (Below w.heap.size w w9) := HB8.out.trans (b9.mono HB8.out.size)
      have HO9 : Hid (OwnM w9 w.heap.size G9 ts.length c9 (renO ts p q s)) := hO9.mono HB8.out.size
      have s9 := HB9.out.size
      have HAL := hidI <| impl_alpha g G9 cap c9 ts (renO ts p q s) hl (by rw [hrl]; exact hl) HT.out (fun i hi => by have := ren_small HOK.out p q s HS8.out i hi; unfold maxLen; omega) w9 (HAX.out w9 HB9.out) hO9.at
      rw [hrl] at HAL
      rw [hrl]
      clear hrl hO9 b9 HND g1 g2
      go_wp2_with fail
      refine HAL.out.mono ?_
      rintro e w8 ⟨rfl, b8⟩
      have HO8 : Hid (OwnM w8 w.heap.size G9 ts.length c9 (renO ts p q s)) := HO9.out.below b8
      have HBZ : Hid (Below w.heap.size w w8) := HB9.out.trans (b8.mono s9)
      clear b8 HO9 HB9 HAL
      cases hal : alphaB ts (renO ts p q s) with
      | true =>
        have HRT : Hid (renB ts p q s = (renO ts p q s, true)) := by show renB ts p q s = _; rw [HV3.out, hal]; rfl
        clear hal
        go_wp2
        go_ret2
        exact ⟨G9, c9, by rw [HRT.out] <;> rfl, by rw [HRT.out]; exact HO8.out, HBZ.out⟩
      | false =>
        have HRF : Hid (renB ts p q s = (ts, false)) := by show renB ts p q s = _; rw [HV3.out, hal]; rfl
        clear hal
        have HCP := hidI <| impl_copies g cap ts hl HSM.out w8 (HAX.out w8 HBZ.out)
        have HSZ : Hid (w.heap.size ≤ w8.heap.size) := HBZ.out.size
        go_wp2_with fail
        refine HCP.out.mono ?_
        rintro e w9 ⟨g9, c9, rfl, hO9, b9⟩
        have HO9 : Hid (OwnM w9 w.heap.size g9 ts.length c9 ts) := hO9.mono HSZ.out
        have B9 : Hid (Below w.heap.size w w9) := HBZ.out.trans (b9.mono HSZ.out)
        clear hO9 b9 HCP
        go_wp2
        go_ret2
        exact ⟨g9, c9, by rw [HRF.out] <;> rfl, by rw [HRF.out]; exact HO9.out, B9.out⟩
end

section
open Go.ChangeShapes Go.WideShapes Go.ChangeAt Go.RowKit

/-- The name that a role of a node gets. -/
def sitS (ts : List Nod) (sg : Int → Int → Option (List UInt8)) (p r : Nat) : ByteArray := nmO (sg p r) (roleS (ts.getD p noNod) r)

/-- Names that keep all binders. -/
structure Keeps (ts : List Nod) (sg : Int → Int → Option (List UInt8)) : Prop where
  ok : nodesB ts = true
  site : ∀ n r x, sg n r = some x → ∃ p q : Nat, n = p ∧ r = q ∧ p < ts.length ∧ q < rolK (ts.getD p noNod).kind ∧ isNameB ⟨x.toArray⟩ = true
  inj : ∀ p r p' r' : Nat, p < ts.length → r < rolK (ts.getD p noNod).kind → p' < ts.length → r' < rolK (ts.getD p' noNod).kind → sitS ts sg p r = sitS ts sg p' r' → roleS (ts.getD p noNod) r = roleS (ts.getD p' noNod) r'
  free : ∀ p r j : Nat, p < ts.length → r < rolK (ts.getD p noNod).kind → j < ts.length → (ts.getD j noNod).kind = 1 → (binN ts j).node < 0 → sitS ts sg p r = (ts.getD j noNod).name → roleS (ts.getD p noNod) r = (ts.getD j noNod).name

theorem renN_kind (ts : List Nod) (sg : Int → Int → Option (List UInt8)) (j : Nat) : (renN ts sg j).kind = (ts.getD j noNod).kind := rfl
theorem renN_kids (ts : List Nod) (sg : Int → Int → Option (List UInt8)) (j : Nat) : kidL (renN ts sg j) = kidL (ts.getD j noNod) := rfl

theorem renN_name {ts : List Nod} (sg : Int → Int → Option (List UInt8)) {j : Nat} (hk : ¬ (ts.getD j noNod).kind = 1) : (renN ts sg j).name = nmO (sg j 0) (ts.getD j noNod).name := if_neg hk
theorem renN_other {ts : List Nod} (sg : Int → Int → Option (List UInt8)) {j : Nat} (hk : ¬ (ts.getD j noNod).kind = 1) : (renN ts sg j).other = nmO (sg j 1) (ts.getD j noNod).other := if_neg hk
theorem renN_use {ts : List Nod} (sg : Int → Int → Option (List UInt8)) {j : Nat} (hk : (ts.getD j noNod).kind = 1) : (renN ts sg j).name = nmO (sg (binN ts j).node (binN ts j).role) (ts.getD j noNod).name := if_pos hk
theorem renN_useo {ts : List Nod} (sg : Int → Int → Option (List UInt8)) {j : Nat} (hk : (ts.getD j noNod).kind = 1) : (renN ts sg j).other = (ts.getD j noNod).other := if_pos hk

theorem renL_out (ts : List Nod) (sg : Int → Int → Option (List UInt8)) {j : Nat} (h : ts.length ≤ j) : (renL ts sg).getD j noNod = noNod ∧ ts.getD j noNod = noNod := by
  constructor
  · simp [List.getD, renL_length, h]
  · simp [List.getD, h]

theorem renL_kind (ts : List Nod) (sg : Int → Int → Option (List UInt8)) (j : Nat) : ((renL ts sg).getD j noNod).kind = (ts.getD j noNod).kind := by
  rcases Nat.lt_or_ge j ts.length with h | h
  · rw [renL_at _ _ h]; rfl
  · obtain ⟨e1, e2⟩ := renL_out ts sg h
    rw [e1, e2]

theorem renL_kids (ts : List Nod) (sg : Int → Int → Option (List UInt8)) (j : Nat) : kidL ((renL ts sg).getD j noNod) = kidL (ts.getD j noNod) := by
  rcases Nat.lt_or_ge j ts.length with h | h
  · rw [renL_at _ _ h]; rfl
  · obtain ⟨e1, e2⟩ := renL_out ts sg h
    rw [e1, e2]

theorem siteF_ren (ts : List Nod) (sg : Int → Int → Option (List UInt8)) : ∀ n, siteF (renL ts sg) n = siteF ts n
  | 0 => rfl
  | n + 1 => by rw [siteF, siteF, siteF_ren ts sg n, renL_kind]

theorem bnd_rolS (t : Nod) (c : Int) : ∀ x ∈ bndL t c, ∃ r : Nat, x.2 = r ∧ r < rolK t.kind ∧ roleS t r = x.1 := by
  intro x hx
  unfold bndL at hx
  split at hx
  · rename_i h
    rw [List.mem_singleton] at hx
    exact ⟨0, by rw [hx]; rfl, by rw [h]; decide, by rw [hx]; rfl⟩
  · split at hx
    · rename_i h
      split at hx
      · rw [List.mem_singleton] at hx
        exact ⟨0, by rw [hx]; rfl, by rcases h with h | h <;> rw [h] <;> decide, by rw [hx]; rfl⟩
      · simp at hx
    · split at hx
      · rename_i h
        have hk : rolK t.kind = 2 := by rw [h]; decide
        split at hx
        · simp only [List.mem_cons, List.not_mem_nil, or_false] at hx
          rcases hx with hx | hx
          · exact ⟨1, by rw [hx]; rfl, by omega, by rw [hx]; rfl⟩
          · exact ⟨0, by rw [hx]; rfl, by omega, by rw [hx]; rfl⟩
        · rw [List.mem_singleton] at hx
          exact ⟨0, by rw [hx]; rfl, by omega, by rw [hx]; rfl⟩
      · split at hx
        · rename_i h
          have hk : rolK t.kind = 2 := by rw [h]; decide
          split at hx
          · simp only [List.mem_cons, List.not_mem_nil, or_false] at hx
            rcases hx with hx | hx
            · exact ⟨1, by rw [hx]; rfl, by omega, by rw [hx]; rfl⟩
            · exact ⟨0, by rw [hx]; rfl, by omega, by rw [hx]; rfl⟩
          · simp at hx
        · simp at hx

theorem bnd_kind (t : Nod) (c : Int) (h : t.kind = 1) : bndL t c = [] := by
  unfold bndL
  rw [h]
  rfl

theorem bnd_ren (ts : List Nod) (sg : Int → Int → Option (List UInt8)) (p : Nat) (hk : (ts.getD p noNod).kind ≠ 1) (c : Int) :
    bndL (renN ts sg p) c = (bndL (ts.getD p noNod) c).map fun x => (nmO (sg p x.2) x.1, x.2) := by
  have e0 := renN_name sg hk
  have e1 := renN_other sg hk
  have ek : (renN ts sg p).kind = (ts.getD p noNod).kind := rfl
  have ea : (renN ts sg p).a = (ts.getD p noNod).a := rfl
  have eb : (renN ts sg p).b = (ts.getD p noNod).b := rfl
  have ec : (renN ts sg p).c = (ts.getD p noNod).c := rfl
  unfold bndL
  rw [e0, e1, ek, ea, eb, ec]
  split
  · rfl
  · split
    · split <;> rfl
    · split
      · split <;> rfl
      · split
        · split <;> rfl
        · rfl

theorem look_ren (f : Int → ByteArray → ByteArray) (s s' : ByteArray) : ∀ (L : List (ByteArray × Int)), (∀ x ∈ L, f x.2 x.1 = s' → x.1 = s) → (∀ r, lookR s L = some r → f r s = s') → lookR s' (L.map fun x => (f x.2 x.1, x.2)) = lookR s L
  | [], _, _ => rfl
  | (n, r) :: L, h1, h2 => by
    rw [List.map_cons]
    show (if f r n = s' then some r else lookR s' (L.map fun x => (f x.2 x.1, x.2))) = if n = s then some r else lookR s L
    by_cases h : n = s
    · subst h
      rw [if_pos rfl, if_pos (h2 r (by rw [lookR, if_pos rfl]))]
    · rw [if_neg h, if_neg (fun e => h (h1 (n, r) (List.mem_cons_self ..) e)), look_ren f s s' L (fun x hx => h1 x (List.mem_cons_of_mem _ hx)) (fun r' hr => h2 r' (by rw [lookR, if_neg h]; exact hr))]

theorem look_in (s : ByteArray) : ∀ (L : List (ByteArray × Int)) (r : Int), lookR s L = some r → (s, r) ∈ L
  | [], r, h => by cases h
  | (n, r') :: L, r, h => by
    rw [lookR] at h
    split at h
    · rename_i e
      cases h
      rw [e]
      exact List.mem_cons_self ..
    · exact List.mem_cons_of_mem _ (look_in s L r h)

theorem parU_ren (ts : List Nod) (sg : Int → Int → Option (List UInt8)) (m : Int) : ∀ k, parU (renL ts sg) m k = parU ts m k
  | 0 => rfl
  | k + 1 => by
    rw [parU, parU, renL_length, renL_kids, parU_ren ts sg m k]

theorem parP_ren (ts : List Nod) (sg : Int → Int → Option (List UInt8)) (m : Int) : parP (renL ts sg) m = parP ts m := by
  rw [parP, parP, renL_length, parU_ren]

/-- What is found by a name is one that has it. -/
theorem scF_has {ts : List Nod} (hp : ∀ (m : Int), parP ts m = -1 ∨ ∃ p c : Nat, parP ts m = p ∧ p < ts.length ∧ m = c ∧ c < p ∧ hasI (kidL (ts.getD p noNod)) m = true) (s : ByteArray) : ∀ (f : Nat) (kid : Int),
    scF ts s f kid = (-1, -1) ∨ ∃ p r : Nat, scF ts s f kid = ((p : Int), (r : Int)) ∧ p < ts.length ∧ r < rolK (ts.getD p noNod).kind ∧ roleS (ts.getD p noNod) r = s
  | 0, kid => Or.inl rfl
  | f + 1, kid => by
    rw [scF_step]
    rcases hp kid with e | ⟨p, c, e, h1, h2, h3, h4⟩
    · rw [if_pos (by omega)]
      exact Or.inl rfl
    · rw [e, if_neg (by omega)]
      have e2 : ((p : Nat) : Int).toNat = p := by omega
      rw [e2]
      cases hl : lookR s (bndL (ts.getD p noNod) kid) with
      | some r =>
        obtain ⟨r', q1, q2, q3⟩ := bnd_rolS _ _ _ (look_in s _ r hl)
        simp only at q1 q3
        exact Or.inr ⟨p, r', by rw [q1], h1, q2, q3⟩
      | none => exact scF_has hp s f p

theorem scF_ren {ts : List Nod} (hp : ∀ (m : Int), parP ts m = -1 ∨ ∃ p c : Nat, parP ts m = p ∧ p < ts.length ∧ m = c ∧ c < p ∧ hasI (kidL (ts.getD p noNod)) m = true) (sg : Int → Int → Option (List UInt8)) (s s' : ByteArray)
    (h1 : ∀ p r : Nat, p < ts.length → r < rolK (ts.getD p noNod).kind → sitS ts sg p r = s' → roleS (ts.getD p noNod) r = s) : ∀ (f : Nat) (kid : Int),
    (∀ p r : Nat, scF ts s f kid = ((p : Int), (r : Int)) → nmO (sg p r) s = s') → scF (renL ts sg) s' f kid = scF ts s f kid
  | 0, kid, _ => rfl
  | f + 1, kid, h2 => by
    rw [scF_step] at h2 ⊢
    rw [scF_step, parP_ren]
    rcases hp kid with e | ⟨p, c, e, g1, g2, g3, g4⟩
    · rw [if_pos (by omega), if_pos (by omega)]
    · have e2 : ((p : Nat) : Int).toNat = p := by omega
      rw [e, if_neg (by omega), e2] at h2 ⊢
      rw [if_neg (by omega), renL_at ts sg g1]
      have hlook : lookR s' (bndL (renN ts sg p) kid) = lookR s (bndL (ts.getD p noNod) kid) := by
        by_cases hk : (ts.getD p noNod).kind = 1
        · rw [bnd_kind _ _ hk, bnd_kind _ _ (show (renN ts sg p).kind = 1 from hk)]
          rfl
        · rw [bnd_ren ts sg p hk]
          refine look_ren (fun r x => nmO (sg p r) x) s s' _ (fun x hx hn => ?_) (fun r hr => ?_)
          · obtain ⟨r, q1, q2, q3⟩ := bnd_rolS _ _ x hx
            rw [← q3]
            refine h1 p r g1 q2 ?_
            rw [sitS, q3, ← q1]
            exact hn
          · rw [hr] at h2
            obtain ⟨r', q1, q2, q3⟩ := bnd_rolS _ _ _ (look_in s _ r hr)
            simp only at q1
            rw [q1]
            exact h2 p r' (by rw [q1])
      rw [hlook]
      cases hl : lookR s (bndL (ts.getD p noNod) kid) with
      | some r => rfl
      | none =>
        rw [hl] at h2
        exact scF_ren hp sg s s' h1 f p h2

/-- All binders are kept. -/
theorem Keeps.bin {ts : List Nod} {sg : Int → Int → Option (List UInt8)} (h : Keeps ts sg) (j : Nat) : binN (renL ts sg) j = binN ts j := by
  obtain ⟨_, _, _, hp, _⟩ := right_par h.ok
  rcases Nat.lt_or_ge j ts.length with hj | hj
  · by_cases hk : (ts.getD j noNod).kind = 1
    · have hk2 : ((renL ts sg).getD j noNod).kind = 1 := by rw [renL_kind]; exact hk
      have hn : ((renL ts sg).getD j noNod).name = nmO (sg (binN ts j).node (binN ts j).role) (ts.getD j noNod).name := by
        rw [renL_at ts sg hj, renN_use sg hk]
      have hb : binN ts j = ⟨(scB ts j (ts.getD j noNod).name).1, (scB ts j (ts.getD j noNod).name).2⟩ := by rw [binN, if_pos hk]
      have hF := scF_ren hp sg (ts.getD j noNod).name (nmO (sg (binN ts j).node (binN ts j).role) (ts.getD j noNod).name) (fun p r hpl hr hn => by
        rcases scF_has hp (ts.getD j noNod).name ts.length j with e | ⟨p0, r0, e, q1, q2, q3⟩
        · have e1 : (binN ts j).node = -1 := by rw [hb, scB, e]
          have e2 : sg (binN ts j).node (binN ts j).role = none := by
            cases hs : sg (binN ts j).node (binN ts j).role with
            | none => rfl
            | some x =>
              obtain ⟨p', q', w1, _⟩ := h.site _ _ x hs
              rw [e1] at w1
              omega
          rw [e2] at hn
          exact h.free p r j hpl hr hj hk (by rw [e1]; decide) hn
        · have e1 : binN ts j = ⟨p0, r0⟩ := by rw [hb, scB, e]
          rw [e1, ← q3] at hn
          rw [← q3]
          exact h.inj p r p0 r0 hpl hr q1 q2 hn) ts.length j (fun p r e => by
        have e1 : binN ts j = ⟨p, r⟩ := by rw [hb, scB, e]
        rw [e1])
      rw [hb, binN, if_pos hk2, hn]
      unfold scB
      rw [renL_length, hF]
    · have hk2 : ¬ ((renL ts sg).getD j noNod).kind = 1 := by rw [renL_kind]; exact hk
      rw [binN, binN, if_neg hk, if_neg hk2]
  · obtain ⟨e1, e2⟩ := renL_out ts sg hj
    have hk : ¬ (noNod).kind = 1 := by decide
    rw [binN, binN, e1, e2, if_neg hk, if_neg hk]

theorem Keeps.fields {ts : List Nod} {sg : Int → Int → Option (List UInt8)} (h : Keeps ts sg) {j : Nat} (hj : j < ts.length) (hF : FieldsOk (ts.getD j noNod)) : FieldsOk (renN ts sg j) := by
  obtain ⟨g1, g2, g3, g4⟩ := hF
  refine ⟨g1, g2, ?_, g4⟩
  obtain ⟨n0, n1, o1, o2⟩ := g3
  have word : ∀ n r s, isNameB s = true → isNameB (nmO (sg n r) s) = true := fun n r s hs => by
    cases e : sg n r with
    | none => exact hs
    | some x => exact (h.site n r x e).choose_spec.choose_spec.2.2.2.2
  have none_of : ∀ r : Nat, rolK (ts.getD j noNod).kind ≤ r → sg j r = none := fun r hr => by
    cases e : sg j r with
    | none => rfl
    | some x =>
      obtain ⟨p, q, w1, w2, w3, w4, _⟩ := h.site _ _ x e
      have : p = j := by omega
      have : q = r := by omega
      subst p q
      omega
  show NamesFit (nmN (ts.getD j noNod).kind) _ _
  by_cases hk : (ts.getD j noNod).kind = 1
  · have hm : nmN (ts.getD j noNod).kind = 1 := by rw [hk]; rfl
    rw [renN_use sg hk, renN_useo sg hk]
    exact ⟨fun e => by omega, fun e => word _ _ _ (n1 e), fun e => o1 e, fun e => by omega⟩
  · have hm : rolK (ts.getD j noNod).kind = nmN (ts.getD j noNod).kind := by rw [rolK, if_neg hk]
    rw [renN_name sg hk, renN_other sg hk]
    refine ⟨fun e => ?_, fun e => word _ _ _ (n1 e), fun e => ?_, fun e => word _ _ _ (o2 e)⟩
    · have := none_of 0 (by omega)
      rw [show sg (j : Int) 0 = none from this]
      exact n0 e
    · have := none_of 1 (by omega)
      rw [show sg (j : Int) 1 = none from this]
      exact o1 e

theorem Keeps.starts {ts : List Nod} {sg : Int → Int → Option (List UInt8)} (h : Keeps ts sg) {st : List Nat} (hR : Right ts st) : ∀ k, k ≤ ts.length → startsF (renL ts sg) k = startsF ts k
  | 0, _ => rfl
  | k + 1, hk => by
    have hF := (hR.2 k (by omega)).1
    have e : ∀ l, stepS ((renL ts sg).getD k noNod) k l = stepS (ts.getD k noNod) k l := fun l => by
      rw [stepS, stepS, renL_at ts sg (by omega), renN_kids]
      have f1 : fieldsB (ts.getD k noNod) = true := decide_eq_true hF
      have f2 : fieldsB (renN ts sg k) = true := decide_eq_true (h.fields (by omega) hF)
      rw [if_pos f1, if_pos f2]
    rw [startsF, startsF, h.starts hR k (by omega)]
    congr 1
    funext l
    rw [e l]

theorem Keeps.nodes {ts : List Nod} {sg : Int → Int → Option (List UInt8)} (h : Keeps ts sg) : nodesB (renL ts sg) = true := by
  obtain ⟨_, _, ⟨st, hR⟩, _⟩ := right_par h.ok
  have := h.ok
  rw [nodesB] at this ⊢
  rw [renL_length, h.starts hR ts.length (Nat.le_refl _)]
  exact this

theorem Keeps.freeF {ts : List Nod} {sg : Int → Int → Option (List UInt8)} (h : Keeps ts sg) : ∀ k, k ≤ ts.length → freeF (renL ts sg) k = Go.Proofs.YtjiggiglagmloaaGreat.freeF ts k
  | 0, _ => rfl
  | k + 1, hk => by
    rw [Go.Proofs.YtjiggiglagmloaaGreat.freeF, Go.Proofs.YtjiggiglagmloaaGreat.freeF, h.freeF k (by omega), renL_kind, h.bin]
    congr 1
    split
    · rename_i hc
      have e2 : sg (binN ts k).node (binN ts k).role = none := by
        cases hs : sg (binN ts k).node (binN ts k).role with
        | none => rfl
        | some x =>
          obtain ⟨p', q', w1, _⟩ := h.site _ _ x hs
          omega
      have hn : ((renL ts sg).getD k noNod).name = (ts.getD k noNod).name := by
        rw [renL_at ts sg (by omega), renN_use sg hc.1, e2]
        rfl
      rw [hn]
    · rfl

theorem Keeps.freeB {ts : List Nod} {sg : Int → Int → Option (List UInt8)} (h : Keeps ts sg) : freeB (renL ts sg) = Go.Proofs.YtjiggiglagmloaaGreat.freeB ts := by
  rw [Go.Proofs.YtjiggiglagmloaaGreat.freeB, Go.Proofs.YtjiggiglagmloaaGreat.freeB, if_pos h.ok, if_pos h.nodes, renL_length, h.freeF _ (Nat.le_refl _)]

theorem Keeps.ren {ts : List Nod} {sg : Int → Int → Option (List UInt8)} (h : Keeps ts sg) (sg2 : Int → Int → Option (List UInt8)) (hs : ∀ n r, sg2 n r = none → sg n r = none) : renL (renL ts sg) sg2 = renL ts sg2 := by
  refine nod_list_ext (by rw [renL_length, renL_length, renL_length]) fun j hj => ?_
  rw [renL_length, renL_length] at hj
  rw [renL_at _ _ (by rw [renL_length]; exact hj), renL_at _ _ hj]
  have hb := h.bin j
  have two : ∀ n r s, nmO (sg2 n r) (nmO (sg n r) s) = nmO (sg2 n r) s := fun n r s => by
    cases e : sg2 n r with
    | some x => rfl
    | none => rw [hs n r e]; rfl
  have up : (renL ts sg).getD j noNod = renN ts sg j := renL_at _ _ hj
  have ext : ∀ a b : Nod, a.kind = b.kind → a.a = b.a → a.b = b.b → a.c = b.c → a.n = b.n → a.name = b.name → a.other = b.other → a = b := fun a b h1 h2 h3 h4 h5 h6 h7 => by
    obtain ⟨_, _, _, _, _, _, _⟩ := a
    obtain ⟨_, _, _, _, _, _, _⟩ := b
    simp only at h1 h2 h3 h4 h5 h6 h7
    rw [h1, h2, h3, h4, h5, h6, h7]
  have k2 : ((renL ts sg).getD j noNod).kind = (ts.getD j noNod).kind := renL_kind ts sg j
  refine ext _ _ ?_ ?_ ?_ ?_ ?_ ?_ ?_
  · exact k2
  · show ((renL ts sg).getD j noNod).a = _; rw [up]; rfl
  · show ((renL ts sg).getD j noNod).b = _; rw [up]; rfl
  · show ((renL ts sg).getD j noNod).c = _; rw [up]; rfl
  · show ((renL ts sg).getD j noNod).n = _; rw [up]; rfl
  · by_cases hk : (ts.getD j noNod).kind = 1
    · rw [renN_use sg2 (by rw [k2]; exact hk), renN_use sg2 hk, hb, up, renN_use sg hk, two]
    · rw [renN_name sg2 (by rw [k2]; exact hk), renN_name sg2 hk, up, renN_name sg hk, two]
  · by_cases hk : (ts.getD j noNod).kind = 1
    · rw [renN_useo sg2 (by rw [k2]; exact hk), renN_useo sg2 hk, up, renN_useo sg hk]
    · rw [renN_other sg2 (by rw [k2]; exact hk), renN_other sg2 hk, up, renN_other sg hk, two]
end

section
open Go.ChangeShapes Go.WideShapes Go.ChangeAt Go.RowKit

theorem frC_low {d : Nat} (h : d < 26) : 97 ≤ (frC d).toNat ∧ (frC d).toNat ≤ 122 := by
  rw [frC_nat h]
  omega

theorem frN_low {k : Nat} (h : k ≤ 9999) : ∀ b ∈ frN k, 97 ≤ b.toNat ∧ b.toNat ≤ 122 := by
  intro b hb
  rw [frN, if_pos h, List.mem_cons, List.mem_cons] at hb
  rcases hb with rfl | rfl | hb
  · decide
  · decide
  · unfold frL at hb
    split at hb
    · rw [List.mem_singleton] at hb
      rw [hb]
      exact frC_low (by omega)
    · split at hb
      · simp only [List.mem_cons, List.not_mem_nil, or_false] at hb
        rcases hb with rfl | rfl <;> exact frC_low (by omega)
      · simp only [List.mem_cons, List.not_mem_nil, or_false] at hb
        rcases hb with rfl | rfl | rfl <;> exact frC_low (by omega)

theorem frN_word {k : Nat} (h : k ≤ 9999) : isWordB ⟨(frN k).toArray⟩ = true := by
  have hl := frN_length k
  have hc : frN k = 122 :: 113 :: frL k := by rw [frN, if_pos h]
  have hs : (⟨(frN k).toArray⟩ : ByteArray).size = (frN k).length := rfl
  refine decide_eq_true ⟨by rw [hs, hc]; simp, by rw [hs]; omega, fun j hj => ?_⟩
  rw [hs] at hj
  have hb := frN_low h ((frN k)[j]) (List.getElem_mem hj)
  have e : bAt ⟨(frN k).toArray⟩ j = ((frN k)[j]).toNat := by
    rw [bAt_in (show j < (⟨(frN k).toArray⟩ : ByteArray).size from hj)]
    rfl
  unfold lowA
  rw [e]
  omega

theorem frN_key {k : Nat} (h : k ≤ 9999) : isKeyB ⟨(frN k).toArray⟩ = false := by
  refine decide_eq_false fun hm => ?_
  have hall : ∀ x ∈ keysL.map (·.data.toList), x.head? ≠ some 122 := by decide
  refine hall _ hm ?_
  rw [frN, if_pos h]
  rfl

theorem frN_name {k : Nat} (h : k ≤ 9999) : isNameB ⟨(frN k).toArray⟩ = true := by
  rw [isNameB, frN_word h, frN_key h]
  rfl

theorem fkL_nodup (fr : List (List UInt8)) : ∀ k, k ≤ 10000 → (fkL fr k).Nodup
  | 0, _ => by simp [fkL]
  | k + 1, h => by
    have ih := fkL_nodup fr k (by omega)
    rw [fkL]
    split
    · rw [List.append_nil]; exact ih
    · refine List.nodup_append.2 ⟨ih, by simp, fun a ha b hb e => ?_⟩
      rw [List.mem_singleton] at hb
      subst e
      obtain ⟨_, j, hj, e2⟩ := fkL_mem fr a k ha
      rw [hb] at e2
      have := frN_inj (by omega) (by omega) e2
      omega

theorem nw_nodup {fr : List (List UInt8)} {n : Nat} (h : n + fr.length ≤ 10000) : (nwL fr n).Nodup := (fkL_nodup fr _ h).sublist (List.take_sublist _ _)

/-- The names that Canon gives. -/
def sgC (ts : List Nod) : Int → Int → Option (List UInt8) := sgF (siteF ts ts.length) (nwL (freeB ts) (siteF ts ts.length).length) (siteF ts ts.length).length

theorem site_small {ts : List Nod} (h : nodesB ts = true) : (siteF ts ts.length).length + (freeB ts).length ≤ 10000 := by
  obtain ⟨h1, h2, _⟩ := right_par h
  have := siteF_length ts ts.length
  have := freeB_length ts
  omega

/-- A site, and where it stands among all. -/
theorem site_idx {ts : List Nod} {p r : Nat} (hp : p < ts.length) (hr : r < rolK (ts.getD p noNod).kind) : ∃ i, i < (siteF ts ts.length).length ∧ (siteF ts ts.length).getD i noBnd = ⟨p, r⟩ := by
  obtain ⟨i, hi, e⟩ := List.getElem_of_mem (siteF_mem ts p r hr ts.length hp)
  exact ⟨i, hi, by simp [List.getD, hi, e]⟩

theorem sgC_at {ts : List Nod} {i : Nat} (hi : i < (siteF ts ts.length).length) {p r : Nat} (e : (siteF ts ts.length).getD i noBnd = ⟨p, r⟩) : sgC ts p r = some ((nwL (freeB ts) (siteF ts ts.length).length).getD i []) := by
  have := sg_at (site_nodup ts ts.length) (nwL (freeB ts) (siteF ts ts.length).length) i hi _ hi (Nat.le_refl _)
  rw [e] at this
  exact this

theorem sgF_from (bl : List Bnd) (nms : List (List UInt8)) (n r : Int) (x : List UInt8) : ∀ k, sgF bl nms k n r = some x → ∃ j, j < k ∧ bl.getD j noBnd = ⟨n, r⟩
  | 0, h => by cases h
  | k + 1, h => by
    rw [sgF] at h
    split at h
    · rename_i hs
      exact ⟨k, by omega, (sameB_iff _ _ _).1 hs⟩
    · obtain ⟨j, hj, e⟩ := sgF_from bl nms n r x k h
      exact ⟨j, by omega, e⟩

theorem nw_in {fr : List (List UInt8)} {n i : Nat} (h : n + fr.length ≤ 10000) (hi : i < n) : (nwL fr n).getD i [] ∈ nwL fr n := by
  have := nw_length h
  have hi2 : i < (nwL fr n).length := by omega
  simp [List.getD, hi2]

theorem nw_name {fr : List (List UInt8)} {n i : Nat} (h : n + fr.length ≤ 10000) (hi : i < n) : (nwL fr n).getD i [] ∉ fr ∧ ∃ k, k ≤ 9999 ∧ (nwL fr n).getD i [] = frN k := by
  obtain ⟨h1, j, hj, e⟩ := nw_mem (nw_in h hi)
  exact ⟨h1, j, by omega, e⟩

theorem keeps_canon {ts : List Nod} (h : nodesB ts = true) : Keeps ts (sgC ts) := by
  have hN := site_small h
  refine ⟨h, fun n r x hx => ?_, fun p r p' r' hp hr hp' hr' e => ?_, fun p r j hp hr hj hk hb e => ?_⟩
  · obtain ⟨i, hi, e⟩ := sgF_from _ _ n r x _ hx
    obtain ⟨p, q, e2, h1, h2⟩ := site_at ts i hi
    rw [e2] at e
    injection e with e3 e4
    have := sgC_at hi e2
    rw [← e3, ← e4] at hx
    have hx2 : sgC ts p q = some x := hx
    rw [this] at hx2
    injection hx2 with hx2
    obtain ⟨_, k, hk, e5⟩ := nw_name hN hi
    exact ⟨p, q, e3.symm, e4.symm, h1, h2, by rw [← hx2, e5]; exact frN_name hk⟩
  · obtain ⟨i, hi, e1⟩ := site_idx hp hr
    obtain ⟨i', hi', e2⟩ := site_idx hp' hr'
    rw [sitS, sitS, sgC_at hi e1, sgC_at hi' e2] at e
    have e3 : (nwL (freeB ts) (siteF ts ts.length).length).getD i [] = (nwL (freeB ts) (siteF ts ts.length).length).getD i' [] := by
      have := congrArg (fun s => s.data.toList) e
      simpa [nmO] using this
    have hl := nw_length hN
    have hnd := nw_nodup hN
    have : i = i' := by
      have a1 : i < (nwL (freeB ts) (siteF ts ts.length).length).length := by omega
      have a2 : i' < (nwL (freeB ts) (siteF ts ts.length).length).length := by omega
      simp only [List.getD, List.getElem?_eq_getElem a1, List.getElem?_eq_getElem a2, Option.getD_some] at e3
      have hpw := List.pairwise_iff_getElem.1 hnd
      rcases Nat.lt_trichotomy i i' with h1 | h1 | h1
      · exact absurd e3 (hpw i i' a1 a2 h1)
      · exact h1
      · exact absurd e3.symm (hpw i' i a2 a1 h1)
    subst this
    rw [e1] at e2
    injection e2 with e4 e5
    have : p = p' := by omega
    have : r = r' := by omega
    subst p r
    rfl
  · exfalso
    obtain ⟨i, hi, e1⟩ := site_idx hp hr
    rw [sitS, sgC_at hi e1] at e
    obtain ⟨h1, _⟩ := nw_name hN hi
    apply h1
    have e2 : (nwL (freeB ts) (siteF ts ts.length).length).getD i [] = (ts.getD j noNod).name.data.toList := by
      have := congrArg (fun s => s.data.toList) e
      simpa [nmO] using this
    rw [e2, freeB, if_pos h]
    refine (insL_mem _ _ _).2 (Or.inl ?_)
    have go : ∀ k, j < k → (ts.getD j noNod).name.data.toList ∈ freeF ts k := fun k => by
      induction k with
      | zero => intro h; omega
      | succ k ih =>
        intro h
        rw [freeF, List.mem_append]
        by_cases hjk : j = k
        · subst hjk
          rw [if_pos ⟨hk, hb⟩]
          exact Or.inr (List.mem_singleton.2 rfl)
        · exact Or.inl (ih (by omega))
    exact go _ hj

theorem canB_yes {ts : List Nod} (h : nodesB ts = true) : canB ts = renL ts (sgC ts) := by rw [canB, if_pos h]; rfl

theorem Keeps.canon {ts : List Nod} {sg : Int → Int → Option (List UInt8)} (h : Keeps ts sg) : canB (renL ts sg) = canB ts := by
  have e : sgC (renL ts sg) = sgC ts := by
    unfold sgC
    rw [renL_length, siteF_ren, h.freeB]
  rw [canB_yes h.nodes, canB_yes h.ok, e]
  refine h.ren _ fun n r hn => ?_
  cases hs : sg n r with
  | none => rfl
  | some x =>
    obtain ⟨p, q, e1, e2, h1, h2, _⟩ := h.site n r x hs
    obtain ⟨i, hi, e3⟩ := site_idx h1 h2
    rw [e1, e2, sgC_at hi e3] at hn
    cases hn

theorem sameNod_self (l : List Nod) : sameNod l l = true := sameNod_yes rfl fun j hj => (nodSame_iff _ _).2 rfl

theorem Keeps.alpha {ts : List Nod} {sg : Int → Int → Option (List UInt8)} (h : Keeps ts sg) : alphaB ts (renL ts sg) = true ∧ alphaB (renL ts sg) ts = true := by
  unfold alphaB
  rw [h.canon, h.ok, h.nodes, sameNod_self]
  exact ⟨rfl, rfl⟩

/-- A name that is nowhere in use. -/
theorem keeps_never {ts : List Nod} (h : nodesB ts = true) {p r : Nat} (hp : p < ts.length) (hr : r < rolK (ts.getD p noNod).kind) {s : ByteArray} (hs : isNameB s = true) (hf : ∀ j, j < ts.length → (ts.getD j noNod).name ≠ s ∧ (ts.getD j noNod).other ≠ s) :
    Keeps ts (upS p r s.data.toList noSg) := by
  have up : ∀ (n q : Int), n = p ∧ q = r ∨ upS p r s.data.toList noSg n q = none := fun n q => by
    unfold upS noSg
    split
    · rename_i hc
      have := (sameB_iff _ _ _).1 hc
      injection this with h1 h2
      exact Or.inl ⟨h1.symm, h2.symm⟩
    · exact Or.inr rfl
  have hit : upS p r s.data.toList noSg p r = some s.data.toList := by
    unfold upS
    rw [if_pos ((sameB_iff _ _ _).2 rfl)]
  have new : ∀ p' r' : Nat, p' < ts.length → (p' = p ∧ r' = r ∧ sitS ts (upS p r s.data.toList noSg) p' r' = s) ∨ sitS ts (upS p r s.data.toList noSg) p' r' = roleS (ts.getD p' noNod) r' := fun p' r' _ => by
    rcases up p' r' with ⟨e1, e2⟩ | e
    · have : p' = p := by omega
      have : r' = r := by omega
      subst p' r'
      refine Or.inl ⟨rfl, rfl, ?_⟩
      rw [sitS, hit]
      exact bytes_of s
    · right
      rw [sitS, e]
      rfl
  have old : ∀ p' r' : Nat, p' < ts.length → roleS (ts.getD p' noNod) r' ≠ s := fun p' r' h1 => by
    unfold roleS
    split
    · exact (hf p' h1).2
    · exact (hf p' h1).1
  refine ⟨h, fun n q x hx => ?_, fun p1 r1 p2 r2 h1 g1 h2 g2 e => ?_, fun p1 r1 j h1 g1 hj hk hb e => ?_⟩
  · rcases up n q with ⟨e1, e2⟩ | e
    · subst e1 e2
      rw [hit] at hx
      injection hx with hx
      exact ⟨p, r, rfl, rfl, hp, hr, by rw [← hx, bytes_of]; exact hs⟩
    · rw [e] at hx
      cases hx
  · rcases new p1 r1 h1 with ⟨a1, a2, a3⟩ | a3
    · rcases new p2 r2 h2 with ⟨b1, b2, b3⟩ | b3
      · subst p1 r1 p2 r2
        rfl
      · rw [a3, b3] at e
        exact absurd e.symm (old p2 r2 h2)
    · rcases new p2 r2 h2 with ⟨b1, b2, b3⟩ | b3
      · rw [a3, b3] at e
        exact absurd e (old p1 r1 h1)
      · rw [a3, b3] at e
        exact e
  · rcases new p1 r1 h1 with ⟨a1, a2, a3⟩ | a3
    · rw [a3] at e
      exact absurd e.symm (hf j hj).1
    · rw [a3] at e
      exact e

/-- What RenameOne answers for a name that is nowhere in use. -/
theorem renB_never {ts : List Nod} (h : nodesB ts = true) {i : Nat} (hi : i < (siteF ts ts.length).length) {p r : Nat} (e : (siteF ts ts.length).getD i noBnd = ⟨p, r⟩) (hp : p < ts.length) (hr : r < rolK (ts.getD p noNod).kind) {s : ByteArray} (hs : isNameB s = true) (hf : ∀ j, j < ts.length → (ts.getD j noNod).name ≠ s ∧ (ts.getD j noNod).other ≠ s) :
    ∃ l, renB ts p r s = (l, true) ∧ alphaB l ts = true ∧ l.length = ts.length ∧ ∀ j, j < l.length → (l.getD j noNod).name.size ≤ 8 ∧ (l.getD j noNod).other.size ≤ 8 := by
  have hK := keeps_never h hp hr hs hf
  have hb : hasB (sitesB ts) p r = true := by
    rw [sitesB, if_pos h]
    refine List.any_eq_true.2 ⟨⟨p, r⟩, siteF_mem ts p r hr ts.length hp, (sameB_iff _ _ _).2 rfl⟩
  refine ⟨renO ts p r s, ?_, hK.alpha.2, renL_length _ _, ren_small h p r s (name_size hs)⟩
  have : alphaB ts (renO ts p r s) = true := hK.alpha.1
  rw [renB, hb, hs, this]
  rfl

/-- A site's name in Canon. -/
theorem canon_role {ts : List Nod} (h : nodesB ts = true) {i : Nat} (hi : i < (siteF ts ts.length).length) {p r : Nat} (e : (siteF ts ts.length).getD i noBnd = ⟨p, r⟩) (hp : p < ts.length) (hr : r < rolK (ts.getD p noNod).kind) :
    roleS ((canB ts).getD p noNod) r = ⟨((nwL (freeB ts) (siteF ts ts.length).length).getD i []).toArray⟩ := by
  have hpk : ¬ (ts.getD p noNod).kind = 1 := fun e => by rw [e, rolK_one] at hr; omega
  have hr2 := rolK_le (ts.getD p noNod).kind
  rw [canB_yes h, renL_at _ _ hp]
  have hs := sgC_at hi e
  rcases (by omega : r = 0 ∨ r = 1) with rfl | rfl
  · show (renN ts (sgC ts) p).name = _
    rw [renN_name _ hpk]
    rw [show sgC ts (p : Int) 0 = _ from hs]
    rfl
  · show (renN ts (sgC ts) p).other = _
    rw [renN_other _ hpk]
    rw [show sgC ts (p : Int) 1 = _ from hs]
    rfl

theorem canon_free {ts : List Nod} (h : nodesB ts = true) : freeB (canB ts) = freeB ts := by
  rw [canB_yes h]
  exact (keeps_canon h).freeB

theorem canon_nodes {ts : List Nod} (h : nodesB ts = true) : nodesB (canB ts) = true := by
  rw [canB_yes h]
  exact (keeps_canon h).nodes
end
end Go.Proofs.YtjiggiglagmloaaGreat
