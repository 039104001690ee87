/-
  Several texts in one, in their order: each is told at its own place by its theorems. Conditions: written at each theorem.
-/
import Derived.Test.YtobijbhgpgnfkaaGreatDoorPm
import Derived.Test.YtobijbhgpgnfkaaGreatDoorQ1
import Derived.Test.YtobijbhgpgnfkaaGreatDoorGs
import Derived.Test.YtobijbhgpgnfkaaGreatDoorLx
import Derived.Test.YtobijbhgpgnfkaaGreatDoorPp
import Derived.Test.YtobijbhgpgnfkaaGreatDoorCn
import Derived.Test.YtobijbhgpgnfkaaGreatDoorRows
import Derived.WalkKit
import Derived.ProofKit
import Derived.Shelf.Strings.BuilderK
import Derived.Test.YtobijbhgpgnfkaaGreatDoorTk
import Derived.Test.YtobijbhgpgnfkaaGreatDoorShelf
import Derived.ShutString
import Derived.WalkSpells
import Derived.Test.YtobijbhgpgnfkaaGreatDoorNk
import Derived.Test.YtobijbhgpgnfkaaGreatDoorSt
import Derived.Deep.QuietTactic
import Derived.BigQuiet
import Derived.Laws.StructEq
import Derived.Test.YtobijbhgpgnfkaaGreatDoorQ4
import Derived.Test.YtobijbhgpgnfkaaGreatDoorQ2
import Derived.Test.YtobijbhgpgnfkaaGreatDoorGl
namespace Go.Proofs.YtobijbhgpgnfkaaGreatDoor
set_option linter.unusedVariables false

section
section
open Go.ChangeShapes Go.WideShapes Go.ChangeAt Go.RowKit

theorem getD_more {ts us : List Tok} {q : Nat} (h : q < ts.length) : (ts ++ us).getD q noTok = ts.getD q noTok := by simp [List.getD, List.getElem?_append_left h]

theorem takeE_more {ts : List Tok} (us : List Tok) {E : Int} (E' : Int) {i : Nat} {k : Int} {r : Nat × Tok} (h : takeE ts E i k = .ok r) : takeE (ts ++ us) E' i k = .ok r := by
  obtain ⟨j, t⟩ := r
  obtain ⟨rfl, hi, rfl, hk⟩ := takeE_ok h
  unfold takeE
  have hi' : i < (ts ++ us).length := by simp only [List.length_append]; omega
  rw [if_pos hi', getD_more hi, if_pos hk]

theorem nameE_more {ts : List Tok} (us : List Tok) {E : Int} (E' : Int) {i : Nat} {r : Nat × ByteArray} (h : nameE ts E i = .ok r) : nameE (ts ++ us) E' i = .ok r := by
  unfold nameE at h ⊢
  split at h
  · cases h
  · rename_i hn
    split at h
    · rename_i j t ht
      obtain ⟨_, hi, _, _⟩ := takeE_ok ht
      rw [takeE_more us E' ht, if_neg (by rw [getD_more hi]; exact fun hh => hn ⟨hi, hh.2⟩)]
      exact h
    · cases h

theorem argsE_more {ts : List Tok} (us : List Tok) {E : Int} (E' : Int) {rec rec' : Nat → List Nod → Except Flt (Nat × List Nod)} (hr : ∀ i l r, rec i l = .ok r → rec' i l = .ok r) :
    ∀ (cs : List UInt8) (i : Nat) (n : Nod) (l : List Nod) (ks : List Int) (r : Nat × Nod × List Nod × List Int), argsE ts E rec cs i n l ks = .ok r → argsE (ts ++ us) E' rec' cs i n l ks = .ok r
  | [], i, n, l, ks, r, h => by simpa only [argsE] using h
  | c :: cs, i, n, l, ks, r, h => by
    rw [argsE] at h ⊢
    split at h
    · rename_i hc
      rw [if_pos hc]
      split at h
      · rename_i j s hs
        rw [nameE_more us E' hs]
        exact argsE_more us E' hr cs _ _ _ _ _ h
      · cases h
    · rename_i hc
      rw [if_neg hc]
      split at h
      · rename_i j m hs
        rw [hr _ _ _ hs]
        exact argsE_more us E' hr cs _ _ _ _ _ h
      · cases h

/-- What is read stays read when more tokens follow. -/
theorem exprE_more {ts : List Tok} (us : List Tok) {E : Int} (E' : Int) : ∀ (f f' : Nat), f ≤ f' → ∀ (i : Nat) (l : List Nod) (r : Nat × List Nod), exprE ts E f i l = .ok r → exprE (ts ++ us) E' f' i l = .ok r
  | 0, _, _, i, l, r, h => by cases h
  | f + 1, 0, hf, i, l, r, h => absurd hf (by omega)
  | f + 1, f' + 1, hf, i, l, r, h => by
    rw [exprE] at h ⊢
    split at h
    · rename_i hi
      have hi' : i < (ts ++ us).length := by simp only [List.length_append]; omega
      rw [if_pos hi', getD_more hi]
      split at h
      · rename_i c
        rw [if_pos c]
        exact h
      · rename_i c
        rw [if_neg c]
        split at h
        · rename_i c2
          rw [if_pos c2]
          split at h
          · rename_i c3
            rw [if_pos c3]
            exact h
          · rename_i c3
            rw [if_neg c3]
            split at h
            · rename_i j s hs
              rw [nameE_more us E' hs]
              exact h
            · cases h
        · rename_i c2
          rw [if_neg c2]
          split at h
          · cases h
          · rename_i c3
            rw [if_neg c3]
            split at h
            · cases h
            · rename_i j key hk
              rw [takeE_more us E' hk]
              dsimp only
              split at h
              · cases h
              · rename_i c4
                rw [if_neg c4]
                split at h
                · cases h
                · rename_i j2 n l2 ks ha
                  rw [argsE_more us E' (fun i l r h => exprE_more us E' f f' (by omega) i l r h) _ _ _ _ _ _ ha]
                  dsimp only
                  split at h
                  · cases h
                  · rename_i j3 t3 h3
                    rw [takeE_more us E' h3]
                    exact h
    · cases h

/-- What begins with no word and no number ends with a closing bracket. -/
theorem exprE_close {ts : List Tok} {E : Int} {f i j : Nat} {l m : List Nod} (h : exprE ts E f i l = .ok (j, m)) (h4 : (ts.getD i noTok).kind ≠ 4) (h3 : (ts.getD i noTok).kind ≠ 3) :
    0 < j ∧ (ts.getD (j - 1) noTok).kind = 2 := by
  cases f with
  | zero => cases h
  | succ f =>
    rw [exprE] at h
    split at h
    · split at h
      · cases h
      · split at h
        · cases h
        · split at h
          · cases h
          · split at h
            · cases h
            · split at h
              · cases h
              · rename_i j3 t3 e3
                obtain ⟨rfl, c2, rfl, c4⟩ := takeE_ok e3
                simp only [Except.ok.injEq, Prod.mk.injEq] at h
                obtain ⟨rfl, rfl⟩ := h
                exact ⟨by omega, c4⟩
    · cases h

/-- A fault: there are no tokens any more, or a token is not what is asked for. -/
def FltAt (ts : List Tok) (E : Int) (e : Flt) : Prop := e = (2, E) ∨ ∃ q, q < ts.length ∧ e = (3, (ts.getD q noTok).place)

theorem takeE_flt {ts : List Tok} {E : Int} {i : Nat} {k : Int} {e : Flt} (h : takeE ts E i k = .error e) : FltAt ts E e := by
  unfold takeE at h
  split at h
  · rename_i hi
    split at h
    · cases h
    · simp only [Except.error.injEq] at h
      exact Or.inr ⟨i, hi, h.symm⟩
  · simp only [Except.error.injEq] at h
    exact Or.inl h.symm

theorem nameE_flt {ts : List Tok} {E : Int} {i : Nat} {e : Flt} (h : nameE ts E i = .error e) : FltAt ts E e := by
  unfold nameE at h
  split at h
  · rename_i hi
    simp only [Except.error.injEq] at h
    exact Or.inr ⟨i, hi.1, h.symm⟩
  · split at h
    · cases h
    · rename_i e' he
      simp only [Except.error.injEq] at h
      subst h
      exact takeE_flt he

theorem argsE_flt {ts : List Tok} {E : Int} {rec : Nat → List Nod → Except Flt (Nat × List Nod)} (lo : Nat) (hf : Fair ts rec) (hr : ∀ i l e, lo ≤ i → i ≤ ts.length → rec i l = .error e → FltAt ts E e) :
    ∀ (cs : List UInt8) (i : Nat) (n : Nod) (l : List Nod) (ks : List Int) (e : Flt), lo ≤ i → i ≤ ts.length → argsE ts E rec cs i n l ks = .error e → FltAt ts E e
  | [], i, n, l, ks, e, _, _, h => by simp only [argsE] at h; cases h
  | c :: cs, i, n, l, ks, e, hi, hl, h => by
    rw [argsE] at h
    split at h
    · split at h
      · rename_i j s hs
        obtain ⟨rfl, _, _⟩ := nameE_ok hs
        exact argsE_flt lo hf hr cs _ _ _ _ _ (by omega) (by omega) h
      · rename_i e' he
        simp only [Except.error.injEq] at h
        subst h
        exact nameE_flt he
    · split at h
      · rename_i j m hs
        obtain ⟨a, b, _⟩ := hf _ _ _ _ hs
        exact argsE_flt lo hf hr cs _ _ _ _ _ (by omega) b h
      · rename_i e' he
        simp only [Except.error.injEq] at h
        subst h
        exact hr _ _ _ hi hl he

theorem exprE_flt {ts : List Tok} {E : Int} : ∀ (f i : Nat) (l : List Nod) (e : Flt), ts.length < f + i → i ≤ ts.length → exprE ts E f i l = .error e → FltAt ts E e
  | 0, i, l, e, hi, hl, h => absurd hi (by omega)
  | f + 1, i, l, e, hi, hl, h => by
    rw [exprE] at h
    split at h
    · rename_i hi2
      split at h
      · cases h
      · split at h
        · split at h
          · cases h
          · split at h
            · cases h
            · rename_i e' he
              simp only [Except.error.injEq] at h
              subst h
              exact nameE_flt he
        · split at h
          · simp only [Except.error.injEq] at h
            exact Or.inr ⟨i, hi2, h.symm⟩
          · split at h
            · rename_i e' he
              simp only [Except.error.injEq] at h
              subst h
              exact takeE_flt he
            · rename_i j key hk
              obtain ⟨rfl, k2, rfl, _⟩ := takeE_ok hk
              split at h
              · simp only [Except.error.injEq] at h
                exact Or.inr ⟨_, k2, h.symm⟩
              · split at h
                · rename_i e' he
                  simp only [Except.error.injEq] at h
                  subst h
                  exact argsE_flt (i + 2) (exprE_fair ts E f) (fun i' l' e' hi' hl' h' => exprE_flt f i' l' e' (by omega) hl' h') _ _ _ _ _ _ (by omega) (by omega) he
                · split at h
                  · rename_i e' he
                    simp only [Except.error.injEq] at h
                    subst h
                    exact takeE_flt he
                  · cases h
    · simp only [Except.error.injEq] at h
      exact Or.inl h.symm
end

section
open Go.ChangeShapes Go.WideShapes Go.ChangeAt Go.RowKit

/-- A word, a number, the brackets: tokens with no place. -/
def pWord (s : ByteArray) : Tok := ⟨3, s, 0, 0⟩
def pNum (s : ByteArray) (n : Int) : Tok := ⟨4, s, n, 0⟩
def pOpen : Tok := ⟨1, ⟨#[40]⟩, 0, 0⟩
def pShut : Tok := ⟨2, ⟨#[41]⟩, 0, 0⟩

/-- The pieces behind a key: names and kids as the form asks for them. -/
def argP (rec : Nat → List Tok) : List UInt8 → List ByteArray → List Int → List Tok
  | [], _, _ => []
  | c :: cs, ns, ks => if c = 110 then pWord (ns.headD ByteArray.empty) :: argP rec cs ns.tail ks else rec (ks.headD 0).toNat ++ argP rec cs ns ks.tail

/-- The pieces of node i's text; dec tells a number's digits. -/
def showP (dec : Int → ByteArray) (ts : List Nod) : Nat → Nat → List Tok
  | 0, _ => []
  | f + 1, i =>
    if (ts.getD i noNod).kind = 1 then [pWord (ts.getD i noNod).name]
    else if (ts.getD i noNod).kind = 2 then [pNum (dec (ts.getD i noNod).n) (ts.getD i noNod).n]
    else if (ts.getD i noNod).kind = 12 then [pWord ⟨#[110, 105, 108]⟩]
    else [pOpen, pWord (keyN (ts.getD i noNod).kind (ts.getD i noNod).n)]
      ++ argP (showP dec ts f) (goesOn (ts.getD i noNod).kind) [(ts.getD i noNod).name, (ts.getD i noNod).other] [(ts.getD i noNod).a, (ts.getD i noNod).b, (ts.getD i noNod).c] ++ [pShut]

/-- From the token p on, the pieces stand among the tokens, whatever their places. -/
def Stand (us : List Tok) (p : Nat) (ps : List Tok) : Prop :=
  p + ps.length ≤ us.length ∧ ∀ q, q < ps.length → (us.getD (p + q) noTok).kind = (ps.getD q noTok).kind ∧ (us.getD (p + q) noTok).text = (ps.getD q noTok).text ∧ (us.getD (p + q) noTok).n = (ps.getD q noTok).n

theorem stand_left {us : List Tok} {p : Nat} {ps qs : List Tok} (h : Stand us p (ps ++ qs)) : Stand us p ps := by
  obtain ⟨h1, h2⟩ := h
  simp only [List.length_append] at h1 h2
  refine ⟨by omega, fun q hq => ?_⟩
  have := h2 q (by omega)
  rwa [getD_more hq] at this

theorem stand_right {us : List Tok} {p : Nat} {ps qs : List Tok} (h : Stand us p (ps ++ qs)) : Stand us (p + ps.length) qs := by
  obtain ⟨h1, h2⟩ := h
  simp only [List.length_append] at h1 h2
  refine ⟨by omega, fun q hq => ?_⟩
  have := h2 (ps.length + q) (by omega)
  have e : (ps ++ qs).getD (ps.length + q) noTok = qs.getD q noTok := by
    simp [List.getD, List.getElem?_append_right]
  rw [e] at this
  rwa [Nat.add_assoc]

theorem stand_word {us : List Tok} {p : Nat} {s : ByteArray} {qs : List Tok} (h : Stand us p (pWord s :: qs)) (E : Int) : takeE us E p 3 = .ok (p + 1, us.getD p noTok) ∧ (us.getD p noTok).text = s ∧ Stand us (p + 1) qs := by
  have hr := stand_right (ps := [pWord s]) (qs := qs) h
  obtain ⟨h1, h2⟩ := h
  simp only [List.length_cons] at h1
  have := h2 0 (by simp)
  obtain ⟨a, b, c⟩ := this
  refine ⟨?_, b, hr⟩
  unfold takeE
  rw [if_pos (by omega)]
  rw [Nat.add_zero] at a
  rw [if_pos (by rw [a]; rfl)]

theorem stand_name {us : List Tok} {p : Nat} {s : ByteArray} {qs : List Tok} (h : Stand us p (pWord s :: qs)) (hs : isKeyB s = false) (E : Int) : nameE us E p = .ok (p + 1, s) ∧ Stand us (p + 1) qs := by
  obtain ⟨a, b, c⟩ := stand_word h E
  refine ⟨?_, c⟩
  unfold nameE
  rw [if_neg (by rw [b, hs]; rintro ⟨_, h⟩; cases h), a]
  dsimp only
  rw [b]
end

section
open Go.ChangeShapes Go.WideShapes Go.ChangeAt Go.RowKit

/-- The nodes of the part of node j, behind so many nodes. -/
def partAt (ts : List Nod) (st : List Int) (j n : Nat) : List Nod := ((ts.take (j + 1)).drop (st.getD j 0).toNat).map (shiftN ((n : Int) - st.getD j 0))

theorem partAt_length (ts : List Nod) (st : List Int) (j n : Nat) (hj : j < ts.length) (h : 0 ≤ st.getD j 0 ∧ st.getD j 0 ≤ j) : (partAt ts st j n).length = j + 1 - (st.getD j 0).toNat := by
  unfold partAt
  rw [List.length_map, cut_length _ _ _ (by omega) (by omega)]
end

section
open Go.ChangeShapes Go.WideShapes Go.ChangeAt Go.RowKit

/-- Nodes s to e, put behind n others. -/
def cutM (ts : List Nod) (s e n : Nat) : List Nod := ((ts.take e).drop s).map (shiftN ((n : Int) - s))

theorem cutM_split {ts : List Nod} {s p e n : Nat} (h1 : s ≤ p) (h2 : p ≤ e) (h3 : e ≤ ts.length) : cutM ts s e n = cutM ts s p n ++ cutM ts p e (n + (p - s)) := by
  unfold cutM
  have e1 : ((n + (p - s) : Nat) : Int) - p = (n : Int) - s := by omega
  rw [cut_split ts s p e h1 h2 h3, List.map_append, e1]

theorem cutM_nil (ts : List Nod) (s n : Nat) : cutM ts s s n = [] := by
  unfold cutM
  rw [List.drop_eq_nil_of_le (by simp; omega)]
  rfl

theorem cutM_one {ts : List Nod} {j n : Nat} (h : j < ts.length) : cutM ts j (j + 1) n = [shiftN ((n : Int) - j) (ts.getD j noNod)] := by
  unfold cutM
  rw [cut_one ts j h]
  rfl

theorem cutM_len {ts : List Nod} {s e n : Nat} (h1 : s ≤ e) (h3 : e ≤ ts.length) : (cutM ts s e n).length = e - s := by
  unfold cutM
  rw [List.length_map, cut_length _ _ _ h1 h3]

theorem cutM_last {ts : List Nod} {s i n : Nat} (h1 : s ≤ i) (h3 : i < ts.length) : cutM ts s (i + 1) n = cutM ts s i n ++ [shiftN ((n : Int) - s) (ts.getD i noNod)] := by
  rw [cutM_split h1 (Nat.le_succ i) h3, cutM_one h3]
  have e1 : ((n + (i - s) : Nat) : Int) - i = (n : Int) - s := by omega
  rw [e1]

theorem args_n {us : List Tok} {E : Int} {rec : Nat → List Nod → Except Flt (Nat × List Nod)} {cs : List UInt8} {p : Nat} {n : Nod} {l : List Nod} {ks : List Int} {s : ByteArray} {qs : List Tok}
    (h : Stand us p (pWord s :: qs)) (hs : isNameB s = true) : argsE us E rec (110 :: cs) p n l ks = argsE us E rec cs (p + 1) (if n.name.size = 0 then { n with name := s } else { n with other := s }) l ks := by
  have hk : isKeyB s = false := by
    have := (Bool.and_eq_true_iff.1 hs).2
    simpa using this
  rw [argsE, if_pos rfl, (stand_name h hk E).1]

theorem args_e {us : List Tok} {E : Int} {rec : Nat → List Nod → Except Flt (Nat × List Nod)} {cs : List UInt8} {p j : Nat} {n : Nod} {l m : List Nod} {ks : List Int}
    (h : rec p l = .ok (j, m)) : argsE us E rec (101 :: cs) p n l ks = argsE us E rec cs j n m (ks ++ [(m.length : Int) - 1]) := by
  rw [argsE, if_neg (by decide), h]

theorem form_read {us : List Tok} {E : Int} {k x : Int} (hk : IsForm k x) {A : List Tok} {p g : Nat} (h : Stand us p ([pOpen, pWord (keyN k x)] ++ A ++ [pShut])) {l l2 : List Nod} {n : Nod} {ks : List Int}
    (ha : argsE us E (exprE us E g) (goesOn k) (p + 2) ⟨k, 0, 0, 0, if k = 8 then x else 0, ByteArray.empty, ByteArray.empty⟩ l [] = .ok (p + 2 + A.length, n, l2, ks)) :
    exprE us E (g + 1) p l = .ok (p + ([pOpen, pWord (keyN k x)] ++ A ++ [pShut]).length, l2 ++ [withKids n ks]) := by
  have hs := stand_right h
  have h0 := stand_left h
  have h1 := stand_right (ps := [pOpen]) (qs := [pWord (keyN k x)]) (stand_left h0)
  obtain ⟨t1, t2, _⟩ := stand_word h1 E
  have ho := h0.2 0 (by simp)
  have hl := h.1
  simp only [List.length_append, List.length_cons, List.length_nil] at hl
  have hsk := hs.2 0 (by simp)
  simp only [List.length_append, List.length_cons, List.length_nil, Nat.add_zero] at hsk ho t1 t2
  have o1 : (us.getD p noTok).kind = 1 := ho.1
  have s1 : (us.getD (p + (0 + 1 + 1 + A.length)) noTok).kind = 2 := hsk.1
  rw [exprE, if_pos (by omega), if_neg (by rw [o1]; decide), if_neg (by rw [o1]; decide), if_neg (by rw [o1]; decide)]
  rw [show p + 1 = p + (0 + 1) from rfl, t1]
  dsimp only
  rw [t2, form_key hk]
  dsimp only
  rw [if_neg (by have := hk.1; omega)]
  rw [show p + (0 + 1) + 1 = p + 2 from rfl, ha]
  dsimp only
  have e3 : takeE us E (p + 2 + A.length) 2 = .ok (p + 2 + A.length + 1, us.getD (p + 2 + A.length) noTok) := by
    unfold takeE
    rw [if_pos (by omega), if_pos (by rw [← s1]; congr 2; omega)]
  rw [e3]
  dsimp only
  simp only [List.length_append, List.length_cons, List.length_nil]
  congr 2
  omega
end

section
open Go.ChangeShapes Go.WideShapes Go.ChangeAt Go.RowKit

/-- Node i's pieces are read as the nodes of its part. -/
def Reads (dec : Int → ByteArray) (us : List Tok) (E : Int) (ts : List Nod) (st : List Nat) (i : Nat) : Prop :=
  ∀ (f g p : Nat) (l : List Nod), i < f → i < g → l.length + (i + 1 - st.getD i 0) ≤ 1000000 → Stand us p (showP dec ts f i) → exprE us E g p l = .ok (p + (showP dec ts f i).length, l ++ cutM ts (st.getD i 0) (i + 1) l.length)

def chainE (st : List Nat) (i : Nat) : List UInt8 → List Int → Nat → Nat → Prop
  | [], _, e, z => e = z
  | c :: cs, ks, e, z => if c = 110 then chainE st i cs ks e z else ∃ k : Nat, ks.headD 0 = k ∧ k < i ∧ st.getD k 0 = e ∧ chainE st i cs ks.tail (k + 1) z

def usedE (d : Int) : List UInt8 → List Int → List Int
  | [], _ => []
  | c :: cs, ks => if c = 110 then usedE d cs ks else (ks.headD 0 + d) :: usedE d cs ks.tail

def namesE : List UInt8 → List ByteArray → Prop
  | [], _ => True
  | c :: cs, ns => if c = 110 then isNameB (ns.headD ByteArray.empty) = true ∧ namesE cs ns.tail else namesE cs ns

def fillE : List UInt8 → List ByteArray → Nod → Nod
  | [], _, n => n
  | c :: cs, ns, n => if c = 110 then fillE cs ns.tail (if n.name.size = 0 then { n with name := ns.headD ByteArray.empty } else { n with other := ns.headD ByteArray.empty }) else fillE cs ns n

def OnlyTwo (cs : List UInt8) : Prop := ∀ c ∈ cs, c = 110 ∨ c = 101

theorem args_read {dec : Int → ByteArray} {us : List Tok} {E : Int} {ts : List Nod} {st : List Nat} {i f g s : Nat} {l0 : List Nod} (hi : i ≤ ts.length) (hl : l0.length + (i - s) ≤ 1000000)
    (hst : ∀ k, k < i → st.getD k 0 ≤ k) (hR : ∀ k, k < i → Reads dec us E ts st k) (hf : i ≤ f) (hg : i ≤ g) :
    ∀ (cs : List UInt8) (ns : List ByteArray) (ks : List Int) (q : Nat) (n : Nod) (acc : List Int) (e z : Nat), OnlyTwo cs → s ≤ e → e ≤ i → chainE st i cs ks e z → namesE cs ns → Stand us q (argP (showP dec ts f) cs ns ks) →
      argsE us E (exprE us E g) cs q n (l0 ++ cutM ts s e l0.length) acc
        = .ok (q + (argP (showP dec ts f) cs ns ks).length, fillE cs ns n, l0 ++ cutM ts s z l0.length, acc ++ usedE ((l0.length : Int) - s) cs ks)
  | [], ns, ks, q, n, acc, e, z, hc, hs, he, hch, hns, hS => by
    simp only [chainE] at hch
    subst hch
    simp only [argsE, argP, fillE, usedE, List.length_nil, Nat.add_zero, List.append_nil]
  | c :: cs, ns, ks, q, n, acc, e, z, hc, hs, he, hch, hns, hS => by
    have hc' : OnlyTwo cs := fun x hx => hc x (List.mem_cons_of_mem _ hx)
    rcases hc c List.mem_cons_self with rfl | rfl
    · simp only [chainE, namesE, argP, if_true] at hch hns hS
      rw [args_n hS hns.1]
      have ih := args_read (s := s) (l0 := l0) hi hl hst hR hf hg cs ns.tail ks (q + 1) (if n.name.size = 0 then { n with name := ns.headD ByteArray.empty } else { n with other := ns.headD ByteArray.empty }) acc e z hc' hs he hch hns.2
        (stand_right (ps := [pWord (ns.headD ByteArray.empty)]) hS)
      rw [ih]
      simp only [argP, fillE, usedE, if_true, List.length_cons]
      congr 2
      omega
    · have h101 : ¬ ((101 : UInt8) = 110) := by decide
      simp only [chainE, namesE, argP, if_neg h101] at hch hns hS
      obtain ⟨k, hk, hki, hse, hch⟩ := hch
      rw [hk, Int.toNat_natCast] at hS
      have hkk := hst k hki
      have hr := hR k hki f g q (l0 ++ cutM ts s e l0.length) (by omega) (by omega) (by rw [List.length_append, cutM_len hs (by omega)]; omega) (stand_left hS)
      rw [hse, List.length_append, cutM_len hs (by omega), List.append_assoc, ← cutM_split (p := e) (e := k + 1) hs (by omega) (by omega)] at hr
      rw [args_e hr]
      have ih := args_read (s := s) (l0 := l0) hi hl hst hR hf hg cs ns ks.tail (q + (showP dec ts f k).length) n (acc ++ [((l0 ++ cutM ts s (k + 1) l0.length).length : Int) - 1]) (k + 1) z hc' (by omega) (by omega) hch hns (stand_right hS)
      have hlen : ((l0 ++ cutM ts s (k + 1) l0.length).length : Int) - 1 = (k : Int) + ((l0.length : Int) - s) := by
        rw [List.length_append, cutM_len (by omega) (by omega)]
        omega
      rw [hlen] at ih ⊢
      rw [ih]
      simp only [argP, fillE, usedE, if_neg h101, List.length_append, hk, Int.toNat_natCast]
      rw [List.append_assoc, Nat.add_assoc]
      rfl
end

section
open Go.ChangeShapes Go.WideShapes Go.ChangeAt Go.RowKit

theorem wrap_in {x : Int} (h1 : -9223372036854775808 ≤ x) (h2 : x ≤ 9223372036854775807) : wrap64 x = x := by
  unfold wrap64
  omega

theorem empty_of {s : ByteArray} (h : s.size = 0) : s = ByteArray.empty := size_eq s h

theorem name_full {s : ByteArray} (h : isNameB s = true) : s.size ≠ 0 ∧ isKeyB s = false := by
  obtain ⟨a, b⟩ := Bool.and_eq_true_iff.1 h
  have := of_decide_eq_true a
  exact ⟨by omega, by simpa using b⟩

/-- What a form with so many names and kids is filled to. -/
theorem filled {t : Nod} (hF : FieldsOk t) (hk : IsForm t.kind t.n) (d : Int) (hd : -1000000 ≤ d ∧ d ≤ 1000000) (ha : 0 ≤ t.a ∧ t.a ≤ 1000000) (hb : 0 ≤ t.b ∧ t.b ≤ 1000000) (hc : 0 ≤ t.c ∧ t.c ≤ 1000000) :
    withKids (fillE (goesOn t.kind) [t.name, t.other] ⟨t.kind, 0, 0, 0, if t.kind = 8 then t.n else 0, ByteArray.empty, ByteArray.empty⟩) (usedE d (goesOn t.kind) [t.a, t.b, t.c]) = shiftN d t := by
  obtain ⟨kind, a, b, c, n, name, other⟩ := t
  simp only at hF hk ha hb hc ⊢
  obtain ⟨⟨k1, k2⟩, ⟨z1, z2, z3⟩, ⟨m1, m2, m3, m4⟩, ⟨n1, n2, n3⟩⟩ := hF
  obtain ⟨h1, h2, h3, h4⟩ := hk
  have wa : wrap64 (a + d) = a + d := wrap_in (by omega) (by omega)
  have wb : wrap64 (b + d) = b + d := wrap_in (by omega) (by omega)
  have wc : wrap64 (c + d) = c + d := wrap_in (by omega) (by omega)
  have : kind = 3 ∨ kind = 4 ∨ kind = 5 ∨ kind = 6 ∨ kind = 7 ∨ kind = 8 ∨ kind = 9 ∨ kind = 10 ∨ kind = 11 ∨ kind = 13 ∨ kind = 14 ∨ kind = 15 ∨ kind = 16 ∨ kind = 17 ∨ kind = 18 ∨ kind = 19 := by omega
  rcases this with rfl | rfl | rfl | rfl | rfl | rfl | rfl | rfl | rfl | rfl | rfl | rfl | rfl | rfl | rfl | rfl <;>
    simp [arN, nmN] at z1 z2 z3 m1 m2 m3 m4 n1 n2 n3 <;>
    (try have := empty_of m1) <;> (try have := empty_of m3) <;> (try have := (name_full m2).1) <;> (try have := (name_full m4).1) <;>
    (try subst z1) <;> (try subst z2) <;> (try subst z3) <;> (try subst n3) <;>
    simp_all [goesOn, fillE, usedE, withKids, shiftN, arN]

theorem goes_two (k : Int) : OnlyTwo (goesOn k) := by
  unfold goesOn
  repeat' split
  all_goals (intro c hc; simp only [List.mem_cons, List.not_mem_nil, or_false] at hc; rcases hc with rfl | hc <;> first | decide | (rcases hc with rfl | hc <;> first | decide | (rcases hc with rfl | hc <;> first | decide | (rcases hc with rfl | rfl <;> decide))))

theorem goes_names {t : Nod} (hF : FieldsOk t) (hk : IsForm t.kind t.n) : namesE (goesOn t.kind) [t.name, t.other] := by
  obtain ⟨kind, a, b, c, n, name, other⟩ := t
  simp only at hF hk ⊢
  obtain ⟨⟨k1, k2⟩, _, ⟨m1, m2, m3, m4⟩, _⟩ := hF
  obtain ⟨h1, h2, h3, h4⟩ := hk
  have : kind = 3 ∨ kind = 4 ∨ kind = 5 ∨ kind = 6 ∨ kind = 7 ∨ kind = 8 ∨ kind = 9 ∨ kind = 10 ∨ kind = 11 ∨ kind = 13 ∨ kind = 14 ∨ kind = 15 ∨ kind = 16 ∨ kind = 17 ∨ kind = 18 ∨ kind = 19 := by omega
  rcases this with rfl | rfl | rfl | rfl | rfl | rfl | rfl | rfl | rfl | rfl | rfl | rfl | rfl | rfl | rfl | rfl <;>
    simp [nmN] at m1 m2 m3 m4 <;> simp_all [goesOn, namesE]

theorem goes_chain {ts : List Nod} {st : List Nat} (hR : Right ts st) {i : Nat} (hi : i < ts.length) (hk : IsForm (ts.getD i noNod).kind (ts.getD i noNod).n) :
    chainE st i (goesOn (ts.getD i noNod).kind) [(ts.getD i noNod).a, (ts.getD i noNod).b, (ts.getD i noNod).c] (st.getD i 0) i
      ∧ (0 ≤ (ts.getD i noNod).a ∧ (ts.getD i noNod).a ≤ 1000000) ∧ (0 ≤ (ts.getD i noNod).b ∧ (ts.getD i noNod).b ≤ 1000000) ∧ (0 ≤ (ts.getD i noNod).c ∧ (ts.getD i noNod).c ≤ 1000000) := by
  obtain ⟨hlen, hA⟩ := hR
  obtain ⟨hF, hs, r0, r1, r2, r3⟩ := hA i hi
  have hle : ∀ k, k < i → st.getD k 0 ≤ k := fun k hk => (hA k (by omega)).2.1
  generalize ts.getD i noNod = t at *
  obtain ⟨kind, a, b, c, n, name, other⟩ := t
  simp only at hF hk r0 r1 r2 r3 ⊢
  obtain ⟨⟨k1, k2⟩, ⟨z1, z2, z3⟩, _, _⟩ := hF
  obtain ⟨h1, h2, h3, h4⟩ := hk
  have : arN kind = 1 ∨ arN kind = 2 ∨ arN kind = 3 := by
    unfold arN
    repeat' split
    all_goals omega
  rcases this with e | e | e
  · obtain ⟨a', rfl, e1, e2⟩ := r1 e
    have hb : b = 0 := z2 (by show arN kind < 2; omega)
    have hc : c = 0 := z3 (by show arN kind < 3; omega)
    refine ⟨?_, by omega, by omega, by omega⟩
    have : kind = 3 ∨ kind = 10 ∨ kind = 11 ∨ kind = 15 ∨ kind = 16 ∨ kind = 18 := by
      unfold arN at e
      repeat' split at e
      all_goals omega
    rcases this with rfl | rfl | rfl | rfl | rfl | rfl <;>
      (simp [goesOn, chainE]; exact ⟨a', rfl, by omega, e2, by omega⟩)
  · obtain ⟨a', b', rfl, rfl, e1, e2, e3⟩ := r2 e
    have hc : c = 0 := z3 (by show arN kind < 3; omega)
    have := hle b' (by omega)
    refine ⟨?_, by omega, by omega, by omega⟩
    have : kind = 4 ∨ kind = 5 ∨ kind = 6 ∨ kind = 8 ∨ kind = 9 ∨ kind = 13 ∨ kind = 17 ∨ kind = 19 := by
      unfold arN at e
      repeat' split at e
      all_goals omega
    rcases this with rfl | rfl | rfl | rfl | rfl | rfl | rfl | rfl <;>
      (simp [goesOn, chainE]; exact ⟨a', rfl, by omega, e3, b', rfl, by omega, e2.symm, e1⟩)
  · obtain ⟨a', b', c', rfl, rfl, rfl, e1, e2, e3, e4⟩ := r3 e
    have := hle c' (by omega)
    have := hle b' (by omega)
    refine ⟨?_, by omega, by omega, by omega⟩
    have : kind = 7 ∨ kind = 14 := by
      unfold arN at e
      repeat' split at e
      all_goals omega
    rcases this with rfl | rfl <;>
      (simp [goesOn, chainE]; exact ⟨a', rfl, by omega, e4, b', rfl, by omega, e3.symm, c', rfl, by omega, e2.symm, e1⟩)

theorem leaf_shift {t : Nod} (h : arN t.kind = 0) (x : Int) : shiftN x t = t := by
  unfold shiftN
  rw [h]
  simp
end

section
open Go.ChangeShapes Go.WideShapes Go.ChangeAt Go.RowKit

theorem leaf_cut {ts : List Nod} {st : List Nat} {i n : Nat} {t : Nod} (hi : i < ts.length) (hs : st.getD i 0 = i) (ht : ts.getD i noNod = t) (ha : arN t.kind = 0) : cutM ts (st.getD i 0) (i + 1) n = [t] := by
  rw [hs, cutM_one hi, ht, leaf_shift ha]

/-- Each node of a right program is read from its pieces. -/
theorem node_reads {dec : Int → ByteArray} {us : List Tok} {E : Int} {ts : List Nod} {st : List Nat} (hR : Right ts st) :
    ∀ (b i : Nat), i < b → i < ts.length → Reads dec us E ts st i
  | 0, i, hb, hi => absurd hb (by omega)
  | b + 1, i, hb, hi => by
    intro f g p l hf hg hl hS
    have ih : ∀ k, k < i → Reads dec us E ts st k := fun k hk => node_reads hR b k (by omega) (by omega)
    have hch := @goes_chain ts st hR i hi
    obtain ⟨hlen, hA⟩ := hR
    have hle : ∀ k, k < i → st.getD k 0 ≤ k := fun k hk => (hA k (by omega)).2.1
    obtain ⟨hF, hs, r0, -⟩ := hA i hi
    obtain ⟨f, rfl⟩ : ∃ f', f = f' + 1 := ⟨f - 1, by omega⟩
    obtain ⟨g, rfl⟩ : ∃ g', g = g' + 1 := ⟨g - 1, by omega⟩
    have hlast := @cutM_last ts (st.getD i 0) i l.length hs hi
    by_cases k1 : (ts.getD i noNod).kind = 1
    · rw [showP, if_pos k1] at hS ⊢
      obtain ⟨_, ⟨z1, z2, z3⟩, ⟨m1, m2, m3, m4⟩, ⟨n1, n2, n3⟩⟩ := hF
      have hnm := m2 (by rw [k1]; decide)
      have hky := (name_full hnm).2
      obtain ⟨s1, _⟩ := stand_name hS hky E
      have hz := hS.2 0 (by simp)
      have hzl := hS.1
      simp only [List.length_cons, List.length_nil, Nat.add_zero] at hz hzl
      have q1 : (us.getD p noTok).kind = 3 := hz.1
      have q2 : (us.getD p noTok).text = (ts.getD i noNod).name := hz.2.1
      have a0 : arN (ts.getD i noNod).kind = 0 := by rw [k1]; rfl
      rw [exprE, if_pos (by omega), if_neg (by rw [q1]; decide), if_pos q1, if_neg (by
        rw [q2]
        intro hn
        unfold isKeyB at hky
        rw [hn] at hky
        revert hky
        decide), s1]
      dsimp only
      rw [leaf_cut hi (r0 a0) rfl a0]
      have e1 : (ts.getD i noNod) = ⟨1, 0, 0, 0, 0, (ts.getD i noNod).name, ByteArray.empty⟩ := by
        have := z1 (by omega)
        have := z2 (by omega)
        have := z3 (by omega)
        have := n3 (by omega) (by omega)
        have := empty_of (m3 (by rw [k1]; decide))
        generalize ts.getD i noNod = t at *
        obtain ⟨kind, a, b, c, n, name, other⟩ := t
        simp_all
      rw [← e1]
      rfl
    · by_cases k2 : (ts.getD i noNod).kind = 2
      · rw [showP, if_neg k1, if_pos k2] at hS ⊢
        obtain ⟨_, ⟨z1, z2, z3⟩, ⟨m1, m2, m3, m4⟩, ⟨n1, n2, n3⟩⟩ := hF
        have hz := hS.2 0 (by simp)
        have hzl := hS.1
        simp only [List.length_cons, List.length_nil, Nat.add_zero] at hz hzl
        have q1 : (us.getD p noTok).kind = 4 := hz.1
        have q2 : (us.getD p noTok).n = (ts.getD i noNod).n := hz.2.2
        have a0 : arN (ts.getD i noNod).kind = 0 := by rw [k2]; rfl
        rw [exprE, if_pos (by omega), if_pos q1, q2, leaf_cut hi (r0 a0) rfl a0]
        have e1 : (ts.getD i noNod) = ⟨2, 0, 0, 0, (ts.getD i noNod).n, ByteArray.empty, ByteArray.empty⟩ := by
          have := z1 (by omega)
          have := z2 (by omega)
          have := z3 (by omega)
          have := empty_of (m1 (by rw [k2]; decide))
          have := empty_of (m3 (by rw [k2]; decide))
          generalize ts.getD i noNod = t at *
          obtain ⟨kind, a, b, c, n, name, other⟩ := t
          simp_all
        rw [← e1]
        rfl
      · by_cases k12 : (ts.getD i noNod).kind = 12
        · rw [showP, if_neg k1, if_neg k2, if_pos k12] at hS ⊢
          obtain ⟨_, ⟨z1, z2, z3⟩, ⟨m1, m2, m3, m4⟩, ⟨n1, n2, n3⟩⟩ := hF
          have hz := hS.2 0 (by simp)
          have hzl := hS.1
          simp only [List.length_cons, List.length_nil, Nat.add_zero] at hz hzl
          have q1 : (us.getD p noTok).kind = 3 := hz.1
          have q2 : (us.getD p noTok).text = ⟨#[110, 105, 108]⟩ := hz.2.1
          have a0 : arN (ts.getD i noNod).kind = 0 := by rw [k12]; rfl
          rw [exprE, if_pos (by omega), if_neg (by rw [q1]; decide), if_pos q1, if_pos (by rw [q2]), leaf_cut hi (r0 a0) rfl a0]
          have e1 : (ts.getD i noNod) = ⟨12, 0, 0, 0, 0, ByteArray.empty, ByteArray.empty⟩ := by
            have := z1 (by omega)
            have := z2 (by omega)
            have := z3 (by omega)
            have := n3 (by omega) (by omega)
            have := empty_of (m1 (by rw [k12]; decide))
            have := empty_of (m3 (by rw [k12]; decide))
            generalize ts.getD i noNod = t at *
            obtain ⟨kind, a, b, c, n, name, other⟩ := t
            simp_all
          rw [← e1]
          rfl
        · have hk : IsForm (ts.getD i noNod).kind (ts.getD i noNod).n := by
            obtain ⟨⟨u1, u2⟩, _, _, ⟨n1, n2, n3⟩⟩ := hF
            exact ⟨by omega, u2, k12, n2⟩
          rw [showP, if_neg k1, if_neg k2, if_neg k12] at hS ⊢
          obtain ⟨c1, c2, c3, c4⟩ := hch hk
          have hp := stand_right (stand_left hS)
          have har := args_read (s := st.getD i 0) (l0 := l) (g := g) (Nat.le_of_lt hi) (by omega) hle ih (by omega) (by omega) (goesOn (ts.getD i noNod).kind) [(ts.getD i noNod).name, (ts.getD i noNod).other]
            [(ts.getD i noNod).a, (ts.getD i noNod).b, (ts.getD i noNod).c] (p + 2) ⟨(ts.getD i noNod).kind, 0, 0, 0, if (ts.getD i noNod).kind = 8 then (ts.getD i noNod).n else 0, ByteArray.empty, ByteArray.empty⟩ [] (st.getD i 0) i (goes_two _) (Nat.le_refl _) hs c1 (goes_names hF hk) hp
          rw [cutM_nil, List.append_nil, List.nil_append] at har
          rw [form_read hk hS har, filled hF hk _ (by omega) c2 c3 c4, hlast, List.append_assoc l]
end

section
open Go.ChangeShapes Go.WideShapes Go.ChangeAt Go.RowKit

/-- The first j tokens are the same. -/
def AgreeTo (ts us : List Tok) (j : Nat) : Prop := ∀ q, q < j → q < us.length ∧ us.getD q noTok = ts.getD q noTok

theorem takeE_by {ts us : List Tok} {E : Int} (E' : Int) {i : Nat} {k : Int} {j : Nat} {t : Tok} (h : takeE ts E i k = .ok (j, t)) (ha : AgreeTo ts us j) : takeE us E' i k = .ok (j, t) := by
  obtain ⟨rfl, hi, rfl, hk⟩ := takeE_ok h
  obtain ⟨a, b⟩ := ha i (by omega)
  unfold takeE
  rw [if_pos a, b, if_pos hk]

theorem nameE_by {ts us : List Tok} {E : Int} (E' : Int) {i j : Nat} {s : ByteArray} (h : nameE ts E i = .ok (j, s)) (ha : AgreeTo ts us j) : nameE us E' i = .ok (j, s) := by
  unfold nameE at h ⊢
  split at h
  · cases h
  · rename_i hn
    split at h
    · rename_i j' t ht
      have hj := h
      simp only [Except.ok.injEq, Prod.mk.injEq] at hj
      obtain ⟨rfl, _⟩ := hj
      obtain ⟨e1, hi, _, _⟩ := takeE_ok ht
      obtain ⟨a, b⟩ := ha i (by omega)
      rw [takeE_by E' ht ha, if_neg (by rw [b]; exact fun hh => hn ⟨hi, hh.2⟩)]
      exact h
    · cases h

theorem argsE_by {ts us : List Tok} {E : Int} (E' : Int) {rec rec' : Nat → List Nod → Except Flt (Nat × List Nod)} (hf : Fair ts rec) {J : Nat} (ha : AgreeTo ts us J) (hr : ∀ i l j m, j ≤ J → rec i l = .ok (j, m) → rec' i l = .ok (j, m)) :
    ∀ (cs : List UInt8) (i : Nat) (n : Nod) (l : List Nod) (ks : List Int) (j : Nat) (r : Nod × List Nod × List Int), j ≤ J → argsE ts E rec cs i n l ks = .ok (j, r) → argsE us E' rec' cs i n l ks = .ok (j, r)
  | [], i, n, l, ks, j, r, hj, h => by simpa only [argsE] using h
  | c :: cs, i, n, l, ks, j, r, hj, h => by
    rw [argsE] at h ⊢
    split at h
    · rename_i hc
      rw [if_pos hc]
      split at h
      · rename_i j1 s hs
        obtain ⟨r1, r2, r3⟩ := r
        have hm := (argsE_fair hf _ _ _ _ _ _ _ _ _ h).1
        rw [nameE_by E' hs (fun q hq => ha q (by omega))]
        exact argsE_by E' hf ha hr cs _ _ _ _ _ _ hj h
      · cases h
    · rename_i hc
      rw [if_neg hc]
      split at h
      · rename_i j1 m hs
        obtain ⟨r1, r2, r3⟩ := r
        have hm := (argsE_fair hf _ _ _ _ _ _ _ _ _ h).1
        rw [hr _ _ _ _ (by omega) hs]
        exact argsE_by E' hf ha hr cs _ _ _ _ _ _ hj h
      · cases h

/-- What is read goes by the tokens that are passed. -/
theorem exprE_by {ts us : List Tok} {E : Int} (E' : Int) : ∀ (f f' : Nat), f ≤ f' → ∀ (i : Nat) (l : List Nod) (j : Nat) (m : List Nod), AgreeTo ts us j → exprE ts E f i l = .ok (j, m) → exprE us E' f' i l = .ok (j, m)
  | 0, _, _, i, l, j, m, ha, h => by cases h
  | f + 1, 0, hf, i, l, j, m, ha, h => absurd hf (by omega)
  | f + 1, f' + 1, hf, i, l, j, m, ha, h => by
    have hfair := exprE_fair ts E (f + 1) i l j m h
    obtain ⟨a, b⟩ := ha i (by omega)
    rw [exprE] at h ⊢
    split at h
    · rename_i hi
      rw [if_pos a, b]
      split at h
      · rename_i c
        rw [if_pos c]
        exact h
      · rename_i c
        rw [if_neg c]
        split at h
        · rename_i c2
          rw [if_pos c2]
          split at h
          · rename_i c3
            rw [if_pos c3]
            exact h
          · rename_i c3
            rw [if_neg c3]
            split at h
            · rename_i j1 s hs
              have hj := h
              simp only [Except.ok.injEq, Prod.mk.injEq] at hj
              rw [nameE_by E' hs (fun q hq => ha q (by omega))]
              exact h
            · cases h
        · rename_i c2
          rw [if_neg c2]
          split at h
          · cases h
          · rename_i c3
            rw [if_neg c3]
            split at h
            · cases h
            · rename_i j1 key hk
              split at h
              · cases h
              · rename_i c4
                split at h
                · cases h
                · rename_i j2 n l2 ks hb
                  have fa := argsE_fair (exprE_fair ts E f) _ _ _ _ _ _ _ _ _ hb
                  split at h
                  · cases h
                  · rename_i j3 t3 h3
                    obtain ⟨g1, _, _, _⟩ := takeE_ok h3
                    have hj := h
                    simp only [Except.ok.injEq, Prod.mk.injEq] at hj
                    rw [takeE_by E' hk (fun q hq => ha q (by omega))]
                    dsimp only
                    rw [if_neg c4, argsE_by E' (exprE_fair ts E f) ha (fun i l j' m hj' h => exprE_by E' f f' (by omega) i l j' m (fun q hq => ha q (by omega)) h) _ _ _ _ _ _ _ (by omega) hb]
                    dsimp only
                    rw [takeE_by E' h3 (fun q hq => ha q (by omega))]
                    exact h
    · cases h

/-- Tokens that are read to their end, from a bracket on; a beginning of them, its last token cut or not: it is not read. -/
theorem begun_bad {us vs ws : List Tok} {x : Tok} {E E' : Int} {f : Nat} {m : List Nod} (hu : exprE us E f 0 [] = .ok (us.length, m)) (h3 : (us.getD 0 noTok).kind ≠ 3) (h4 : (us.getD 0 noTok).kind ≠ 4)
    (hw : AgreeTo vs us ws.length) (hlen : ws.length < us.length) (hv : vs = ws ∨ (vs = ws ++ [x] ∧ x.kind ≠ 2 ∧ 0 < ws.length)) (g : Nat) (hg : g ≤ f) (r : Nat × List Nod) : exprE vs E' g 0 [] ≠ .ok r := by
  intro h
  obtain ⟨j, l⟩ := r
  obtain ⟨f1, f2, _, _⟩ := exprE_fair vs E' g 0 [] j l h
  have hsmall : j ≤ ws.length → False := fun hj => by
    have := exprE_by E g f hg 0 [] j l (fun q hq => hw q (by omega)) h
    rw [hu] at this
    simp only [Except.ok.injEq, Prod.mk.injEq] at this
    omega
  rcases hv with rfl | ⟨rfl, hx, h0⟩
  · exact hsmall f2
  · by_cases hj : j ≤ ws.length
    · exact hsmall hj
    · simp only [List.length_append, List.length_cons, List.length_nil] at f2
      obtain ⟨_, e0⟩ := hw 0 h0
      obtain ⟨_, c⟩ := exprE_close h (by rw [← e0]; exact h4) (by rw [← e0]; exact h3)
      have e1 : j - 1 = ws.length := by omega
      rw [e1] at c
      simp [List.getD] at c
      exact hx c
end

section
/-- A text out of a list of bytes. -/
def bsL (U : List UInt8) : ByteArray := ⟨U.toArray⟩

theorem bsL_size (U : List UInt8) : (bsL U).size = U.length := by simp [bsL, ByteArray.size]

theorem bAt_data (s : ByteArray) (q : Nat) : bAt s q = (s.data.toList.getD q 0).toNat := by
  by_cases h : q < s.size
  · have h' : q < s.data.toList.length := by simpa using h
    rw [bAt_in h, List.getD, List.getElem?_eq_getElem h']
    rfl
  · have h' : ¬ q < s.data.toList.length := by simpa using h
    rw [List.getD, List.getElem?_eq_none (by omega)]
    simp [bAt, h]

theorem bsL_data (U : List UInt8) : (bsL U).data.toList = U := by simp [bsL]

theorem bAt_list (U : List UInt8) (q : Nat) : bAt (bsL U) q = (U.getD q 0).toNat := by rw [bAt_data, bsL_data]

theorem bytes_ext {a b : ByteArray} (h : a.data.toList = b.data.toList) : a = b := by
  cases a; cases b
  simp only at h
  congr 1
  exact Array.toList_inj.1 h

theorem len_data (s : ByteArray) : s.data.toList.length = s.size := by rw [Array.length_toList]; rfl

theorem extract_mid (P X R : List UInt8) : (bsL (P ++ X ++ R)).extract P.length (P.length + X.length) = bsL X := by
  apply bytes_ext
  rw [ByteArray.data_extract, bsL_data]
  simp [bsL]

theorem bAt_mid (P X R : List UInt8) (q : Nat) (h : q < X.length) : bAt (bsL (P ++ X ++ R)) (P.length + q) = (X.getD q 0).toNat := by
  rw [bAt_list]
  simp only [List.getD]
  rw [List.append_assoc, List.getElem?_append_right (by omega), List.getElem?_append_left (by omega), Nat.add_sub_cancel_left]

theorem bAt_end (P X : List UInt8) (b : UInt8) (R : List UInt8) : bAt (bsL (P ++ X ++ b :: R)) (P.length + X.length) = b.toNat := by
  rw [bAt_list]
  simp only [List.getD]
  rw [List.getElem?_append_right (by simp)]
  simp

/-- What a token is, wherever it stands. -/
def VT (t : Tok) : Prop :=
  (t.kind = 1 ∧ t.text = byteS 40 ∧ t.n = 0) ∨ (t.kind = 2 ∧ t.text = byteS 41 ∧ t.n = 0) ∨
  (t.kind = 3 ∧ 1 ≤ t.text.size ∧ t.text.size ≤ 8 ∧ (∀ q, q < t.text.size → lowA (bAt t.text q)) ∧ t.n = 0) ∨
  (t.kind = 4 ∧ 1 ≤ t.text.size ∧ (∀ q, q < t.text.size → dig9 (bAt t.text q)) ∧ IsRd t.text.data.toList t.n true ∧ t.n ≤ 65535)

/-- A text behind which a token that ended there has ended. -/
def Closed (kd : Int) (R : List UInt8) : Prop := R = [] ∨ kd = 1 ∨ kd = 2 ∨ ∃ b R', R = b :: R' ∧ ¬ lowA b.toNat ∧ ¬ dig9 b.toNat

theorem tok_step (P R : List UInt8) (t : Tok) (ht : VT t) (hR : Closed t.kind R) :
    Step (bsL (P ++ t.text.data.toList ++ R)) P.length (P.length + t.text.size) [⟨t.kind, t.text, t.n, (P.length : Nat)⟩] := by
  obtain ⟨kd, T, n, pl⟩ := t
  unfold VT at ht
  simp only at ht hR ⊢
  have hl : T.data.toList.length = T.size := len_data T
  have hx : 1 ≤ T.size := by
    rcases ht with ⟨_, h, _⟩ | ⟨_, h, _⟩ | ⟨_, h, _⟩ | ⟨_, h, _⟩
    · rw [h]; simp [ByteArray.size]
    · rw [h]; simp [ByteArray.size]
    · exact h
    · exact h
  have hz : (bsL (P ++ T.data.toList ++ R)).size = P.length + T.size + R.length := by rw [bsL_size, List.length_append, List.length_append, hl]
  have hm : ∀ q, q < T.size → bAt (bsL (P ++ T.data.toList ++ R)) (P.length + q) = bAt T q := fun q hq => by
    rw [bAt_mid _ _ _ _ (by omega), bAt_data T]
  have h0 : bAt (bsL (P ++ T.data.toList ++ R)) P.length = bAt T 0 := hm 0 (by omega)
  have hext : (bsL (P ++ T.data.toList ++ R)).extract P.length (P.length + T.size) = T := by
    rw [← hl, extract_mid]
    exact bytes_ext (bsL_data _)
  have run : ∀ p : Nat → Prop, (∀ q, q < T.size → p (bAt T q)) → (R = [] ∨ ∃ b R', R = b :: R' ∧ ¬ p b.toNat) → RunTo p (bsL (P ++ T.data.toList ++ R)) P.length (P.length + T.size) := by
    intro p hp hr
    refine ⟨by omega, by omega, fun j h1 h2 => ?_, fun h => ?_⟩
    · have := hm (j - P.length) (by omega)
      rw [show P.length + (j - P.length) = j by omega] at this
      rw [this]
      exact hp _ (by omega)
    · rcases hr with rfl | ⟨b, R', rfl, hb⟩
      · rw [hz, List.length_nil] at h; omega
      · have := bAt_end P T.data.toList b R'
        rw [hl] at this
        rw [this]
        exact hb
  refine ⟨by omega, ?_⟩
  rcases ht with ⟨rfl, rfl, rfl⟩ | ⟨rfl, rfl, rfl⟩ | ⟨rfl, _, h8, ha, rfl⟩ | ⟨rfl, _, ha, hr, hn⟩
  · exact Or.inr (Or.inr (Or.inl ⟨by rw [h0]; rfl, rfl, rfl⟩))
  · exact Or.inr (Or.inr (Or.inr (Or.inl ⟨by rw [h0]; rfl, rfl, rfl⟩)))
  · refine Or.inr (Or.inr (Or.inr (Or.inr (Or.inl ⟨by rw [h0]; exact ha 0 (by omega), run lowA ha ?_, by omega, by rw [hext]⟩))))
    rcases hR with h | h | h | ⟨b, R', h, h1, _⟩
    · exact Or.inl h
    · omega
    · omega
    · exact Or.inr ⟨b, R', h, h1⟩
  · refine Or.inr (Or.inr (Or.inr (Or.inr (Or.inr ⟨by rw [h0]; exact ha 0 (by omega), run dig9 ha ?_, n, by rw [hext]; exact hr, hn, by rw [hext]⟩))))
    rcases hR with h | h | h | ⟨b, R', h, _, h2⟩
    · exact Or.inl h
    · omega
    · omega
    · exact Or.inr ⟨b, R', h, h2⟩

/-- The first k tokens, read again: their places may be others. -/
def Same (ts : List Tok) (k : Nat) (ts' : List Tok) : Prop :=
  ts'.length = k ∧ ∀ q, q < k → (ts'.getD q noTok).kind = (ts.getD q noTok).kind ∧ (ts'.getD q noTok).text = (ts.getD q noTok).text ∧ (ts'.getD q noTok).n = (ts.getD q noTok).n

theorem getD_left {ts us : List Tok} {q : Nat} (h : q < ts.length) : (ts ++ us).getD q noTok = ts.getD q noTok := by simp [List.getD, List.getElem?_append_left h]
theorem getD_last {ts : List Tok} {t : Tok} {q : Nat} (h : q = ts.length) : (ts ++ [t]).getD q noTok = t := by subst h; simp [List.getD]

theorem same_next {ts ts' : List Tok} {k : Nat} (h : Same ts k ts') (pl : Int) : Same ts (k + 1) (ts' ++ [⟨(ts.getD k noTok).kind, (ts.getD k noTok).text, (ts.getD k noTok).n, pl⟩]) := by
  refine ⟨by rw [List.length_append, h.1]; rfl, fun q hq => ?_⟩
  by_cases hk : q < k
  · rw [getD_left (by rw [h.1]; exact hk)]
    exact h.2 q hk
  · obtain rfl : q = k := by omega
    rw [getD_last h.1.symm]
    exact ⟨rfl, rfl, rfl⟩

theorem relex (ts : List Tok) (hv : ∀ k, k < ts.length → VT (ts.getD k noTok)) : ∀ k, k ≤ ts.length → ∀ R, (k = 0 ∨ Closed (kindOf ts (k - 1)) R) →
    ∃ m ts', Reach (bsL (ulx ts k ++ R)) m (ulx ts k).length ts' ∧ Same ts k ts'
  | 0, _, R, _ => ⟨0, [], ⟨rfl, rfl⟩, rfl, fun q hq => by omega⟩
  | k + 1, hk, R, hR => by
    have hR' : Closed (kindOf ts k) R := by
      rcases hR with h | h
      · omega
      · exact h
    have ht := hv k (by omega)
    have e : ulx ts (k + 1) ++ R = ulx ts k ++ (gap ts k ++ (textOf ts k).data.toList ++ R) := by simp [ulx, List.append_assoc]
    have hc : k = 0 ∨ Closed (kindOf ts (k - 1)) (gap ts k ++ (textOf ts k).data.toList ++ R) := by
      by_cases h0 : k = 0
      · exact Or.inl h0
      · right
        by_cases h1 : kindOf ts (k - 1) = 1
        · exact Or.inr (Or.inl h1)
        · by_cases h2 : kindOf ts k = 2
          · have hX : textOf ts k = byteS 41 := by
              rcases ht with ⟨h, _⟩ | ⟨_, h, _⟩ | ⟨h, _⟩ | ⟨h, _⟩
              · unfold kindOf at h2; omega
              · exact h
              · unfold kindOf at h2; omega
              · unfold kindOf at h2; omega
            have hg : gap ts k = [] := by unfold gap; rw [if_neg (fun h => h.2.2 h2)]
            rw [hX, hg]
            exact Or.inr (Or.inr (Or.inr ⟨41, R, rfl, by decide, by decide⟩))
          · have hg : gap ts k = [32] := by unfold gap; rw [if_pos ⟨by omega, h1, h2⟩]
            rw [hg]
            exact Or.inr (Or.inr (Or.inr ⟨32, (textOf ts k).data.toList ++ R, rfl, by decide, by decide⟩))
    obtain ⟨m, ts', hr, hs⟩ := relex ts hv k (by omega) _ hc
    rw [← e] at hr
    -- the blank
    have hb : ∃ m', Reach (bsL (ulx ts (k + 1) ++ R)) m' (ulx ts k ++ gap ts k).length ts' := by
      by_cases hg : gap ts k = []
      · exact ⟨m, by rw [hg, List.append_nil]; exact hr⟩
      · have hg' : gap ts k = [32] := by
          unfold gap at hg ⊢
          split
          · rfl
          · rename_i h; rw [if_neg h] at hg; exact absurd rfl hg
        refine ⟨m + 1, ?_⟩
        have hst : Step (bsL (ulx ts (k + 1) ++ R)) (ulx ts k).length ((ulx ts k).length + 1) [] := by
          have hbb : bAt (bsL (ulx ts (k + 1) ++ R)) (ulx ts k).length = 32 := by
            have := bAt_end (ulx ts k) [] 32 ((textOf ts k).data.toList ++ R)
            rw [e, hg']
            simpa using this
          refine ⟨?_, Or.inl ⟨Or.inl hbb, rfl, rfl⟩⟩
          rw [bsL_size, e, hg']
          simp
        have h2 : Reach (bsL (ulx ts (k + 1) ++ R)) (m + 1) ((ulx ts k).length + 1) (ts' ++ []) := ⟨_, _, _, hr, hst, rfl⟩
        rw [List.append_nil] at h2
        rw [hg', List.length_append]
        exact h2
    obtain ⟨m', hr'⟩ := hb
    have e2 : ulx ts (k + 1) ++ R = (ulx ts k ++ gap ts k) ++ (ts.getD k noTok).text.data.toList ++ R := by simp [ulx, textOf, List.append_assoc]
    have hst := tok_step (ulx ts k ++ gap ts k) R (ts.getD k noTok) ht hR'
    rw [← e2] at hst
    have e3 : (ulx ts (k + 1)).length = (ulx ts k ++ gap ts k).length + (ts.getD k noTok).text.size := by
      simp only [ulx, List.length_append, textOf, len_data]
    rw [e3]
    exact ⟨m' + 1, _, ⟨_, _, _, hr', hst, rfl⟩, same_next hs _⟩

/-- Where the first k tokens end. -/
def endOf (ts : List Tok) : Nat → Int
  | 0 => 0
  | k + 1 => (ts.getD k noTok).place + (ts.getD k noTok).text.size

/-- The token stands in the text where it says. -/
def Sits (s : ByteArray) (t : Tok) : Prop := ∃ p : Nat, t.place = p ∧ p + t.text.size ≤ s.size ∧ s.extract p (p + t.text.size) = t.text

theorem extract_one (s : ByteArray) (i : Nat) (hi : i < s.size) (b : UInt8) (hb : bAt s i = b.toNat) : s.extract i (i + 1) = byteS b := by
  apply ByteArray.ext_getElem
  · have h1 : (byteS b).size = 1 := rfl
    rw [h1, ByteArray.size_extract]; omega
  · intro j h1 h2
    have hj : j = 0 := by
      have : (byteS b).size = 1 := rfl
      omega
    subst hj
    rw [ByteArray.getElem_extract]
    rw [bAt_in hi] at hb
    exact UInt8.toNat_inj.1 hb

theorem step_vt {s : ByteArray} {i j : Nat} {ts : List Tok} (h : Step s i j ts) : ts = [] ∨ ∃ t, ts = [t] ∧ VT t ∧ t.place = i ∧ i + t.text.size = j ∧ s.extract i j = t.text := by
  have hlt := step_lt h
  have hle := step_le h
  obtain ⟨hi, h⟩ := h
  have hsz : (s.extract i j).size = j - i := by rw [ByteArray.size_extract]; omega
  have hat : ∀ q, q < j - i → bAt (s.extract i j) q = bAt s (i + q) := fun q hq => bAt_extract s i j q hle (by omega)
  rcases h with ⟨_, rfl, rfl⟩ | ⟨_, _, rfl⟩ | ⟨hb, rfl, rfl⟩ | ⟨hb, rfl, rfl⟩ | ⟨hb, hr, h8, rfl⟩ | ⟨hb, hr, n, hn, hm, rfl⟩
  · exact Or.inl rfl
  · exact Or.inl rfl
  · exact Or.inr ⟨_, rfl, Or.inl ⟨rfl, rfl, rfl⟩, rfl, by simp [ByteArray.size], extract_one s i hi 40 hb⟩
  · exact Or.inr ⟨_, rfl, Or.inr (Or.inl ⟨rfl, rfl, rfl⟩), rfl, by simp [ByteArray.size], extract_one s i hi 41 hb⟩
  · refine Or.inr ⟨_, rfl, Or.inr (Or.inr (Or.inl ⟨rfl, by simp only; omega, by simp only; omega, fun q hq => ?_, rfl⟩)), rfl, by simp only; omega, rfl⟩
    simp only at hq ⊢
    rw [hat q (by omega)]
    exact hr.2.2.1 _ (by omega) (by omega)
  · refine Or.inr ⟨_, rfl, Or.inr (Or.inr (Or.inr ⟨rfl, by simp only; omega, fun q hq => ?_, hn, hm⟩)), rfl, by simp only; omega, rfl⟩
    simp only at hq ⊢
    rw [hat q (by omega)]
    exact hr.2.2.1 _ (by omega) (by omega)

theorem lens_left (ts : List Tok) (t : Tok) : ∀ k, k ≤ ts.length → lens (ts ++ [t]) k = lens ts k
  | 0, _ => rfl
  | k + 1, h => by
    simp only [lens, textOf]
    rw [lens_left ts t k (by omega), getD_left (by omega)]

theorem endOf_left (ts : List Tok) (t : Tok) (k : Nat) (h : k ≤ ts.length) : endOf (ts ++ [t]) k = endOf ts k := by
  cases k with
  | zero => rfl
  | succ k => simp only [endOf]; rw [getD_left (by omega)]

/-- Tokens that were read so far: each is one, stands where it says, behind the one ahead of it. -/
structure Good (s : ByteArray) (i : Nat) (ts : List Tok) : Prop where
  each : ∀ k, k < ts.length → VT (ts.getD k noTok) ∧ Sits s (ts.getD k noTok) ∧ endOf ts k ≤ (ts.getD k noTok).place
  last : endOf ts ts.length ≤ i
  all : lens ts ts.length ≤ i

theorem reach_good {s : ByteArray} : ∀ {m i : Nat} {ts : List Tok}, Reach s m i ts → Good s i ts
  | 0, i, ts, h => by
    obtain ⟨rfl, rfl⟩ := h
    exact ⟨fun k hk => by simp at hk, by simp [endOf], by simp [lens]⟩
  | m + 1, i, ts, h => by
    obtain ⟨i', ts', us, hr, hs, rfl⟩ := h
    have ih := reach_good hr
    have hlt := step_lt hs
    have hle := step_le hs
    rcases step_vt hs with rfl | ⟨t, rfl, hv, hp, hz, hx⟩
    · rw [List.append_nil]
      exact ⟨ih.each, by have := ih.last; omega, by have := ih.all; omega⟩
    · refine ⟨fun k hk => ?_, ?_, ?_⟩
      · have hk' : k ≤ ts'.length := by simp at hk; omega
        rw [endOf_left _ _ _ hk']
        by_cases h : k < ts'.length
        · rw [getD_left h]
          exact ih.each k h
        · obtain rfl : k = ts'.length := by omega
          rw [getD_last rfl]
          refine ⟨hv, ⟨i', hp, by omega, by rw [hz]; exact hx⟩, by rw [hp]; exact ih.last⟩
      · rw [List.length_append]
        show endOf (ts' ++ [t]) (ts'.length + 1) ≤ _
        simp only [endOf]
        rw [getD_last rfl]
        omega
      · rw [List.length_append]
        show lens (ts' ++ [t]) (ts'.length + 1) ≤ _
        simp only [lens, textOf]
        rw [lens_left _ _ _ (Nat.le_refl _), getD_last rfl]
        have := ih.all
        omega

theorem fin_all {s : ByteArray} {ts : List Tok} (hs : s.size ≤ 4000) (h : Lexes s ts (-1)) : ∃ m i, Reach s m i ts ∧ s.size ≤ i := by
  rcases h with ⟨h, _⟩ | ⟨_, m, i, out, hr, hf⟩
  · omega
  · rcases hf with ⟨h1, rfl, _⟩ | ⟨_, _, h⟩
    · exact ⟨m, i, hr, h1⟩
    · omega

/-- Read, put together, and read again. -/
theorem relexes {s : ByteArray} {ts : List Tok} (hs : s.size ≤ 1000) (h : Lexes s ts (-1)) :
    Good s s.size ts ∧ ts.length ≤ 1000 ∧ lens ts ts.length ≤ 1000 ∧ (ulxS ts).size ≤ 4000 ∧ ∃ ts', Lexes (ulxS ts) ts' (-1) ∧ Same ts ts.length ts' := by
  obtain ⟨m, i, hr, hi⟩ := fin_all (by omega) h
  have hle := reach_le hr
  obtain rfl : i = s.size := by omega
  have hg := reach_good hr
  have hlen : ts.length ≤ s.size := by
    have : ∀ k, k ≤ ts.length → k ≤ lens ts k := by
      intro k
      induction k with
      | zero => intro _; omega
      | succ k ih =>
        intro hk
        have h1 := ih (by omega)
        have hv := (hg.each k (by omega)).1
        have hx : 1 ≤ (textOf ts k).size := by
          unfold textOf
          rcases hv with ⟨_, h, _⟩ | ⟨_, h, _⟩ | ⟨_, h, _⟩ | ⟨_, h, _⟩
          · rw [h]; simp [ByteArray.size]
          · rw [h]; simp [ByteArray.size]
          · exact h
          · exact h
        simp only [lens]
        omega
    have h1 := this ts.length (Nat.le_refl _)
    have h2 := hg.all
    omega
  have hall := hg.all
  have hmin : min ts.length 4000 = ts.length := by omega
  have hu := ulx_length ts ts.length
  have hsz : (ulxS ts).size = (ulx ts ts.length).length := by unfold ulxS; rw [hmin]; exact bsL_size _
  refine ⟨hg, by omega, by omega, by omega, ?_⟩
  obtain ⟨m', ts', hr', hsame⟩ := relex ts (fun k hk => (hg.each k hk).1) ts.length (Nat.le_refl _) [] (Or.inr (Or.inl rfl))
  rw [List.append_nil] at hr'
  have e : ulxS ts = bsL (ulx ts ts.length) := by unfold ulxS bsL; rw [hmin]
  refine ⟨ts', Or.inr ⟨by omega, m', (ulx ts ts.length).length, ts', ?_, Or.inl ⟨by omega, rfl, rfl⟩⟩, hsame⟩
  rw [e]
  exact hr'
end

section
open Go.ChangeShapes Go.WideShapes Go.ChangeAt Go.RowKit

/-- Tokens put together; a tells whether a blank is due. -/
def ulxL : Bool → List Tok → List UInt8
  | _, [] => []
  | a, t :: ts => (if a = true ∧ t.kind ≠ 2 then [32] else []) ++ t.text.data.toList ++ ulxL (decide (t.kind ≠ 1)) ts

def endA : Bool → List Tok → Bool
  | a, [] => a
  | a, t :: ts => endA (decide (t.kind ≠ 1)) ts

theorem ulxL_append : ∀ (ts us : List Tok) (a : Bool), ulxL a (ts ++ us) = ulxL a ts ++ ulxL (endA a ts) us
  | [], us, a => rfl
  | t :: ts, us, a => by
    simp only [List.cons_append, ulxL, endA, ulxL_append ts us, List.append_assoc]

theorem endA_append : ∀ (ts : List Tok) (t : Tok) (a : Bool), endA a (ts ++ [t]) = decide (t.kind ≠ 1)
  | [], t, a => rfl
  | x :: ts, t, a => by
    simp only [List.cons_append, endA, endA_append ts t]

theorem ulx_eq (ts : List Tok) : ∀ k, k ≤ ts.length → ulx ts k = ulxL false (ts.take k) ∧ (endA false (ts.take k) = true ↔ (0 < k ∧ kindOf ts (k - 1) ≠ 1))
  | 0, _ => ⟨rfl, by simp [endA]⟩
  | k + 1, h => by
    obtain ⟨h1, h2⟩ := ulx_eq ts k (by omega)
    have e : ts.take (k + 1) = ts.take k ++ [ts.getD k noTok] := by
      rw [List.take_succ_eq_append_getElem (by omega)]
      simp [List.getD, List.getElem?_eq_getElem (show k < ts.length by omega)]
    refine ⟨?_, ?_⟩
    · rw [e, ulxL_append, ← h1]
      simp only [ulx, ulxL, List.append_nil, textOf, List.append_assoc]
      congr 2
      unfold gap
      by_cases hc : 0 < k ∧ kindOf ts (k - 1) ≠ 1 ∧ kindOf ts k ≠ 2
      · rw [if_pos hc, if_pos ⟨h2.2 ⟨hc.1, hc.2.1⟩, hc.2.2⟩]
      · rw [if_neg hc, if_neg (fun hh => hc ⟨(h2.1 hh.1).1, (h2.1 hh.1).2, hh.2⟩)]
    · rw [e, endA_append, decide_eq_true_iff]
      constructor
      · intro hh; exact ⟨by omega, hh⟩
      · intro hh; exact hh.2

def decS (n : Int) : ByteArray := ⟨(Lib.itoa n).toArray⟩

def dueL (a : Bool) : List UInt8 := if a = true then [32] else []

/-- What stands behind a key, put together. -/
theorem argP_text {r : Nat → List Tok} {r' : Nat → List UInt8} : ∀ (cs : List UInt8) (ns : List ByteArray) (ks : List Int) (rs : List Tok), (∀ j, j < (cs.filter (· ≠ 110)).length → ∀ (a : Bool) (qs : List Tok), ulxL a (r (ks.getD j 0).toNat ++ qs) = dueL a ++ r' (ks.getD j 0).toNat ++ ulxL true qs) →
    ulxL true (argP r cs ns ks ++ rs) = argT r' cs ns ks ++ ulxL true rs
  | [], ns, ks, rs, h => rfl
  | c :: cs, ns, ks, rs, h => by
    unfold argP argT
    by_cases hc : c = 110
    · rw [if_pos hc, if_pos hc]
      have ih := argP_text (r := r) (r' := r') cs ns.tail ks rs (fun j hj => h j (by simpa [hc] using hj))
      rw [List.cons_append, ulxL]
      have e : (decide ((pWord (ns.headD ByteArray.empty)).kind ≠ 1)) = true := rfl
      rw [e, ih, if_pos ⟨rfl, by show (3 : Int) ≠ 2; decide⟩]
      simp [pWord]
    · have hl : ((c :: cs).filter (· ≠ 110)).length = (cs.filter (· ≠ 110)).length + 1 := by simp [hc]
      rw [if_neg hc, if_neg hc]
      have h0 := h 0 (by omega) true (argP r cs ns ks.tail ++ rs)
      rw [← headD_getD] at h0
      have ih := argP_text (r := r) (r' := r') cs ns ks.tail rs (fun j hj => by
        have := h (j + 1) (by omega)
        rw [getD_tail]
        exact this)
      rw [List.append_assoc, h0, ih]
      simp [dueL]

/-- The pieces of a node, put together, are its text. -/
theorem show_text {ts : List Nod} {st : List Nat} (hR : Right ts st) : ∀ (f i : Nat), i < f → i < ts.length → ∀ (a : Bool) (qs : List Tok), ulxL a (showP decS ts f i ++ qs) = dueL a ++ textN ts f i ++ ulxL true qs
  | 0, i, h, _ => by omega
  | f + 1, i, h, hi => by
    intro a qs
    obtain ⟨hF, _⟩ := hR.2 i hi
    have hkid := fun {j : Nat} (hj : j < arN (ts.getD i noNod).kind) => kid_ahead hR hi hj
    have one : ∀ (t : Tok) (T : List UInt8), t.kind ≠ 1 → t.kind ≠ 2 → t.text.data.toList = T → ulxL a ([t] ++ qs) = dueL a ++ T ++ ulxL true qs := by
      intro t T h1 h2 hT
      show (if a = true ∧ t.kind ≠ 2 then [32] else []) ++ t.text.data.toList ++ ulxL (decide (t.kind ≠ 1)) qs = _
      rw [hT, decide_eq_true h1]
      unfold dueL
      by_cases ha : a = true
      · rw [if_pos ⟨ha, h2⟩, if_pos ha]
      · rw [if_neg (fun hh => ha hh.1), if_neg ha]
    show ulxL a (showP decS ts (f + 1) i ++ qs) = dueL a ++ nodeT (textN ts f) (ts.getD i noNod) ++ ulxL true qs
    unfold showP nodeT
    by_cases h1 : (ts.getD i noNod).kind = 1
    · rw [if_pos h1, if_pos h1]
      exact one _ _ (by show (3 : Int) ≠ 1; decide) (by show (3 : Int) ≠ 2; decide) rfl
    by_cases h2 : (ts.getD i noNod).kind = 2
    · rw [if_neg h1, if_neg h1, if_pos h2, if_pos h2]
      exact one _ _ (by show (4 : Int) ≠ 1; decide) (by show (4 : Int) ≠ 2; decide) (by simp [pNum, decS])
    by_cases h12 : (ts.getD i noNod).kind = 12
    · rw [if_neg h1, if_neg h1, if_neg h2, if_neg h2, if_pos h12, if_pos h12]
      exact one _ _ (by show (3 : Int) ≠ 1; decide) (by show (3 : Int) ≠ 2; decide) rfl
    rw [if_neg h1, if_neg h1, if_neg h2, if_neg h2, if_neg h12, if_neg h12]
    have har := asked_ar (fields_form hF h1 h2 h12)
    unfold asked at har
    have hargs := argP_text (r := showP decS ts f) (r' := textN ts f) (goesOn (ts.getD i noNod).kind) [(ts.getD i noNod).name, (ts.getD i noNod).other] [(ts.getD i noNod).a, (ts.getD i noNod).b, (ts.getD i noNod).c] ([pShut] ++ qs) (fun j hj => by
      rw [har] at hj
      obtain ⟨q, hq, hlt, _⟩ := hkid hj
      rw [hq, Int.toNat_natCast]
      exact show_text hR f q (by omega) (by omega))
    unfold formT
    rw [List.append_assoc, List.append_assoc, List.cons_append, List.cons_append, List.nil_append, ulxL, ulxL]
    have e1 : decide (pOpen.kind ≠ 1) = false := rfl
    have e2 : decide ((pWord (keyN (ts.getD i noNod).kind (ts.getD i noNod).n)).kind ≠ 1) = true := rfl
    have e4 : (if a = true ∧ pOpen.kind ≠ 2 then [32] else []) = dueL a := by
      unfold dueL
      by_cases ha : a = true
      · rw [if_pos ⟨ha, by decide⟩, if_pos ha]
      · rw [if_neg (fun hh => ha hh.1), if_neg ha]
    have e5 : (if false = true ∧ (pWord (keyN (ts.getD i noNod).kind (ts.getD i noNod).n)).kind ≠ 2 then ([32] : List UInt8) else []) = [] := if_neg (fun hh => by cases hh.1)
    have e3 : ulxL true ([pShut] ++ qs) = [41] ++ ulxL true qs := rfl
    rw [e1, e2, hargs, e4, e5, e3]
    simp [pOpen, pWord]

theorem text_ulx {ts : List Nod} {st : List Nat} (hR : Right ts st) {f i : Nat} (h : i < f) (hi : i < ts.length) : ulx (showP decS ts f i) (showP decS ts f i).length = textN ts f i := by
  have := show_text hR f i h hi false []
  rw [(ulx_eq _ _ (Nat.le_refl _)).1, List.take_length]
  simpa [dueL, ulxL] using this

/-- The first k tokens with the places that they have in the text. -/
def placed (ts : List Tok) : Nat → List Tok
  | 0 => []
  | k + 1 => placed ts k ++ [⟨(ts.getD k noTok).kind, (ts.getD k noTok).text, (ts.getD k noTok).n, ((ulx ts k ++ gap ts k).length : Nat)⟩]

theorem placed_len (ts : List Tok) : ∀ k, (placed ts k).length = k
  | 0 => rfl
  | k + 1 => by simp [placed, placed_len ts k]

theorem placed_at (ts : List Tok) : ∀ k q, q < k → (placed ts k).getD q noTok = ⟨(ts.getD q noTok).kind, (ts.getD q noTok).text, (ts.getD q noTok).n, ((ulx ts q ++ gap ts q).length : Nat)⟩
  | 0, q, h => by omega
  | k + 1, q, h => by
    unfold placed
    by_cases hq : q < k
    · rw [getD_left (by rw [placed_len]; exact hq)]
      exact placed_at ts k q hq
    · obtain rfl : q = k := by omega
      rw [getD_last (placed_len ts q).symm]

theorem relexP (ts : List Tok) (hv : ∀ k, k < ts.length → VT (ts.getD k noTok)) : ∀ k, k ≤ ts.length → ∀ R, (k = 0 ∨ Closed (kindOf ts (k - 1)) R) →
    ∃ m, Reach (bsL (ulx ts k ++ R)) m (ulx ts k).length (placed ts k)
  | 0, _, R, _ => ⟨0, rfl, rfl⟩
  | k + 1, hk, R, hR => by
    have hR' : Closed (kindOf ts k) R := by
      rcases hR with h | h
      · omega
      · exact h
    have ht := hv k (by omega)
    have e : ulx ts (k + 1) ++ R = ulx ts k ++ (gap ts k ++ (textOf ts k).data.toList ++ R) := by simp [ulx, List.append_assoc]
    have hc : k = 0 ∨ Closed (kindOf ts (k - 1)) (gap ts k ++ (textOf ts k).data.toList ++ R) := by
      by_cases h0 : k = 0
      · exact Or.inl h0
      · right
        by_cases h1 : kindOf ts (k - 1) = 1
        · exact Or.inr (Or.inl h1)
        · by_cases h2 : kindOf ts k = 2
          · have hX : textOf ts k = byteS 41 := by
              rcases ht with ⟨h, _⟩ | ⟨_, h, _⟩ | ⟨h, _⟩ | ⟨h, _⟩
              · unfold kindOf at h2; omega
              · exact h
              · unfold kindOf at h2; omega
              · unfold kindOf at h2; omega
            have hg : gap ts k = [] := by unfold gap; rw [if_neg (fun h => h.2.2 h2)]
            rw [hX, hg]
            exact Or.inr (Or.inr (Or.inr ⟨41, R, rfl, by decide, by decide⟩))
          · have hg : gap ts k = [32] := by unfold gap; rw [if_pos ⟨by omega, h1, h2⟩]
            rw [hg]
            exact Or.inr (Or.inr (Or.inr ⟨32, (textOf ts k).data.toList ++ R, rfl, by decide, by decide⟩))
    obtain ⟨m, hr⟩ := relexP ts hv k (by omega) _ hc
    rw [← e] at hr
    -- the blank
    have hb : ∃ m', Reach (bsL (ulx ts (k + 1) ++ R)) m' (ulx ts k ++ gap ts k).length (placed ts k) := by
      by_cases hg : gap ts k = []
      · exact ⟨m, by rw [hg, List.append_nil]; exact hr⟩
      · have hg' : gap ts k = [32] := by
          unfold gap at hg ⊢
          split
          · rfl
          · rename_i h; rw [if_neg h] at hg; exact absurd rfl hg
        refine ⟨m + 1, ?_⟩
        have hst : Step (bsL (ulx ts (k + 1) ++ R)) (ulx ts k).length ((ulx ts k).length + 1) [] := by
          have hbb : bAt (bsL (ulx ts (k + 1) ++ R)) (ulx ts k).length = 32 := by
            have := bAt_end (ulx ts k) [] 32 ((textOf ts k).data.toList ++ R)
            rw [e, hg']
            simpa using this
          refine ⟨?_, Or.inl ⟨Or.inl hbb, rfl, rfl⟩⟩
          rw [bsL_size, e, hg']
          simp
        have h2 : Reach (bsL (ulx ts (k + 1) ++ R)) (m + 1) ((ulx ts k).length + 1) (placed ts k ++ []) := ⟨_, _, _, hr, hst, rfl⟩
        rw [List.append_nil] at h2
        rw [hg', List.length_append]
        exact h2
    obtain ⟨m', hr'⟩ := hb
    have e2 : ulx ts (k + 1) ++ R = (ulx ts k ++ gap ts k) ++ (ts.getD k noTok).text.data.toList ++ R := by simp [ulx, textOf, List.append_assoc]
    have hst := tok_step (ulx ts k ++ gap ts k) R (ts.getD k noTok) ht hR'
    rw [← e2] at hst
    have e3 : (ulx ts (k + 1)).length = (ulx ts k ++ gap ts k).length + (ts.getD k noTok).text.size := by
      simp only [ulx, List.length_append, textOf, len_data]
    rw [e3]
    exact ⟨m' + 1, ⟨_, _, _, hr', hst, rfl⟩⟩


theorem placed_stand (ts : List Tok) {k : Nat} (hk : k = ts.length) : Stand (placed ts k) 0 ts := by
  subst hk
  refine ⟨by rw [placed_len]; omega, fun q hq => ?_⟩
  rw [Nat.zero_add, placed_at ts ts.length q hq]
  exact ⟨rfl, rfl, rfl⟩
end

section
open Go.ChangeShapes Go.WideShapes Go.ChangeAt Go.RowKit

theorem word_key {k n : Int} (h : IsForm k n) : isWordB (keyN k n) = true := by
  obtain ⟨h1, h2, h3, h4⟩ := h
  by_cases h8 : k = 8
  · subst h8
    obtain ⟨a, b⟩ := h4 rfl
    have : n = 0 ∨ n = 1 ∨ n = 2 ∨ n = 3 := by omega
    rcases this with rfl | rfl | rfl | rfl <;> decide +kernel
  · have e : keyN k n = keyN k 0 := by
      unfold keyN
      rw [if_neg h8, if_neg h8]
    rw [e]
    have : k = 3 ∨ k = 4 ∨ k = 5 ∨ k = 6 ∨ k = 7 ∨ k = 9 ∨ k = 10 ∨ k = 11 ∨ k = 13 ∨ k = 14 ∨ k = 15 ∨ k = 16 ∨ k = 17 ∨ k = 18 ∨ k = 19 := by omega
    clear h1 h2 h3 h4 h8 e
    rcases this with rfl | rfl | rfl | rfl | rfl | rfl | rfl | rfl | rfl | rfl | rfl | rfl | rfl | rfl | rfl <;> decide +kernel

theorem vt_word {s : ByteArray} (h : isWordB s = true) : VT (pWord s) := by
  obtain ⟨a, b, c⟩ := of_decide_eq_true h
  exact Or.inr (Or.inr (Or.inl ⟨rfl, a, b, c, rfl⟩))

theorem vt_open : VT pOpen := Or.inl ⟨rfl, rfl, rfl⟩
theorem vt_shut : VT pShut := Or.inr (Or.inl ⟨rfl, rfl, rfl⟩)

theorem rd_itoa {n : Int} (h0 : 0 ≤ n) (h1 : n ≤ 65535) : IsRd (Lib.itoa n) n true := Or.inl ⟨rfl, by omega, by omega, rfl⟩

theorem vt_digits {l : List UInt8} {u : Nat} (hl : l = Lib.decDigits u) (hu : u ≤ 65535) (pl : Int) : VT ⟨4, bsL l, u, pl⟩ := by
  subst hl
  have hp := dd_pos u
  refine Or.inr (Or.inr (Or.inr ⟨rfl, by show 1 ≤ (bsL _).size; rw [bsL_size]; omega, fun q hq => ?_, ?_, by show (u : Int) ≤ 65535; omega⟩))
  · have hq' : q < (Lib.decDigits u).length := by
      have : q < (bsL (Lib.decDigits u)).size := hq
      rwa [bsL_size] at this
    show dig9 (bAt (bsL (Lib.decDigits u)) q)
    rw [bAt_list, List.getD, List.getElem?_eq_getElem hq']
    have := dd_digits u _ (List.getElem_mem hq')
    exact this
  · show IsRd (bsL (Lib.decDigits u)).data.toList u true
    rw [bsL_data, ← itoa_pos]
    exact rd_itoa (by omega) (by omega)

theorem vt_num {n : Int} (h0 : 0 ≤ n) (h1 : n ≤ 65535) : VT (pNum (decS n) n) := by
  obtain ⟨u, rfl⟩ : ∃ u : Nat, n = u := ⟨n.toNat, by omega⟩
  exact vt_digits (l := Lib.itoa u) (itoa_pos u) (by omega) 0

theorem argP_vt {r : Nat → List Tok} : ∀ (cs : List UInt8) (ns : List ByteArray) (ks : List Int), namesE cs ns → (∀ j, j < (cs.filter (· ≠ 110)).length → ∀ t ∈ r (ks.getD j 0).toNat, VT t) → ∀ t ∈ argP r cs ns ks, VT t
  | [], ns, ks, hn, h, t, ht => by simp [argP] at ht
  | c :: cs, ns, ks, hn, h, t, ht => by
    unfold argP at ht
    unfold namesE at hn
    by_cases hc : c = 110
    · rw [if_pos hc] at ht hn
      rcases List.mem_cons.1 ht with rfl | ht
      · exact vt_word (Bool.and_eq_true_iff.1 hn.1).1
      · exact argP_vt cs ns.tail ks hn.2 (fun j hj => h j (by simpa [hc] using hj)) t ht
    · have hl : ((c :: cs).filter (· ≠ 110)).length = (cs.filter (· ≠ 110)).length + 1 := by simp [hc]
      rw [if_neg hc] at ht hn
      rcases List.mem_append.1 ht with ht | ht
      · have := h 0 (by omega)
        rw [← headD_getD] at this
        exact this t ht
      · exact argP_vt cs ns ks.tail hn (fun j hj => by
          have := h (j + 1) (by omega)
          rw [getD_tail]
          exact this) t ht

theorem show_vt {ts : List Nod} {st : List Nat} (hR : Right ts st) : ∀ (f i : Nat), i < f → i < ts.length → ∀ t ∈ showP decS ts f i, VT t
  | 0, i, h, _ => by omega
  | f + 1, i, h, hi => by
    intro t ht
    obtain ⟨hF, _⟩ := hR.2 i hi
    have hkid := fun {j : Nat} (hj : j < arN (ts.getD i noNod).kind) => kid_ahead hR hi hj
    unfold showP at ht
    by_cases h1 : (ts.getD i noNod).kind = 1
    · rw [if_pos h1] at ht
      rw [List.mem_singleton.1 ht]
      have hn := hF.2.2.1.2.1 (by rw [h1]; decide)
      exact vt_word (Bool.and_eq_true_iff.1 hn).1
    by_cases h2 : (ts.getD i noNod).kind = 2
    · rw [if_neg h1, if_pos h2] at ht
      rw [List.mem_singleton.1 ht]
      have hn := hF.2.2.2.1 h2
      exact vt_num hn.1 hn.2
    by_cases h12 : (ts.getD i noNod).kind = 12
    · rw [if_neg h1, if_neg h2, if_pos h12] at ht
      rw [List.mem_singleton.1 ht]
      exact vt_word (by decide +kernel)
    rw [if_neg h1, if_neg h2, if_neg h12] at ht
    have hfm := fields_form hF h1 h2 h12
    have har := asked_ar hfm
    unfold asked at har
    rcases List.mem_append.1 ht with ht | ht
    · rcases List.mem_append.1 ht with ht | ht
      · simp only [List.mem_cons, List.not_mem_nil, or_false] at ht
        rcases ht with rfl | rfl
        · exact vt_open
        · exact vt_word (word_key hfm)
      · exact argP_vt _ _ _ (goes_names hF hfm) (fun j hj => by
          rw [har] at hj
          obtain ⟨q, hq, hlt, _⟩ := hkid hj
          rw [hq, Int.toNat_natCast]
          exact show_vt hR f q (by omega) (by omega)) t ht
    · rw [List.mem_singleton.1 ht]
      exact vt_shut

theorem getD_mem {us : List Tok} {k : Nat} (h : k < us.length) : us.getD k noTok ∈ us := by
  rw [List.getD, List.getElem?_eq_getElem h]
  exact List.getElem_mem h

theorem vt_size {t : Tok} (h : VT t) : 1 ≤ t.text.size ∧ t.text.size ≤ 8 ∨ (t.kind = 4 ∧ 1 ≤ t.text.size) := by
  rcases h with ⟨_, h, _⟩ | ⟨_, h, _⟩ | ⟨_, h, h', _⟩ | ⟨h, h', _⟩
  · left; rw [h]; exact ⟨by decide, by decide⟩
  · left; rw [h]; exact ⟨by decide, by decide⟩
  · left; exact ⟨h, h'⟩
  · right; exact ⟨h, h'⟩

theorem vt_pos {t : Tok} (h : VT t) : 1 ≤ t.text.size := by
  rcases vt_size h with h | h
  · exact h.1
  · exact h.2

/-- A beginning of the digits of a number are the digits of a number. -/
theorem dd_front : ∀ (u : Nat) (d : Nat), 0 < d → d ≤ (Lib.decDigits u).length → ∃ v, v ≤ u ∧ (Lib.decDigits u).take d = Lib.decDigits v := by
  intro u
  induction u using Nat.strongRecOn with
  | ind u ih =>
    intro d h0 hd
    by_cases hu : u < 10
    · rw [dd_small hu] at hd ⊢
      simp at hd
      obtain rfl : d = 1 := by omega
      exact ⟨u, Nat.le_refl _, by rw [dd_small hu]; rfl⟩
    · rw [dd_big hu] at hd ⊢
      simp only [List.length_append, List.length_cons, List.length_nil] at hd
      by_cases hl : d ≤ (Lib.decDigits (u / 10)).length
      · obtain ⟨v, hv, e⟩ := ih (u / 10) (by omega) d h0 hl
        exact ⟨v, by omega, by rw [List.take_append_of_le_length hl, e]⟩
      · refine ⟨u, Nat.le_refl _, ?_⟩
        rw [List.take_of_length_le (by simp; omega), ← dd_big hu]

/-- A beginning of a word or of a number is one. -/
theorem vt_front {t : Tok} (h : VT t) {d : Nat} (h0 : 0 < d) (hd : d < t.text.size) (pl : Int) : ∃ n', VT ⟨t.kind, bsL (t.text.data.toList.take d), n', pl⟩ ∧ (t.kind = 3 ∨ t.kind = 4) := by
  obtain ⟨kd, T, n, p⟩ := t
  simp only at h hd ⊢
  have hlen : T.data.toList.length = T.size := len_data T
  have hsz : (bsL (T.data.toList.take d)).size = d := by rw [bsL_size, List.length_take]; omega
  rcases h with ⟨_, h, _⟩ | ⟨_, h, _⟩ | ⟨hk, h1, h8, ha, _⟩ | ⟨hk, h1, ha, hr, hn⟩
  · have h' : T = byteS 40 := h
    rw [h'] at hd
    have : (byteS 40).size = 1 := rfl
    omega
  · have h' : T = byteS 41 := h
    rw [h'] at hd
    have : (byteS 41).size = 1 := rfl
    omega
  · refine ⟨0, Or.inr (Or.inr (Or.inl ⟨hk, by show 1 ≤ (bsL _).size; rw [hsz]; omega, by show (bsL _).size ≤ 8; rw [hsz]; have : T.size ≤ 8 := h8; omega, fun q hq => ?_, rfl⟩)), Or.inl hk⟩
    have hq' : q < d := by
      have : q < (bsL (T.data.toList.take d)).size := hq
      rwa [hsz] at this
    show lowA (bAt (bsL (T.data.toList.take d)) q)
    have e : bAt (bsL (T.data.toList.take d)) q = bAt T q := by
      rw [bAt_list, bAt_data]
      simp only [List.getD]
      rw [List.getElem?_take_of_lt hq']
    rw [e]
    exact ha q (by show q < T.size; omega)
  · rcases hr with ⟨_, a1, a2, a3⟩ | ⟨h, _⟩
    · have a3' : T.data.toList = Lib.itoa n := a3
      by_cases hneg : n < 0
      · obtain ⟨u, rfl⟩ : ∃ u : Nat, n = -(u : Int) := ⟨n.natAbs, by omega⟩
        rw [itoa_neg u (by omega)] at a3'
        have := ha 0 (by show 0 < T.size; omega)
        have e : bAt T 0 = 45 := by
          rw [bAt_data, a3']
          rfl
        have this' : dig9 (bAt T 0) := this
        rw [e] at this'
        exact absurd this' (by decide)
      · obtain ⟨u, rfl⟩ : ∃ u : Nat, n = u := ⟨n.toNat, by omega⟩
        rw [itoa_pos] at a3'
        obtain ⟨v, hv, e⟩ := dd_front u d h0 (by rw [← a3']; omega)
        have hn' : (u : Int) ≤ 65535 := hn
        have hk' : kd = 4 := hk
        subst hk'
        refine ⟨v, ?_, Or.inr rfl⟩
        rw [a3', e]
        exact vt_digits rfl (by omega) pl
    · cases h

/-- Where a beginning of a text ends among the tokens. -/
theorem cut_at (us : List Tok) : ∀ (n k : Nat), k < (ulx us n).length → ∃ m, m < n ∧ (ulx us m).length ≤ k ∧ k < (ulx us (m + 1)).length
  | 0, k, h => by simp [ulx] at h
  | n + 1, k, h => by
    by_cases hk : k < (ulx us n).length
    · obtain ⟨m, h1, h2, h3⟩ := cut_at us n k hk
      exact ⟨m, by omega, h2, h3⟩
    · exact ⟨n, by omega, by omega, h⟩

theorem ulx_more (us : List Tok) : ∀ (n m : Nat), m ≤ n → ∃ R, ulx us n = ulx us m ++ R
  | 0, m, h => by
    obtain rfl : m = 0 := by omega
    exact ⟨[], by simp⟩
  | n + 1, m, h => by
    rcases Nat.lt_or_eq_of_le h with hl | rfl
    · obtain ⟨R, hR⟩ := ulx_more us n m (by omega)
      exact ⟨R ++ gap us n ++ (textOf us n).data.toList, by simp only [ulx, hR, List.append_assoc]⟩
    · exact ⟨[], by simp⟩

theorem lexes_of {s : ByteArray} {m i : Nat} {ts : List Tok} (h : Reach s m i ts) (hs : s.size ≤ 4000) (hi : s.size ≤ i) : Lexes s ts (-1) := Or.inr ⟨hs, m, i, ts, h, Or.inl ⟨hi, rfl, rfl⟩⟩

theorem gap_two (us : List Tok) (k : Nat) : gap us k = [] ∨ gap us k = [32] := by
  unfold gap
  split
  · exact Or.inr rfl
  · exact Or.inl rfl

theorem blank_step {P R : List UInt8} : Step (bsL (P ++ 32 :: R)) P.length (P.length + 1) [] := by
  have hbb : bAt (bsL (P ++ 32 :: R)) P.length = 32 := by
    have := bAt_end P [] 32 R
    simpa using this
  refine ⟨?_, Or.inl ⟨Or.inl hbb, rfl, rfl⟩⟩
  rw [bsL_size]
  simp

/-- A beginning of tokens' text is read as a beginning of the tokens, the last one cut or not. -/
theorem begun_lex (us : List Tok) (hv : ∀ q, q < us.length → VT (us.getD q noTok)) {k : Nat} (hk : k < (ulx us us.length).length) (h4 : k ≤ 4000) :
    ∃ m vs, m < us.length ∧ Lexes (bsL ((ulx us us.length).take k)) vs (-1) ∧ (∀ t ∈ vs, 0 ≤ t.place ∧ t.place < k) ∧
      (vs = placed us m ∨ ∃ x, vs = placed us m ++ [x] ∧ (x.kind = 3 ∨ x.kind = 4) ∧ 1 < (us.getD m noTok).text.size) := by
  obtain ⟨m, hm, h1, h2⟩ := cut_at us us.length k hk
  have ht := hv m hm
  obtain ⟨R0, hR0⟩ := ulx_more us us.length (m + 1) (by omega)
  have hlt : (textOf us m).data.toList.length = (textOf us m).size := len_data _
  have hstep : (ulx us (m + 1)).length = (ulx us m).length + (gap us m).length + (textOf us m).size := by
    simp only [ulx, List.length_append, hlt]
  obtain ⟨d, hd⟩ : ∃ d, k = (ulx us m).length + d := ⟨k - (ulx us m).length, by omega⟩
  have hT : (ulx us us.length).take k = ulx us m ++ (gap us m ++ (textOf us m).data.toList).take d := by
    rw [hR0]
    have e : ulx us (m + 1) = ulx us m ++ (gap us m ++ (textOf us m).data.toList) := by simp only [ulx, List.append_assoc]
    rw [e, List.append_assoc, hd, List.take_append, Nat.add_sub_cancel_left, List.take_of_length_le (by omega)]
    congr 1
    rw [List.take_append_of_le_length]
    simp only [List.length_append, hlt]
    omega
  have hplace : ∀ t ∈ placed us m, 0 ≤ t.place ∧ t.place < k := by
    have : ∀ b, b ≤ m → ∀ t ∈ placed us b, 0 ≤ t.place ∧ t.place < ((ulx us b).length : Int) := by
      intro b
      induction b with
      | zero => intro _ t ht'; simp [placed] at ht'
      | succ b ih =>
        intro hb t ht'
        unfold placed at ht'
        have hz : (ulx us (b + 1)).length = (ulx us b).length + (gap us b).length + (textOf us b).size := by
          simp only [ulx, List.length_append, len_data]
        have hp := vt_pos (hv b (by omega))
        rcases List.mem_append.1 ht' with h | h
        · have := ih (by omega) t h
          omega
        · rw [List.mem_singleton.1 h]
          show (0 : Int) ≤ ((ulx us b ++ gap us b).length : Nat) ∧ ((ulx us b ++ gap us b).length : Nat) < ((ulx us (b + 1)).length : Int)
          rw [List.length_append]
          have : (textOf us b).size = (us.getD b noTok).text.size := rfl
          omega
    intro t ht'
    have := this m (Nat.le_refl _) t ht'
    omega
  have hsize : (bsL ((ulx us us.length).take k)).size = k := by rw [bsL_size, List.length_take]; omega
  have hclosed : ∀ R, (R = [] ∨ ∃ R', R = 32 :: R') → (m = 0 ∨ Closed (kindOf us (m - 1)) R) := by
    intro R hR
    right
    rcases hR with rfl | ⟨R', rfl⟩
    · exact Or.inl rfl
    · exact Or.inr (Or.inr (Or.inr ⟨32, R', rfl, by decide, by decide⟩))
  by_cases hd0 : d = 0
  · subst hd0
    rw [List.take_zero] at hT
    obtain ⟨a, hr⟩ := relexP us hv m (by omega) [] (hclosed [] (Or.inl rfl))
    refine ⟨m, placed us m, hm, ?_, hplace, Or.inl rfl⟩
    rw [hT] at hsize ⊢
    exact lexes_of hr (by omega) (by omega)
  · by_cases hg1 : d ≤ (gap us m).length
    · have hg : gap us m = [32] := by
        rcases gap_two us m with h | h
        · rw [h] at hg1; simp at hg1; omega
        · exact h
      obtain rfl : d = 1 := by rw [hg] at hg1; simp at hg1; omega
      rw [hg] at hT
      have hT' : (ulx us us.length).take k = ulx us m ++ 32 :: [] := hT
      obtain ⟨a, hr⟩ := relexP us hv m (by omega) [32] (hclosed [32] (Or.inr ⟨[], rfl⟩))
      refine ⟨m, placed us m, hm, ?_, hplace, Or.inl rfl⟩
      rw [hT'] at hsize ⊢
      have h3 : Reach (bsL (ulx us m ++ 32 :: [])) (a + 1) ((ulx us m).length + 1) (placed us m ++ []) := ⟨_, _, _, hr, blank_step, rfl⟩
      rw [List.append_nil] at h3
      exact lexes_of h3 (by omega) (by omega)
    · obtain ⟨c, hc⟩ : ∃ c, d = (gap us m).length + c := ⟨d - (gap us m).length, by omega⟩
      have hc0 : 0 < c := by omega
      have hcs : c < (textOf us m).size := by omega
      have hT' : (ulx us us.length).take k = ulx us m ++ gap us m ++ (textOf us m).data.toList.take c := by
        rw [hT, hc, List.take_append, Nat.add_sub_cancel_left, List.take_of_length_le (by omega), List.append_assoc]
      obtain ⟨n', hvt, hkd⟩ := vt_front ht hc0 hcs 0
      have hcl : m = 0 ∨ Closed (kindOf us (m - 1)) (gap us m ++ (textOf us m).data.toList.take c) := by
        by_cases h0 : m = 0
        · exact Or.inl h0
        · right
          by_cases h1 : kindOf us (m - 1) = 1
          · exact Or.inr (Or.inl h1)
          · have hg : gap us m = [32] := by
              unfold gap
              rw [if_pos ⟨by omega, h1, by show (us.getD m noTok).kind ≠ 2; omega⟩]
            rw [hg]
            exact Or.inr (Or.inr (Or.inr ⟨32, _, rfl, by decide, by decide⟩))
      obtain ⟨a, hr⟩ := relexP us hv m (by omega) (gap us m ++ (textOf us m).data.toList.take c) hcl
      rw [← List.append_assoc] at hr
      have hb : ∃ a', Reach (bsL (ulx us m ++ gap us m ++ (textOf us m).data.toList.take c)) a' (ulx us m ++ gap us m).length (placed us m) := by
        rcases gap_two us m with hg | hg
        · exact ⟨a, by rw [hg, List.append_nil] at hr ⊢; exact hr⟩
        · refine ⟨a + 1, ?_⟩
          rw [hg] at hr ⊢
          have e : ulx us m ++ [32] ++ (textOf us m).data.toList.take c = ulx us m ++ 32 :: (textOf us m).data.toList.take c := by simp
          rw [e] at hr ⊢
          have h3 : Reach (bsL (ulx us m ++ 32 :: (textOf us m).data.toList.take c)) (a + 1) ((ulx us m).length + 1) (placed us m ++ []) := ⟨_, _, _, hr, blank_step, rfl⟩
          rw [List.append_nil] at h3
          rw [List.length_append]
          exact h3
      obtain ⟨a', hr'⟩ := hb
      have hst := tok_step (ulx us m ++ gap us m) [] ⟨(us.getD m noTok).kind, bsL ((us.getD m noTok).text.data.toList.take c), n', 0⟩ hvt (Or.inl rfl)
      rw [List.append_nil] at hst
      simp only [bsL_data] at hst
      have hcl2 : ((us.getD m noTok).text.data.toList.take c).length = c := by
        rw [List.length_take]
        have : (us.getD m noTok).text.data.toList.length = (textOf us m).size := hlt
        omega
      rw [bsL_size, hcl2] at hst
      refine ⟨m, placed us m ++ [⟨(us.getD m noTok).kind, bsL ((us.getD m noTok).text.data.toList.take c), n', ((ulx us m ++ gap us m).length : Nat)⟩], hm, ?_, ?_, Or.inr ⟨_, rfl, hkd, by show 1 < (textOf us m).size; omega⟩⟩
      · rw [hT'] at hsize ⊢
        have h3 : Reach (bsL (ulx us m ++ gap us m ++ (textOf us m).data.toList.take c)) (a' + 1) ((ulx us m ++ gap us m).length + c) (placed us m ++ [⟨(us.getD m noTok).kind, bsL ((us.getD m noTok).text.data.toList.take c), n', ((ulx us m ++ gap us m).length : Nat)⟩]) := ⟨_, _, _, hr', hst, rfl⟩
        exact lexes_of h3 (by omega) (by rw [List.length_append]; omega)
      · intro t ht'
        rcases List.mem_append.1 ht' with h | h
        · exact hplace t h
        · rw [List.mem_singleton.1 h]
          show (0 : Int) ≤ ((ulx us m ++ gap us m).length : Nat) ∧ ((ulx us m ++ gap us m).length : Nat) < (k : Int)
          rw [List.length_append]
          omega

/-- A text in brackets is a form's. -/
theorem open_of {ts : List Nod} {st : List Nat} (hR : Right ts st) {f i : Nat} (hi : i < ts.length) (h : (textN ts (f + 1) i).head? = some 40) : (showP decS ts (f + 1) i).getD 0 noTok = pOpen := by
  obtain ⟨hF, _⟩ := hR.2 i hi
  have h' : (nodeT (textN ts f) (ts.getD i noNod)).head? = some 40 := h
  unfold showP
  unfold nodeT at h'
  by_cases h1 : (ts.getD i noNod).kind = 1
  · rw [if_pos h1] at h'
    have hn := hF.2.2.1.2.1 (by rw [h1]; decide)
    obtain ⟨a, b, c⟩ := of_decide_eq_true (Bool.and_eq_true_iff.1 hn).1
    have := c 0 (by omega)
    rw [bAt_data, List.getD, ← List.head?_eq_getElem?, h'] at this
    exact absurd this (by decide)
  by_cases h2 : (ts.getD i noNod).kind = 2
  · rw [if_neg h1, if_pos h2] at h'
    have hn := hF.2.2.2.1 h2
    obtain ⟨u, hu⟩ : ∃ u : Nat, (ts.getD i noNod).n = u := ⟨(ts.getD i noNod).n.toNat, by omega⟩
    rw [hu, itoa_pos] at h'
    have := dd_digits u 40 (List.mem_of_mem_head? h')
    exact absurd this.1 (by decide)
  by_cases h12 : (ts.getD i noNod).kind = 12
  · rw [if_neg h1, if_neg h2, if_pos h12] at h'
    exact absurd h' (by decide)
  rw [if_neg h1, if_neg h2, if_neg h12]
  rfl

/-- Tokens that stand there stand there yet when more follow. -/
theorem stand_more {us vs : List Tok} {p : Nat} {ps : List Tok} (h : Stand us p ps) : Stand (us ++ vs) p ps := by
  obtain ⟨h1, h2⟩ := h
  refine ⟨by rw [List.length_append]; omega, fun q hq => ?_⟩
  rw [getD_left (by omega)]
  exact h2 q hq

theorem reads_all {ts : List Nod} {st : List Nat} (hR : Right ts st) (hl : 1 ≤ ts.length) (vs : List Tok) (E : Int) (g : Nat) (hg : ts.length ≤ g) :
    exprE (placed (showP decS ts ts.length (ts.length - 1)) (showP decS ts ts.length (ts.length - 1)).length ++ vs) E g 0 [] = .ok ((showP decS ts ts.length (ts.length - 1)).length, cutM ts (st.getD (ts.length - 1) 0) ts.length 0) := by
  have h := node_reads (dec := decS) (us := placed (showP decS ts ts.length (ts.length - 1)) (showP decS ts ts.length (ts.length - 1)).length ++ vs) (E := E) hR ts.length (ts.length - 1) (by omega) (by omega) ts.length g 0 [] (by omega) (by omega) (by have := hR.1; simp; omega) (stand_more (placed_stand _ rfl))
  rw [h]
  simp only [Nat.zero_add, List.nil_append, List.length_nil]
  rw [show ts.length - 1 + 1 = ts.length by omega]

/-- No beginning of a text in brackets is a program: it ends too early, or a word stands where none should. -/
theorem begun_parse {ts : List Nod} {st : List Nat} (hR : Right ts st) (hl : 1 ≤ ts.length) (hl2 : ts.length ≤ 150) (hh : (textN ts ts.length (ts.length - 1)).head? = some 40) {k : Nat} (hk : k < (textN ts ts.length (ts.length - 1)).length) :
    ∃ vs c q, Lexes (bsL ((textN ts ts.length (ts.length - 1)).take k)) vs (-1) ∧ parseE vs k = ([], c, q) ∧ ((c = 2 ∧ q = k) ∨ (c = 3 ∧ q < k)) := by
  have hlen := textN_len hR ts.length (ts.length - 1) (by omega) (by omega)
  have hT := text_ulx hR (show ts.length - 1 < ts.length by omega) (show ts.length - 1 < ts.length by omega)
  have hall := reads_all hR hl [] k
  have hvt := show_vt hR ts.length (ts.length - 1) (by omega) (by omega)
  have hop : (showP decS ts ts.length (ts.length - 1)).getD 0 noTok = pOpen := by
    obtain ⟨n, hn⟩ : ∃ n, ts.length = n + 1 := ⟨ts.length - 1, by omega⟩
    rw [hn] at hh ⊢
    exact open_of hR (by omega) hh
  generalize showP decS ts ts.length (ts.length - 1) = us at *
  rw [← hT] at hk hlen ⊢
  rw [List.append_nil] at hall
  obtain ⟨m, vs, hm, hx, hpl, hv⟩ := begun_lex us (fun q hq => hvt _ (getD_mem hq)) hk (by omega)
  have hagree : AgreeTo vs (placed us us.length) (placed us m).length := by
    intro q hq
    rw [placed_len] at hq
    refine ⟨by rw [placed_len]; omega, ?_⟩
    rw [placed_at us us.length q (by omega)]
    rcases hv with rfl | ⟨x, rfl, _⟩
    · rw [placed_at us m q hq]
    · rw [getD_left (by rw [placed_len]; exact hq), placed_at us m q hq]
  have h0 : (placed us us.length).getD 0 noTok = ⟨pOpen.kind, pOpen.text, pOpen.n, ((ulx us 0 ++ gap us 0).length : Nat)⟩ := by
    rw [placed_at us us.length 0 (by omega), hop]
  have hfull := hall (vs.length + 1 + ts.length) (by omega)
  have hno : ∀ r, exprE vs k (vs.length + 1) 0 [] ≠ .ok r := fun r => by
    refine begun_bad (us := placed us us.length) (ws := placed us m) (x := vs.getD m noTok) (f := vs.length + 1 + ts.length) (E := (k : Int)) (m := cutM ts (st.getD (ts.length - 1) 0) ts.length 0) (by rw [placed_len]; exact hfull) (by rw [h0]; show (1 : Int) ≠ 3; decide) (by rw [h0]; show (1 : Int) ≠ 4; decide) hagree (by rw [placed_len, placed_len]; exact hm) ?_ (vs.length + 1) (by omega) r
    rcases hv with h | ⟨x, h, hxk, hsz⟩
    · exact Or.inl h
    · right
      have hx2 : vs.getD m noTok = x := by rw [h, getD_last (placed_len us m).symm]
      refine ⟨by rw [hx2]; exact h, by rw [hx2]; omega, ?_⟩
      rw [placed_len]
      rcases Nat.eq_zero_or_pos m with rfl | hp
      · rw [hop] at hsz
        exact absurd hsz (by decide)
      · exact hp
  rcases he : exprE vs k (vs.length + 1) 0 [] with e | r
  · obtain ⟨c, q⟩ := e
    refine ⟨vs, c, q, hx, ?_, ?_⟩
    · unfold parseE
      rw [he]
    · rcases exprE_flt (vs.length + 1) 0 [] (c, q) (by omega) (by omega) he with h | ⟨j, hj, h⟩
      · injection h with h1 h2
        exact Or.inl ⟨h1, h2⟩
      · injection h with h1 h2
        have := hpl _ (getD_mem hj)
        exact Or.inr ⟨h1, by omega⟩
  · exact absurd he (hno r)

theorem argP_len {r : Nat → List Tok} {b : Nat → Nat} : ∀ (cs : List UInt8) (ns : List ByteArray) (ks : List Int), (∀ j, j < (cs.filter (· ≠ 110)).length → b j ≤ 17 * (r (ks.getD j 0).toNat).length) → ((List.range (cs.filter (· ≠ 110)).length).map b).sum ≤ 17 * (argP r cs ns ks).length
  | [], ns, ks, h => by simp [argP]
  | c :: cs, ns, ks, h => by
    unfold argP
    by_cases hc : c = 110
    · have e2 : ((c :: cs).filter (· ≠ 110)).length = (cs.filter (· ≠ 110)).length := by simp [hc]
      have ih := argP_len (r := r) (b := b) cs ns.tail ks (fun j hj => h j (by omega))
      rw [if_pos hc, e2, List.length_cons]
      omega
    · have e2 : ((c :: cs).filter (· ≠ 110)).length = (cs.filter (· ≠ 110)).length + 1 := by simp [hc]
      have ih := argP_len (r := r) (b := fun j => b (j + 1)) cs ns ks.tail (fun j hj => by
        have := h (j + 1) (by omega)
        rw [getD_tail]
        exact this)
      have h0 := h 0 (by omega)
      rw [← headD_getD] at h0
      rw [if_neg hc, e2, List.range_succ_eq_map, List.map_cons, List.sum_cons, List.map_map, List.length_append]
      have e3 : ((List.range (cs.filter (· ≠ 110)).length).map (b ∘ Nat.succ)).sum = ((List.range (cs.filter (· ≠ 110)).length).map (fun j => b (j + 1))).sum := rfl
      rw [e3]
      omega

/-- A node has as many pieces as its part has nodes, at least. -/
theorem show_count {ts : List Nod} {st : List Nat} (hR : Right ts st) : ∀ (f i : Nat), i < f → i < ts.length → i + 1 - st.getD i 0 ≤ (showP decS ts f i).length
  | 0, i, h, _ => by omega
  | f + 1, i, h, hi => by
    obtain ⟨hF, hs, hz, _⟩ := hR.2 i hi
    have hsum := kids_sum hR hi
    have hkid := fun {j : Nat} (hj : j < arN (ts.getD i noNod).kind) => kid_ahead hR hi hj
    unfold showP
    by_cases h1 : (ts.getD i noNod).kind = 1
    · rw [if_pos h1]
      have := hz (by rw [h1]; rfl)
      show _ ≤ 1
      omega
    by_cases h2 : (ts.getD i noNod).kind = 2
    · rw [if_neg h1, if_pos h2]
      have := hz (by rw [h2]; rfl)
      show _ ≤ 1
      omega
    by_cases h12 : (ts.getD i noNod).kind = 12
    · rw [if_neg h1, if_neg h2, if_pos h12]
      have := hz (by rw [h12]; rfl)
      show _ ≤ 1
      omega
    rw [if_neg h1, if_neg h2, if_neg h12]
    have har := asked_ar (fields_form hF h1 h2 h12)
    unfold asked at har
    have := argP_len (r := showP decS ts f) (b := fun j => 17 * ((([(ts.getD i noNod).a, (ts.getD i noNod).b, (ts.getD i noNod).c].getD j 0).toNat) + 1 - st.getD (([(ts.getD i noNod).a, (ts.getD i noNod).b, (ts.getD i noNod).c].getD j 0).toNat) 0)) (goesOn (ts.getD i noNod).kind) [(ts.getD i noNod).name, (ts.getD i noNod).other] [(ts.getD i noNod).a, (ts.getD i noNod).b, (ts.getD i noNod).c] (fun j hj => by
      rw [har] at hj
      obtain ⟨q, hq, hlt, _⟩ := hkid hj
      rw [hq, Int.toNat_natCast]
      have := show_count hR f q (by omega) (by omega)
      omega)
    rw [har, hsum] at this
    simp only [List.length_append, List.length_cons, List.length_nil]
    omega

/-- A number behind a program is too much. -/
theorem more_parse {ts : List Nod} {st : List Nat} (hR : Right ts st) (hl : 1 ≤ ts.length) (hl2 : ts.length ≤ 150) (h0 : st.getD (ts.length - 1) 0 = 0) :
    ∃ vs, Lexes (bsL (textN ts ts.length (ts.length - 1) ++ [32, 49])) vs (-1) ∧ parseE vs (((textN ts ts.length (ts.length - 1)).length + 2 : Nat) : Int) = ([], 4, (((textN ts ts.length (ts.length - 1)).length + 1 : Nat) : Int)) := by
  have hlen := textN_len hR ts.length (ts.length - 1) (by omega) (by omega)
  have hT := text_ulx hR (show ts.length - 1 < ts.length by omega) (show ts.length - 1 < ts.length by omega)
  have hall := reads_all hR hl
  have hcnt := show_count hR ts.length (ts.length - 1) (by omega) (by omega)
  have hst0 : st.getD (ts.length - 1) 0 = 0 := h0
  have hvt := show_vt hR ts.length (ts.length - 1) (by omega) (by omega)
  generalize showP decS ts ts.length (ts.length - 1) = us at *
  rw [← hT] at hlen ⊢
  obtain ⟨a, hr⟩ := relexP us (fun q hq => hvt _ (getD_mem hq)) us.length (Nat.le_refl _) [32, 49] (Or.inr (Or.inr (Or.inr (Or.inr ⟨32, [49], rfl, by decide, by decide⟩))))
  have h3 : Reach (bsL (ulx us us.length ++ 32 :: [49])) (a + 1) ((ulx us us.length).length + 1) (placed us us.length ++ []) := ⟨_, _, _, hr, blank_step, rfl⟩
  rw [List.append_nil] at h3
  have hv1 : VT ⟨4, bsL [49], 1, 0⟩ := vt_digits (l := [49]) (u := 1) (by rw [dd_small (by omega)]; rfl) (by omega) 0
  have hst := tok_step (ulx us us.length ++ [32]) [] ⟨4, bsL [49], 1, 0⟩ hv1 (Or.inl rfl)
  have e1 : ulx us us.length ++ [32] ++ (bsL [49]).data.toList ++ [] = ulx us us.length ++ 32 :: [49] := by simp [bsL]
  have e2 : (ulx us us.length ++ [32]).length = (ulx us us.length).length + 1 := by simp
  simp only at hst
  rw [e1, e2] at hst
  have h4 : Reach (bsL (ulx us us.length ++ 32 :: [49])) (a + 1 + 1) ((ulx us us.length).length + 1 + (bsL [49]).size) (placed us us.length ++ [⟨4, bsL [49], 1, ((ulx us us.length).length + 1 : Nat)⟩]) := ⟨_, _, _, h3, hst, rfl⟩
  have hs1 : (bsL [49]).size = 1 := rfl
  have hsz : (bsL (ulx us us.length ++ 32 :: [49])).size = (ulx us us.length).length + 2 := by rw [bsL_size]; simp
  refine ⟨_, lexes_of h4 (by omega) (by omega), ?_⟩
  unfold parseE
  have hvl : (placed us us.length ++ [(⟨4, bsL [49], 1, ((ulx us us.length).length + 1 : Nat)⟩ : Tok)]).length = us.length + 1 := by simp [placed_len]
  have hex := hall [⟨4, bsL [49], 1, ((ulx us us.length).length + 1 : Nat)⟩] ((ulx us us.length).length + 2 : Nat) (us.length + 1 + 1) (by omega)
  rw [hvl, hex]
  simp only
  rw [if_pos (by omega), getD_last (placed_len us us.length).symm]
end
end

section
open Go.ChangeShapes Go.WideShapes Go.ChangeAt Go.RowKit

theorem stand_app {us : List Tok} {p : Nat} {ps qs : List Tok} (h1 : Stand us p ps) (h2 : Stand us (p + ps.length) qs) : Stand us p (ps ++ qs) := by
  obtain ⟨a1, a2⟩ := h1
  obtain ⟨b1, b2⟩ := h2
  refine ⟨by rw [List.length_append]; omega, fun q hq => ?_⟩
  rw [List.length_append] at hq
  by_cases hl : q < ps.length
  · rw [getD_more hl]
    exact a2 q hl
  · have e : (ps ++ qs).getD q noTok = qs.getD (q - ps.length) noTok := by
      simp only [List.getD]
      rw [List.getElem?_append_right (by omega)]
    rw [e]
    have := b2 (q - ps.length) (by omega)
    rw [show p + ps.length + (q - ps.length) = p + q by omega] at this
    exact this

theorem stand_one {us : List Tok} {p : Nat} {t : Tok} (hp : p < us.length) (h : (us.getD p noTok).kind = t.kind ∧ (us.getD p noTok).text = t.text ∧ (us.getD p noTok).n = t.n) : Stand us p [t] := by
  refine ⟨by simp; omega, fun q hq => ?_⟩
  have : q = 0 := by simp at hq; omega
  subst this
  exact h

theorem args_n_inv {us : List Tok} {E : Int} {rec : Nat → List Nod → Except Flt (Nat × List Nod)} {cs : List UInt8} {i : Nat} {n : Nod} {l : List Nod} {ks : List Int} {R : Nat × Nod × List Nod × List Int}
    (h : argsE us E rec (110 :: cs) i n l ks = .ok R) : ∃ s, nameE us E i = .ok (i + 1, s) ∧ argsE us E rec cs (i + 1) (if n.name.size = 0 then { n with name := s } else { n with other := s }) l ks = .ok R := by
  rw [argsE, if_pos rfl] at h
  split at h
  · rename_i j s hn
    obtain ⟨rfl, _, _⟩ := nameE_ok hn
    exact ⟨s, hn, h⟩
  · cases h

theorem args_e_inv {us : List Tok} {E : Int} {rec : Nat → List Nod → Except Flt (Nat × List Nod)} {cs : List UInt8} {i : Nat} {n : Nod} {l : List Nod} {ks : List Int} {R : Nat × Nod × List Nod × List Int}
    (h : argsE us E rec (101 :: cs) i n l ks = .ok R) : ∃ j m, rec i l = .ok (j, m) ∧ argsE us E rec cs j n m (ks ++ [(m.length : Int) - 1]) = .ok R := by
  rw [argsE, if_neg (by decide)] at h
  split at h
  · rename_i j m hr
    exact ⟨j, m, hr, h⟩
  · cases h

theorem argP_congr {r r' : Nat → List Tok} : ∀ (cs : List UInt8) (ns : List ByteArray) (ks : List Int), (∀ j, j < (cs.filter (· ≠ 110)).length → r (ks.getD j 0).toNat = r' (ks.getD j 0).toNat) → argP r cs ns ks = argP r' cs ns ks
  | [], ns, ks, h => rfl
  | c :: cs, ns, ks, h => by
    unfold argP
    by_cases hc : c = 110
    · rw [if_pos hc, if_pos hc, argP_congr cs ns.tail ks (fun j hj => h j (by simpa [hc] using hj))]
    · have hl : ((c :: cs).filter (· ≠ 110)).length = (cs.filter (· ≠ 110)).length + 1 := by simp [hc]
      have ih : argP r cs ns ks.tail = argP r' cs ns ks.tail := argP_congr cs ns ks.tail (fun j hj => by
        have := h (j + 1) (by omega)
        rwa [getD_tail])
      rw [if_neg hc, if_neg hc, headD_getD, h 0 (by omega), ih]

/-- Pieces of a node do not hang on what stands behind it. -/
theorem showP_app {ts : List Nod} {st : List Nat} (hR : Right ts st) (us : List Nod) (dec : Int → ByteArray) : ∀ (f i : Nat), i < ts.length → showP dec (ts ++ us) f i = showP dec ts f i
  | 0, i, _ => rfl
  | f + 1, i, hi => by
    have e : (ts ++ us).getD i noNod = ts.getD i noNod := by
      simp only [List.getD]
      rw [List.getElem?_append_left hi]
    unfold showP
    rw [e]
    by_cases h1 : (ts.getD i noNod).kind = 1
    · rw [if_pos h1, if_pos h1]
    by_cases h2 : (ts.getD i noNod).kind = 2
    · rw [if_neg h1, if_neg h1, if_pos h2, if_pos h2]
    by_cases h12 : (ts.getD i noNod).kind = 12
    · rw [if_neg h1, if_neg h1, if_neg h2, if_neg h2, if_pos h12, if_pos h12]
    rw [if_neg h1, if_neg h1, if_neg h2, if_neg h2, if_neg h12, if_neg h12]
    congr 2
    obtain ⟨hF, _⟩ := hR.2 i hi
    have har := asked_ar (fields_form hF h1 h2 h12)
    unfold asked at har
    refine argP_congr _ _ _ fun j hj => ?_
    rw [har] at hj
    obtain ⟨q, hq, hlt, _⟩ := kid_ahead hR hi hj
    rw [hq, Int.toNat_natCast]
    exact showP_app hR us dec f q (by omega)

theorem data_of {s : ByteArray} {k : List UInt8} (h : (s.toList == k) = true) : s = ⟨k.toArray⟩ := by
  rw [beq_iff_eq, Lib.toList_data] at h
  exact data_ext (by simpa using h)

set_option maxRecDepth 20000 in
/-- A key of a form is the key of its kind. -/
theorem form_inv {key : ByteArray} (h : ¬ (formE key).1 = 0) : IsForm (formE key).1 (formE key).2.1 ∧ keyN (formE key).1 (formE key).2.1 = key ∧ (formE key).2.2.data.toList = goesOn (formE key).1 ∧ ((formE key).1 ≠ 8 → (formE key).2.1 = 0) := by
  have go : ∀ (k : List UInt8), (key.toList == k) = true → (IsForm (formE ⟨k.toArray⟩).1 (formE ⟨k.toArray⟩).2.1 ∧ keyN (formE ⟨k.toArray⟩).1 (formE ⟨k.toArray⟩).2.1 = ⟨k.toArray⟩ ∧ (formE ⟨k.toArray⟩).2.2.data.toList = goesOn (formE ⟨k.toArray⟩).1 ∧ ((formE ⟨k.toArray⟩).1 ≠ 8 → (formE ⟨k.toArray⟩).2.1 = 0)) →
      IsForm (formE key).1 (formE key).2.1 ∧ keyN (formE key).1 (formE key).2.1 = key ∧ (formE key).2.2.data.toList = goesOn (formE key).1 ∧ ((formE key).1 ≠ 8 → (formE key).2.1 = 0) := by
    intro k hk hh
    have e := data_of hk
    subst e
    exact hh
  by_cases h1 : (key.toList == [102, 117, 110]) = true
  · exact go _ h1 (by unfold IsForm; decide +kernel)
  by_cases h2 : (key.toList == [97, 112, 112]) = true
  · exact go _ h2 (by unfold IsForm; decide +kernel)
  by_cases h3 : (key.toList == [108, 101, 116]) = true
  · exact go _ h3 (by unfold IsForm; decide +kernel)
  by_cases h4 : (key.toList == [114, 101, 99]) = true
  · exact go _ h4 (by unfold IsForm; decide +kernel)
  by_cases h5 : (key.toList == [105, 102]) = true
  · exact go _ h5 (by unfold IsForm; decide +kernel)
  by_cases h6 : (key.toList == [97, 100, 100]) = true
  · exact go _ h6 (by unfold IsForm; decide +kernel)
  by_cases h7 : (key.toList == [115, 117, 98]) = true
  · exact go _ h7 (by unfold IsForm; decide +kernel)
  by_cases h8 : (key.toList == [108, 101, 115, 115]) = true
  · exact go _ h8 (by unfold IsForm; decide +kernel)
  by_cases h9 : (key.toList == [115, 97, 109, 101]) = true
  · exact go _ h9 (by unfold IsForm; decide +kernel)
  by_cases h10 : (key.toList == [112, 97, 105, 114]) = true
  · exact go _ h10 (by unfold IsForm; decide +kernel)
  by_cases h11 : (key.toList == [102, 115, 116]) = true
  · exact go _ h11 (by unfold IsForm; decide +kernel)
  by_cases h12 : (key.toList == [115, 110, 100]) = true
  · exact go _ h12 (by unfold IsForm; decide +kernel)
  by_cases h13 : (key.toList == [99, 111, 110, 115]) = true
  · exact go _ h13 (by unfold IsForm; decide +kernel)
  by_cases h14 : (key.toList == [109, 97, 116, 99, 104]) = true
  · exact go _ h14 (by unfold IsForm; decide +kernel)
  by_cases h15 : (key.toList == [114, 101, 102]) = true
  · exact go _ h15 (by unfold IsForm; decide +kernel)
  by_cases h16 : (key.toList == [103, 101, 116]) = true
  · exact go _ h16 (by unfold IsForm; decide +kernel)
  by_cases h17 : (key.toList == [115, 101, 116]) = true
  · exact go _ h17 (by unfold IsForm; decide +kernel)
  by_cases h18 : (key.toList == [114, 97, 105, 115, 101]) = true
  · exact go _ h18 (by unfold IsForm; decide +kernel)
  by_cases h19 : (key.toList == [116, 114, 121]) = true
  · exact go _ h19 (by unfold IsForm; decide +kernel)
  exfalso
  apply h
  unfold formE
  rw [if_neg h1, if_neg h2, if_neg h3, if_neg h4, if_neg h5, if_neg h6, if_neg h7, if_neg h8, if_neg h9, if_neg h10, if_neg h11, if_neg h12, if_neg h13, if_neg h14, if_neg h15, if_neg h16, if_neg h17, if_neg h18, if_neg h19]

theorem gd_left {α : Type} {l m : List α} {d : α} {j : Nat} (h : j < l.length) : (l ++ m).getD j d = l.getD j d := by
  simp only [List.getD]
  rw [List.getElem?_append_left h]

theorem gd_end {α : Type} {l : List α} {x d : α} : (l ++ [x]).getD l.length d = x := by simp [List.getD]

/-- One node more that lies as it should. -/
theorem right_snoc {l : List Nod} {st : List Nat} (hR : Right l st) (hs : st.length = l.length) (hl : l.length + 1 ≤ 1000) (t : Nod) (s : Nat) (hF : FieldsOk t) (hsl : s ≤ l.length)
    (h0 : arN t.kind = 0 → s = l.length) (h1 : arN t.kind = 1 → ∃ a : Nat, t.a = a ∧ a + 1 = l.length ∧ st.getD a 0 = s)
    (h2 : arN t.kind = 2 → ∃ a b : Nat, t.a = a ∧ t.b = b ∧ b + 1 = l.length ∧ a + 1 = st.getD b 0 ∧ st.getD a 0 = s)
    (h3 : arN t.kind = 3 → ∃ a b c : Nat, t.a = a ∧ t.b = b ∧ t.c = c ∧ c + 1 = l.length ∧ b + 1 = st.getD c 0 ∧ a + 1 = st.getD b 0 ∧ st.getD a 0 = s) : Right (l ++ [t]) (st ++ [s]) := by
  have hle : ∀ k, k < l.length → st.getD k 0 ≤ k := fun k hk => (hR.2 k hk).2.1
  refine ⟨by simp; omega, fun j hj => ?_⟩
  have hj' : j < l.length + 1 := by simpa using hj
  by_cases hjl : j < l.length
  · have hh := hR.2 j hjl
    have e : ∀ k, k < l.length → (st ++ [s]).getD k 0 = st.getD k 0 := fun k hk => gd_left (by omega)
    rw [gd_left hjl, e j hjl]
    obtain ⟨q1, q2, k0, k1, k2, k3⟩ := hh
    refine ⟨q1, q2, k0, fun ea => ?_, fun ea => ?_, fun ea => ?_⟩
    · obtain ⟨a, g1, g2, g3⟩ := k1 ea
      exact ⟨a, g1, g2, by rw [e a (by omega)]; exact g3⟩
    · obtain ⟨a, b, g1, g2, g3, g4, g5⟩ := k2 ea
      have := hle b (by omega)
      exact ⟨a, b, g1, g2, g3, by rw [e b (by omega)]; exact g4, by rw [e a (by omega)]; exact g5⟩
    · obtain ⟨a, b, c, g1, g2, g3, g4, g5, g6, g7⟩ := k3 ea
      have := hle c (by omega)
      have := hle b (by omega)
      exact ⟨a, b, c, g1, g2, g3, g4, by rw [e c (by omega)]; exact g5, by rw [e b (by omega)]; exact g6, by rw [e a (by omega)]; exact g7⟩
  · obtain rfl : j = l.length := by omega
    have e : ∀ k, k < l.length → (st ++ [s]).getD k 0 = st.getD k 0 := fun k hk => gd_left (by omega)
    have el : (st ++ [s]).getD l.length 0 = s := by rw [← hs]; exact gd_end
    rw [gd_end, el]
    refine ⟨hF, hsl, h0, fun ea => ?_, fun ea => ?_, fun ea => ?_⟩
    · obtain ⟨a, g1, g2, g3⟩ := h1 ea
      exact ⟨a, g1, g2, by rw [e a (by omega)]; exact g3⟩
    · obtain ⟨a, b, g1, g2, g3, g4, g5⟩ := h2 ea
      have := hle b (by omega)
      exact ⟨a, b, g1, g2, g3, by rw [e b (by omega)]; exact g4, by rw [e a (by omega)]; exact g5⟩
    · obtain ⟨a, b, c, g1, g2, g3, g4, g5, g6, g7⟩ := h3 ea
      have := hle c (by omega)
      have := hle b (by omega)
      exact ⟨a, b, c, g1, g2, g3, g4, by rw [e c (by omega)]; exact g5, by rw [e b (by omega)]; exact g6, by rw [e a (by omega)]; exact g7⟩

/-- What is known of an expression that was read behind some nodes. -/
def ConvAt (us : List Tok) (i : Nat) (l : List Nod) (st : List Nat) (j : Nat) (m : List Nod) : Prop :=
  ∃ st' : List Nat, Right m (st ++ st') ∧ (st ++ st').length = m.length ∧ (∃ new, m = l ++ new) ∧ l.length < m.length ∧ (st ++ st').getD (m.length - 1) 0 = l.length ∧
    ∀ F, m.length ≤ F → Stand us i (showP decS m F (m.length - 1)) ∧ i + (showP decS m F (m.length - 1)).length = j

def Conv (us : List Tok) (E : Int) (rec : Nat → List Nod → Except Flt (Nat × List Nod)) : Prop := ∀ (i : Nat) (l : List Nod) (st : List Nat) (j : Nat) (m : List Nod), Right l st → st.length = l.length → m.length ≤ 1000 → rec i l = .ok (j, m) → ConvAt us i l st j m

theorem name_inv {us : List Tok} {E : Int} (hv : ∀ q, q < us.length → VT (us.getD q noTok)) {i j : Nat} {s : ByteArray} (h : nameE us E i = .ok (j, s)) : j = i + 1 ∧ i < us.length ∧ isNameB s = true ∧ Stand us i [pWord s] := by
  obtain ⟨h1, h2, h3⟩ := nameE_ok h
  unfold nameE at h
  split at h
  · cases h
  · rename_i hk
    split at h
    · rename_i j' t ht
      obtain ⟨_, _, rfl, hkd⟩ := takeE_ok ht
      have hvt := hv i h2
      rcases hvt with ⟨q, _⟩ | ⟨q, _⟩ | ⟨q, w1, w8, wl, wn⟩ | ⟨q, _⟩
      · omega
      · omega
      · refine ⟨h1, h2, ?_, stand_one h2 ⟨hkd, by rw [← h3]; rfl, wn⟩⟩
        rw [h3]
        have hkey : isKeyB (us.getD i noTok).text = false := by
          cases hb : isKeyB (us.getD i noTok).text
          · rfl
          · exact absurd ⟨h2, hb⟩ hk
        unfold isNameB
        rw [hkey]
        have : isWordB (us.getD i noTok).text = true := decide_eq_true ⟨w1, w8, wl⟩
        rw [this]
        rfl
      · omega
    · cases h

theorem vt_number {t : Tok} (h : VT t) (hk : t.kind = 4) : 0 ≤ t.n ∧ t.n ≤ 65535 ∧ t.text = decS t.n := by
  rcases h with ⟨q, _⟩ | ⟨q, _⟩ | ⟨q, _⟩ | ⟨q, h1, hd, hr, hn⟩
  · omega
  · omega
  · omega
  · rcases hr with ⟨_, h2, h3, h4⟩ | ⟨q, _⟩
    · have ht : t.text = decS t.n := by
        unfold decS
        rw [← h4]
      refine ⟨?_, hn, ht⟩
      by_cases hneg : 0 ≤ t.n
      · exact hneg
      · exfalso
        have hb := hd 0 (by omega)
        have e : Lib.itoa t.n = 45 :: Lib.decDigits t.n.natAbs := by unfold Lib.itoa; rw [if_pos (by omega)]
        rw [ht, decS, e, bAt_in (by simp [ByteArray.size])] at hb
        have h48 : 48 ≤ (45 : UInt8).toNat := hb.1
        exact absurd h48 (by decide)
    · cases q

theorem showP_leaf (m : List Nod) (t : Nod) (F : Nat) (hF : m.length + 1 ≤ F) : ∃ f, F = f + 1 ∧ (m ++ [t]).getD m.length noNod = t := by
  obtain ⟨f, rfl⟩ : ∃ f, F = f + 1 := ⟨F - 1, by omega⟩
  exact ⟨f, rfl, gd_end⟩

theorem args_grow {us : List Tok} {E : Int} {rec : Nat → List Nod → Except Flt (Nat × List Nod)} (hfair : ∀ i l j m, rec i l = .ok (j, m) → l.length ≤ m.length) :
    ∀ (cs : List UInt8) (i : Nat) (n : Nod) (l : List Nod) (ks : List Int) (j : Nat) (n2 : Nod) (l2 : List Nod) (ks2 : List Int), OnlyTwo cs → argsE us E rec cs i n l ks = .ok (j, n2, l2, ks2) → l.length ≤ l2.length
  | [], i, n, l, ks, j, n2, l2, ks2, ho, h => by
    rw [argsE] at h
    simp only [Except.ok.injEq, Prod.mk.injEq] at h
    obtain ⟨_, _, rfl, _⟩ := h
    exact Nat.le_refl _
  | c :: cs, i, n, l, ks, j, n2, l2, ks2, ho, h => by
    have ho' : OnlyTwo cs := fun x hx => ho x (List.mem_cons_of_mem _ hx)
    rcases ho c List.mem_cons_self with rfl | rfl
    · obtain ⟨s, _, hr⟩ := args_n_inv h
      exact args_grow hfair cs _ _ l ks j n2 l2 ks2 ho' hr
    · obtain ⟨j1, m1, hr1, hr⟩ := args_e_inv h
      exact Nat.le_trans (hfair _ _ _ _ hr1) (args_grow hfair cs _ _ m1 _ j n2 l2 ks2 ho' hr)

/-- What stands behind a key, read. -/
theorem args_conv {us : List Tok} {E : Int} {rec : Nat → List Nod → Except Flt (Nat × List Nod)} (hv : ∀ q, q < us.length → VT (us.getD q noTok)) (hc : Conv us E rec) (hfair : ∀ i l j m, rec i l = .ok (j, m) → l.length ≤ m.length) :
    ∀ (cs : List UInt8) (i : Nat) (n : Nod) (l : List Nod) (st : List Nat) (ks : List Int) (j : Nat) (n2 : Nod) (l2 : List Nod) (ks2 : List Int), OnlyTwo cs → i ≤ us.length → Right l st → st.length = l.length → l2.length ≤ 1000 → argsE us E rec cs i n l ks = .ok (j, n2, l2, ks2) →
      ∃ (ns : List ByteArray) (kk : List Int) (st' : List Nat), n2 = fillE cs ns n ∧ ks2 = ks ++ kk ∧ kk.length = (cs.filter (· ≠ 110)).length ∧ namesE cs ns ∧ Right l2 (st ++ st') ∧ (st ++ st').length = l2.length ∧ (∃ new, l2 = l ++ new) ∧ chainE (st ++ st') l2.length cs kk l.length l2.length ∧
        ∀ F, l2.length ≤ F → Stand us i (argP (showP decS l2 F) cs ns kk) ∧ i + (argP (showP decS l2 F) cs ns kk).length = j
  | [], i, n, l, st, ks, j, n2, l2, ks2, ho, hi, hR, hs, hl, h => by
    rw [argsE] at h
    simp only [Except.ok.injEq, Prod.mk.injEq] at h
    obtain ⟨rfl, rfl, rfl, rfl⟩ := h
    refine ⟨[], [], [], rfl, by simp, rfl, trivial, by simpa using hR, by simpa using hs, ⟨[], by simp⟩, rfl, fun F _ => ⟨⟨?_, fun q hq => by simp [argP] at hq⟩, rfl⟩⟩
    simpa [argP] using hi
  | c :: cs, i, n, l, st, ks, j, n2, l2, ks2, ho, hi, hR, hs, hl, h => by
    have ho' : OnlyTwo cs := fun x hx => ho x (List.mem_cons_of_mem _ hx)
    rcases ho c List.mem_cons_self with rfl | rfl
    · obtain ⟨s, hn, hr⟩ := args_n_inv h
      obtain ⟨_, h2, h3, h4⟩ := name_inv hv hn
      obtain ⟨ns, kk, st', g1, g2, g3, g4, g5, g6, g7, g8, g9⟩ := args_conv hv hc hfair cs _ _ l st ks j n2 l2 ks2 ho' h2 hR hs hl hr
      refine ⟨s :: ns, kk, st', ?_, g2, by simpa using g3, ?_, g5, g6, g7, ?_, fun F hF => ?_⟩
      · rw [g1, fillE, if_pos rfl]
        rfl
      · rw [namesE, if_pos rfl]
        exact ⟨h3, g4⟩
      · rw [chainE, if_pos rfl]
        exact g8
      · obtain ⟨q1, q2⟩ := g9 F hF
        rw [argP, if_pos rfl]
        have e : pWord ((s :: ns).headD ByteArray.empty) :: argP (showP decS l2 F) cs (s :: ns).tail kk = [pWord s] ++ argP (showP decS l2 F) cs ns kk := rfl
        rw [e]
        exact ⟨stand_app h4 q1, by rw [List.length_append]; simp; omega⟩
    · obtain ⟨j1, m1, hr1, hr⟩ := args_e_inv h
      have hm1 := args_grow hfair cs _ _ m1 _ j n2 l2 ks2 ho' hr
      obtain ⟨st1, r1, r2, ⟨new1, r3⟩, r4, r5, r6⟩ := hc i l st j1 m1 hR hs (by omega) hr1
      have hj1 : j1 ≤ us.length := by
        obtain ⟨⟨q1, _⟩, q2⟩ := r6 m1.length (Nat.le_refl _)
        omega
      obtain ⟨ns, kk, st2, g1, g2, g3, g4, g5, g6, ⟨new2, g7⟩, g8, g9⟩ := args_conv hv hc hfair cs j1 n m1 (st ++ st1) (ks ++ [(m1.length : Int) - 1]) j n2 l2 ks2 ho' hj1 r1 r2 hl hr
      rw [List.append_assoc] at g5 g6 g8
      have hk1 : (m1.length : Int) - 1 = ((m1.length - 1 : Nat) : Int) := by omega
      have e1 : (st ++ (st1 ++ st2)).getD (m1.length - 1) 0 = l.length := by
        rw [← List.append_assoc, gd_left (by omega)]
        exact r5
      refine ⟨ns, ((m1.length - 1 : Nat) : Int) :: kk, st1 ++ st2, ?_, ?_, by simpa using g3, ?_, g5, g6, ⟨new1 ++ new2, by rw [g7, r3, List.append_assoc]⟩, ?_, fun F hF => ?_⟩
      · rw [g1, fillE, if_neg (by decide)]
      · rw [g2, hk1, List.append_assoc]
        rfl
      · rw [namesE, if_neg (by decide)]
        exact g4
      · rw [chainE, if_neg (by decide)]
        refine ⟨m1.length - 1, rfl, by omega, e1, ?_⟩
        rw [show m1.length - 1 + 1 = m1.length by omega]
        exact g8
      · obtain ⟨q1, q2⟩ := g9 F hF
        obtain ⟨p1, p2⟩ := r6 F (by omega)
        have e2 : showP decS l2 F (m1.length - 1) = showP decS m1 F (m1.length - 1) := by rw [g7]; exact showP_app r1 new2 decS F _ (by omega)
        rw [argP, if_neg (by decide)]
        have e3 : (((m1.length - 1 : Nat) : Int) :: kk).headD 0 = ((m1.length - 1 : Nat) : Int) := rfl
        rw [e3, Int.toNat_natCast, e2]
        rw [← p2] at q1
        exact ⟨stand_app p1 q1, by rw [List.length_append]; show i + (_ + (argP (showP decS l2 F) cs ns kk).length) = j; omega⟩

theorem len1 {kk : List Int} (h : kk.length = 1) : ∃ a, kk = [a] := by
  match kk, h with
  | [a], _ => exact ⟨a, rfl⟩
theorem len2 {kk : List Int} (h : kk.length = 2) : ∃ a b, kk = [a, b] := by
  match kk, h with
  | [a, b], _ => exact ⟨a, b, rfl⟩
theorem len3 {kk : List Int} (h : kk.length = 3) : ∃ a b c, kk = [a, b, c] := by
  match kk, h with
  | [a, b, c], _ => exact ⟨a, b, c, rfl⟩

/-- What a node that was read is like. -/
def NodeLike (K op : Int) (ns : List ByteArray) (kk : List Int) (r : Nat → List Tok) (st : List Nat) (s L : Nat) (t : Nod) : Prop :=
  t.kind = K ∧ t.n = op ∧ FieldsOk t ∧ argP r (goesOn K) [t.name, t.other] [t.a, t.b, t.c] = argP r (goesOn K) ns kk ∧ s ≤ L ∧ ¬ arN K = 0 ∧
  (arN K = 1 → ∃ a : Nat, t.a = a ∧ a + 1 = L ∧ st.getD a 0 = s) ∧
  (arN K = 2 → ∃ a b : Nat, t.a = a ∧ t.b = b ∧ b + 1 = L ∧ a + 1 = st.getD b 0 ∧ st.getD a 0 = s) ∧
  (arN K = 3 → ∃ a b c : Nat, t.a = a ∧ t.b = b ∧ t.c = c ∧ c + 1 = L ∧ b + 1 = st.getD c 0 ∧ a + 1 = st.getD b 0 ∧ st.getD a 0 = s)

theorem size0 : ByteArray.empty.size = 0 := rfl

theorem fields_of (K a b c n : Int) (s o : ByteArray) (h1 : 1 ≤ K ∧ K ≤ 19) (hk : KidsNull (arN K) a b c) (hn : NamesFit (nmN K) s o) (hm : NumFits K n) : FieldsOk ⟨K, a, b, c, n, s, o⟩ := ⟨h1, hk, hn, hm⟩

set_option maxHeartbeats 2000000 in
set_option maxRecDepth 20000 in
theorem node_conv {K op : Int} (hf : IsForm K op) (h8 : K ≠ 8 → op = 0) {ns : List ByteArray} {kk : List Int} (hlen : kk.length = ((goesOn K).filter (· ≠ 110)).length) (hns : namesE (goesOn K) ns) (r : Nat → List Tok) {st : List Nat} {s L : Nat} (hch : chainE st L (goesOn K) kk s L) (hst : ∀ k, k < L → st.getD k 0 ≤ k) :
    NodeLike K op ns kk r st s L (withKids (fillE (goesOn K) ns ⟨K, 0, 0, 0, op, ByteArray.empty, ByteArray.empty⟩) kk) := by
  obtain ⟨f1, f2, f3, f4⟩ := hf
  have hK : K = 3 ∨ K = 5 ∨ K = 6 ∨ K = 7 ∨ K = 14 ∨ K = 19 ∨ (K = 10 ∨ K = 11 ∨ K = 15 ∨ K = 16 ∨ K = 18) ∨ (K = 4 ∨ K = 8 ∨ K = 9 ∨ K = 13 ∨ K = 17) := by omega
  rcases hK with rfl | rfl | rfl | rfl | rfl | rfl | (rfl | rfl | rfl | rfl | rfl) | (rfl | rfl | rfl | rfl | rfl)
  · obtain ⟨a, rfl⟩ := len1 (by simpa [goesOn] using hlen)
    obtain rfl := h8 (by decide)
    have hg : goesOn 3 = [110, 101] := by decide
    rw [hg] at hns hch
    simp only [namesE, chainE, if_true, if_false, show ¬ (101 : UInt8) = 110 by decide, List.headD_cons, List.tail_cons] at hns hch
    obtain ⟨k, rfl, c1, c2, c3⟩ := hch
    have z := hst k (by omega)
    obtain ⟨w1, w2⟩ := name_full hns.1
    have ht : withKids (fillE (goesOn 3) ns ⟨3, 0, 0, 0, 0, ByteArray.empty, ByteArray.empty⟩) [(k : Int)] = ⟨3, (k : Int), 0, 0, 0, ns.headD ByteArray.empty, ByteArray.empty⟩ := rfl
    rw [ht]
    refine ⟨rfl, rfl, fields_of 3 _ _ _ _ _ _ (by decide) ⟨fun h => absurd h (by decide), fun _ => rfl, fun _ => rfl⟩ ⟨fun h => absurd h (by decide), fun _ => hns.1, fun _ => rfl, fun h => absurd h (by decide)⟩ ⟨fun h => absurd h (by decide), fun h => absurd h (by decide), fun _ _ => rfl⟩, by rw [hg]; rfl, by omega, by decide, fun _ => ⟨k, rfl, by omega, c2⟩, fun h => absurd h (by decide), fun h => absurd h (by decide)⟩
  · obtain ⟨a, b, rfl⟩ := len2 (by simpa [goesOn] using hlen)
    obtain rfl := h8 (by decide)
    have hg : goesOn 5 = [110, 101, 101] := by decide
    rw [hg] at hns hch
    simp only [namesE, chainE, if_true, if_false, show ¬ (101 : UInt8) = 110 by decide, List.headD_cons, List.tail_cons] at hns hch
    obtain ⟨k, rfl, c1, c2, k2, rfl, c3, c4, c5⟩ := hch
    have z := hst k (by omega)
    have z2 := hst k2 (by omega)
    obtain ⟨w1, w2⟩ := name_full hns.1
    have ht : withKids (fillE (goesOn 5) ns ⟨5, 0, 0, 0, 0, ByteArray.empty, ByteArray.empty⟩) [(k : Int), (k2 : Int)] = ⟨5, (k : Int), (k2 : Int), 0, 0, ns.headD ByteArray.empty, ByteArray.empty⟩ := rfl
    rw [ht]
    refine ⟨rfl, rfl, fields_of 5 _ _ _ _ _ _ (by decide) ⟨fun h => absurd h (by decide), fun h => absurd h (by decide), fun _ => rfl⟩ ⟨fun h => absurd h (by decide), fun _ => hns.1, fun _ => rfl, fun h => absurd h (by decide)⟩ ⟨fun h => absurd h (by decide), fun h => absurd h (by decide), fun _ _ => rfl⟩, by rw [hg]; rfl, by omega, by decide, fun h => absurd h (by decide), fun _ => ⟨k, k2, rfl, rfl, by omega, by omega, c2⟩, fun h => absurd h (by decide)⟩
  · obtain ⟨a, b, rfl⟩ := len2 (by simpa [goesOn] using hlen)
    obtain rfl := h8 (by decide)
    have hg : goesOn 6 = [110, 110, 101, 101] := by decide
    rw [hg] at hns hch
    simp only [namesE, chainE, if_true, if_false, show ¬ (101 : UInt8) = 110 by decide, List.headD_cons, List.tail_cons] at hns hch
    obtain ⟨k, rfl, c1, c2, k2, rfl, c3, c4, c5⟩ := hch
    have z := hst k (by omega)
    have z2 := hst k2 (by omega)
    obtain ⟨w1, w2⟩ := name_full hns.1
    have ht : withKids (fillE (goesOn 6) ns ⟨6, 0, 0, 0, 0, ByteArray.empty, ByteArray.empty⟩) [(k : Int), (k2 : Int)] = ⟨6, (k : Int), (k2 : Int), 0, 0, ns.headD ByteArray.empty, ns.tail.headD ByteArray.empty⟩ := by rw [hg]; simp only [fillE, if_true, if_false, size0, if_neg w1, show ¬ (101 : UInt8) = 110 by decide]; rfl
    rw [ht]
    refine ⟨rfl, rfl, fields_of 6 _ _ _ _ _ _ (by decide) ⟨fun h => absurd h (by decide), fun h => absurd h (by decide), fun _ => rfl⟩ ⟨fun h => absurd h (by decide), fun _ => hns.1, fun h => absurd h (by decide), fun _ => hns.2.1⟩ ⟨fun h => absurd h (by decide), fun h => absurd h (by decide), fun _ _ => rfl⟩, by rw [hg]; rfl, by omega, by decide, fun h => absurd h (by decide), fun _ => ⟨k, k2, rfl, rfl, by omega, by omega, c2⟩, fun h => absurd h (by decide)⟩
  · obtain ⟨a, b, c, rfl⟩ := len3 (by simpa [goesOn] using hlen)
    obtain rfl := h8 (by decide)
    have hg : goesOn 7 = [101, 101, 101] := by decide
    rw [hg] at hns hch
    simp only [namesE, chainE, if_false, show ¬ (101 : UInt8) = 110 by decide, List.headD_cons, List.tail_cons] at hns hch
    obtain ⟨k, rfl, c1, c2, k2, rfl, c3, c4, k3, rfl, c5, c6, c7⟩ := hch
    have z := hst k (by omega)
    have z2 := hst k2 (by omega)
    have z3 := hst k3 (by omega)
    have ht : withKids (fillE (goesOn 7) ns ⟨7, 0, 0, 0, 0, ByteArray.empty, ByteArray.empty⟩) [(k : Int), (k2 : Int), (k3 : Int)] = ⟨7, (k : Int), (k2 : Int), (k3 : Int), 0, ByteArray.empty, ByteArray.empty⟩ := rfl
    rw [ht]
    refine ⟨rfl, rfl, fields_of 7 _ _ _ _ _ _ (by decide) ⟨fun h => absurd h (by decide), fun h => absurd h (by decide), fun h => absurd h (by decide)⟩ ⟨fun _ => rfl, fun h => absurd h (by decide), fun _ => rfl, fun h => absurd h (by decide)⟩ ⟨fun h => absurd h (by decide), fun h => absurd h (by decide), fun _ _ => rfl⟩, by rw [hg]; rfl, by omega, by decide, fun h => absurd h (by decide), fun h => absurd h (by decide), fun _ => ⟨k, k2, k3, rfl, rfl, rfl, by omega, by omega, by omega, c2⟩⟩
  · obtain ⟨a, b, c, rfl⟩ := len3 (by simpa [goesOn] using hlen)
    obtain rfl := h8 (by decide)
    have hg : goesOn 14 = [101, 101, 110, 110, 101] := by decide
    rw [hg] at hns hch
    simp only [namesE, chainE, if_true, if_false, show ¬ (101 : UInt8) = 110 by decide, List.headD_cons, List.tail_cons] at hns hch
    obtain ⟨k, rfl, c1, c2, k2, rfl, c3, c4, k3, rfl, c5, c6, c7⟩ := hch
    have z := hst k (by omega)
    have z2 := hst k2 (by omega)
    have z3 := hst k3 (by omega)
    obtain ⟨w1, w2⟩ := name_full hns.1
    have ht : withKids (fillE (goesOn 14) ns ⟨14, 0, 0, 0, 0, ByteArray.empty, ByteArray.empty⟩) [(k : Int), (k2 : Int), (k3 : Int)] = ⟨14, (k : Int), (k2 : Int), (k3 : Int), 0, ns.headD ByteArray.empty, ns.tail.headD ByteArray.empty⟩ := by rw [hg]; simp only [fillE, if_true, if_false, size0, if_neg w1, show ¬ (101 : UInt8) = 110 by decide]; rfl
    rw [ht]
    refine ⟨rfl, rfl, fields_of 14 _ _ _ _ _ _ (by decide) ⟨fun h => absurd h (by decide), fun h => absurd h (by decide), fun h => absurd h (by decide)⟩ ⟨fun h => absurd h (by decide), fun _ => hns.1, fun h => absurd h (by decide), fun _ => hns.2.1⟩ ⟨fun h => absurd h (by decide), fun h => absurd h (by decide), fun _ _ => rfl⟩, by rw [hg]; rfl, by omega, by decide, fun h => absurd h (by decide), fun h => absurd h (by decide), fun _ => ⟨k, k2, k3, rfl, rfl, rfl, by omega, by omega, by omega, c2⟩⟩
  · obtain ⟨a, b, rfl⟩ := len2 (by simpa [goesOn] using hlen)
    obtain rfl := h8 (by decide)
    have hg : goesOn 19 = [101, 110, 101] := by decide
    rw [hg] at hns hch
    simp only [namesE, chainE, if_true, if_false, show ¬ (101 : UInt8) = 110 by decide, List.headD_cons, List.tail_cons] at hns hch
    obtain ⟨k, rfl, c1, c2, k2, rfl, c3, c4, c5⟩ := hch
    have z := hst k (by omega)
    have z2 := hst k2 (by omega)
    obtain ⟨w1, w2⟩ := name_full hns.1
    have ht : withKids (fillE (goesOn 19) ns ⟨19, 0, 0, 0, 0, ByteArray.empty, ByteArray.empty⟩) [(k : Int), (k2 : Int)] = ⟨19, (k : Int), (k2 : Int), 0, 0, ns.headD ByteArray.empty, ByteArray.empty⟩ := rfl
    rw [ht]
    refine ⟨rfl, rfl, fields_of 19 _ _ _ _ _ _ (by decide) ⟨fun h => absurd h (by decide), fun h => absurd h (by decide), fun _ => rfl⟩ ⟨fun h => absurd h (by decide), fun _ => hns.1, fun _ => rfl, fun h => absurd h (by decide)⟩ ⟨fun h => absurd h (by decide), fun h => absurd h (by decide), fun _ _ => rfl⟩, by rw [hg]; rfl, by omega, by decide, fun h => absurd h (by decide), fun _ => ⟨k, k2, rfl, rfl, by omega, by omega, c2⟩, fun h => absurd h (by decide)⟩
  · obtain ⟨a, rfl⟩ := len1 (by simpa [goesOn] using hlen)
    obtain rfl := h8 (by decide)
    have hg : goesOn 10 = [101] := by decide
    rw [hg] at hns hch
    simp only [namesE, chainE, if_false, show ¬ (101 : UInt8) = 110 by decide, List.headD_cons] at hns hch
    obtain ⟨k, rfl, c1, c2, c3⟩ := hch
    have z := hst k (by omega)
    have ht : withKids (fillE (goesOn 10) ns ⟨10, 0, 0, 0, 0, ByteArray.empty, ByteArray.empty⟩) [(k : Int)] = ⟨10, (k : Int), 0, 0, 0, ByteArray.empty, ByteArray.empty⟩ := rfl
    rw [ht]
    refine ⟨rfl, rfl, fields_of 10 _ _ _ _ _ _ (by decide) ⟨fun h => absurd h (by decide), fun _ => rfl, fun _ => rfl⟩ ⟨fun _ => rfl, fun h => absurd h (by decide), fun _ => rfl, fun h => absurd h (by decide)⟩ ⟨fun h => absurd h (by decide), fun h => absurd h (by decide), fun _ _ => rfl⟩, by rw [hg]; rfl, by omega, by decide, fun _ => ⟨k, rfl, by omega, c2⟩, fun h => absurd h (by decide), fun h => absurd h (by decide)⟩
  · obtain ⟨a, rfl⟩ := len1 (by simpa [goesOn] using hlen)
    obtain rfl := h8 (by decide)
    have hg : goesOn 11 = [101] := by decide
    rw [hg] at hns hch
    simp only [namesE, chainE, if_false, show ¬ (101 : UInt8) = 110 by decide, List.headD_cons] at hns hch
    obtain ⟨k, rfl, c1, c2, c3⟩ := hch
    have z := hst k (by omega)
    have ht : withKids (fillE (goesOn 11) ns ⟨11, 0, 0, 0, 0, ByteArray.empty, ByteArray.empty⟩) [(k : Int)] = ⟨11, (k : Int), 0, 0, 0, ByteArray.empty, ByteArray.empty⟩ := rfl
    rw [ht]
    refine ⟨rfl, rfl, fields_of 11 _ _ _ _ _ _ (by decide) ⟨fun h => absurd h (by decide), fun _ => rfl, fun _ => rfl⟩ ⟨fun _ => rfl, fun h => absurd h (by decide), fun _ => rfl, fun h => absurd h (by decide)⟩ ⟨fun h => absurd h (by decide), fun h => absurd h (by decide), fun _ _ => rfl⟩, by rw [hg]; rfl, by omega, by decide, fun _ => ⟨k, rfl, by omega, c2⟩, fun h => absurd h (by decide), fun h => absurd h (by decide)⟩
  · obtain ⟨a, rfl⟩ := len1 (by simpa [goesOn] using hlen)
    obtain rfl := h8 (by decide)
    have hg : goesOn 15 = [101] := by decide
    rw [hg] at hns hch
    simp only [namesE, chainE, if_false, show ¬ (101 : UInt8) = 110 by decide, List.headD_cons] at hns hch
    obtain ⟨k, rfl, c1, c2, c3⟩ := hch
    have z := hst k (by omega)
    have ht : withKids (fillE (goesOn 15) ns ⟨15, 0, 0, 0, 0, ByteArray.empty, ByteArray.empty⟩) [(k : Int)] = ⟨15, (k : Int), 0, 0, 0, ByteArray.empty, ByteArray.empty⟩ := rfl
    rw [ht]
    refine ⟨rfl, rfl, fields_of 15 _ _ _ _ _ _ (by decide) ⟨fun h => absurd h (by decide), fun _ => rfl, fun _ => rfl⟩ ⟨fun _ => rfl, fun h => absurd h (by decide), fun _ => rfl, fun h => absurd h (by decide)⟩ ⟨fun h => absurd h (by decide), fun h => absurd h (by decide), fun _ _ => rfl⟩, by rw [hg]; rfl, by omega, by decide, fun _ => ⟨k, rfl, by omega, c2⟩, fun h => absurd h (by decide), fun h => absurd h (by decide)⟩
  · obtain ⟨a, rfl⟩ := len1 (by simpa [goesOn] using hlen)
    obtain rfl := h8 (by decide)
    have hg : goesOn 16 = [101] := by decide
    rw [hg] at hns hch
    simp only [namesE, chainE, if_false, show ¬ (101 : UInt8) = 110 by decide, List.headD_cons] at hns hch
    obtain ⟨k, rfl, c1, c2, c3⟩ := hch
    have z := hst k (by omega)
    have ht : withKids (fillE (goesOn 16) ns ⟨16, 0, 0, 0, 0, ByteArray.empty, ByteArray.empty⟩) [(k : Int)] = ⟨16, (k : Int), 0, 0, 0, ByteArray.empty, ByteArray.empty⟩ := rfl
    rw [ht]
    refine ⟨rfl, rfl, fields_of 16 _ _ _ _ _ _ (by decide) ⟨fun h => absurd h (by decide), fun _ => rfl, fun _ => rfl⟩ ⟨fun _ => rfl, fun h => absurd h (by decide), fun _ => rfl, fun h => absurd h (by decide)⟩ ⟨fun h => absurd h (by decide), fun h => absurd h (by decide), fun _ _ => rfl⟩, by rw [hg]; rfl, by omega, by decide, fun _ => ⟨k, rfl, by omega, c2⟩, fun h => absurd h (by decide), fun h => absurd h (by decide)⟩
  · obtain ⟨a, rfl⟩ := len1 (by simpa [goesOn] using hlen)
    obtain rfl := h8 (by decide)
    have hg : goesOn 18 = [101] := by decide
    rw [hg] at hns hch
    simp only [namesE, chainE, if_false, show ¬ (101 : UInt8) = 110 by decide, List.headD_cons] at hns hch
    obtain ⟨k, rfl, c1, c2, c3⟩ := hch
    have z := hst k (by omega)
    have ht : withKids (fillE (goesOn 18) ns ⟨18, 0, 0, 0, 0, ByteArray.empty, ByteArray.empty⟩) [(k : Int)] = ⟨18, (k : Int), 0, 0, 0, ByteArray.empty, ByteArray.empty⟩ := rfl
    rw [ht]
    refine ⟨rfl, rfl, fields_of 18 _ _ _ _ _ _ (by decide) ⟨fun h => absurd h (by decide), fun _ => rfl, fun _ => rfl⟩ ⟨fun _ => rfl, fun h => absurd h (by decide), fun _ => rfl, fun h => absurd h (by decide)⟩ ⟨fun h => absurd h (by decide), fun h => absurd h (by decide), fun _ _ => rfl⟩, by rw [hg]; rfl, by omega, by decide, fun _ => ⟨k, rfl, by omega, c2⟩, fun h => absurd h (by decide), fun h => absurd h (by decide)⟩
  · obtain ⟨a, b, rfl⟩ := len2 (by simpa [goesOn] using hlen)
    obtain rfl := h8 (by decide)
    have hg : goesOn 4 = [101, 101] := by decide
    rw [hg] at hns hch
    simp only [namesE, chainE, if_false, show ¬ (101 : UInt8) = 110 by decide, List.headD_cons, List.tail_cons] at hns hch
    obtain ⟨k, rfl, c1, c2, k2, rfl, c3, c4, c5⟩ := hch
    have z := hst k (by omega)
    have z2 := hst k2 (by omega)
    have ht : withKids (fillE (goesOn 4) ns ⟨4, 0, 0, 0, 0, ByteArray.empty, ByteArray.empty⟩) [(k : Int), (k2 : Int)] = ⟨4, (k : Int), (k2 : Int), 0, 0, ByteArray.empty, ByteArray.empty⟩ := rfl
    rw [ht]
    refine ⟨rfl, rfl, fields_of 4 _ _ _ _ _ _ (by decide) ⟨fun h => absurd h (by decide), fun h => absurd h (by decide), fun _ => rfl⟩ ⟨fun _ => rfl, fun h => absurd h (by decide), fun _ => rfl, fun h => absurd h (by decide)⟩ ⟨fun h => absurd h (by decide), fun h => absurd h (by decide), fun _ _ => rfl⟩, by rw [hg]; rfl, by omega, by decide, fun h => absurd h (by decide), fun _ => ⟨k, k2, rfl, rfl, by omega, by omega, c2⟩, fun h => absurd h (by decide)⟩
  · obtain ⟨a, b, rfl⟩ := len2 (by simpa [goesOn] using hlen)
    have hg : goesOn 8 = [101, 101] := by decide
    rw [hg] at hns hch
    simp only [namesE, chainE, if_false, show ¬ (101 : UInt8) = 110 by decide, List.headD_cons, List.tail_cons] at hns hch
    obtain ⟨k, rfl, c1, c2, k2, rfl, c3, c4, c5⟩ := hch
    have z := hst k (by omega)
    have z2 := hst k2 (by omega)
    have ht : withKids (fillE (goesOn 8) ns ⟨8, 0, 0, 0, op, ByteArray.empty, ByteArray.empty⟩) [(k : Int), (k2 : Int)] = ⟨8, (k : Int), (k2 : Int), 0, op, ByteArray.empty, ByteArray.empty⟩ := rfl
    rw [ht]
    refine ⟨rfl, rfl, fields_of 8 _ _ _ _ _ _ (by decide) ⟨fun h => absurd h (by decide), fun h => absurd h (by decide), fun _ => rfl⟩ ⟨fun _ => rfl, fun h => absurd h (by decide), fun _ => rfl, fun h => absurd h (by decide)⟩ ⟨fun h => absurd h (by decide), fun _ => f4 rfl, fun _ h => absurd h (by decide)⟩, by rw [hg]; rfl, by omega, by decide, fun h => absurd h (by decide), fun _ => ⟨k, k2, rfl, rfl, by omega, by omega, c2⟩, fun h => absurd h (by decide)⟩
  · obtain ⟨a, b, rfl⟩ := len2 (by simpa [goesOn] using hlen)
    obtain rfl := h8 (by decide)
    have hg : goesOn 9 = [101, 101] := by decide
    rw [hg] at hns hch
    simp only [namesE, chainE, if_false, show ¬ (101 : UInt8) = 110 by decide, List.headD_cons, List.tail_cons] at hns hch
    obtain ⟨k, rfl, c1, c2, k2, rfl, c3, c4, c5⟩ := hch
    have z := hst k (by omega)
    have z2 := hst k2 (by omega)
    have ht : withKids (fillE (goesOn 9) ns ⟨9, 0, 0, 0, 0, ByteArray.empty, ByteArray.empty⟩) [(k : Int), (k2 : Int)] = ⟨9, (k : Int), (k2 : Int), 0, 0, ByteArray.empty, ByteArray.empty⟩ := rfl
    rw [ht]
    refine ⟨rfl, rfl, fields_of 9 _ _ _ _ _ _ (by decide) ⟨fun h => absurd h (by decide), fun h => absurd h (by decide), fun _ => rfl⟩ ⟨fun _ => rfl, fun h => absurd h (by decide), fun _ => rfl, fun h => absurd h (by decide)⟩ ⟨fun h => absurd h (by decide), fun h => absurd h (by decide), fun _ _ => rfl⟩, by rw [hg]; rfl, by omega, by decide, fun h => absurd h (by decide), fun _ => ⟨k, k2, rfl, rfl, by omega, by omega, c2⟩, fun h => absurd h (by decide)⟩
  · obtain ⟨a, b, rfl⟩ := len2 (by simpa [goesOn] using hlen)
    obtain rfl := h8 (by decide)
    have hg : goesOn 13 = [101, 101] := by decide
    rw [hg] at hns hch
    simp only [namesE, chainE, if_false, show ¬ (101 : UInt8) = 110 by decide, List.headD_cons, List.tail_cons] at hns hch
    obtain ⟨k, rfl, c1, c2, k2, rfl, c3, c4, c5⟩ := hch
    have z := hst k (by omega)
    have z2 := hst k2 (by omega)
    have ht : withKids (fillE (goesOn 13) ns ⟨13, 0, 0, 0, 0, ByteArray.empty, ByteArray.empty⟩) [(k : Int), (k2 : Int)] = ⟨13, (k : Int), (k2 : Int), 0, 0, ByteArray.empty, ByteArray.empty⟩ := rfl
    rw [ht]
    refine ⟨rfl, rfl, fields_of 13 _ _ _ _ _ _ (by decide) ⟨fun h => absurd h (by decide), fun h => absurd h (by decide), fun _ => rfl⟩ ⟨fun _ => rfl, fun h => absurd h (by decide), fun _ => rfl, fun h => absurd h (by decide)⟩ ⟨fun h => absurd h (by decide), fun h => absurd h (by decide), fun _ _ => rfl⟩, by rw [hg]; rfl, by omega, by decide, fun h => absurd h (by decide), fun _ => ⟨k, k2, rfl, rfl, by omega, by omega, c2⟩, fun h => absurd h (by decide)⟩
  · obtain ⟨a, b, rfl⟩ := len2 (by simpa [goesOn] using hlen)
    obtain rfl := h8 (by decide)
    have hg : goesOn 17 = [101, 101] := by decide
    rw [hg] at hns hch
    simp only [namesE, chainE, if_false, show ¬ (101 : UInt8) = 110 by decide, List.headD_cons, List.tail_cons] at hns hch
    obtain ⟨k, rfl, c1, c2, k2, rfl, c3, c4, c5⟩ := hch
    have z := hst k (by omega)
    have z2 := hst k2 (by omega)
    have ht : withKids (fillE (goesOn 17) ns ⟨17, 0, 0, 0, 0, ByteArray.empty, ByteArray.empty⟩) [(k : Int), (k2 : Int)] = ⟨17, (k : Int), (k2 : Int), 0, 0, ByteArray.empty, ByteArray.empty⟩ := rfl
    rw [ht]
    refine ⟨rfl, rfl, fields_of 17 _ _ _ _ _ _ (by decide) ⟨fun h => absurd h (by decide), fun h => absurd h (by decide), fun _ => rfl⟩ ⟨fun _ => rfl, fun h => absurd h (by decide), fun _ => rfl, fun h => absurd h (by decide)⟩ ⟨fun h => absurd h (by decide), fun h => absurd h (by decide), fun _ _ => rfl⟩, by rw [hg]; rfl, by omega, by decide, fun h => absurd h (by decide), fun _ => ⟨k, k2, rfl, rfl, by omega, by omega, c2⟩, fun h => absurd h (by decide)⟩

theorem exprE_grow {us : List Tok} {E : Int} : ∀ (f i : Nat) (l : List Nod) (j : Nat) (m : List Nod), exprE us E f i l = .ok (j, m) → l.length ≤ m.length
  | 0, i, l, j, m, h => by
    rw [exprE] at h
    cases h
  | f + 1, i, l, j, m, h => by
    rw [exprE] at h
    split at h
    · split at h
      · simp only [Except.ok.injEq, Prod.mk.injEq] at h
        obtain ⟨_, rfl⟩ := h
        simp
      · split at h
        · split at h
          · simp only [Except.ok.injEq, Prod.mk.injEq] at h
            obtain ⟨_, rfl⟩ := h
            simp
          · split at h
            · simp only [Except.ok.injEq, Prod.mk.injEq] at h
              obtain ⟨_, rfl⟩ := h
              simp
            · cases h
        · split at h
          · cases h
          · split at h
            · cases h
            · rename_i j1 key hk
              split at h
              · cases h
              · rename_i hk0
                split at h
                · cases h
                · rename_i j2 n l2 ks ha
                  split at h
                  · cases h
                  · simp only [Except.ok.injEq, Prod.mk.injEq] at h
                    obtain ⟨_, rfl⟩ := h
                    rw [(form_inv hk0).2.2.1] at ha
                    have := args_grow (fun i l j m h => exprE_grow f i l j m h) _ _ _ _ _ _ _ _ _ (goes_two _) ha
                    rw [List.length_append]
                    omega
    · cases h

theorem conv_leaf {us : List Tok} {i : Nat} {l : List Nod} {st : List Nat} (hR : Right l st) (hs : st.length = l.length) (t : Nod) (p : Tok) (hl : (l ++ [t]).length ≤ 1000) (hF : FieldsOk t) (h0 : arN t.kind = 0) (hst : Stand us i [p])
    (hsh : ∀ f, showP decS (l ++ [t]) (f + 1) l.length = [p]) : ConvAt us i l st (i + 1) (l ++ [t]) := by
  have hlen : (l ++ [t]).length = l.length + 1 := by simp
  have el : (l ++ [t]).length - 1 = l.length := by omega
  have eg : ∀ x : Nat, (st ++ [x]).getD l.length 0 = x := fun x => by rw [← hs]; exact gd_end
  refine ⟨[l.length], right_snoc hR hs (by omega) t l.length hF (Nat.le_refl _) (fun _ => rfl) (fun h => by omega) (fun h => by omega) (fun h => by omega), by rw [hlen, List.length_append, hs]; rfl, ⟨[t], rfl⟩, by omega, by rw [el]; exact eg _, fun F hF' => ?_⟩
  obtain ⟨f, rfl⟩ : ∃ f, F = f + 1 := ⟨F - 1, by omega⟩
  rw [el, hsh f]
  exact ⟨hst, rfl⟩

theorem chain_lt {st : List Nat} {L : Nat} : ∀ (cs : List UInt8) (ks : List Int) (e z : Nat), chainE st L cs ks e z → ∀ j, j < (cs.filter (· ≠ 110)).length → (ks.getD j 0).toNat < L
  | [], ks, e, z, h, j, hj => by simp at hj
  | c :: cs, ks, e, z, h, j, hj => by
    rw [chainE] at h
    split at h
    · rename_i hc
      exact chain_lt cs ks e z h j (by simpa [hc] using hj)
    · rename_i hc
      obtain ⟨k, h1, h2, h3, h4⟩ := h
      match j, hj with
      | 0, _ =>
        rw [← headD_getD, h1, Int.toNat_natCast]
        exact h2
      | j + 1, hj =>
        have := chain_lt cs ks.tail (k + 1) z h4 j (by simpa [hc] using hj)
        rwa [getD_tail] at this

theorem of_open {t : Tok} (h : VT t) (h4 : ¬ t.kind = 4) (h3 : ¬ t.kind = 3) (h2 : ¬ t.kind = 2) : t.kind = 1 ∧ t.text = ⟨#[40]⟩ ∧ t.n = 0 := by
  rcases h with ⟨a, b, c⟩ | ⟨q, _⟩ | ⟨q, _⟩ | ⟨q, _⟩
  · exact ⟨a, b, c⟩
  · exact absurd q h2
  · exact absurd q h3
  · exact absurd q h4
theorem of_shut {t : Tok} (h : VT t) (h2 : t.kind = 2) : t.kind = 2 ∧ t.text = ⟨#[41]⟩ ∧ t.n = 0 := by
  rcases h with ⟨q, _⟩ | ⟨a, b, c⟩ | ⟨q, _⟩ | ⟨q, _⟩
  · omega
  · exact ⟨a, b, c⟩
  · omega
  · omega
theorem of_word {t : Tok} (h : VT t) (h3 : t.kind = 3) : t.n = 0 := by
  rcases h with ⟨q, _⟩ | ⟨q, _⟩ | ⟨_, _, _, _, q⟩ | ⟨q, _⟩
  · omega
  · omega
  · exact q
  · omega

theorem conv_form {us : List Tok} {i j : Nat} {l l2 : List Nod} {st st' : List Nat} {K op : Int} {ns : List ByteArray} {kk : List Int} {T : Nod} (hl : (l2 ++ [T]).length ≤ 1000) (hf : IsForm K op) (hL : ∀ r, NodeLike K op ns kk r (st ++ st') l.length l2.length T)
    (hR : Right l2 (st ++ st')) (hs : (st ++ st').length = l2.length) (hn : ∃ new, l2 = l ++ new) (hch : chainE (st ++ st') l2.length (goesOn K) kk l.length l2.length)
    (h1 : Stand us i [pOpen]) (h2 : Stand us (i + 1) [pWord (keyN K op)]) (h3 : ∀ F, l2.length ≤ F → Stand us (i + 2) (argP (showP decS l2 F) (goesOn K) ns kk) ∧ i + 2 + (argP (showP decS l2 F) (goesOn K) ns kk).length = j) (h4 : Stand us j [pShut]) : ConvAt us i l st (j + 1) (l2 ++ [T]) := by
  have hlen : (l2 ++ [T]).length = l2.length + 1 := by simp
  have el : (l2 ++ [T]).length - 1 = l2.length := by omega
  obtain ⟨n1, n2, n3, -, n5, n6, n7, n8, n9⟩ := hL (fun _ => [])
  obtain ⟨new, hn⟩ := hn
  refine ⟨st' ++ [l.length], ?_, ?_, ⟨new ++ [T], by rw [hn, List.append_assoc]⟩, by omega, ?_, fun F hF => ?_⟩
  · rw [← List.append_assoc]
    exact right_snoc hR hs (by omega) T l.length n3 n5 (fun h => absurd (n1 ▸ h) n6) (by rw [n1]; exact n7) (by rw [n1]; exact n8) (by rw [n1]; exact n9)
  · rw [← List.append_assoc, List.length_append, hs, hlen]
    rfl
  · rw [el, ← List.append_assoc, ← hs]
    exact gd_end
  · obtain ⟨F, rfl⟩ : ∃ f, F = f + 1 := ⟨F - 1, by omega⟩
    obtain ⟨-, -, -, n4, -⟩ := hL (showP decS (l2 ++ [T]) F)
    have hK := hf.1
    have e : argP (showP decS (l2 ++ [T]) F) (goesOn K) ns kk = argP (showP decS l2 F) (goesOn K) ns kk := argP_congr _ _ _ fun q hq => showP_app hR [T] decS F _ (chain_lt _ _ _ _ hch q hq)
    obtain ⟨p1, p2⟩ := h3 F (by omega)
    rw [el, showP, gd_end, n1, n2, if_neg (by omega), if_neg (by omega), if_neg hf.2.2.1, n4, e]
    have hA : Stand us i ([pOpen] ++ [pWord (keyN K op)]) := stand_app h1 h2
    have hB : Stand us i ([pOpen] ++ [pWord (keyN K op)] ++ argP (showP decS l2 F) (goesOn K) ns kk) := stand_app hA p1
    have hC := stand_app hB (qs := [pShut]) (by
      rw [List.length_append]
      rw [show i + (([pOpen] ++ [pWord (keyN K op)]).length + (argP (showP decS l2 F) (goesOn K) ns kk).length) = j by simp only [List.length_append, List.length_cons, List.length_nil]; omega]
      exact h4)
    refine ⟨hC, ?_⟩
    simp only [List.length_append, List.length_cons, List.length_nil]
    omega

set_option maxHeartbeats 1000000 in
/-- An expression that was read: its nodes lie as they should, and its pieces stand there. -/
theorem exprE_conv {us : List Tok} {E : Int} (hv : ∀ q, q < us.length → VT (us.getD q noTok)) : ∀ f, Conv us E (exprE us E f)
  | 0 => by
    intro i l st j m hR hs hm h
    rw [exprE] at h
    cases h
  | f + 1 => by
    intro i l st j m hR hs hm h
    have ih := exprE_conv (E := E) hv f
    rw [exprE] at h
    split at h
    · rename_i hi
      split at h
      · rename_i k4
        simp only [Except.ok.injEq, Prod.mk.injEq] at h
        obtain ⟨rfl, rfl⟩ := h
        obtain ⟨v1, v2, v3⟩ := vt_number (hv i hi) k4
        refine conv_leaf hR hs _ (pNum (decS (us.getD i noTok).n) (us.getD i noTok).n) hm (fields_of 2 _ _ _ _ _ _ (by decide) ⟨fun _ => rfl, fun _ => rfl, fun _ => rfl⟩ ⟨fun _ => rfl, fun h => absurd h (by decide), fun _ => rfl, fun h => absurd h (by decide)⟩ ⟨fun _ => ⟨v1, v2⟩, fun h => absurd h (by decide), fun h _ => absurd rfl h⟩) rfl (stand_one hi ⟨k4, v3, rfl⟩) fun f => ?_
        rw [showP, gd_end, if_neg (show ¬ (2 : Int) = 1 by decide), if_pos rfl]
      · split at h
        · rename_i k4 k3
          split at h
          · rename_i hn
            simp only [Except.ok.injEq, Prod.mk.injEq] at h
            obtain ⟨rfl, rfl⟩ := h
            refine conv_leaf hR hs _ (pWord ⟨#[110, 105, 108]⟩) hm (fields_of 12 _ _ _ _ _ _ (by decide) ⟨fun _ => rfl, fun _ => rfl, fun _ => rfl⟩ ⟨fun _ => rfl, fun h => absurd h (by decide), fun _ => rfl, fun h => absurd h (by decide)⟩ ⟨fun h => absurd h (by decide), fun h => absurd h (by decide), fun _ _ => rfl⟩) rfl (stand_one hi ⟨k3, ?_, ?_⟩) fun f => ?_
            · exact data_ext hn
            · rcases hv i hi with ⟨q, _⟩ | ⟨q, _⟩ | ⟨q, w1, w8, wl, wn⟩ | ⟨q, _⟩
              · omega
              · omega
              · exact wn
              · omega
            · rw [showP, gd_end, if_neg (show ¬ (12 : Int) = 1 by decide), if_neg (show ¬ (12 : Int) = 2 by decide), if_pos rfl]
          · split at h
            · rename_i j1 s hn
              simp only [Except.ok.injEq, Prod.mk.injEq] at h
              obtain ⟨rfl, rfl⟩ := h
              obtain ⟨rfl, h2, h3, h4⟩ := name_inv hv hn
              refine conv_leaf hR hs _ (pWord s) hm (fields_of 1 _ _ _ _ _ _ (by decide) ⟨fun _ => rfl, fun _ => rfl, fun _ => rfl⟩ ⟨fun h => absurd h (by decide), fun _ => h3, fun _ => rfl, fun h => absurd h (by decide)⟩ ⟨fun h => absurd h (by decide), fun h => absurd h (by decide), fun _ _ => rfl⟩) rfl h4 fun f => ?_
              rw [showP, gd_end, if_pos rfl]
            · cases h
        · split at h
          · cases h
          · rename_i k4 k3 k2
            split at h
            · cases h
            · rename_i j1 key hk
              obtain ⟨rfl, hi1, hkey, hkk⟩ := takeE_ok hk
              split at h
              · cases h
              · rename_i hk0
                split at h
                · cases h
                · rename_i j2 n l2 ks ha
                  split at h
                  · cases h
                  · rename_i j3 t3 ht
                    obtain ⟨rfl, hi2, ht3, ht2⟩ := takeE_ok ht
                    simp only [Except.ok.injEq, Prod.mk.injEq] at h
                    obtain ⟨rfl, rfl⟩ := h
                    obtain ⟨g1, g2, g3, g4⟩ := form_inv hk0
                    rw [g3] at ha
                    have hl2 : l2.length ≤ 1000 := by rw [List.length_append] at hm; omega
                    obtain ⟨ns, kk, st', b1, b2, b3, b4, b5, b6, ⟨new, b7⟩, b8, b9⟩ := args_conv hv ih (fun i l j m h => exprE_grow f i l j m h) _ _ _ l st [] j2 n l2 ks (goes_two _) (by omega) hR hs hl2 ha
                    rw [List.nil_append] at b2
                    subst b1 b2
                    obtain ⟨o1, o2, o3⟩ := of_open (hv i hi) k4 k3 k2
                    rw [ht3] at ht2
                    obtain ⟨q1, q2, q3⟩ := of_shut (hv j2 hi2) ht2
                    have hw := of_word (hv (i + 1) hi1) (by rw [← hkey]; exact hkk)
                    refine conv_form hm g1 (fun r => node_conv g1 g4 b3 b4 r b8 (fun k hk => (b5.2 k hk).2.1)) b5 b6 ⟨new, b7⟩ b8 (stand_one hi ⟨o1, o2, o3⟩) (stand_one hi1 ⟨by rw [← hkey]; exact hkk, by rw [← hkey]; exact g2.symm, hw⟩) (fun F hF => b9 F hF) (stand_one hi2 ⟨q1, q2, q3⟩)
    · cases h

theorem rg_getD {k q : Nat} (f : Nat → Int) (h : q < k) : ((List.range k).map f).getD q 0 = f q := by simp [List.getD, List.getElem?_range h]

theorem down_pos {st : List Int} {c p : Int} {cs : List Int} (h : c = p - 1 ∧ 0 ≤ c) : down st (c :: cs) p = down st cs (st.getD c.toNat 0) := by
  rw [down, if_pos h]

/-- Nodes that lie as they should have their starts. -/
theorem right_starts {ts : List Nod} {st : List Nat} (hR : Right ts st) : ∀ k, k ≤ ts.length → startsF ts k = some ((List.range k).map fun q => ((st.getD q 0 : Nat) : Int))
  | 0, _ => rfl
  | k + 1, hk => by
    obtain ⟨hF, hs, h0, h1, h2, h3⟩ := hR.2 k (by omega)
    have hle : ∀ q, q < k → st.getD q 0 ≤ q := fun q hq => (hR.2 q (by omega)).2.1
    have har := arN_le (ts.getD k noNod).kind
    have e : stepS (ts.getD k noNod) k ((List.range k).map fun q => ((st.getD q 0 : Nat) : Int)) = some ((st.getD k 0 : Nat) : Int) := by
      unfold stepS
      have hfb : fieldsB (ts.getD k noNod) = true := decide_eq_true hF
      rw [if_pos hfb]
      by_cases a0 : arN (ts.getD k noNod).kind = 0
      · rw [kidL_0 a0, h0 a0]
        rfl
      by_cases a1 : arN (ts.getD k noNod).kind = 1
      · obtain ⟨a, g1, g2, g3⟩ := h1 a1
        rw [kidL_1 a1, g1]
        show down ((List.range k).map fun q => ((st.getD q 0 : Nat) : Int)) [(a : Int)] (k : Int) = some ((st.getD k 0 : Nat) : Int)
        rw [down_pos (c := (a : Int)) (p := (k : Int)) ⟨by omega, by omega⟩, Int.toNat_natCast, rg_getD _ (by omega), g3]
        rfl
      by_cases a2 : arN (ts.getD k noNod).kind = 2
      · obtain ⟨a, b, g1, g2, g3, g4, g5⟩ := h2 a2
        have := hle b (by omega)
        rw [kidL_2 a2, g1, g2]
        show down ((List.range k).map fun q => ((st.getD q 0 : Nat) : Int)) [(b : Int), (a : Int)] (k : Int) = some ((st.getD k 0 : Nat) : Int)
        rw [down_pos (c := (b : Int)) (p := (k : Int)) ⟨by omega, by omega⟩, Int.toNat_natCast, rg_getD _ (by omega), down_pos (c := (a : Int)) (p := ((st.getD b 0 : Nat) : Int)) ⟨by omega, by omega⟩, Int.toNat_natCast, rg_getD _ (by omega), g5]
        rfl
      · have a3 : arN (ts.getD k noNod).kind = 3 := by omega
        obtain ⟨a, b, c, g1, g2, g3, g4, g5, g6, g7⟩ := h3 a3
        have := hle c (by omega)
        have := hle b (by omega)
        rw [kidL_3 a3, g1, g2, g3]
        show down ((List.range k).map fun q => ((st.getD q 0 : Nat) : Int)) [(c : Int), (b : Int), (a : Int)] (k : Int) = some ((st.getD k 0 : Nat) : Int)
        rw [down_pos (c := (c : Int)) (p := (k : Int)) ⟨by omega, by omega⟩, Int.toNat_natCast, rg_getD _ (by omega), down_pos (c := (b : Int)) (p := ((st.getD c 0 : Nat) : Int)) ⟨by omega, by omega⟩, Int.toNat_natCast, rg_getD _ (by omega), down_pos (c := (a : Int)) (p := ((st.getD b 0 : Nat) : Int)) ⟨by omega, by omega⟩, Int.toNat_natCast, rg_getD _ (by omega), g7]
        rfl
    rw [startsF, right_starts hR k (by omega), Option.bind_some, e, Option.map_some, List.range_succ, List.map_append]
    rfl

/-- The same pieces, put together: whatever their places. -/
theorem ulx_stand {us ps : List Tok} (h : Stand us 0 ps) (hl : ps.length = us.length) : ulx us us.length = ulx ps ps.length := by
  have hk : ∀ q, q < ps.length → kindOf us q = kindOf ps q ∧ (us.getD q noTok).text = (ps.getD q noTok).text := fun q hq => by
    have := h.2 q hq
    rw [Nat.zero_add] at this
    exact ⟨this.1, this.2.1⟩
  rw [← hl]
  have go : ∀ k, k ≤ ps.length → ulx us k = ulx ps k := fun k => by
    induction k with
    | zero => intro _; rfl
    | succ k ih =>
      intro hk'
      have e1 := hk k (by omega)
      have e2 := hk (k - 1) (by omega)
      have eg : gap us k = gap ps k := by
        unfold gap
        rw [e1.1, e2.1]
      have et : textOf us k = textOf ps k := e1.2
      rw [ulx, ulx, ih (by omega), eg, et]
  exact go _ (Nat.le_refl _)

/-- What was read whole is a program, and its text is that of the tokens. -/
theorem read_back {us : List Tok} {E : Int} (hv : ∀ q, q < us.length → VT (us.getD q noTok)) {f : Nat} {m : List Nod} (h : exprE us E f 0 [] = .ok (us.length, m)) (hm : m.length ≤ 150) :
    1 ≤ m.length ∧ (∃ st, startsF m m.length = some st ∧ st.getD (m.length - 1) 0 = 0) ∧ textN m m.length (m.length - 1) = ulx us us.length := by
  have hR0 : Right [] [] := ⟨by simp, fun j hj => by simp at hj⟩
  obtain ⟨st, g1, g2, _, g4, g5, g6⟩ := exprE_conv hv f 0 [] [] us.length m hR0 rfl (by omega) h
  rw [List.nil_append] at g1 g2 g5
  have g4' : 0 < m.length := g4
  obtain ⟨p1, p2⟩ := g6 m.length (Nat.le_refl _)
  refine ⟨g4', ⟨_, right_starts g1 m.length (Nat.le_refl _), ?_⟩, ?_⟩
  · rw [rg_getD _ (by omega), g5]
    rfl
  · rw [ulx_stand p1 (by omega), text_ulx g1 (by omega) (by omega)]

theorem wrap_near {x : Int} (h1 : -1000000 ≤ x) (h2 : x ≤ 1000000) : wrap64 x = x := by
  unfold wrap64
  omega

/-- All nodes, shifted by nothing, are the same. -/
theorem cut_whole {ts : List Nod} {st : List Nat} (hR : Right ts st) : cutM ts 0 ts.length 0 = ts := by
  unfold cutM
  rw [List.take_length, List.drop_zero]
  have hle := hR.1
  apply List.ext_getElem?
  intro j
  rw [List.getElem?_map]
  by_cases hj : j < ts.length
  · rw [List.getElem?_eq_getElem hj]
    show some _ = some _
    congr 1
    have hk := hR.2 j hj
    have et : ts.getD j noNod = ts[j] := by simp [List.getD, hj]
    rw [et] at hk
    generalize ts[j] = t at hk
    obtain ⟨x0, x1, x2, x3, x4, x5, x6⟩ := t
    obtain ⟨_, _, k0, k1, k2, k3⟩ := hk
    simp only at k0 k1 k2 k3
    have har := arN_le x0
    unfold shiftN
    simp only
    have w0 : ∀ q : Nat, q ≤ 1000 → wrap64 ((q : Int) + (((0 : Nat) : Int) - ((0 : Nat) : Int))) = q := fun q hq => by rw [wrap_near (by omega) (by omega)]; omega
    rcases (by omega : arN x0 = 0 ∨ arN x0 = 1 ∨ arN x0 = 2 ∨ arN x0 = 3) with e | e | e | e
    · rw [e]; rfl
    · obtain ⟨a, ha, g1, _⟩ := k1 e
      rw [e, ha]
      simp only [show (0 : Nat) < 1 by omega, show ¬ (1 : Nat) < 1 by omega, show ¬ (2 : Nat) < 1 by omega, if_true, if_false]
      rw [w0 a (by omega)]
    · obtain ⟨a, b, ha, hb, g1, g2, _⟩ := k2 e
      have hs := (hR.2 b (by omega)).2.1
      rw [e, ha, hb]
      simp only [show (0 : Nat) < 2 by omega, show (1 : Nat) < 2 by omega, show ¬ (2 : Nat) < 2 by omega, if_true, if_false]
      rw [w0 a (by omega), w0 b (by omega)]
    · obtain ⟨a, b, c, ha, hb, hc, g1, g2, g3, _⟩ := k3 e
      have hs := (hR.2 c (by omega)).2.1
      have hs2 := (hR.2 b (by omega)).2.1
      rw [e, ha, hb, hc]
      simp only [show (0 : Nat) < 3 by omega, show (1 : Nat) < 3 by omega, show (2 : Nat) < 3 by omega, if_true]
      rw [w0 a (by omega), w0 b (by omega), w0 c (by omega)]
  · rw [List.getElem?_eq_none (by omega)]
    rfl

/-- A program's pieces, whatever their places, are read as the program. -/
theorem whole_reads {us : List Tok} {E : Int} {ts : List Nod} {st : List Nat} (hR : Right ts st) (h1 : 1 ≤ ts.length) (h0 : st.getD (ts.length - 1) 0 = 0) (hS : Stand us 0 (showP decS ts ts.length (ts.length - 1))) {g : Nat} (hg : ts.length ≤ g) :
    exprE us E g 0 [] = .ok ((showP decS ts ts.length (ts.length - 1)).length, ts) := by
  have h := node_reads (dec := decS) (us := us) (E := E) hR ts.length (ts.length - 1) (by omega) (by omega) ts.length g 0 [] (by omega) (by omega) (by have := hR.1; simp; omega) hS
  rw [h0, show ts.length - 1 + 1 = ts.length by omega, List.length_nil, cut_whole hR, Nat.zero_add, List.nil_append] at h
  exact h

theorem stand_same {us vs ps : List Tok} (h : Stand us 0 ps) (hl : us.length ≤ vs.length) (hs : ∀ q, q < us.length → (vs.getD q noTok).kind = (us.getD q noTok).kind ∧ (vs.getD q noTok).text = (us.getD q noTok).text ∧ (vs.getD q noTok).n = (us.getD q noTok).n) : Stand vs 0 ps := by
  obtain ⟨h1, h2⟩ := h
  refine ⟨by omega, fun q hq => ?_⟩
  obtain ⟨a1, a2, a3⟩ := h2 q hq
  obtain ⟨b1, b2, b3⟩ := hs (0 + q) (by omega)
  exact ⟨b1.trans a1, b2.trans a2, b3.trans a3⟩

/-- Tokens that differ in their places alone are read the same. -/
theorem read_same {us vs : List Tok} {E E' : Int} (hv : ∀ q, q < us.length → VT (us.getD q noTok)) {f g : Nat} {m : List Nod} (h : exprE us E f 0 [] = .ok (us.length, m)) (hm : m.length ≤ 150) (hl : vs.length = us.length)
    (hs : ∀ q, q < us.length → (vs.getD q noTok).kind = (us.getD q noTok).kind ∧ (vs.getD q noTok).text = (us.getD q noTok).text ∧ (vs.getD q noTok).n = (us.getD q noTok).n) (hg : m.length ≤ g) : exprE vs E' g 0 [] = .ok (vs.length, m) := by
  have hR0 : Right [] [] := ⟨by simp, fun j hj => by simp at hj⟩
  obtain ⟨st, g1, g2, _, g4, g5, g6⟩ := exprE_conv hv f 0 [] [] us.length m hR0 rfl (by omega) h
  rw [List.nil_append] at g1 g2 g5
  have g4' : 0 < m.length := g4
  obtain ⟨p1, p2⟩ := g6 m.length (Nat.le_refl _)
  have h := whole_reads (E := E') g1 g4' g5 (stand_same p1 (by omega) hs) hg
  rw [h, hl, ← p2, Nat.zero_add]

/-- Tokens behind something that is no token, read again. -/
theorem relexQ (P : List UInt8) (hP : ∀ X, ∃ m, Reach (bsL (P ++ X)) m P.length []) (ts : List Tok) (hv : ∀ k, k < ts.length → VT (ts.getD k noTok)) : ∀ k, k ≤ ts.length → ∀ R, (k = 0 ∨ Closed (kindOf ts (k - 1)) R) →
    ∃ m ts', Reach (bsL (P ++ ulx ts k ++ R)) m (P ++ ulx ts k).length ts' ∧ Same ts k ts'
  | 0, _, R, _ => by
    obtain ⟨m, hm⟩ := hP R
    refine ⟨m, [], ?_, rfl, fun q hq => by omega⟩
    rw [ulx, List.append_nil]
    exact hm
  | k + 1, hk, R, hR => by
    have hR' : Closed (kindOf ts k) R := by
      rcases hR with h | h
      · omega
      · exact h
    have ht := hv k (by omega)
    have e : P ++ ulx ts (k + 1) ++ R = P ++ ulx ts k ++ (gap ts k ++ (textOf ts k).data.toList ++ R) := by simp [ulx, List.append_assoc]
    have hc : k = 0 ∨ Closed (kindOf ts (k - 1)) (gap ts k ++ (textOf ts k).data.toList ++ R) := by
      by_cases h0 : k = 0
      · exact Or.inl h0
      · right
        by_cases h1 : kindOf ts (k - 1) = 1
        · exact Or.inr (Or.inl h1)
        · by_cases h2 : kindOf ts k = 2
          · have hX : textOf ts k = byteS 41 := by
              rcases ht with ⟨h, _⟩ | ⟨_, h, _⟩ | ⟨h, _⟩ | ⟨h, _⟩
              · unfold kindOf at h2; omega
              · exact h
              · unfold kindOf at h2; omega
              · unfold kindOf at h2; omega
            have hg : gap ts k = [] := by unfold gap; rw [if_neg (fun h => h.2.2 h2)]
            rw [hX, hg]
            exact Or.inr (Or.inr (Or.inr ⟨41, R, rfl, by decide, by decide⟩))
          · have hg : gap ts k = [32] := by unfold gap; rw [if_pos ⟨by omega, h1, h2⟩]
            rw [hg]
            exact Or.inr (Or.inr (Or.inr ⟨32, (textOf ts k).data.toList ++ R, rfl, by decide, by decide⟩))
    obtain ⟨m, ts', hr, hs⟩ := relexQ P hP ts hv k (by omega) _ hc
    rw [← e] at hr
    have hb : ∃ m', Reach (bsL (P ++ ulx ts (k + 1) ++ R)) m' (P ++ ulx ts k ++ gap ts k).length ts' := by
      by_cases hg : gap ts k = []
      · exact ⟨m, by rw [hg, List.append_nil]; exact hr⟩
      · have hg' : gap ts k = [32] := by
          unfold gap at hg ⊢
          split
          · rfl
          · rename_i h; rw [if_neg h] at hg; exact absurd rfl hg
        refine ⟨m + 1, ?_⟩
        have hst : Step (bsL (P ++ ulx ts (k + 1) ++ R)) (P ++ ulx ts k).length ((P ++ ulx ts k).length + 1) [] := by
          have e' : P ++ ulx ts (k + 1) ++ R = P ++ ulx ts k ++ 32 :: ((textOf ts k).data.toList ++ R) := by
            rw [e, hg']
            rfl
          rw [e']
          exact blank_step
        have h2 : Reach (bsL (P ++ ulx ts (k + 1) ++ R)) (m + 1) ((P ++ ulx ts k).length + 1) (ts' ++ []) := ⟨_, _, _, hr, hst, rfl⟩
        rw [List.append_nil] at h2
        rw [hg', List.length_append]
        exact h2
    obtain ⟨m', hr'⟩ := hb
    have e2 : P ++ ulx ts (k + 1) ++ R = (P ++ ulx ts k ++ gap ts k) ++ (ts.getD k noTok).text.data.toList ++ R := by simp [ulx, textOf, List.append_assoc]
    have hst := tok_step (P ++ ulx ts k ++ gap ts k) R (ts.getD k noTok) ht hR'
    rw [← e2] at hst
    have e3 : (P ++ ulx ts (k + 1)).length = (P ++ ulx ts k ++ gap ts k).length + (ts.getD k noTok).text.size := by
      simp only [ulx, List.length_append, textOf, len_data]
      omega
    rw [e3]
    exact ⟨m' + 1, _, ⟨_, _, _, hr', hst, rfl⟩, same_next hs _⟩

def remP : List UInt8 := [35, 32, 97, 32, 114, 101, 109, 97, 114, 107, 10, 32]
def remQ : List UInt8 := [32, 10, 35, 32, 97, 110, 111, 116, 104, 101, 114]

theorem remP_len : remP.length = 12 := rfl
theorem remQ_len : remQ.length = 11 := rfl

theorem rem_reach (X : List UInt8) : ∃ m, Reach (bsL (remP ++ X)) m remP.length [] := by
  have hb : ∀ q, q < 12 → bAt (bsL (remP ++ X)) q = (remP.getD q 0).toNat := fun q hq => by
    have := bAt_mid [] remP X q (by rw [remP_len]; exact hq)
    simpa using this
  have hz : (bsL (remP ++ X)).size = 12 + X.length := by rw [bsL_size, List.length_append, remP_len]
  have s1 : Step (bsL (remP ++ X)) 0 10 [] := by
    refine ⟨by omega, Or.inr (Or.inl ⟨by rw [hb 0 (by omega)]; rfl, ⟨by omega, by omega, fun j _ hj => ?_, fun _ => ?_⟩, rfl⟩)⟩
    · rw [hb j (by omega)]
      have : ∀ j : _root_.Fin 10, inRem (remP.getD j.1 0).toNat := by decide
      exact this ⟨j, hj⟩
    · rw [hb 10 (by omega)]
      decide
  have s2 : Step (bsL (remP ++ X)) 10 11 [] := ⟨by omega, Or.inl ⟨Or.inr (by rw [hb 10 (by omega)]; rfl), rfl, rfl⟩⟩
  have s3 : Step (bsL (remP ++ X)) 11 12 [] := ⟨by omega, Or.inl ⟨Or.inl (by rw [hb 11 (by omega)]; rfl), rfl, rfl⟩⟩
  exact ⟨3, 11, [], [], ⟨10, [], [], ⟨0, [], [], ⟨rfl, rfl⟩, s1, rfl⟩, s2, rfl⟩, s3, rfl⟩

theorem rem_end {P : List UInt8} {m : Nat} {ts : List Tok} (h : Reach (bsL (P ++ remQ)) m P.length ts) : Reach (bsL (P ++ remQ)) (m + 3) (P.length + 11) ts := by
  have hb : ∀ q, q < 11 → bAt (bsL (P ++ remQ)) (P.length + q) = (remQ.getD q 0).toNat := fun q hq => by
    have := bAt_mid P remQ [] q (by rw [remQ_len]; exact hq)
    rw [List.append_nil] at this
    exact this
  have hz : (bsL (P ++ remQ)).size = P.length + 11 := by rw [bsL_size, List.length_append, remQ_len]
  have s1 : Step (bsL (P ++ remQ)) P.length (P.length + 1) [] := ⟨by omega, Or.inl ⟨Or.inl (by have := hb 0 (by omega); rw [Nat.add_zero] at this; rw [this]; rfl), rfl, rfl⟩⟩
  have s2 : Step (bsL (P ++ remQ)) (P.length + 1) (P.length + 2) [] := ⟨by omega, Or.inl ⟨Or.inr (by rw [hb 1 (by omega)]; rfl), rfl, rfl⟩⟩
  have s3 : Step (bsL (P ++ remQ)) (P.length + 2) (P.length + 11) [] := by
    refine ⟨by omega, Or.inr (Or.inl ⟨by rw [hb 2 (by omega)]; rfl, ⟨by omega, by omega, fun j h1 hj => ?_, fun h => by omega⟩, rfl⟩)⟩
    have e := hb (j - P.length) (by omega)
    rw [show P.length + (j - P.length) = j by omega] at e
    rw [e]
    have : ∀ j : _root_.Fin 11, 2 ≤ j.1 → inRem (remQ.getD j.1 0).toNat := by decide
    exact this ⟨j - P.length, by omega⟩ (show 2 ≤ j - P.length by omega)
  have := (⟨_, _, _, ⟨_, _, _, ⟨_, _, _, h, s1, rfl⟩, s2, rfl⟩, s3, rfl⟩ : Reach (bsL (P ++ remQ)) (m + 3) (P.length + 11) (ts ++ [] ++ [] ++ []))
  rw [List.append_nil, List.append_nil, List.append_nil] at this
  exact this

/-- A program's text between two remarks is read as the program. -/
theorem remark_parse {ts : List Nod} {st : List Nat} (hR : Right ts st) (hl : 1 ≤ ts.length) (hl2 : ts.length ≤ 150) (h0 : st.getD (ts.length - 1) 0 = 0) :
    ∃ vs, Lexes (bsL (remP ++ textN ts ts.length (ts.length - 1) ++ remQ)) vs (-1) ∧ ∀ E, parseE vs E = (ts, 0, 0) := by
  have hlen := textN_len hR ts.length (ts.length - 1) (by omega) (by omega)
  have hT := text_ulx hR (show ts.length - 1 < ts.length by omega) (show ts.length - 1 < ts.length by omega)
  have hcnt := show_count hR ts.length (ts.length - 1) (by omega) (by omega)
  have hvt := show_vt hR ts.length (ts.length - 1) (by omega) (by omega)
  obtain ⟨m, vs, hr, hs1, hs2⟩ := relexQ remP rem_reach _ (fun q hq => hvt _ (getD_mem hq)) _ (Nat.le_refl _) remQ (Or.inr (Or.inr (Or.inr (Or.inr ⟨32, _, rfl, by decide, by decide⟩))))
  rw [hT] at hr
  have hr2 := rem_end hr
  have hz : (bsL (remP ++ textN ts ts.length (ts.length - 1) ++ remQ)).size = (remP ++ textN ts ts.length (ts.length - 1)).length + 11 := by rw [bsL_size, List.length_append, remQ_len]
  have hz2 : (remP ++ textN ts ts.length (ts.length - 1)).length = 12 + (textN ts ts.length (ts.length - 1)).length := by rw [List.length_append, remP_len]
  refine ⟨vs, lexes_of hr2 (by omega) (by omega), fun E => ?_⟩
  have hS : Stand vs 0 (showP decS ts ts.length (ts.length - 1)) := ⟨by omega, fun q hq => by rw [Nat.zero_add]; exact hs2 q hq⟩
  have h := whole_reads (E := E) hR hl h0 hS (g := vs.length + 1) (by omega)
  unfold parseE
  rw [h]
  simp only
  rw [if_neg (by omega), if_neg (by omega)]

/-- A text that is read as a program: its tokens put together are the program's text, and read again they are the program. -/
theorem parse_back {s : ByteArray} {us : List Tok} (hs : s.size ≤ 4000) (h : Lexes s us (-1)) {E q : Int} {m : List Nod} (hp : parseE us E = (m, 0, q)) :
    1 ≤ m.length ∧ m.length ≤ 150 ∧ (∃ st, startsF m m.length = some st ∧ st.getD (m.length - 1) 0 = 0) ∧ us.length ≤ 4000 ∧ ulxS us = bsL (textN m m.length (m.length - 1)) ∧ (ulxS us).size ≤ 4000 ∧ ∃ vs, Lexes (ulxS us) vs (-1) ∧ ∀ E', parseE vs E' = (m, 0, 0) := by
  obtain ⟨k, i, hr, hi⟩ := fin_all hs h
  have hle := reach_le hr
  obtain rfl : i = s.size := by omega
  have hg := reach_good hr
  have hv : ∀ q, q < us.length → VT (us.getD q noTok) := fun q hq => (hg.each q hq).1
  have hlen : us.length ≤ s.size := by
    have : ∀ k, k ≤ us.length → k ≤ lens us k := by
      intro k
      induction k with
      | zero => intro _; omega
      | succ k ih =>
        intro hk
        have h1 := ih (by omega)
        have hx : 1 ≤ (textOf us k).size := by
          unfold textOf
          rcases hv k (by omega) with ⟨_, h, _⟩ | ⟨_, h, _⟩ | ⟨_, h, _⟩ | ⟨_, h, _⟩
          · rw [h]; simp [ByteArray.size]
          · rw [h]; simp [ByteArray.size]
          · exact h
          · exact h
        simp only [lens]
        omega
    have h1 := this us.length (Nat.le_refl _)
    have h2 := hg.all
    omega
  have hex : exprE us E (us.length + 1) 0 [] = .ok (us.length, m) ∧ m.length ≤ 150 := by
    unfold parseE at hp
    split at hp
    · rename_i c a he
      exfalso
      have hf := exprE_flt (us.length + 1) 0 [] (c, a) (by omega) (by omega) he
      simp only [Prod.mk.injEq] at hp
      obtain ⟨_, rfl, _⟩ := hp
      unfold FltAt at hf
      rcases hf with h | ⟨_, _, h⟩
      · have : (0 : Int) = 2 := congrArg Prod.fst h
        omega
      · have : (0 : Int) = 3 := congrArg Prod.fst h
        omega
    · rename_i j l he
      obtain ⟨_, f2, _, _⟩ := exprE_fair us E _ _ _ _ _ he
      split at hp
      · simp only [Prod.mk.injEq] at hp
        exact absurd hp.2.1 (by decide)
      · split at hp
        · simp only [Prod.mk.injEq] at hp
          exact absurd hp.2.1 (by decide)
        · simp only [Prod.mk.injEq] at hp
          obtain ⟨rfl, _⟩ := hp
          obtain rfl : j = us.length := by omega
          exact ⟨he, by omega⟩
  obtain ⟨hex, hm⟩ := hex
  obtain ⟨r1, ⟨st, r2, r3⟩, r4⟩ := read_back hv hex hm
  have hR := right_of (show m.length ≤ 1000 by omega) r2
  have htl := textN_len hR m.length (m.length - 1) (by omega) (by omega)
  have hmin : min us.length 4000 = us.length := by omega
  have e : ulxS us = bsL (ulx us us.length) := by unfold ulxS bsL; rw [hmin]
  have e2 : ulxS us = bsL (textN m m.length (m.length - 1)) := by rw [e, r4]
  have hsz : (ulxS us).size ≤ 4000 := by rw [e2, bsL_size]; omega
  obtain ⟨m', vs, hr', hs1, hs2⟩ := relex us hv us.length (Nat.le_refl _) [] (Or.inr (Or.inl rfl))
  rw [List.append_nil] at hr'
  refine ⟨r1, hm, ⟨st, r2, r3⟩, by omega, e2, hsz, vs, ?_, fun E' => ?_⟩
  · rw [e] at hsz ⊢
    exact lexes_of hr' hsz (by rw [bsL_size]; omega)
  · have := read_same (E' := E') (g := vs.length + 1) hv hex hm hs1 hs2 (by
      have := (exprE_fair us E _ _ _ _ _ hex).2.2.2
      simp only [List.length_nil] at this
      omega)
    unfold parseE
    rw [this]
    simp only
    rw [if_neg (by omega), if_neg (by omega)]

/-- Where a text is refused lies in it, and nothing is made of it. -/
theorem parse_place {s : ByteArray} {us : List Tok} (hs : s.size ≤ 4000) (h : Lexes s us (-1)) {c q : Int} {m : List Nod} (hp : parseE us (s.size : Int) = (m, c, q)) : 0 ≤ q ∧ q ≤ s.size ∧ (c ≠ 0 → m = []) := by
  obtain ⟨k, i, hr, hi⟩ := fin_all hs h
  have hle := reach_le hr
  obtain rfl : i = s.size := by omega
  have hg := reach_good hr
  have hpl : ∀ j, j < us.length → 0 ≤ (us.getD j noTok).place ∧ (us.getD j noTok).place ≤ s.size := fun j hj => by
    obtain ⟨_, ⟨p, h1, h2, _⟩, _⟩ := hg.each j hj
    rw [h1]
    omega
  unfold parseE at hp
  split at hp
  · rename_i c' a he
    have hf := exprE_flt (us.length + 1) 0 [] (c', a) (by omega) (by omega) he
    simp only [Prod.mk.injEq] at hp
    obtain ⟨rfl, rfl, rfl⟩ := hp
    unfold FltAt at hf
    rcases hf with h | ⟨j, hj, h⟩
    · have : a = (s.size : Int) := congrArg Prod.snd h
      exact ⟨by omega, by omega, fun _ => rfl⟩
    · have : a = (us.getD j noTok).place := congrArg Prod.snd h
      have := hpl j hj
      exact ⟨by omega, by omega, fun _ => rfl⟩
  · rename_i j l he
    split at hp
    · rename_i hj
      simp only [Prod.mk.injEq] at hp
      obtain ⟨rfl, rfl, rfl⟩ := hp
      have := hpl j hj
      exact ⟨this.1, this.2, fun _ => rfl⟩
    · split at hp
      · simp only [Prod.mk.injEq] at hp
        obtain ⟨rfl, rfl, rfl⟩ := hp
        exact ⟨by omega, by omega, fun _ => rfl⟩
      · simp only [Prod.mk.injEq] at hp
        obtain ⟨rfl, rfl, rfl⟩ := hp
        exact ⟨by omega, by omega, fun h => absurd rfl h⟩
end

section
open Go.ChangeShapes Go.WideShapes Go.ChangeAt Go.RowKit

theorem lens_of {s : ByteArray} {us : List Tok} (hs : s.size ≤ 4000) (h : Lexes s us (-1)) : lens us us.length ≤ 4000 := by
  obtain ⟨k, i, hr, hi⟩ := fin_all hs h
  have hle := reach_le hr
  have := (reach_good hr).all
  omega

theorem text_facts {t : ByteArray} (ht : t.size ≤ 4000) {us : List Tok} {n : Int} (h : Lexes t us n) {m : List Nod} {c q : Int} (hp : parseR us n t.size = (m, c, q)) :
    0 ≤ q ∧ q ≤ t.size ∧ (c ≠ 0 → m = []) ∧ (c = 0 → n = -1 ∧ nodesB m = true ∧ us.length ≤ 4000 ∧ lens us us.length ≤ 4000 ∧ ulxS us = printB m ∧ (ulxS us).size ≤ 4000 ∧ ∃ vs, Lexes (ulxS us) vs (-1) ∧ ∀ E, parseE vs E = (m, 0, 0)) := by
  unfold parseR at hp
  split at hp
  · rename_i hn
    simp only [Prod.mk.injEq] at hp
    obtain ⟨rfl, rfl, rfl⟩ := hp
    have : n ≤ t.size := by
      rcases h with ⟨h1, _⟩ | ⟨_, k, i, out, hr, hf⟩
      · omega
      · rcases hf with ⟨_, _, h3⟩ | ⟨hb, _, h3⟩
        · omega
        · have := hb.1; omega
    exact ⟨hn, this, fun _ => rfl, fun e => by omega⟩
  · rename_i hn
    have hn1 : n = -1 := by
      rcases h with ⟨h1, _⟩ | ⟨_, k, i, out, hr, hf⟩
      · omega
      · rcases hf with ⟨_, _, h3⟩ | ⟨hb, _, h3⟩
        · exact h3
        · omega
    subst hn1
    obtain ⟨a1, a2, a3⟩ := parse_place ht h hp
    refine ⟨a1, a2, a3, fun hc => ?_⟩
    subst hc
    obtain ⟨b1, b2, ⟨st, b3, b4⟩, b5, b6, b7, b8⟩ := parse_back ht h hp
    have hok : nodesB m = true := by
      unfold nodesB
      rw [b3]
      simp only [b4, beq_self_eq_true, Bool.and_true, decide_eq_true_eq]
      exact ⟨b1, b2⟩
    exact ⟨rfl, hok, b5, lens_of ht h, by rw [b6, printB, if_pos hok]; rfl, b7, b8⟩

theorem node_small {ts : List Nod} (h : nodesB ts = true) (k : Nat) (hk : k < ts.length) : (ts.getD k noNod).name.size ≤ maxLen ∧ (ts.getD k noNod).other.size ≤ maxLen := by
  obtain ⟨_, _, st, hR⟩ := nodesB_right h
  have := fields_small (decide_eq_true (hR.2 k hk).1)
  unfold maxLen
  omega

theorem node_count {ts : List Nod} (h : nodesB ts = true) : 1 ≤ ts.length ∧ ts.length ≤ 150 := by
  obtain ⟨h1, h2, _⟩ := nodesB_right h
  exact ⟨h1, h2⟩

theorem print_pos {ts : List Nod} (h : nodesB ts = true) : 0 < (printB ts).size := by
  obtain ⟨h1, h2, st, hR⟩ := nodesB_right h
  have := textN_pos hR ts.length (ts.length - 1) (by omega) (by omega)
  rw [printB, if_pos h]
  show 0 < (textN ts ts.length (ts.length - 1)).toArray.size
  rw [List.size_toArray]
  exact List.length_pos_iff.2 this

theorem print_no {ts : List Nod} (h : nodesB ts = false) : printB ts = ⟨#[]⟩ := by
  rw [printB, if_neg (by rw [h]; simp)]

/-- The text between the law's remarks. -/
theorem remark_text {ts : List Nod} (h : nodesB ts = true) : ∃ vs, Lexes (⟨#[35, 32, 97, 32, 114, 101, 109, 97, 114, 107, 10, 32]⟩ ++ printB ts ++ ⟨#[32, 10, 35, 32, 97, 110, 111, 116, 104, 101, 114]⟩) vs (-1) ∧ ∀ E, parseE vs E = (ts, 0, 0) := by
  obtain ⟨h1, h2, st, hR, h0⟩ := nodesB_zero h
  obtain ⟨vs, hx, hp⟩ := remark_parse hR h1 h2 h0
  refine ⟨vs, ?_, hp⟩
  have e : (⟨#[35, 32, 97, 32, 114, 101, 109, 97, 114, 107, 10, 32]⟩ ++ printB ts ++ ⟨#[32, 10, 35, 32, 97, 110, 111, 116, 104, 101, 114]⟩ : ByteArray) = bsL (remP ++ textN ts ts.length (ts.length - 1) ++ remQ) := by
    rw [printB, if_pos h]
    apply data_ext
    rw [bytes_join, bytes_join, bsL_data]
    simp [remP, remQ]
  rw [e]
  exact hx

theorem hidI {p : Prop} (h : p) : Hid p := h

theorem printB_size (l : List Nod) : (printB l).size ≤ 2541 := by
  unfold printB
  split
  · rename_i h
    obtain ⟨l1, l2, st, hR, hz⟩ := nodesB_zero h
    have hlen := textN_len hR l.length (l.length - 1) (by omega) (by omega)
    show (textN l l.length (l.length - 1)).toArray.size ≤ _
    rw [List.size_toArray]
    omega
  · decide
end

section
open Go.ChangeShapes Go.WideShapes Go.ChangeAt Go.RowKit

def srcA : List ByteArray := [⟨#[40]⟩, ⟨#[41]⟩, ⟨#[102, 117, 110]⟩, ⟨#[120]⟩, ⟨#[97, 98, 99]⟩, ⟨#[49, 50]⟩, ⟨#[48]⟩, ⟨#[54, 53, 53, 51, 53]⟩, ⟨#[32]⟩, ⟨#[10]⟩, ⟨#[35, 32, 110, 111, 116, 101, 10]⟩, ⟨#[108, 101, 116]⟩, ⟨#[32]⟩, ⟨#[40]⟩]
def srcB : List ByteArray := [⟨#[54, 53, 53, 51, 54]⟩, ⟨#[48, 48, 55]⟩, ⟨#[97, 98, 99, 100, 101, 102, 103, 104, 105]⟩, ⟨#[65]⟩, ⟨#[97, 49]⟩, ⟨#[35]⟩, ⟨#[45, 49]⟩, ⟨#[97, 98, 99, 100, 101, 102, 103, 104]⟩, ⟨#[49, 97]⟩]

theorem srcA_size : ∀ S ∈ srcA, S.size ≤ 7 := by decide
theorem srcB_size : ∀ S ∈ srcB, S.size ≤ 9 := by decide

theorem strs_new (w : World) (ls : List ByteArray) (t : TypeId) (cs : Array Value) (hcs : cs = (ls.map Value.string).toArray) : ∀ j, j < ls.length → (w.alloc (.cells cs t)).cell? ⟨w.heap.size, j, none⟩ = some (.string (ls.getD j ByteArray.empty)) := by
  subst hcs
  intro j hj
  rw [cell_of_row _ _ _ _ _ _ (MapKept.heap_alloc w _).1]
  simp [List.getD, List.getElem?_eq_getElem hj]

set_option maxHeartbeats 1000000 in
set_option maxRecDepth 20000 in
theorem source_at {a : Option Addr} {len cap : Nat} {zs : List Int} {B : Nat} {w : World} {s : Nat × Int} (h : CurAt a len cap zs B w s) :
    Calls Tryz.prog 47 #[.pointer (some ⟨B, 0, none⟩)] w fun e w' => ∃ S : ByteArray, S.size ≤ 100 ∧ e = .returned (.string S) ∧ Only B w w' := by
  have H : Hid (CurAt a len cap zs B w s) := h
  clear h
  have hr := belowV_range (zs := zs) (len := len) 12 s (by omega)
  go_enter Tryz.func47, Tryz.ntmps47
  go_wp2_with fail
  refine (below_at H.out 12 (by omega)).mono ?_
  rintro e w1 ⟨rfl, c1, b1⟩
  obtain ⟨n0, hn0⟩ := Int.eq_ofNat_of_zero_le hr.1
  have hn1 : n0 ≤ 11 := by omega
  rw [hn0]
  have C1 : Hid (CurAt a len cap zs B w1 (belowV zs len 12 s).2) := c1
  have B1 : Hid (Only B w w1) := b1
  clear c1 b1 hr hn0 H
  go_wp2
  go_loopw [3, 4] (fun o n wr => ∃ (S : ByteArray) (k : Nat) (s' : Nat × Int), o = .string S ∧ n = .int .i64 k ∧ S.size + 7 * k ≤ 77 ∧ Hid (CurAt a len cap zs B wr s') ∧ Hid (Only B w wr)) (fun _ n _ => (intOf n).toNat)
  case atStart => exact ⟨⟨#[]⟩, n0, _, rfl, rfl, by simp [ByteArray.size]; omega, C1, B1⟩
  case round =>
    obtain ⟨S, k, s', rfl, rfl, hS, CR, BR⟩ := hrel
    by_cases hk : k = 0
    · subst hk
      clear C1 B1
      go_wp2_with fail
      refine (once_at CR.out 6 (by omega)).mono ?_
      rintro e w2 ⟨rfl, c2, b2⟩
      have C2 : Hid (CurAt a len cap zs B w2 (belowV zs len 6 s').2) := c2
      have B2 : Hid (Only B w w2) := BR.out.trans b2
      clear c2 b2 CR BR
      cases hc : ((belowV zs len 6 s').1 == 0) with
      | true =>
        have CA : Hid (CurAt a len cap zs B (w2.alloc (.cells (srcB.map Value.string).toArray 9)) (belowV zs len 6 s').2) := curAt_alloc C2.out _
        go_wp2_with fail
        refine (pick_text CA.out srcB w2.heap.size 9 rfl (by omega) (by omega) (by simp) (by have := C2.out.size; omega) (strs_new w2 srcB 9 _ rfl)).mono ?_
        rintro e w3 ⟨T, s3, hT, rfl, c3, b3⟩
        have hTs := srcB_size T hT
        have B3 : Hid (Only B w w3) := (B2.out.trans (only_alloc _ _)).trans b3
        have hov : ¬ 9223372036854775807 < S.size + T.size := by omega
        clear c3 b3 CA C2 B2 hc hT
        go_wp2
        go_ret
        exact ⟨S ++ T, by rw [ByteArray.size_append]; omega, rfl, B3.out⟩
      | false =>
        clear C2 hc
        go_wp2
        go_ret
        exact ⟨S, by omega, rfl, B2.out⟩
    · have hk' : (0 : Int) < k := by omega
      have CA : Hid (CurAt a len cap zs B (wr.alloc (.cells (srcA.map Value.string).toArray 9)) s') := curAt_alloc CR.out _
      clear C1 B1
      go_wp2_with fail
      refine (pick_text CA.out srcA wr.heap.size 14 rfl (by omega) (by omega) (by simp) (by have := CR.out.size; omega) (strs_new wr srcA 9 _ rfl)).mono ?_
      rintro e w3 ⟨T, s3, hT, rfl, c3, b3⟩
      have hTs := srcA_size T hT
      have C3 : Hid (CurAt a len cap zs B w3 s3) := c3
      have B3 : Hid (Only B w w3) := (BR.out.trans (only_alloc _ _)).trans b3
      have hov : ¬ 9223372036854775807 < S.size + T.size := by omega
      clear c3 b3 CA CR BR hT
      go_wp2
      go_roundw
      case rel => exact ⟨S ++ T, k - 1, s3, rfl, by congr 1; omega, by rw [ByteArray.size_append]; omega, C3, B3⟩
      case measure => simp [intOf]; omega

theorem big_at (a : Option Addr) (len cap : Nat) (b : Bool) (hb : decide ((1048576 : Int) < len) = b) (w : World) :
    Calls Tryz.prog 4 #[.slice a len cap] w fun e w' => e = .returned (.bool b) ∧ w' = w := by
  subst hb
  go_enter Tryz.func4, Tryz.ntmps4
  go_wp2
  go_ret
  exact ⟨rfl, rfl⟩
end

section
open Go.ChangeShapes Go.WideShapes Go.ChangeAt Go.RowKit

theorem bd_size : (Tryz.prog.info? 42).map (·.size) = some 2 := by kernel_rfl
theorem bd_lies : liesAt Tryz.prog Tryz.prog.depth 42 (2 / Tryz.prog.cellsOf 42) 0 42 1 = true := by kernel_rfl
theorem bd_byte : (Tryz.prog.info? 5).map (fun i => (i.zero, i.size, i.bytes)) = some (some (.int .u8 0), 1, 1) := by kernel_rfl

set_option maxRecDepth 100000 in
theorem check_used (b : Nat) (w : World) (h0 : w.cell? ⟨b, 0, none⟩ = some (.pointer (some ⟨b, 0, none⟩))) :
    Calls Tryz.prog 62 #[.pointer (some ⟨b, 0, none⟩)] w fun e w' => e = .returned (.tuple #[]) ∧ w' = w := by
  obtain ⟨j, hj, _⟩ := Option.map_eq_some_iff.1 bd_size
  go_enter Tryz.func62, Tryz.ntmps62
  go_wp2
  rw [Lib.run_neq_ptr_same w _ Tryz.underlying40 hj]
  go_wp2
  go_end0
  exact ⟨rfl, rfl⟩

set_option maxRecDepth 100000 in
theorem check_fresh (b : Nat) (w : World) (h0 : w.cell? ⟨b, 0, none⟩ = some (.pointer none)) (hsh : w.shape? b = some (42, 2)) (hfz : w.frozen? ⟨b, 0, none⟩ = false) :
    Calls Tryz.prog 62 #[.pointer (some ⟨b, 0, none⟩)] w fun e w' => e = .returned (.tuple #[]) ∧ w' = w.setCell ⟨b, 0, none⟩ (.pointer (some ⟨b, 0, none⟩)) := by
  obtain ⟨j, hj, hjs⟩ := Option.map_eq_some_iff.1 bd_size
  go_enter Tryz.func62, Tryz.ntmps62
  go_wp2
  rw [Lib.run_to_unsafe w ⟨b, 0, none⟩ Tryz.underlying40 Tryz.underlying127 hj (by rw [hjs]; decide) hsh (Nat.zero_lt_succ 1)]
  simp only [Result.andThen]
  rw [Oper.upon_value]
  go_wp2
  rw [run_callFunc_extern Tryz.func94 (by kernel_rfl) (by kernel_rfl) (by kernel_rfl) (e := Extern.AbiNoEscape.same) (by kernel_rfl)]
  rw [Lib.run_noEscape]
  simp only [Result.andThen]
  rw [Oper.upon_value]
  go_wp2
  rw [Lib.run_from_unsafe w ⟨b, 0, none⟩ Tryz.underlying127 Tryz.underlying40 hj hsh bd_lies]
  simp only [Result.andThen]
  rw [Oper.upon_value]
  go_wp2
  go_end0
  exact ⟨rfl, rfl⟩

theorem check_any (B b : Nat) (bs : List Value) (w : World) (h : Lib.IsBuilderF 42 5 B b bs w) :
    Calls Tryz.prog 62 #[.pointer (some ⟨b, 0, none⟩)] w fun e w' => e = .returned (.tuple #[]) ∧ Lib.BuilderAtF 42 5 B b (.pointer (some ⟨b, 0, none⟩)) bs w' ∧ Below B w w' := by
  rcases h with h | h
  · refine (check_fresh b w h.cell0 h.shape h.frozen0).mono ?_
    rintro e w' ⟨rfl, rfl⟩
    exact ⟨rfl, h.used _, (Below.refl B w).setCell (p := ⟨b, 0, none⟩) h.1 _⟩
  · refine (check_used b w h.cell0).mono ?_
    rintro e w' ⟨rfl, rfl⟩
    exact ⟨rfl, h, Below.refl B _⟩

set_option maxHeartbeats 2000000 in
set_option maxRecDepth 100000 in
theorem bd_byte_in (B b : Nat) (bs : List Value) (c : Int) (w : World) (h : Lib.IsBuilderF 42 5 B b bs w) (hlen : bs.length + 1 ≤ 140737488355328) (hBw : B ≤ w.heap.size) :
    Calls Tryz.prog 29 #[.pointer (some ⟨b, 0, none⟩), .int .u8 c] w fun e w' =>
      e = .returned .nilIface ∧ Lib.BuilderAtF 42 5 B b (.pointer (some ⟨b, 0, none⟩)) (bs ++ [.int .u8 c]) w' ∧ Below B w w' := by
  obtain ⟨i0, hi, hz0, hz1, hz2⟩ := info_parts bd_byte
  go_enter Tryz.func29, Tryz.ntmps29
  go_wp2_with fail
  refine (check_any B b bs _ h).mono ?_
  rintro e w1 ⟨rfl, h1, hb1⟩
  obtain ⟨hB, v, hbk, hown, hne⟩ := h1
  have c0 : w1.cell? ⟨b, 0, none⟩ = some (.pointer (some ⟨b, 0, none⟩)) := by rw [Lib.cell_of_heap hbk]; rfl
  have c1 : w1.cell? ⟨b, 1, none⟩ = some v := by rw [Lib.cell_of_heap hbk]; rfl
  go_wp2_with (at_builtin; refine wpList_append_ownF _ rfl _ _ 22 rfl B 5 i0 (.int .u8 0) 1 1 Tryz.underlying22 hi hz0 hz1 hz2 rfl (by decide) _ _ _ rfl (hown.alloc _) ⟨w1.heap.size, 0, none⟩ 1 1 [.int .u8 c] rfl rfl ?c1 ?c2 ?c3 ?c4 ?c5 ?_)
  case c1 =>
    intro j u hj
    match j, hj with
    | 0, hj => simp at hj; subst hj; simp [Addr.add]
  case c2 => intro u hu; simp at hu; subst hu; rfl
  case c3 => unfold maxLen; omega
  case c4 => omega
  case c5 => have := hb1.size; simp; omega
  intro v' w2 hown' hgrow _
  have hlt : b < w1.heap.size := (Array.getElem?_eq_some_iff.1 hbk).1
  have hb2 : w2.heap[b]? = some (.cells #[.pointer (some ⟨b, 0, none⟩), v] 42 (0, 0)) := by
    rw [hgrow.block b (by simp; omega) (fun e => hne e.symm), Lib.alloc_old w1 _ b hlt]
    exact hbk
  have d0 : w2.cell? ⟨b, 0, none⟩ = some (.pointer (some ⟨b, 0, none⟩)) := by rw [Lib.cell_of_heap hb2]; rfl
  have d1 : w2.cell? ⟨b, 1, none⟩ = some v := by rw [Lib.cell_of_heap hb2]; rfl
  have f1 : w2.frozen? ⟨b, 1, none⟩ = false := Lib.frozen_of_heap hb2 1
  obtain ⟨g, cap, rfl⟩ : ∃ g cap, v' = .slice (some ⟨g, 0, none⟩) (bs.length + 1) cap := by
    rcases hown'.2 with ⟨_, h0⟩ | ⟨g, cap, cur, fz, hv, _⟩
    · omega
    · exact ⟨g, cap, hv⟩
  go_wp2
  go_ret
  refine ⟨rfl, ?_, ?_⟩
  · exact Lib.BuilderAtF.put (T := 42) (e := 5) hB hb2 (bs' := bs ++ [.int .u8 c]) (by simpa using hown') (by decide)
  · exact ((hb1.alloc (by have := hb1.size; omega) _).grown hgrow (by have := hb1.size; simp; omega) (fun k hk => (hown.lt k hk).1)).setCell (p := ⟨b, 1, none⟩) hB _

set_option maxHeartbeats 2000000 in
set_option maxRecDepth 100000 in
theorem bd_text_in (B b : Nat) (bs : List Value) (s : ByteArray) (w : World) (h : Lib.IsBuilderF 42 5 B b bs w) (hlen : bs.length + s.size ≤ 140737488355328) (hBw : B ≤ w.heap.size) :
    Calls Tryz.prog 30 #[.pointer (some ⟨b, 0, none⟩), .string s] w fun e w' =>
      e = .returned (.tuple #[.int .i64 s.size, .nilIface]) ∧ Lib.BuilderAtF 42 5 B b (.pointer (some ⟨b, 0, none⟩)) (bs ++ Lib.strCells s) w' ∧ Below B w w' := by
  obtain ⟨i0, hi, hz0, hz1, hz2⟩ := info_parts bd_byte
  go_enter Tryz.func30, Tryz.ntmps30
  go_wp2_with fail
  refine (check_any B b bs _ h).mono ?_
  rintro e w1 ⟨rfl, h1, hb1⟩
  obtain ⟨hB, v, hbk, hown, hne⟩ := h1
  have c0 : w1.cell? ⟨b, 0, none⟩ = some (.pointer (some ⟨b, 0, none⟩)) := by rw [Lib.cell_of_heap hbk]; rfl
  have c1 : w1.cell? ⟨b, 1, none⟩ = some v := by rw [Lib.cell_of_heap hbk]; rfl
  go_wp2_with (at_builtin; refine Lib.wpList_append_own_stringF _ rfl _ _ 22 9 rfl B 5 i0 Tryz.underlying22 Tryz.underlying9 hi hz0 hz1 hz2 _ _ _ rfl hown s rfl ?c3 ?c4 ?c5 ?_)
  case c3 => unfold maxLen; omega
  case c4 => omega
  case c5 => have := hb1.size; omega
  intro v' w2 hown' hgrow _
  have hlt : b < w1.heap.size := (Array.getElem?_eq_some_iff.1 hbk).1
  have hb2 : w2.heap[b]? = some (.cells #[.pointer (some ⟨b, 0, none⟩), v] 42 (0, 0)) := by
    rw [hgrow.block b hlt (fun e => hne e.symm)]
    exact hbk
  have d0 : w2.cell? ⟨b, 0, none⟩ = some (.pointer (some ⟨b, 0, none⟩)) := by rw [Lib.cell_of_heap hb2]; rfl
  have d1 : w2.cell? ⟨b, 1, none⟩ = some v := by rw [Lib.cell_of_heap hb2]; rfl
  have f1 : w2.frozen? ⟨b, 1, none⟩ = false := Lib.frozen_of_heap hb2 1
  obtain ⟨ao, n', cap, rfl⟩ : ∃ ao n' cap, v' = .slice ao n' cap := by
    rcases hown'.2 with ⟨hv, _⟩ | ⟨g, cap, cur, fz, hv, _⟩
    · exact ⟨_, _, _, hv⟩
    · exact ⟨_, _, _, hv⟩
  go_wp2
  go_ret2
  refine ⟨rfl, ?_, ?_⟩
  · exact Lib.BuilderAtF.put (T := 42) (e := 5) hB hb2 (bs' := bs ++ Lib.strCells s) (by simpa [Lib.strCells_length] using hown') (by decide)
  · exact (hb1.grown hgrow (by have := hb1.size; omega) (fun k hk => (hown.lt k hk).1)).setCell (p := ⟨b, 1, none⟩) hB _
end

section
open Go.ChangeShapes Go.WideShapes Go.ChangeAt Go.RowKit

set_option maxHeartbeats 2000000 in
set_option maxRecDepth 20000 in
theorem impl_unlex (a : Option Addr) (g cap : Nat) (ts : List Tok) (hne : 0 < ts.length → a = some ⟨g, 0, none⟩) (hl : ts.length ≤ 1048576) (hsz : lens ts ts.length ≤ 1048576)
    (w : World) (hT : TokAt w g ts) :
    Calls Tryz.prog 14 #[.slice a ts.length cap] w fun e w' => e = .returned (.string (ulxS ts)) ∧ Below w.heap.size w w' := by
  go_enter Tryz.func14, Tryz.ntmps14
  go_wp2
  go_loopw [4] (fun i wr => ∃ k : Nat, k ≤ ts.length ∧ k ≤ 4000 ∧ i = .int .i64 k ∧ Lib.IsBuilderF 42 5 w.heap.size w.heap.size (Lib.byteCells (ulx ts k)) wr ∧ Below w.heap.size w wr) (fun i _ => 4001 - (intOf i).toNat)
  case atStart => exact ⟨0, by omega, by omega, rfl, Lib.IsBuilderF.of (Lib.fresh_isBuilder 42 5 w), (Below.refl _ w).alloc (Nat.le_refl _) _⟩
  case round =>
    obtain ⟨k, hk, hk4, rfl, hI, hb⟩ := hrel
    by_cases hin : k < ts.length ∧ k < 4000
    · obtain ⟨hkl, hk4'⟩ := hin
      have hgw : g < w.heap.size := cell_lt' (hT k hkl).c0
      have hTr := hT.below hb hgw
      have e1 : (k : Int) < ts.length := by omega
      have e2 : (k : Int) < 4000 := by omega
      obtain rfl := hne (by omega)
      have t := hTr k hkl
      have q0 : wr.cell? ⟨g, k * 4, none⟩ = some (.int .i64 (kindOf ts k)) := t.c0
      have q1 : wr.cell? ⟨g, k * 4 + 1, none⟩ = some (.string (textOf ts k)) := t.c1
      have hl1 : (ulx ts (k + 1)).length ≤ 2097153 := by
        have h1 := ulx_length ts (k + 1)
        have h2 := lens_mono ts (show k + 1 ≤ ts.length by omega)
        omega
      have hsize := hb.size
      have hts : (textOf ts k).data.toList.length = (textOf ts k).size := by rw [Array.length_toList]; rfl
      have hl2 : Hid ((ulx ts k).length + (gap ts k).length + (textOf ts k).size ≤ 2097153) := by
        show (ulx ts k).length + (gap ts k).length + (textOf ts k).size ≤ 2097153
        simp only [ulx, List.length_append, hts] at hl1
        exact hl1
      have HU : Hid (ulx ts (k + 1) = ulx ts k ++ gap ts k ++ (textOf ts k).data.toList) := rfl
      have P0 : 0 < k → wr.cell? ⟨g, (k - 1) * 4, none⟩ = some (.int .i64 (kindOf ts (k - 1))) := fun h => (hTr (k - 1) (by omega)).c0
      clear t hts hl1 hT hTr
      by_cases h0 : k = 0
      · subst h0
        have hg : gap ts 0 = [] := by simp [gap]
        rw [hg] at HU hl2
        clear P0
        have hl3 := hl2.out
        simp only [List.length_nil] at hl3
        have HL3 : Hid ((ulx ts 0).length + 0 + (textOf ts 0).size ≤ 2097153) := hl3
        clear hl3 hg
        go_wp2_with fail
        refine (bd_text_in _ _ _ _ wr hI (by rw [Lib.byteCells_length]; have := HL3.out; omega) hsize).mono ?_
        rintro e w1 ⟨rfl, hI1, hb1⟩
        go_wp2
        go_roundw
        case rel =>
          refine ⟨1, by omega, by omega, rfl, ?_, hb.trans hb1⟩
          rw [HU.out, List.append_nil, Lib.byteCells_append]
          exact Or.inr (by simpa [Lib.strCells, Lib.byteCells] using hI1)
        case measure => simp [intOf]
      · have h0' : (0 : Int) < k := by omega
        have p0 := P0 (by omega)
        clear P0
        have HG : Hid (gap ts k = if kindOf ts (k - 1) ≠ 1 ∧ kindOf ts k ≠ 2 then [32] else []) := by
          show gap ts k = _
          unfold gap
          by_cases hc : kindOf ts (k - 1) ≠ 1 ∧ kindOf ts k ≠ 2
          · rw [if_pos ⟨by omega, hc⟩, if_pos hc]
          · rw [if_neg (fun h => hc h.2), if_neg hc]
        generalize kindOf ts (k - 1) = x at *
        generalize kindOf ts k = y at *
        by_cases hx : x = 1
        · subst hx
          rw [if_neg (fun h => h.1 rfl)] at HG
          go_wp2_with fail
          refine (bd_text_in _ _ _ _ wr hI (by rw [Lib.byteCells_length]; have := hl2.out; omega) hsize).mono ?_
          rintro e w1 ⟨rfl, hI1, hb1⟩
          go_wp2
          go_roundw
          case rel =>
            refine ⟨k + 1, by omega, by omega, by go_num, ?_, hb.trans hb1⟩
            rw [HU.out, HG.out, List.append_nil, Lib.byteCells_append]
            exact Or.inr (by simpa [Lib.strCells, Lib.byteCells] using hI1)
          case measure => simp [intOf]; omega
        · have hx' : (x != 1) = true := by simpa using hx
          by_cases hy : y = 2
          · subst hy
            rw [if_neg (fun h => h.2 rfl)] at HG
            go_wp2_with fail
            refine (bd_text_in _ _ _ _ wr hI (by rw [Lib.byteCells_length]; have := hl2.out; omega) hsize).mono ?_
            rintro e w1 ⟨rfl, hI1, hb1⟩
            go_wp2
            go_roundw
            case rel =>
              refine ⟨k + 1, by omega, by omega, by go_num, ?_, hb.trans hb1⟩
              rw [HU.out, HG.out, List.append_nil, Lib.byteCells_append]
              exact Or.inr (by simpa [Lib.strCells, Lib.byteCells] using hI1)
            case measure => simp [intOf]; omega
          · have hy' : (y != 2) = true := by simpa using hy
            rw [if_pos ⟨hx, hy⟩] at HG
            have HL : Hid ((ulx ts k).length + 1 + (textOf ts k).size ≤ 2097153) := by
              have h := hl2.out
              rw [HG.out] at h
              exact h
            clear hl2
            go_wp2_with fail
            refine (bd_byte_in _ _ _ 32 wr hI (by rw [Lib.byteCells_length]; have := HL.out; omega) hsize).mono ?_
            rintro e w1 ⟨rfl, hI1, hb1⟩
            have q2 : w1.cell? ⟨g, k * 4 + 1, none⟩ = some (.string (textOf ts k)) := (World.cell?_of_block (hb1.block g hgw)).trans q1
            have hsize1 := hb1.size
            clear q0 q1 p0
            go_wp2_with fail
            refine (bd_text_in _ _ _ _ w1 (Or.inr hI1) (by rw [List.length_append, Lib.byteCells_length]; have := HL.out; simp only [List.length_cons, List.length_nil]; omega) (by omega)).mono ?_
            rintro e w2 ⟨rfl, hI2, hb2⟩
            go_wp2
            go_roundw
            case rel =>
              refine ⟨k + 1, by omega, by omega, by go_num, ?_, (hb.trans hb1).trans hb2⟩
              rw [HU.out, HG.out, Lib.byteCells_append, Lib.byteCells_append]
              exact Or.inr (by simpa [Lib.strCells, Lib.byteCells] using hI2)
            case measure => simp [intOf]; omega
    · have hend : k = min ts.length 4000 := by omega
      have hsize := hb.size
      have HR : Hid (ulxS ts = ⟨(ulx ts k).toArray⟩) := by
        show ulxS ts = _
        rw [ulxS, ← hend]
      clear hend hl hsz hT
      by_cases hkl : k < ts.length
      · have e1 : (k : Int) < ts.length := by omega
        have e2 : (4000 : Int) ≤ k := by omega
        clear hin hk4 hk
        go_wp2_with fail
        refine (Tryz.Builder_String_any_k _ _ _ wr hI hsize).mono ?_
        rintro e w1 ⟨rfl, _, hb1, _⟩
        go_wp2
        go_ret
        exact ⟨by rw [HR.out]; rfl, hb.trans hb1⟩
      · have e1 : (ts.length : Int) ≤ k := by omega
        clear hin hk4 hk
        go_wp2_with fail
        refine (Tryz.Builder_String_any_k _ _ _ wr hI hsize).mono ?_
        rintro e w1 ⟨rfl, _, hb1, _⟩
        go_wp2
        go_ret
        exact ⟨by rw [HR.out]; rfl, hb.trans hb1⟩
end

section
open Go.ChangeShapes Go.WideShapes Go.ChangeAt Go.RowKit

/-- Are two nodes the same, field by field? -/
def nodSame (x y : Nod) : Bool := x.kind == y.kind && x.a == y.a && x.b == y.b && x.c == y.c && x.n == y.n && x.name.toList == y.name.toList && x.other.toList == y.other.toList

theorem nod_bytes_ext {a b : ByteArray} (h : a.toList = b.toList) : a = b := by
  rw [ByteArray.toList_eq, ByteArray.toList_eq] at h
  cases a; cases b
  simp only at h
  congr 1
  exact Array.toList_inj.1 h

theorem nodSame_iff (x y : Nod) : nodSame x y = true ↔ x = y := by
  constructor
  · intro h
    simp only [nodSame, Bool.and_eq_true, beq_iff_eq] at h
    obtain ⟨⟨⟨⟨⟨⟨h0, h1⟩, h2⟩, h3⟩, h4⟩, h5⟩, h6⟩ := h
    have h5 := nod_bytes_ext h5
    have h6 := nod_bytes_ext h6
    cases x; cases y
    simp_all
  · rintro rfl
    simp [nodSame]

theorem nod_neq (x y : Nod) (w : World) : (binOp .neq 58 (.agg (nodCells x).toArray) (.agg (nodCells y).toArray)).run Tryz.prog w = .ok (.bool (!nodSame x y)) w := by
  have hu : Tryz.prog.underlying 58 = some (.struct (Tryz.prog.fieldsOf 58)) := by kernel_rfl
  rw [run_neq_struct, run_equalIn_agg _ _ _ _ _ hu (by kernel_rfl)]
  obtain ⟨x0, x1, x2, x3, x4, x5, x6⟩ := x
  obtain ⟨y0, y1, y2, y3, y4, y5, y6⟩ := y
  simp only [Program.fieldsOf, Tryz.underlying58, nodCells, nodSame]
  simp [go_sem, Op.eqFields, Tryz.underlying3, Tryz.underlying9]
  repeat' split
  all_goals simp [*]

theorem nod_eql (x y : Nod) (w : World) : (binOp .eql 58 (.agg (nodCells x).toArray) (.agg (nodCells y).toArray)).run Tryz.prog w = .ok (.bool (nodSame x y)) w := by
  have hu : Tryz.prog.underlying 58 = some (.struct (Tryz.prog.fieldsOf 58)) := by kernel_rfl
  rw [run_eql_struct, run_equalIn_agg _ _ _ _ _ hu (by kernel_rfl)]
  obtain ⟨x0, x1, x2, x3, x4, x5, x6⟩ := x
  obtain ⟨y0, y1, y2, y3, y4, y5, y6⟩ := y
  simp only [Program.fieldsOf, Tryz.underlying58, nodCells, nodSame]
  simp [go_sem, Op.eqFields, Tryz.underlying3, Tryz.underlying9]
  repeat' split
  all_goals simp [*]

/-- Are two lists of nodes the same? -/
def sameNod (ts us : List Nod) : Bool := ts.length == us.length && (List.range ts.length).all fun i => nodSame (ts.getD i noNod) (us.getD i noNod)

theorem sameNod_yes {ts us : List Nod} (hl : ts.length = us.length) (h : ∀ j, j < ts.length → nodSame (ts.getD j noNod) (us.getD j noNod) = true) : sameNod ts us = true := by
  simp only [sameNod, hl, beq_self_eq_true, Bool.true_and, List.all_eq_true, List.mem_range]
  intro j hj
  exact h j (by omega)

theorem sameNod_no {ts us : List Nod} {j : Nat} (hj : j < ts.length) (h : nodSame (ts.getD j noNod) (us.getD j noNod) = false) : sameNod ts us = false := by
  cases hs : sameNod ts us with
  | false => rfl
  | true =>
    simp only [sameNod, Bool.and_eq_true, List.all_eq_true, List.mem_range] at hs
    rw [hs.2 j hj] at h
    cases h

theorem sameNod_len {ts us : List Nod} (h : ¬ ts.length = us.length) : sameNod ts us = false := by
  simp [sameNod, h]
end

section
open Go.ChangeShapes Go.WideShapes Go.ChangeAt Go.RowKit

set_option maxHeartbeats 2000000 in
set_option maxRecDepth 20000 in
theorem equal_same (a b : Option Addr) (g h ca cb : Nat) (ts us : List Nod) (hl : ts.length ≤ 1048576) (hl2 : us.length ≤ 1048576) (ha : 0 < ts.length → a = some ⟨g, 0, none⟩) (hb : 0 < us.length → b = some ⟨h, 0, none⟩) (w : World) (hA : NodAt w g ts) (hB : NodAt w h us) :
    Calls Tryz.prog 23 #[.slice a ts.length ca, .slice b us.length cb] w fun e w' => e = .returned (.bool (sameNod ts us)) ∧ Below w.heap.size w w' := by
  have HA : Hid (NodAt w g ts) := hA
  have HB : Hid (NodAt w h us) := hB
  clear hA hB
  by_cases hlen : ts.length = us.length
  · have HL : Hid (ts.length = us.length) := hlen
    rw [← hlen]
    clear hlen
    go_enter Tryz.func23, Tryz.ntmps23
    go_wp2
    go_loopw [13] (fun i wr => ∃ k : Nat, k ≤ ts.length ∧ i = .int .i64 k ∧ Hid (∀ j, j < k → nodSame (ts.getD j noNod) (us.getD j noNod) = true) ∧ Below w.heap.size w wr) (fun i _ => ts.length - (intOf i).toNat)
    case atStart => exact ⟨0, by omega, rfl, (fun j hj => absurd hj (by omega)), Below.refl _ _⟩
    case round =>
      obtain ⟨k, hk, rfl, HJ, hbl⟩ := hrel
      by_cases hin : k < ts.length
      · have e1 : (k : Int) < ts.length := by omega
        obtain rfl := ha (by omega)
        obtain rfl := hb (by have := HL.out; omega)
        have t := (HA.out.below hbl (fun h => HA.out.lt h)) k hin
        have u := (HB.out.below hbl (fun h => HB.out.lt h)) k (by have := HL.out; omega)
        have HN : Hid (∀ v : Bool, nodSame (ts.getD k noNod) (us.getD k noNod) = v → (v = true → ∀ j, j < k + 1 → nodSame (ts.getD j noNod) (us.getD j noNod) = true) ∧ (v = false → sameNod ts us = false)) := by
          intro v hv
          refine ⟨fun h j hj => ?_, fun h => sameNod_no hin (by rw [hv]; exact h)⟩
          rcases Nat.lt_or_ge j k with hl | hg
          · exact HJ.out j hl
          · obtain rfl : j = k := by omega
            rw [hv]; exact h
        have hq := nod_neq (ts.getD k noNod) (us.getD k noNod)
        obtain ⟨v, hv⟩ : ∃ v, nodSame (ts.getD k noNod) (us.getD k noNod) = v := ⟨_, rfl⟩
        have HN' := HN.out v hv
        rw [hv] at hq
        clear HN hv
        generalize ts.getD k noNod = x at t hq
        generalize us.getD k noNod = y at u hq
        obtain ⟨x0, x1, x2, x3, x4, x5, x6⟩ := x
        obtain ⟨y0, y1, y2, y3, y4, y5, y6⟩ := y
        have HN2 : Hid ((v = true → ∀ j, j < k + 1 → nodSame (ts.getD j noNod) (us.getD j noNod) = true) ∧ (v = false → sameNod ts us = false)) := HN'
        clear HN'
        have q0 : wr.cell? ⟨g, k * 7, none⟩ = some (.int .i64 x0) := t.c0
        have r0 : wr.cell? ⟨h, k * 7, none⟩ = some (.int .i64 y0) := u.c0
        have q1 : wr.cell? ⟨g, k * 7 + 1, none⟩ = some (.int .i64 x1) := t.c1
        have r1 : wr.cell? ⟨h, k * 7 + 1, none⟩ = some (.int .i64 y1) := u.c1
        have q2 : wr.cell? ⟨g, k * 7 + 2, none⟩ = some (.int .i64 x2) := t.c2
        have r2 : wr.cell? ⟨h, k * 7 + 2, none⟩ = some (.int .i64 y2) := u.c2
        have q3 : wr.cell? ⟨g, k * 7 + 3, none⟩ = some (.int .i64 x3) := t.c3
        have r3 : wr.cell? ⟨h, k * 7 + 3, none⟩ = some (.int .i64 y3) := u.c3
        have q4 : wr.cell? ⟨g, k * 7 + 4, none⟩ = some (.int .i64 x4) := t.c4
        have r4 : wr.cell? ⟨h, k * 7 + 4, none⟩ = some (.int .i64 y4) := u.c4
        have q5 : wr.cell? ⟨g, k * 7 + 5, none⟩ = some (.string x5) := t.c5
        have r5 : wr.cell? ⟨h, k * 7 + 5, none⟩ = some (.string y5) := u.c5
        have q6 : wr.cell? ⟨g, k * 7 + 6, none⟩ = some (.string x6) := t.c6
        have r6 : wr.cell? ⟨h, k * 7 + 6, none⟩ = some (.string y6) := u.c6
        have hq' : ∀ w : World, (binOp .neq 58 (.agg #[.int .i64 x0, .int .i64 x1, .int .i64 x2, .int .i64 x3, .int .i64 x4, .string x5, .string x6]) (.agg #[.int .i64 y0, .int .i64 y1, .int .i64 y2, .int .i64 y3, .int .i64 y4, .string y5, .string y6])).run Tryz.prog w = .ok (.bool (!v)) w := hq
        clear t u hq
        cases v
        · have HF : Hid (sameNod ts us = false) := HN2.out.2 rfl
          clear HN2
          go_wp2
          go_quiet (fail)
          go_wp2
          go_ret
          exact ⟨by rw [HF.out]; rfl, below_drew_n hbl _⟩
        · have HT : Hid (∀ j, j < k + 1 → nodSame (ts.getD j noNod) (us.getD j noNod) = true) := HN2.out.1 rfl
          clear HN2
          go_wp2
          go_quiet (fail)
          go_wp2
          go_roundw
          case rel => exact ⟨k + 1, by omega, by go_num, HT.out, below_drew_n hbl _⟩
          case measure => simp [intOf]; omega
      · go_wp2
        go_ret
        exact ⟨by rw [sameNod_yes HL.out (fun j hj => HJ.out j (by omega))]; rfl, hbl⟩
  · have HN : Hid (sameNod ts us = false) := sameNod_len hlen
    have hlen' : ¬ (ts.length : Int) = us.length := by omega
    go_enter Tryz.func23, Tryz.ntmps23
    go_wp2
    go_ret
    exact ⟨by rw [HN.out]; rfl, Below.refl _ _⟩

theorem impl_same (a b : Option Addr) (g h ca cb : Nat) (ts us : List Nod) (hl : ts.length ≤ 1048576) (hl2 : us.length ≤ 1048576) (ha : 0 < ts.length → a = some ⟨g, 0, none⟩) (hb : 0 < us.length → b = some ⟨h, 0, none⟩) (w : World) (hA : NodAt w g ts) (hB : NodAt w h us) :
    Calls Tryz.prog 9 #[.slice a ts.length ca, .slice b us.length cb] w fun e w' => e = .returned (.bool (sameNod ts us)) ∧ Below w.heap.size w w' := by
  have HI : Hid (Calls Tryz.prog 23 #[.slice a ts.length ca, .slice b us.length cb] w fun e w' => e = .returned (.bool (sameNod ts us)) ∧ Below w.heap.size w w') := equal_same a b g h ca cb ts us hl hl2 ha hb w hA hB
  clear hA hB
  go_enter Tryz.func9, Tryz.ntmps9
  go_wp2_with fail
  refine HI.out.mono ?_
  rintro e w1 ⟨rfl, hb1⟩
  go_wp2
  go_ret
  exact ⟨rfl, hb1⟩
end

section
open Go.ChangeShapes Go.WideShapes Go.ChangeAt Go.RowKit

theorem own_slice {w : World} {B : Nat} {v : Value} {ts : List Tok} (h : ownT w B v ts) :
    ∃ (a : Option Addr) (g cap : Nat), v = .slice a ts.length cap ∧ (0 < ts.length → a = some ⟨g, 0, none⟩) ∧ TokAt w g ts ∧ (0 < ts.length → g < w.heap.size) := by
  rcases h.2 with ⟨rfl, h0⟩ | ⟨g, cap, cur, rfl, hb, hg, hn, hm, hs, ht⟩
  · rw [h0]
    have e : ts = [] := List.length_eq_zero_iff.1 h0
    subst e
    exact ⟨none, B, 0, rfl, fun h => absurd h (by omega), fun i hi => absurd hi (by simp), fun h => absurd h (by omega)⟩
  · exact ⟨some ⟨g, 0, none⟩, g, cap, rfl, fun _ => rfl, tokAt_own h rfl, fun _ => (Array.getElem?_eq_some_iff.1 hg).1⟩

theorem same_self (ts : List Nod) : sameNod ts ts = true := sameNod_yes rfl (fun j _ => (nodSame_iff _ _).2 rfl)

theorem row_lowP {w : World} {a : Option Addr} {len cap : Nat} {zs : List Int} (h : IsRow w a len cap zs) {w' : World} (hb : Below w.heap.size w w') : IsRow w' a len cap zs := by
  rcases h with h | ⟨x, rfl, h1, h2, h3, h4, h5⟩
  · exact Or.inl h
  · exact Or.inr ⟨x, rfl, h1, h2, h3, fun i hi => (hb.cell (World.block_lt_of_cell? _ _ (h4 i hi))).trans (h4 i hi), h5⟩

def rmP : ByteArray := ⟨#[35, 32, 97, 32, 114, 101, 109, 97, 114, 107, 10, 32]⟩
def rmQ : ByteArray := ⟨#[32, 10, 35, 32, 97, 110, 111, 116, 104, 101, 114]⟩

/-- What the first draw must give. -/
def DrawsP (w : World) (e : Ending) (w' : World) : Prop := ∃ (al : Option Addr) (g c : Nat) (l : List Nod), e = .returned (.slice al l.length c) ∧ (0 < l.length → al = some ⟨g, 0, none⟩) ∧ NodAt w' g l ∧ l.length ≤ 1200 ∧
  (∀ i, i < l.length → (l.getD i noNod).name.size ≤ maxLen ∧ (l.getD i noNod).other.size ≤ maxLen) ∧ Below w.heap.size w w'

set_option maxHeartbeats 4000000 in
set_option maxRecDepth 20000 in
theorem parsed_walk (a : Option Addr) (len cap : Nat) (zs : List Int) (w : World) (hrow : IsRow w a len cap zs) (hl : ¬ (1048576 : Int) < len) (hv : Vars w)
    (hD : Calls Tryz.prog 5 #[.slice a len cap] w (DrawsP w)) (hE : ∀ w', Below w.heap.size w w' → Calls Tryz.prog 10 #[.slice a len cap] w' fun e w'' => ∃ S : ByteArray, S.size ≤ 3100 ∧ e = .returned (.string S) ∧ Below w'.heap.size w' w'') :
    Calls Tryz.prog 3 #[.slice a len cap] w fun e w' => e = .returned (.bool true) ∧ Below w.heap.size w w' := by
  have HR : Hid (IsRow w a len cap zs) := hrow
  have HV : Hid (Vars w) := hv
  have HD := hidI hD
  have HE : Hid (∀ w', Below w.heap.size w w' → Calls Tryz.prog 10 #[.slice a len cap] w' fun e w'' => ∃ S : ByteArray, S.size ≤ 3100 ∧ e = .returned (.string S) ∧ Below w'.heap.size w' w'') := hE
  clear hrow hv hD hE
  go_enter Tryz.func3, Tryz.ntmps3
  go_wp2_with fail
  refine (big_at a len cap false (decide_eq_false (by omega)) w).mono ?_
  rintro e w ⟨rfl, rfl⟩
  go_wp2_with fail
  refine HD.out.mono ?_
  rintro e w1 ⟨al, g, c, l, rfl, hal, hA, hll, hT, b1⟩
  have B1 : Hid (Below w.heap.size w w1) := b1
  have V1 : Hid (Vars w1) := HV.out.kept b1
  have HT : Hid (∀ i, i < l.length → (l.getD i noNod).name.size ≤ maxLen ∧ (l.getD i noNod).other.size ≤ maxLen) := hT
  have HA : Hid (∀ W, Below w1.heap.size w1 W → NodAt W g l) := fun W hW => hA.below hW (fun h => hA.lt h)
  have HL : Hid (0 < l.length → al = some ⟨g, 0, none⟩) := hal
  have CP := hidI <| impl_print al g c l hal (by omega) HT.out w1 V1.out.1 hA
  have hz := printB_size l
  have s1 := b1.size
  clear hal hA hT b1 HV HD
  cases hok : nodesB l
  · have hP := print_no hok
    rw [hP] at CP
    obtain ⟨P, hP2⟩ : ∃ P : ByteArray, (⟨#[]⟩ : ByteArray) = P := ⟨_, rfl⟩
    rw [hP2] at CP
    have hz : P.size ≤ 2541 := by rw [← hP2]; decide
    have hne : P.toList.isEmpty = true := by rw [← hP2, ByteArray.toList_eq]; rfl
    clear hP hP2
    go_wp2_with fail
    refine CP.out.mono ?_
    rintro e w2 ⟨rfl, b2⟩
    have B2 : Hid (Below w1.heap.size w1 w2) := b2
    have V2 : Hid (Vars w2) := V1.out.kept b2
    have s2 := b2.size
    have hz1 : (⟨#[35, 32, 97, 32, 114, 101, 109, 97, 114, 107, 10, 32]⟩ : ByteArray).size = 12 := rfl
    have hz2 : (⟨#[32, 10, 35, 32, 97, 110, 111, 116, 104, 101, 114]⟩ : ByteArray).size = 11 := rfl
    have CQ := hidI <| impl_parse (⟨#[35, 32, 97, 32, 114, 101, 109, 97, 114, 107, 10, 32]⟩ ++ P ++ ⟨#[32, 10, 35, 32, 97, 110, 111, 116, 104, 101, 114]⟩) (by rw [ByteArray.size_append, ByteArray.size_append, hz1, hz2]; omega) w2 V2.out
    clear b2 CP V1
    go_wp2_with fail
    refine CQ.out.mono ?_
    rintro e w3 ⟨⟨us, n, v3, hx, ho, he⟩, b3⟩
    have B3 : Hid (Below w1.heap.size w1 w3) := B2.out.trans (b3.mono s2)
    have V3 : Hid (Vars w3) := V2.out.kept b3
    have CN := hidI <| spec_nodes al g c l HL.out (by omega) HT.out w3 (HA.out w3 B3.out)
    have s3 := B3.out.size
    rw [hok] at CN
    obtain ⟨Rm, Rc, Rq, hR⟩ : ∃ m c q, parseR us n (⟨#[35, 32, 97, 32, 114, 101, 109, 97, 114, 107, 10, 32]⟩ ++ P ++ ⟨#[32, 10, 35, 32, 97, 110, 111, 116, 104, 101, 114]⟩ : ByteArray).size = (m, c, q) := ⟨_, _, _, rfl⟩
    rw [hR] at ho he
    dsimp only at ho he
    subst he
    clear hx ho b3 CQ hR V2
    go_wp2_with fail
    refine CN.out.mono ?_
    rintro e wk ⟨rfl, bk⟩
    have BK : Hid (Below w.heap.size w wk) := B1.out.trans ((B3.out.trans (bk.mono s3)).mono s1)
    have VK : Hid (Vars wk) := V3.out.kept bk
    clear bk CN V3
    go_wp2_with fail
    refine (HE.out wk BK.out).mono ?_
    rintro e w5 ⟨t, ht, rfl, b5⟩
    have B5 : Hid (Below w.heap.size w w5) := BK.out.trans (b5.mono BK.out.size)
    have V5 : Hid (Vars w5) := VK.out.kept b5
    have s5 := B5.out.size
    have C6 := hidI <| impl_parse t (by omega) w5 V5.out
    clear b5 VK
    go_wp2_with fail
    refine C6.out.mono ?_
    rintro e w6 ⟨⟨us, n, v6, hx, ho, he⟩, b6⟩
    have HX : Hid (Lexes t us n) := hx
    obtain ⟨m, c6, q6, hR⟩ : ∃ m c q, parseR us n t.size = (m, c, q) := ⟨_, _, _, rfl⟩
    have HF := hidI <| text_facts (by omega) hx hR
    have HRR : Hid (parseR us n t.size = (m, c6, q6)) := hR
    rw [hR] at ho he
    dsimp only at ho he
    subst he
    obtain ⟨a6, g6, k6, sp6, rfl, ha6, hA6, _⟩ := ownNod_form ho
    have HA6 : Hid (∀ W, Below w6.heap.size w6 W → NodAt W g6 m) := fun W hW => hA6.below hW (fun h => hA6.lt h)
    have HL6 : Hid (0 < m.length → a6 = some ⟨g6, 0, none⟩) := ha6
    have B6 : Hid (Below w.heap.size w w6) := B5.out.trans (b6.mono s5)
    have V6 : Hid (Vars w6) := V5.out.kept b6
    have s6 := B6.out.size
    have C7 := hidI <| spec_parse t (by omega) w6
    clear hx ho hR ha6 hA6 b6 C6 V5
    go_wp2_with fail
    refine C7.out.mono ?_
    rintro e w7 ⟨⟨us', n', v7, hx', _, he⟩, b7⟩
    obtain ⟨rfl, rfl⟩ := lexes_one HX.out hx'
    rw [HRR.out] at he
    dsimp only at he
    subst he
    have B7 : Hid (Below w6.heap.size w6 w7) := b7
    have V7 : Hid (Vars w7) := V6.out.kept b7
    have s7 := b7.size
    have C8 := hidI <| impl_parses t (by omega) w7 V7.out
    have f1 : ¬ q6 < 0 := by have := HF.out.1; omega
    have f2 : ¬ (t.size : Int) < q6 := by have := HF.out.2.1; omega
    clear hx' b7 C7 V6
    go_wp2_with fail
    refine C8.out.mono ?_
    rintro e w8 ⟨⟨us', n', hx', he⟩, b8⟩
    obtain ⟨rfl, rfl⟩ := lexes_one HX.out hx'
    rw [HRR.out] at he
    dsimp only at he
    have B8 : Hid (Below w6.heap.size w6 w8) := B7.out.trans (b8.mono s7)
    have V8 : Hid (Vars w8) := V7.out.kept b8
    have s8 := B8.out.size
    clear hx' b8 C8 V7
    by_cases hc : c6 = 0
    · subst hc
      rw [show decide ((0 : Int) = 0) = true from rfl] at he
      subst he
      obtain ⟨hn, hok2, hul, hle, hux, husz, vs, hvx, hvp⟩ := HF.out.2.2.2 rfl
      subst hn
      obtain ⟨m1, m2⟩ := node_count hok2
      obtain rfl := HL6.out (by omega)
      have HN : Hid (nodesB m = true) := hok2
      obtain ⟨U, hU⟩ : ∃ U, ulxS us = U := ⟨_, rfl⟩
      rw [hU] at hux husz hvx
      have HUS : Hid (ulxS us = U) := hU
      have HUP : Hid (printB m = U) := hux.symm
      have HVX : Hid (Lexes U vs (-1) ∧ ∀ E, parseE vs E = (m, 0, 0)) := ⟨hvx, hvp⟩
      have HLE : Hid (lens us us.length ≤ 4000) := hle
      have C9 := hidI <| impl_lex t (by omega) w8 V8.out
      clear hok2 hle hux hvx hvp hU HF
      go_wp2_with fail
      refine C9.out.mono ?_
      rintro e w9 ⟨⟨us', n', v9, hx', ho9, he⟩, b9⟩
      obtain ⟨rfl, rfl⟩ := lexes_one HX.out hx'
      subst he
      obtain ⟨a9, g9, k9, rfl, ha9, hT9, hl9⟩ := own_slice ho9
      have B9 : Hid (Below w6.heap.size w6 w9) := B8.out.trans (b9.mono s8)
      have V9 : Hid (Vars w9) := V8.out.kept b9
      have s9 := B9.out.size
      have CU : Hid (∀ W, Below w9.heap.size w9 W → Calls Tryz.prog 14 #[.slice a9 us.length k9] W fun e w' => e = .returned (.string U) ∧ Below W.heap.size W w') := fun W hW => by
        have := impl_unlex a9 g9 k9 us ha9 (by omega) (by have := HLE.out; omega) W (fun i hi => hT9.below hW (hl9 (by omega)) i hi)
        rw [HUS.out] at this
        exact this
      clear hx' ho9 ha9 hT9 hl9 b9 C9 V8
      go_wp2_with fail
      refine (CU.out w9 (Below.refl _ _)).mono ?_
      rintro e w10 ⟨rfl, b10⟩
      have B10 : Hid (Below w9.heap.size w9 w10) := b10
      have V10 : Hid (Vars w10) := V9.out.kept b10
      have s10 := b10.size
      have C11 := hidI <| impl_parse U (by omega) w10 V10.out
      clear b10 V9
      go_wp2_with fail
      refine C11.out.mono ?_
      rintro e w11 ⟨⟨us', n', v11, hx', ho11, he⟩, b11⟩
      obtain ⟨rfl, rfl⟩ := lexes_one HVX.out.1 hx'
      have hR4 : ∀ E : Int, parseR vs (-1) E = (m, 0, 0) := fun E => by rw [parseR, if_neg (by decide)]; exact HVX.out.2 E
      rw [hR4] at ho11 he
      dsimp only at ho11 he
      subst he
      obtain ⟨a11, g11, k11, sp11, rfl, ha11, hA11, _⟩ := ownNod_form ho11
      have B11 : Hid (Below w9.heap.size w9 w11) := B10.out.trans (b11.mono s10)
      have V11 : Hid (Vars w11) := V10.out.kept b11
      have s11 := B11.out.size
      have C12 := hidI <| impl_same (some ⟨g6, 0, none⟩) a11 g6 g11 k6 k11 m m (by omega) (by omega) (fun _ => rfl) ha11 w11 (HA6.out w11 (B9.out.trans (B11.out.mono s9))) hA11
      rw [same_self] at C12
      clear hx' ho11 hR4 ha11 hA11 b11 C11 V10
      go_wp2_with fail
      refine C12.out.mono ?_
      rintro e w12 ⟨rfl, b12⟩
      have B12 : Hid (Below w9.heap.size w9 w12) := B11.out.trans (b12.mono s11)
      have V12 : Hid (Vars w12) := V11.out.kept b12
      have s12 := B12.out.size
      clear b12 C12 V11
      go_wp2_with fail
      refine (CU.out w12 B12.out).mono ?_
      rintro e w13 ⟨rfl, b13⟩
      have B13 : Hid (Below w9.heap.size w9 w13) := B12.out.trans (b13.mono s12)
      have V13 : Hid (Vars w13) := V12.out.kept b13
      have s13 := B13.out.size
      have C14 := hidI <| impl_print (some ⟨g6, 0, none⟩) g6 k6 m (fun _ => rfl) (by omega) (node_small HN.out) w13 V13.out.1 (HA6.out w13 (B9.out.trans (B13.out.mono s9)))
      rw [HUP.out] at C14
      clear b13 V12
      go_wp2_with fail
      refine C14.out.mono ?_
      rintro e w14 ⟨rfl, b14⟩
      have B14 : Hid (Below w9.heap.size w9 w14) := B13.out.trans (b14.mono s13)
      have s14 := B14.out.size
      have C15 := hidI <| spec_nodes (some ⟨g6, 0, none⟩) g6 k6 m (fun _ => rfl) (by omega) (node_small HN.out) w14 (HA6.out w14 (B9.out.trans (B14.out.mono s9)))
      rw [HN.out] at C15
      clear b14 C14
      go_wp2_with fail
      refine C15.out.mono ?_
      rintro e w15 ⟨rfl, b15⟩
      have BZ : Hid (Below w.heap.size w w15) := B6.out.trans ((B9.out.trans ((B14.out.trans (b15.mono s14)).mono s9)).mono s6)
      clear b15 C15
      go_wp2
      go_ret
      exact ⟨by first | rfl | simp, BZ.out⟩
    · have hd : decide (c6 = 0) = false := decide_eq_false hc
      rw [hd] at he
      subst he
      have hm := HF.out.2.2.1 hc
      subst hm
      have hc2 : (c6 == 0) = false := by simpa using hc
      have BZ : Hid (Below w.heap.size w w8) := B6.out.trans (B8.out.mono s6)
      clear hd hc HF HRR
      go_wp2
      go_ret
      exact ⟨by first | rfl | simp, BZ.out⟩
  · obtain ⟨rs, hrx, hrp⟩ := remark_text hok
    have hpos := print_pos hok
    obtain ⟨P, hP⟩ : ∃ P, printB l = P := ⟨_, rfl⟩
    rw [hP] at CP hz hrx hpos
    have HRX : Hid (Lexes (⟨#[35, 32, 97, 32, 114, 101, 109, 97, 114, 107, 10, 32]⟩ ++ P ++ ⟨#[32, 10, 35, 32, 97, 110, 111, 116, 104, 101, 114]⟩) rs (-1) ∧ ∀ E, parseE rs E = (l, 0, 0)) := ⟨hrx, hrp⟩
    have hne : P.toList.isEmpty = false := by
      rw [ByteArray.toList_eq]
      have hl : P.data.toList.length = P.size := Array.length_toList
      cases hd : P.data.toList with
      | nil => rw [hd] at hl; simp at hl; omega
      | cons b r => rfl
    clear hP hrx hrp hpos
    go_wp2_with fail
    refine CP.out.mono ?_
    rintro e w2 ⟨rfl, b2⟩
    have B2 : Hid (Below w1.heap.size w1 w2) := b2
    have V2 : Hid (Vars w2) := V1.out.kept b2
    have s2 := b2.size
    have hz1 : (⟨#[35, 32, 97, 32, 114, 101, 109, 97, 114, 107, 10, 32]⟩ : ByteArray).size = 12 := rfl
    have hz2 : (⟨#[32, 10, 35, 32, 97, 110, 111, 116, 104, 101, 114]⟩ : ByteArray).size = 11 := rfl
    have CQ := hidI <| impl_parse (⟨#[35, 32, 97, 32, 114, 101, 109, 97, 114, 107, 10, 32]⟩ ++ P ++ ⟨#[32, 10, 35, 32, 97, 110, 111, 116, 104, 101, 114]⟩) (by rw [ByteArray.size_append, ByteArray.size_append, hz1, hz2]; omega) w2 V2.out
    clear b2 CP V1
    go_wp2_with fail
    refine CQ.out.mono ?_
    rintro e w3 ⟨⟨us, n, v3, hx, ho, he⟩, b3⟩
    have B3 : Hid (Below w1.heap.size w1 w3) := B2.out.trans (b3.mono s2)
    have V3 : Hid (Vars w3) := V2.out.kept b3
    have CN := hidI <| spec_nodes al g c l HL.out (by omega) HT.out w3 (HA.out w3 B3.out)
    have s3 := B3.out.size
    rw [hok] at CN
    obtain ⟨rfl, rfl⟩ := lexes_one HRX.out.1 hx
    have hR : ∀ E : Int, parseR rs (-1) E = (l, 0, 0) := fun E => by rw [parseR, if_neg (by decide)]; exact HRX.out.2 E
    rw [hR] at ho he
    dsimp only at ho he
    subst he
    obtain ⟨a3, g3, k3, sp3, rfl, ha3, hA3, _⟩ := ownNod_form ho
    have HA3 : Hid (∀ W, Below w3.heap.size w3 W → NodAt W g3 l) := fun W hW => hA3.below hW (fun h => hA3.lt h)
    have HL3 : Hid (0 < l.length → a3 = some ⟨g3, 0, none⟩) := ha3
    clear hx ho b3 CQ ha3 hA3 hR HRX V2
    go_wp2_with fail
    refine CN.out.mono ?_
    rintro e w4 ⟨rfl, b4⟩
    have B4 : Hid (Below w1.heap.size w1 w4) := B3.out.trans (b4.mono s3)
    have V4 : Hid (Vars w4) := V3.out.kept b4
    have CS := hidI <| impl_same a3 al g3 g k3 c l l (by omega) (by omega) HL3.out HL.out w4 (HA3.out w4 b4) (HA.out w4 B4.out)
    rw [same_self] at CS
    have s4 := B4.out.size
    clear b4 CN V3
    go_wp2_with fail
    refine CS.out.mono ?_
    rintro e wk ⟨rfl, bk⟩
    have BK : Hid (Below w.heap.size w wk) := B1.out.trans ((B4.out.trans (bk.mono s4)).mono s1)
    have VK : Hid (Vars wk) := V4.out.kept bk
    clear bk CS V4 hne
    go_wp2_with fail
    refine (HE.out wk BK.out).mono ?_
    rintro e w5 ⟨t, ht, rfl, b5⟩
    have B5 : Hid (Below w.heap.size w w5) := BK.out.trans (b5.mono BK.out.size)
    have V5 : Hid (Vars w5) := VK.out.kept b5
    have s5 := B5.out.size
    have C6 := hidI <| impl_parse t (by omega) w5 V5.out
    clear b5 VK
    go_wp2_with fail
    refine C6.out.mono ?_
    rintro e w6 ⟨⟨us, n, v6, hx, ho, he⟩, b6⟩
    have HX : Hid (Lexes t us n) := hx
    obtain ⟨m, c6, q6, hR⟩ : ∃ m c q, parseR us n t.size = (m, c, q) := ⟨_, _, _, rfl⟩
    have HF := hidI <| text_facts (by omega) hx hR
    have HRR : Hid (parseR us n t.size = (m, c6, q6)) := hR
    rw [hR] at ho he
    dsimp only at ho he
    subst he
    obtain ⟨a6, g6, k6, sp6, rfl, ha6, hA6, _⟩ := ownNod_form ho
    have HA6 : Hid (∀ W, Below w6.heap.size w6 W → NodAt W g6 m) := fun W hW => hA6.below hW (fun h => hA6.lt h)
    have HL6 : Hid (0 < m.length → a6 = some ⟨g6, 0, none⟩) := ha6
    have B6 : Hid (Below w.heap.size w w6) := B5.out.trans (b6.mono s5)
    have V6 : Hid (Vars w6) := V5.out.kept b6
    have s6 := B6.out.size
    have C7 := hidI <| spec_parse t (by omega) w6
    clear hx ho hR ha6 hA6 b6 C6 V5
    go_wp2_with fail
    refine C7.out.mono ?_
    rintro e w7 ⟨⟨us', n', v7, hx', _, he⟩, b7⟩
    obtain ⟨rfl, rfl⟩ := lexes_one HX.out hx'
    rw [HRR.out] at he
    dsimp only at he
    subst he
    have B7 : Hid (Below w6.heap.size w6 w7) := b7
    have V7 : Hid (Vars w7) := V6.out.kept b7
    have s7 := b7.size
    have C8 := hidI <| impl_parses t (by omega) w7 V7.out
    have f1 : ¬ q6 < 0 := by have := HF.out.1; omega
    have f2 : ¬ (t.size : Int) < q6 := by have := HF.out.2.1; omega
    clear hx' b7 C7 V6
    go_wp2_with fail
    refine C8.out.mono ?_
    rintro e w8 ⟨⟨us', n', hx', he⟩, b8⟩
    obtain ⟨rfl, rfl⟩ := lexes_one HX.out hx'
    rw [HRR.out] at he
    dsimp only at he
    have B8 : Hid (Below w6.heap.size w6 w8) := B7.out.trans (b8.mono s7)
    have V8 : Hid (Vars w8) := V7.out.kept b8
    have s8 := B8.out.size
    clear hx' b8 C8 V7
    by_cases hc : c6 = 0
    · subst hc
      rw [show decide ((0 : Int) = 0) = true from rfl] at he
      subst he
      obtain ⟨hn, hok2, hul, hle, hux, husz, vs, hvx, hvp⟩ := HF.out.2.2.2 rfl
      subst hn
      obtain ⟨m1, m2⟩ := node_count hok2
      obtain rfl := HL6.out (by omega)
      have HN : Hid (nodesB m = true) := hok2
      obtain ⟨U, hU⟩ : ∃ U, ulxS us = U := ⟨_, rfl⟩
      rw [hU] at hux husz hvx
      have HUS : Hid (ulxS us = U) := hU
      have HUP : Hid (printB m = U) := hux.symm
      have HVX : Hid (Lexes U vs (-1) ∧ ∀ E, parseE vs E = (m, 0, 0)) := ⟨hvx, hvp⟩
      have HLE : Hid (lens us us.length ≤ 4000) := hle
      have C9 := hidI <| impl_lex t (by omega) w8 V8.out
      clear hok2 hle hux hvx hvp hU HF
      go_wp2_with fail
      refine C9.out.mono ?_
      rintro e w9 ⟨⟨us', n', v9, hx', ho9, he⟩, b9⟩
      obtain ⟨rfl, rfl⟩ := lexes_one HX.out hx'
      subst he
      obtain ⟨a9, g9, k9, rfl, ha9, hT9, hl9⟩ := own_slice ho9
      have B9 : Hid (Below w6.heap.size w6 w9) := B8.out.trans (b9.mono s8)
      have V9 : Hid (Vars w9) := V8.out.kept b9
      have s9 := B9.out.size
      have CU : Hid (∀ W, Below w9.heap.size w9 W → Calls Tryz.prog 14 #[.slice a9 us.length k9] W fun e w' => e = .returned (.string U) ∧ Below W.heap.size W w') := fun W hW => by
        have := impl_unlex a9 g9 k9 us ha9 (by omega) (by have := HLE.out; omega) W (fun i hi => hT9.below hW (hl9 (by omega)) i hi)
        rw [HUS.out] at this
        exact this
      clear hx' ho9 ha9 hT9 hl9 b9 C9 V8
      go_wp2_with fail
      refine (CU.out w9 (Below.refl _ _)).mono ?_
      rintro e w10 ⟨rfl, b10⟩
      have B10 : Hid (Below w9.heap.size w9 w10) := b10
      have V10 : Hid (Vars w10) := V9.out.kept b10
      have s10 := b10.size
      have C11 := hidI <| impl_parse U (by omega) w10 V10.out
      clear b10 V9
      go_wp2_with fail
      refine C11.out.mono ?_
      rintro e w11 ⟨⟨us', n', v11, hx', ho11, he⟩, b11⟩
      obtain ⟨rfl, rfl⟩ := lexes_one HVX.out.1 hx'
      have hR4 : ∀ E : Int, parseR vs (-1) E = (m, 0, 0) := fun E => by rw [parseR, if_neg (by decide)]; exact HVX.out.2 E
      rw [hR4] at ho11 he
      dsimp only at ho11 he
      subst he
      obtain ⟨a11, g11, k11, sp11, rfl, ha11, hA11, _⟩ := ownNod_form ho11
      have B11 : Hid (Below w9.heap.size w9 w11) := B10.out.trans (b11.mono s10)
      have V11 : Hid (Vars w11) := V10.out.kept b11
      have s11 := B11.out.size
      have C12 := hidI <| impl_same (some ⟨g6, 0, none⟩) a11 g6 g11 k6 k11 m m (by omega) (by omega) (fun _ => rfl) ha11 w11 (HA6.out w11 (B9.out.trans (B11.out.mono s9))) hA11
      rw [same_self] at C12
      clear hx' ho11 hR4 ha11 hA11 b11 C11 V10
      go_wp2_with fail
      refine C12.out.mono ?_
      rintro e w12 ⟨rfl, b12⟩
      have B12 : Hid (Below w9.heap.size w9 w12) := B11.out.trans (b12.mono s11)
      have V12 : Hid (Vars w12) := V11.out.kept b12
      have s12 := B12.out.size
      clear b12 C12 V11
      go_wp2_with fail
      refine (CU.out w12 B12.out).mono ?_
      rintro e w13 ⟨rfl, b13⟩
      have B13 : Hid (Below w9.heap.size w9 w13) := B12.out.trans (b13.mono s12)
      have V13 : Hid (Vars w13) := V12.out.kept b13
      have s13 := B13.out.size
      have C14 := hidI <| impl_print (some ⟨g6, 0, none⟩) g6 k6 m (fun _ => rfl) (by omega) (node_small HN.out) w13 V13.out.1 (HA6.out w13 (B9.out.trans (B13.out.mono s9)))
      rw [HUP.out] at C14
      clear b13 V12
      go_wp2_with fail
      refine C14.out.mono ?_
      rintro e w14 ⟨rfl, b14⟩
      have B14 : Hid (Below w9.heap.size w9 w14) := B13.out.trans (b14.mono s13)
      have s14 := B14.out.size
      have C15 := hidI <| spec_nodes (some ⟨g6, 0, none⟩) g6 k6 m (fun _ => rfl) (by omega) (node_small HN.out) w14 (HA6.out w14 (B9.out.trans (B14.out.mono s9)))
      rw [HN.out] at C15
      clear b14 C14
      go_wp2_with fail
      refine C15.out.mono ?_
      rintro e w15 ⟨rfl, b15⟩
      have BZ : Hid (Below w.heap.size w w15) := B6.out.trans ((B9.out.trans ((B14.out.trans (b15.mono s14)).mono s9)).mono s6)
      clear b15 C15
      go_wp2
      go_ret
      exact ⟨by first | rfl | simp, BZ.out⟩
    · have hd : decide (c6 = 0) = false := decide_eq_false hc
      rw [hd] at he
      subst he
      have hm := HF.out.2.2.1 hc
      subst hm
      have hc2 : (c6 == 0) = false := by simpa using hc
      have BZ : Hid (Below w.heap.size w w8) := B6.out.trans (B8.out.mono s6)
      clear hd hc HF HRR
      go_wp2
      go_ret
      exact ⟨by first | rfl | simp, BZ.out⟩
end

section
open Go.ChangeShapes Go.WideShapes Go.ChangeAt Go.RowKit

theorem bent_of_draw {a : Option Addr} {len cap : Nat} {zs : List Int} {B most : Nat} {w : World} {e : Ending} {w' : World} (hm : most ≤ 1200) (h : DrawEnd a len cap zs B w most e w') : BentEnd w e w' ∧ Only B w w' ∧ ∃ s', CurAt a len cap zs B w' s' := by
  obtain ⟨v, l, s', rfl, ho, hp, hl, ht, hc, hn⟩ := h
  obtain ⟨a3, g3, c3, sp3, rfl, ha3, hA3, hge3, hlt3, hr3⟩ := ownNod_form ho
  obtain rfl := ha3 hp
  exact ⟨bent_end hA3 (by omega) ht, hn, s', hc⟩

theorem nodAt_only {a : Option Addr} {len cap : Nat} {zs : List Int} {B g : Nat} {w w' : World} {s : Nat × Int} {l : List Nod} (h : NodAt w g l) (hc : CurAt a len cap zs B w s) (hn : Only B w w') : NodAt w' g l := by
  refine nodAt_of_cells fun i j hi hj => ?_
  have h0 := cells_of_nodAt h 0 0 (by omega) (by omega)
  have hB : g ≠ B := fun e => by
    rw [e] at h0
    have := hc.cur.c0
    rw [show (⟨B, 0 * 7 + 0, none⟩ : Addr) = ⟨B, 0, none⟩ from rfl, this] at h0
    cases h0
  have hg : g < w.heap.size := h.lt (by omega)
  rw [hn.cell (p := ⟨g, i * 7 + j, none⟩) hg hB]
  exact cells_of_nodAt h i j hi hj

/-- What l6At ends with: some nodes, bent or not, and a place. -/
def AtEnd (B : Nat) (w : World) (e : Ending) (w' : World) : Prop :=
  ∃ (al : Option Addr) (g c : Nat) (l : List Nod) (k : Int), e = .returned (.tuple #[.slice al l.length c, .int .i64 k]) ∧ (0 < l.length → al = some ⟨g, 0, none⟩) ∧ NodAt w' g l ∧ l.length ≤ 1200 ∧ Trim l ∧ Only B w w'
end

section
open Go.ChangeShapes Go.WideShapes Go.ChangeAt Go.RowKit

def byteAt (s : ByteArray) (k : Nat) : Nat := if h : k < s.size then s[k].toNat else 0

theorem byteAt_in {s : ByteArray} {k : Nat} (h : k < s.size) : byteAt s k = s[k].toNat := by simp [byteAt, h]

theorem byteAt_lt (s : ByteArray) (k : Nat) : byteAt s k < 256 := by
  unfold byteAt
  split
  · exact UInt8.toNat_lt _
  · omega

theorem dx_byte : (Tryz.prog.info? 5).map (fun i => (i.zero, i.size, i.bytes)) = some (some (.int .u8 0), 1, 1) := by kernel_rfl

/-- Bytes that a slice of the call's own holds. -/
abbrev ownB (w : World) (base : Nat) (v : Value) (L : List Int) : Prop := w.ownsRow base 5 1 v L.length (L.map (Value.int .u8))

theorem conv_own {w : World} {base : Nat} {v : Value} {L : List Int} (h : ownB w base v L) : (convert 22 9 v).run Tryz.prog w = .ok (.string (strOfNums L)) w := by
  obtain ⟨_, hc⟩ := h
  rcases hc with ⟨rfl, hn⟩ | ⟨g, cap, cur, rfl, hb, hg, hn, hm, hs, hx⟩
  · obtain rfl : L = [] := List.length_eq_zero_iff.1 hn
    exact run_convert_bytes_nil w 22 5 Tryz.underlying22 Tryz.underlying5 0 0 9 Tryz.underlying9
  · refine run_convert_bytes_arg w 22 5 Tryz.underlying22 Tryz.underlying5 g 0 L.length cap L rfl (fun i hi => ?_) 9 Tryz.underlying9
    have e : (cur.toList.take (L.length * 1))[i]? = (L.map (Value.int .u8))[i]? := by rw [hx]
    rw [List.getElem?_take_of_lt (by omega), List.getElem?_map, List.getElem?_eq_getElem hi] at e
    simp only [World.cell?, hg]
    simp [List.getElem?_eq_getElem hi] at e ⊢
    simpa using e


theorem Only.grown {B : Nat} {w0 w w' : World} {row : Option Nat} (h : Only B w0 w) (hg : w.grownBy w' row) (hr : ∀ k, row = some k → w0.heap.size ≤ k) : Only B w0 w' := by
  have hb : Below w0.heap.size w w' := (Below.refl _ _).grown hg h.size hr
  exact ⟨hb.os.trans h.os, hb.tape.trans h.tape, hb.output.trans h.output, Nat.le_trans h.size hb.size, fun k hk hB => (hb.block k hk).trans (h.block k hk hB)⟩

theorem ownB_only {w w' : World} {base B : Nat} {v : Value} {L : List Int} (h : ownB w base v L) (ho : Only B w w') (hB : B < base) : ownB w' base v L := by
  refine ⟨h.1, ?_⟩
  rcases h.2 with h2 | ⟨g, cap, cur, h1, h2, h3, h4⟩
  · exact Or.inl h2
  · refine Or.inr ⟨g, cap, cur, h1, h2, ?_, h4⟩
    rw [ho.block g (Array.getElem?_eq_some_iff.1 h3).1 (by omega)]
    exact h3

/-- The cursor when so many bytes more have been drawn. -/
def stN (len : Nat) : Nat → Nat × Int → Nat × Int
  | 0, s => s
  | k + 1, s => st1 len (stN len k s)

/-- A byte in a text's style. -/
def sb (style b : Int) : Int := if style = 1 then b % 2 else if style = 2 then 97 + b % 4 else b

/-- The first k bytes of a text. -/
def tl (zs : List Int) (len : Nat) (style : Int) (s : Nat × Int) : Nat → List Int
  | 0 => []
  | k + 1 => tl zs len style s k ++ [sb style (bv zs len (stN len k s))]

theorem tl_length (zs : List Int) (len : Nat) (style : Int) (s : Nat × Int) : ∀ k, (tl zs len style s k).length = k
  | 0 => rfl
  | k + 1 => by simp [tl, tl_length zs len style s k]

def txN (zs : List Int) (len : Nat) (most : Int) (s : Nat × Int) : Nat := (belowV zs len (most + 1) (belowV zs len 4 s).2).1.toNat
def txL (zs : List Int) (len : Nat) (most : Int) (s : Nat × Int) : List Int := tl zs len (belowV zs len 4 s).1 (belowV zs len (most + 1) (belowV zs len 4 s).2).2 (txN zs len most s)
def txS (zs : List Int) (len : Nat) (most : Int) (s : Nat × Int) : Nat × Int := stN len (txN zs len most s) (belowV zs len (most + 1) (belowV zs len 4 s).2).2

section
variable {a : Option Addr} {len cap : Nat} {zs : List Int} {B : Nat}

set_option maxRecDepth 20000 in
theorem text_at {w : World} {s : Nat × Int} (h : CurAt a len cap zs B w s) (most : Int) (hm0 : 0 ≤ most) (hm : most ≤ 1000) :
    Calls Tryz.prog 89 #[.pointer (some ⟨B, 0, none⟩), .int .i64 most] w fun e w' => e = .returned (.string (strOfNums (txL zs len most s))) ∧ CurAt a len cap zs B w' (txS zs len most s) ∧ Only B w w' := by
  obtain ⟨i0, hi, hz0, hz1, hz2⟩ := info_parts dx_byte
  have hBs := h.size
  have H : Hid (CurAt a len cap zs B (w.alloc (.cells #[] 5)) s) := curAt_alloc h _
  have HO : Hid (Only B w (w.alloc (.cells #[] 5))) := only_alloc _ _
  have hown0 : ownB (w.alloc (.cells #[] 5)) w.heap.size (.slice (some ⟨w.heap.size, 0, none⟩) 0 0) [] := World.ownsRow_lit _ #[] 0 (Nat.le_refl _) (by unfold maxLen; omega) rfl
  have HW : Hid (ownB (w.alloc (.cells #[] 5)) w.heap.size (.slice (some ⟨w.heap.size, 0, none⟩) 0 0) []) := hown0
  have r1 := belowV_range (zs := zs) (len := len) 4 s (by omega)
  have r2 := belowV_range (zs := zs) (len := len) (most + 1) (belowV zs len 4 s).2 (by omega)
  clear h hown0
  go_enter Tryz.func89, Tryz.ntmps89
  go_wp2_with fail
  refine (below_at H.out 4 (by omega)).mono ?_
  rintro e w1 ⟨rfl, c1, b1⟩
  have C1 : Hid (CurAt a len cap zs B w1 (belowV zs len 4 s).2) := c1
  have O1 : Hid (Only B w w1) := HO.out.trans b1
  have W1 : Hid (ownB w1 w.heap.size (.slice (some ⟨w.heap.size, 0, none⟩) 0 0) []) := ownB_only HW.out b1 hBs
  clear c1 b1 H HO HW
  go_wp2_with fail
  refine (below_at C1.out (most + 1) (by omega)).mono ?_
  rintro e w2 ⟨rfl, c2, b2⟩
  have C2 : Hid (CurAt a len cap zs B w2 (belowV zs len (most + 1) (belowV zs len 4 s).2).2) := c2
  have O2 : Hid (Only B w w2) := O1.out.trans b2
  have W2 : Hid (ownB w2 w.heap.size (.slice (some ⟨w.heap.size, 0, none⟩) 0 0) []) := ownB_only W1.out b2 hBs
  clear c2 b2 C1 O1 W1
  have eN : (belowV zs len (most + 1) (belowV zs len 4 s).2).1 = (txN zs len most s : Nat) := by
    unfold txN
    omega
  have eL : Hid (txL zs len most s = tl zs len (belowV zs len 4 s).1 (belowV zs len (most + 1) (belowV zs len 4 s).2).2 (txN zs len most s)) := rfl
  have eS : Hid (txS zs len most s = stN len (txN zs len most s) (belowV zs len (most + 1) (belowV zs len 4 s).2).2) := rfl
  have hN : (txN zs len most s : Int) ≤ 1000 := by omega
  rw [eN]
  clear eN r2
  generalize txN zs len most s = N at *
  generalize (belowV zs len (most + 1) (belowV zs len 4 s).2).2 = s2 at *
  generalize (belowV zs len 4 s).1 = st at *
  go_wp2
  go_loopw [5, 7] (fun out n wr => ∃ k : Nat, k ≤ N ∧ n = .int .i64 ((N : Int) - k) ∧ ownB wr w.heap.size out (tl zs len st s2 k) ∧ CurAt a len cap zs B wr (stN len k s2) ∧ Only B w wr) (fun _ n _ => (intOf n).toNat)
  case atStart => exact ⟨0, by omega, by simp, W2.out, C2.out, O2.out⟩
  case round =>
    obtain ⟨k, hk, rfl, hown, hcur, honly⟩ := hrel
    have hl := tl_length zs len st s2 k
    by_cases hkN : k = N
    · subst hkN
      have hc := conv_own hown
      have HC : Hid (CurAt a len cap zs B wr (stN len k s2)) := hcur
      have HOn : Hid (Only B w wr) := honly
      clear hcur honly hown C2 O2 W2
      go_wp2
      rw [eL.out, eS.out]
      go_ret
      exact ⟨rfl, HC.out, HOn.out⟩
    · have hlt : k < N := by omega
      have hpos : (0 : Int) < (N : Int) - k := by omega
      have HC : Hid (CurAt a len cap zs B wr (stN len k s2)) := hcur
      have HOn : Hid (Only B w wr) := honly
      have HOw : Hid (ownB wr w.heap.size u5 (tl zs len st s2 k)) := hown
      clear hcur honly hown C2 O2 W2
      go_wp2_with fail
      refine (byte_at HC.out).mono ?_
      rintro e w3 ⟨rfl, c3, b3⟩
      have rb := bv_range zs len (stN len k s2)
      have C3 : Hid (CurAt a len cap zs B w3 (stN len (k + 1) s2)) := c3
      have O3 : Hid (Only B w w3) := HOn.out.trans b3
      have hown : ownB w3 w.heap.size u5 (tl zs len st s2 k) := ownB_only HOw.out b3 hBs
      clear c3 HC HOw HOn
      have hsz3 : w.heap.size ≤ w3.heap.size := O3.out.size
      by_cases h1 : st = 1
      · have t1 : (st == 1) = true := by simp [h1]
        have t2 : (st == 2) = false := by simp [h1]
        have ES : Hid (tl zs len st s2 (k + 1) = tl zs len st s2 k ++ [bv zs len (stN len k s2) % 2]) := by
          show tl zs len st s2 k ++ [sb st (bv zs len (stN len k s2))] = _
          rw [sb, if_pos h1]
        clear h1
        generalize bv zs len (stN len k s2) = b at *
        go_wp2_with (at_builtin; refine wpList_append_own _ rfl (.tmp 31) (.tmp 34) 22 rfl w.heap.size 5 i0 (.int .u8 0) 1 1 Tryz.underlying22 hi hz0 hz1 hz2 rfl (by decide) _ _ _ rfl (hown.alloc _) ⟨w3.heap.size, 0, none⟩ 1 1 [.int .u8 (b % 2)] rfl rfl ?c1 ?c2 ?c3 ?c4 ?c5 ?_)
        all_goals try (first | exact cell_one_new _ _ _ | (simp [Value.oneCell']; done) | (unfold maxLen; omega) | omega | (simp; omega))
        intro v' w4 hown' hgrow _
        have hown4 : ownB w4 w.heap.size v' (tl zs len st s2 (k + 1)) := by
          rw [ES.out]
          simpa [ownB, hl] using hown'
        have hr : ∀ j, u5.ownBlock = some j → w.heap.size ≤ j := fun j hj => (hown.lt j hj).1
        have hb4 : Below w.heap.size w3 w4 := ((Below.refl _ _).alloc hsz3 _).grown hgrow (by simp; omega) hr
        have C4 : Hid (CurAt a len cap zs B w4 (stN len (k + 1) s2)) := curAt_below C3.out hb4 hBs
        have O4 : Hid (Only B w w4) := (O3.out.trans (only_alloc _ _)).grown hgrow hr
        have W4 : Hid (ownB w4 w.heap.size v' (tl zs len st s2 (k + 1))) := hown4
        clear hown' hgrow hown hown4 C3 O3 hb4 hr ES
        go_wp2
        go_roundw
        case rel => exact ⟨k + 1, by omega, by go_num, W4.out, C4.out, O4.out⟩
        case measure => simp [intOf]; omega
      · have t1 : (st == 1) = false := by simpa using h1
        by_cases h2 : st = 2
        · have t2 : (st == 2) = true := by simp [h2]
          have ES : Hid (tl zs len st s2 (k + 1) = tl zs len st s2 k ++ [97 + bv zs len (stN len k s2) % 4]) := by
            show tl zs len st s2 k ++ [sb st (bv zs len (stN len k s2))] = _
            rw [sb, if_neg h1, if_pos h2]
          clear h1 h2
          generalize bv zs len (stN len k s2) = b at *
          go_wp2_with (at_builtin; refine wpList_append_own _ rfl (.tmp 31) (.tmp 34) 22 rfl w.heap.size 5 i0 (.int .u8 0) 1 1 Tryz.underlying22 hi hz0 hz1 hz2 rfl (by decide) _ _ _ rfl (hown.alloc _) ⟨w3.heap.size, 0, none⟩ 1 1 [.int .u8 (97 + b % 4)] rfl rfl ?d1 ?d2 ?d3 ?d4 ?d5 ?_)
          all_goals try (first | exact cell_one_new _ _ _ | (simp [Value.oneCell']; done) | (unfold maxLen; omega) | omega | (simp; omega))
          intro v' w4 hown' hgrow _
          have hown4 : ownB w4 w.heap.size v' (tl zs len st s2 (k + 1)) := by
            rw [ES.out]
            simpa [ownB, hl] using hown'
          have hr : ∀ j, u5.ownBlock = some j → w.heap.size ≤ j := fun j hj => (hown.lt j hj).1
          have hb4 : Below w.heap.size w3 w4 := ((Below.refl _ _).alloc hsz3 _).grown hgrow (by simp; omega) hr
          have C4 : Hid (CurAt a len cap zs B w4 (stN len (k + 1) s2)) := curAt_below C3.out hb4 hBs
          have O4 : Hid (Only B w w4) := (O3.out.trans (only_alloc _ _)).grown hgrow hr
          have W4 : Hid (ownB w4 w.heap.size v' (tl zs len st s2 (k + 1))) := hown4
          clear hown' hgrow hown hown4 C3 O3 hb4 hr ES
          go_wp2
          go_roundw
          case rel => exact ⟨k + 1, by omega, by go_num, W4.out, C4.out, O4.out⟩
          case measure => simp [intOf]; omega
        · have t2 : (st == 2) = false := by simpa using h2
          have ES : Hid (tl zs len st s2 (k + 1) = tl zs len st s2 k ++ [bv zs len (stN len k s2)]) := by
            show tl zs len st s2 k ++ [sb st (bv zs len (stN len k s2))] = _
            rw [sb, if_neg h1, if_neg h2]
          clear h1 h2
          generalize bv zs len (stN len k s2) = b at *
          go_wp2_with (at_builtin; refine wpList_append_own _ rfl (.tmp 31) (.tmp 34) 22 rfl w.heap.size 5 i0 (.int .u8 0) 1 1 Tryz.underlying22 hi hz0 hz1 hz2 rfl (by decide) _ _ _ rfl (hown.alloc _) ⟨w3.heap.size, 0, none⟩ 1 1 [.int .u8 (b)] rfl rfl ?e1 ?e2 ?e3 ?e4 ?e5 ?_)
          all_goals try (first | exact cell_one_new _ _ _ | (simp [Value.oneCell']; done) | (unfold maxLen; omega) | omega | (simp; omega))
          intro v' w4 hown' hgrow _
          have hown4 : ownB w4 w.heap.size v' (tl zs len st s2 (k + 1)) := by
            rw [ES.out]
            simpa [ownB, hl] using hown'
          have hr : ∀ j, u5.ownBlock = some j → w.heap.size ≤ j := fun j hj => (hown.lt j hj).1
          have hb4 : Below w.heap.size w3 w4 := ((Below.refl _ _).alloc hsz3 _).grown hgrow (by simp; omega) hr
          have C4 : Hid (CurAt a len cap zs B w4 (stN len (k + 1) s2)) := curAt_below C3.out hb4 hBs
          have O4 : Hid (Only B w w4) := (O3.out.trans (only_alloc _ _)).grown hgrow hr
          have W4 : Hid (ownB w4 w.heap.size v' (tl zs len st s2 (k + 1))) := hown4
          clear hown' hgrow hown hown4 C3 O3 hb4 hr ES
          go_wp2
          go_roundw
          case rel => exact ⟨k + 1, by omega, by go_num, W4.out, C4.out, O4.out⟩
          case measure => simp [intOf]; omega
end
theorem txL_length (zs : List Int) (len : Nat) (most : Int) (s : Nat × Int) (h : 0 ≤ most) : ((txL zs len most s).length : Int) ≤ most := by
  have hr := belowV_range (zs := zs) (len := len) (most + 1) (belowV zs len 4 s).2 (by omega)
  unfold txL
  rw [tl_length]
  unfold txN
  omega

section
variable {a : Option Addr} {len cap : Nat} {zs : List Int} {B : Nat}

theorem spoilE_at {w : World} {s : Nat × Int} (h : CurAt a len cap zs B w s) (d : ByteArray) (hd : d.size = 0) :
    Calls Tryz.prog 46 #[.pointer (some ⟨B, 0, none⟩), .string d] w fun e w' => e = .returned (.string (strOfNums (txL zs len 3 s))) ∧ CurAt a len cap zs B w' (txS zs len 3 s) ∧ Only B w w' := by
  have H : Hid (CurAt a len cap zs B w s) := h
  clear h
  go_enter Tryz.func46, Tryz.ntmps46
  go_wp2_with fail
  refine (text_at H.out 3 (by omega) (by omega)).mono ?_
  rintro e w1 ⟨rfl, c1, b1⟩
  have C1 : Hid (CurAt a len cap zs B w1 (txS zs len 3 s)) := c1
  have B1 : Hid (Only B w w1) := b1
  clear c1 b1
  go_wp2
  go_ret
  exact ⟨rfl, C1.out, B1.out⟩

def spK (zs : List Int) (len : Nat) (d : ByteArray) (s : Nat × Int) : Nat := (belowV zs len d.size s).1.toNat
def spS (zs : List Int) (len : Nat) (d : ByteArray) (s : Nat × Int) : Nat × Int := (belowV zs len d.size s).2

theorem curAt_drew {w : World} {s : Nat × Int} (h : CurAt a len cap zs B w s) : CurAt a len cap zs B w.drew s :=
  ⟨⟨h.cur.c0, h.cur.c1, h.cur.c2, h.cur.f1, h.cur.f2⟩, h.row, h.small, h.low, h.size⟩
theorem curAt_drewN {w : World} {s : Nat × Int} (h : CurAt a len cap zs B w s) (n : Nat) : CurAt a len cap zs B (w.drewN n) s :=
  ⟨⟨h.cur.c0, h.cur.c1, h.cur.c2, h.cur.f1, h.cur.f2⟩, h.row, h.small, h.low, h.size⟩

theorem conv1x (w : World) (x : Int) : (convert 22 9 (.slice (some ⟨w.heap.size, 0, none⟩) 1 1)).run Tryz.prog (w.alloc (.cells #[.int .u8 x] 5)) =
    .ok (.string (strOfNums [x])) (w.alloc (.cells #[.int .u8 x] 5)) :=
  run_convert_bytes_arg _ 22 5 Tryz.underlying22 Tryz.underlying5 w.heap.size 0 1 1 [x] rfl (fun i hi => by
    obtain rfl : i = 0 := by omega
    rw [World.cell?_alloc_at _ _ _ _ rfl]
    rfl) 9 Tryz.underlying9

theorem nameBy : (Tryz.f66.name == "runtime.NumGoroutine") = false := by kernel_rfl
theorem bodyBy : Tryz.f66.body.isNone = false := by kernel_rfl
theorem nameBe : (Tryz.f32.name == "runtime.NumGoroutine") = false := by kernel_rfl
theorem bodyBe : Tryz.f32.body.isNone = false := by kernel_rfl

theorem spoil0_at {w : World} {s : Nat × Int} (h : CurAt a len cap zs B w s) (d : ByteArray) (hd : 0 < d.size) (hd2 : d.size ≤ 3000) (h0 : (belowV zs len 4 (spS zs len d s)).1 = 0) :
    Calls Tryz.prog 46 #[.pointer (some ⟨B, 0, none⟩), .string d] w fun e w' => e = .returned (.string (d.extract 0 (spK zs len d s) ++ d.extract (spK zs len d s + 1) d.size)) ∧ CurAt a len cap zs B w' (belowV zs len 4 (spS zs len d s)).2 ∧ Only B w w' := by
  have H : Hid (CurAt a len cap zs B w s) := h
  clear h
  have hr := belowV_range (zs := zs) (len := len) (d.size : Int) s (by omega)
  have hk : (belowV zs len d.size s).1 = (spK zs len d s : Nat) := by unfold spK; omega
  have hs : (belowV zs len d.size s).2 = spS zs len d s := rfl
  have hkl : spK zs len d s < d.size := by omega
  have hne : ((d.size : Int) == 0) = false := beq_eq_false_iff_ne.2 (by omega)
  clear hr
  generalize spK zs len d s = k at *
  generalize spS zs len d s = s1 at *
  go_enter Tryz.func46, Tryz.ntmps46
  go_wp2_with fail
  refine (below_at H.out (d.size : Int) (by omega)).mono ?_
  rintro e w1 ⟨rfl, c1, b1⟩
  rw [hs] at c1
  rw [hk]
  have C1 : Hid (CurAt a len cap zs B w1 s1) := c1
  clear c1 H hk hs
  go_wp2_with fail
  refine (below_at C1.out 4 (by omega)).mono ?_
  rintro e w2 ⟨rfl, c2, b2⟩
  have C2 : Hid (CurAt a len cap zs B w2 (belowV zs len 4 s1).2) := c2
  have B2 : Hid (Only B w w2) := b1.trans b2
  clear c2 b1 b2 C1
  have p1 : (k : Int) ≤ d.size := by omega
  have p2 : (k : Int) + 1 ≤ d.size := by omega
  have p3 : IntKind.i64.wrap ((k : Int) + 1) = (k : Int) + 1 := wrapI _ (by omega)
  go_wp2
  go_quiet (fail)
  go_wp2
  go_ret
  exact ⟨rfl, curAt_drewN C2.out _, B2.out.drewN _⟩

theorem spoil2_at {w : World} {s : Nat × Int} (h : CurAt a len cap zs B w s) (d : ByteArray) (hd : 0 < d.size) (hd2 : d.size ≤ 3000) (h0 : (belowV zs len 4 (spS zs len d s)).1 = 2) :
    Calls Tryz.prog 46 #[.pointer (some ⟨B, 0, none⟩), .string d] w fun e w' => e = .returned (.string (d.extract 0 (spK zs len d s))) ∧ CurAt a len cap zs B w' (belowV zs len 4 (spS zs len d s)).2 ∧ Only B w w' := by
  have H : Hid (CurAt a len cap zs B w s) := h
  clear h
  have hr := belowV_range (zs := zs) (len := len) (d.size : Int) s (by omega)
  have hk : (belowV zs len d.size s).1 = (spK zs len d s : Nat) := by unfold spK; omega
  have hs : (belowV zs len d.size s).2 = spS zs len d s := rfl
  have hkl : spK zs len d s < d.size := by omega
  have hne : ((d.size : Int) == 0) = false := beq_eq_false_iff_ne.2 (by omega)
  clear hr
  generalize spK zs len d s = k at *
  generalize spS zs len d s = s1 at *
  go_enter Tryz.func46, Tryz.ntmps46
  go_wp2_with fail
  refine (below_at H.out (d.size : Int) (by omega)).mono ?_
  rintro e w1 ⟨rfl, c1, b1⟩
  rw [hs] at c1
  rw [hk]
  have C1 : Hid (CurAt a len cap zs B w1 s1) := c1
  clear c1 H hk hs
  go_wp2_with fail
  refine (below_at C1.out 4 (by omega)).mono ?_
  rintro e w2 ⟨rfl, c2, b2⟩
  have C2 : Hid (CurAt a len cap zs B w2 (belowV zs len 4 s1).2) := c2
  have B2 : Hid (Only B w w2) := b1.trans b2
  clear c2 b1 b2 C1
  have p1 : (k : Int) ≤ d.size := by omega
  have p2 : (k : Int) + 1 ≤ d.size := by omega
  have p3 : IntKind.i64.wrap ((k : Int) + 1) = (k : Int) + 1 := wrapI _ (by omega)
  go_wp2
  go_ret
  exact ⟨rfl, C2.out, B2.out⟩

set_option maxRecDepth 20000 in
theorem spoil1_at {w : World} {s : Nat × Int} (h : CurAt a len cap zs B w s) (d : ByteArray) (hd : 0 < d.size) (hd2 : d.size ≤ 3000) (h0 : (belowV zs len 4 (spS zs len d s)).1 = 1) :
    Calls Tryz.prog 46 #[.pointer (some ⟨B, 0, none⟩), .string d] w fun e w' => e = .returned (.string (d.extract 0 (spK zs len d s) ++ strOfNums [bv zs len (belowV zs len 4 (spS zs len d s)).2] ++ d.extract (spK zs len d s) d.size)) ∧ CurAt a len cap zs B w' (st1 len (belowV zs len 4 (spS zs len d s)).2) ∧ Only B w w' := by
  have H : Hid (CurAt a len cap zs B w s) := h
  clear h
  have hr := belowV_range (zs := zs) (len := len) (d.size : Int) s (by omega)
  have hk : (belowV zs len d.size s).1 = (spK zs len d s : Nat) := by unfold spK; omega
  have hs : (belowV zs len d.size s).2 = spS zs len d s := rfl
  have hkl : spK zs len d s < d.size := by omega
  have hne : ((d.size : Int) == 0) = false := beq_eq_false_iff_ne.2 (by omega)
  clear hr
  generalize spK zs len d s = k at *
  generalize spS zs len d s = s1 at *
  go_enter Tryz.func46, Tryz.ntmps46
  go_wp2_with fail
  refine (below_at H.out (d.size : Int) (by omega)).mono ?_
  rintro e w1 ⟨rfl, c1, b1⟩
  rw [hs] at c1
  rw [hk]
  have C1 : Hid (CurAt a len cap zs B w1 s1) := c1
  clear c1 H hk hs
  go_wp2_with fail
  refine (below_at C1.out 4 (by omega)).mono ?_
  rintro e w2 ⟨rfl, c2, b2⟩
  have C2 : Hid (CurAt a len cap zs B w2 (belowV zs len 4 s1).2) := c2
  have B2 : Hid (Only B w w2) := b1.trans b2
  clear c2 b1 b2 C1
  have p1 : (k : Int) ≤ d.size := by omega
  have p2 : (k : Int) + 1 ≤ d.size := by omega
  have p3 : IntKind.i64.wrap ((k : Int) + 1) = (k : Int) + 1 := wrapI _ (by omega)
  have rb := bv_range zs len (belowV zs len 4 s1).2
  have e1 : IntKind.u8.wrap (bv zs len (belowV zs len 4 s1).2) = bv zs len (belowV zs len 4 s1).2 := by rw [IntKind.wrap_u8']; omega
  have z1 : ∀ x, (strOfNums [x]).size = 1 := fun x => strOfNums_size [x]
  have q1 : ¬ 9223372036854775807 < min k d.size + 1 := by omega
  have q2 : ¬ 9223372036854775807 < min k d.size + 1 + (d.size - k) := by omega
  go_wp2
  go_region_law (refine step_call rfl 66 #[.tmp 32] #[37] rfl #[.pointer (some ⟨B, 0, none⟩)] (by simp [Act.eval, Act.put]) Tryz.func66 nameBy bodyBy _ (byte_at (curAt_drew C2.out)) ?_; rintro e w3 ⟨rfl, c3, b3⟩; have hcv := conv1x w3; refine ⟨_, rfl, ?_⟩)
  all_goals
    have C3 : Hid (CurAt a len cap zs B (w3.alloc (.cells #[.int .u8 (bv zs len (belowV zs len 4 s1).2)] 5)) (st1 len (belowV zs len 4 s1).2)) := curAt_alloc c3 _
    have B3 : Hid (Only B w (w3.alloc (.cells #[.int .u8 (bv zs len (belowV zs len 4 s1).2)] 5))) := (B2.out.drew.trans b3).trans (only_alloc _ _)
    clear c3 b3
    go_wp2
    go_ret
    exact ⟨rfl, C3.out, B3.out⟩

def spX (zs : List Int) (len : Nat) (b : Int) (s : Nat × Int) : Int := IntKind.u8.wrap (bits .xor .i64 b (1 + (belowV zs len 255 s).1))

set_option maxHeartbeats 1000000 in
set_option maxRecDepth 20000 in
theorem spoil3_at {w : World} {s : Nat × Int} (h : CurAt a len cap zs B w s) (d : ByteArray) (hd : 0 < d.size) (hd2 : d.size ≤ 3000) (h0 : ¬ (belowV zs len 4 (spS zs len d s)).1 = 0) (h1 : ¬ (belowV zs len 4 (spS zs len d s)).1 = 1) (h2 : ¬ (belowV zs len 4 (spS zs len d s)).1 = 2) :
    Calls Tryz.prog 46 #[.pointer (some ⟨B, 0, none⟩), .string d] w fun e w' => e = .returned (.string (d.extract 0 (spK zs len d s) ++ strOfNums [spX zs len (byteAt d (spK zs len d s)) (belowV zs len 4 (spS zs len d s)).2] ++ d.extract (spK zs len d s + 1) d.size)) ∧ CurAt a len cap zs B w' (belowV zs len 255 (belowV zs len 4 (spS zs len d s)).2).2 ∧ Only B w w' := by
  have H : Hid (CurAt a len cap zs B w s) := h
  clear h
  have hr := belowV_range (zs := zs) (len := len) (d.size : Int) s (by omega)
  have hk : (belowV zs len d.size s).1 = (spK zs len d s : Nat) := by unfold spK; omega
  have hs : (belowV zs len d.size s).2 = spS zs len d s := rfl
  have hkl : spK zs len d s < d.size := by omega
  have hne : ((d.size : Int) == 0) = false := beq_eq_false_iff_ne.2 (by omega)
  clear hr
  generalize spK zs len d s = k at *
  generalize spS zs len d s = s1 at *
  go_enter Tryz.func46, Tryz.ntmps46
  go_wp2_with fail
  refine (below_at H.out (d.size : Int) (by omega)).mono ?_
  rintro e w1 ⟨rfl, c1, b1⟩
  rw [hs] at c1
  rw [hk]
  have C1 : Hid (CurAt a len cap zs B w1 s1) := c1
  clear c1 H hk hs
  go_wp2_with fail
  refine (below_at C1.out 4 (by omega)).mono ?_
  rintro e w2 ⟨rfl, c2, b2⟩
  have C2 : Hid (CurAt a len cap zs B w2 (belowV zs len 4 s1).2) := c2
  have B2 : Hid (Only B w w2) := b1.trans b2
  clear c2 b1 b2 C1
  have p1 : (k : Int) ≤ d.size := by omega
  have p2 : (k : Int) + 1 ≤ d.size := by omega
  have p3 : IntKind.i64.wrap ((k : Int) + 1) = (k : Int) + 1 := wrapI _ (by omega)
  have rb := belowV_range (zs := zs) (len := len) 255 (belowV zs len 4 s1).2 (by omega)
  have hbl := byteAt_lt d k
  have hb : d[k].toNat = byteAt d k := (byteAt_in hkl).symm
  have e1 : IntKind.i64.wrap ((byteAt d k : Nat) : Int) = (byteAt d k : Nat) := wrapI _ (by omega)
  have e2 : IntKind.i64.wrap (1 + (belowV zs len 255 (belowV zs len 4 s1).2).1) = 1 + (belowV zs len 255 (belowV zs len 4 s1).2).1 := wrapI _ (by omega)
  have e3 : IntKind.u8.wrap (bits .xor .i64 ((byteAt d k : Nat) : Int) (1 + (belowV zs len 255 (belowV zs len 4 s1).2).1)) = spX zs len (byteAt d k) (belowV zs len 4 s1).2 := rfl
  have z1 : ∀ x, (strOfNums [x]).size = 1 := fun x => strOfNums_size [x]
  have q1 : ¬ 9223372036854775807 < min k d.size + 1 := by omega
  have q2 : ¬ 9223372036854775807 < min k d.size + 1 + (d.size - (k + 1)) := by omega
  have q3 : (k : Int) < d.size := by omega
  have q4 : 0 ≤ (k : Int) + 1 := by omega
  go_wp2
  go_region_law (refine step_call rfl 32 #[.tmp 54, .const (.int .i64 255)] #[37, 3] rfl #[.pointer (some ⟨B, 0, none⟩), .int .i64 255] (by simp [Act.eval, Act.put]) Tryz.func32 nameBe bodyBe _ (below_at (curAt_drew C2.out) 255 (by omega)) ?_; rintro e w3 ⟨rfl, c3, b3⟩; have hcv := conv1x w3; refine ⟨_, rfl, ?_⟩)
  all_goals
    have C3 : Hid (CurAt a len cap zs B (w3.alloc (.cells #[.int .u8 (spX zs len (byteAt d k) (belowV zs len 4 s1).2)] 5)) (belowV zs len 255 (belowV zs len 4 s1).2).2) := curAt_alloc c3 _
    have B3 : Hid (Only B w (w3.alloc (.cells #[.int .u8 (spX zs len (byteAt d k) (belowV zs len 4 s1).2)] 5))) := (B2.out.drew.trans b3).trans (only_alloc _ _)
    clear c3 b3
    go_wp2
    go_ret
    exact ⟨rfl, C3.out, B3.out⟩
end
def spoilV (zs : List Int) (len : Nat) (d : ByteArray) (s : Nat × Int) : ByteArray :=
  if d.size = 0 then strOfNums (txL zs len 3 s)
  else if (belowV zs len 4 (spS zs len d s)).1 = 0 then d.extract 0 (spK zs len d s) ++ d.extract (spK zs len d s + 1) d.size
  else if (belowV zs len 4 (spS zs len d s)).1 = 1 then d.extract 0 (spK zs len d s) ++ strOfNums [bv zs len (belowV zs len 4 (spS zs len d s)).2] ++ d.extract (spK zs len d s) d.size
  else if (belowV zs len 4 (spS zs len d s)).1 = 2 then d.extract 0 (spK zs len d s)
  else d.extract 0 (spK zs len d s) ++ strOfNums [spX zs len (byteAt d (spK zs len d s)) (belowV zs len 4 (spS zs len d s)).2] ++ d.extract (spK zs len d s + 1) d.size

theorem spoilV_size (zs : List Int) (len : Nat) (d : ByteArray) (s : Nat × Int) (hd : d.size ≤ 3000) : (spoilV zs len d s).size ≤ 3003 := by
  have ht := txL_length zs len 3 s (by omega)
  have z1 : ∀ x, (strOfNums [x]).size = 1 := fun x => strOfNums_size [x]
  unfold spoilV
  (repeat' split) <;> simp only [ByteArray.size_append, ByteArray.size_extract, z1, strOfNums_size] <;> omega

section
variable {a : Option Addr} {len cap : Nat} {zs : List Int} {B : Nat}

theorem spoil_at {w : World} {s : Nat × Int} (h : CurAt a len cap zs B w s) (d : ByteArray) (hd : d.size ≤ 3000) :
    Calls Tryz.prog 46 #[.pointer (some ⟨B, 0, none⟩), .string d] w fun e w' => e = .returned (.string (spoilV zs len d s)) ∧ Only B w w' := by
  unfold spoilV
  by_cases h0 : d.size = 0
  · rw [if_pos h0]
    exact (spoilE_at h d h0).mono fun e w' ⟨he, _, hb⟩ => ⟨he, hb⟩
  · rw [if_neg h0]
    by_cases h1 : (belowV zs len 4 (spS zs len d s)).1 = 0
    · rw [if_pos h1]
      exact (spoil0_at h d (by omega) hd h1).mono fun e w' ⟨he, _, hb⟩ => ⟨he, hb⟩
    · rw [if_neg h1]
      by_cases h2 : (belowV zs len 4 (spS zs len d s)).1 = 1
      · rw [if_pos h2]
        exact (spoil1_at h d (by omega) hd h2).mono fun e w' ⟨he, _, hb⟩ => ⟨he, hb⟩
      · rw [if_neg h2]
        by_cases h3 : (belowV zs len 4 (spS zs len d s)).1 = 2
        · rw [if_pos h3]
          exact (spoil2_at h d (by omega) hd h3).mono fun e w' ⟨he, _, hb⟩ => ⟨he, hb⟩
        · rw [if_neg h3]
          exact (spoil3_at h d (by omega) hd h1 h2 h3).mono fun e w' ⟨he, _, hb⟩ => ⟨he, hb⟩
end
end

section
open Go.ChangeShapes Go.WideShapes Go.ChangeAt Go.RowKit

def srcC : List ByteArray := [⟨#[41]⟩, ⟨#[32, 49]⟩, ⟨#[35, 120]⟩, ⟨#[10]⟩, ⟨#[32, 40]⟩, ⟨#[110, 105, 108]⟩]
def srcD : List ByteArray := [⟨#[40, 102, 117, 110, 32, 49, 32, 120, 41]⟩, ⟨#[40, 97, 112, 112, 32, 120, 41]⟩, ⟨#[40, 97, 112, 112, 32, 120, 32, 121, 32, 122, 41]⟩, ⟨#[40, 41]⟩, ⟨#[40, 49, 32, 50, 41]⟩, ⟨#[40, 110, 105, 108, 41]⟩, ⟨#[40, 108, 101, 116, 32, 102, 117, 110, 32, 49, 32, 50, 41]⟩, ⟨#[40, 102, 111, 111, 32, 49, 41]⟩, ⟨#[40, 32, 102, 117, 110, 32, 120, 10, 120, 32, 41]⟩, ⟨#[102, 117, 110]⟩, ⟨#[40, 105, 102, 32, 49, 32, 50]⟩, ⟨#[]⟩, ⟨#[40, 109, 97, 116, 99, 104, 32, 110, 105, 108, 32, 49, 32, 120, 32, 120, 32, 120, 41]⟩, ⟨#[40, 114, 101, 99, 32, 102, 32, 102, 32, 102, 32, 102, 41]⟩]
theorem srcC_size : ∀ S ∈ srcC, S.size ≤ 20 := by decide
theorem srcD_size : ∀ S ∈ srcD, S.size ≤ 20 := by decide

set_option maxHeartbeats 1000000 in
set_option maxRecDepth 20000 in
theorem src4_at (a : Option Addr) (len cap : Nat) (zs : List Int) (B : Nat) (w0 : World) (s : Nat × Int) (h : CurAt a len cap zs B w0 s) :
    Calls Tryz.prog 24 #[.pointer (some ⟨B, 0, none⟩)] w0 fun e w' => ∃ S : ByteArray, S.size ≤ 3100 ∧ e = .returned (.string S) ∧ Only B w0 w' := by
  have C0 : Hid (CurAt a len cap zs B w0 s) := h
  clear h
  go_enter Tryz.func24, Tryz.ntmps24
  go_wp2_with fail
  refine (some_at a len cap zs B w0 s C0.out).mono ?_
  intro e w1 hde
  obtain ⟨⟨al, g, c, l, rfl, hal, hA, hl, hT⟩, n1, s1, c1⟩ := bent_of_draw (by decide) hde
  have C1 : Hid (CurAt a len cap zs B w1 s1) := c1
  have N1 : Hid (Only B w0 w1) := n1
  have hst : ∀ i, i < l.length → (l.getD i noNod).name.size ≤ maxLen ∧ (l.getD i noNod).other.size ≤ maxLen := fun i hi => by
    have := trim_at hT hi
    unfold Trim1 Fit9 at this
    unfold maxLen
    omega
  have CP := hidI <| spec_print al g c l hal (by omega) hst w1 hA
  have hz := printB_size l
  obtain ⟨P, hP⟩ : ∃ P, printB l = P := ⟨_, rfl⟩
  rw [hP] at CP hz
  clear hde hA hT hal c1 n1 C0 hst hP
  go_wp2_with fail
  refine CP.out.mono ?_
  rintro e w2 ⟨rfl, b2⟩
  have C2 : Hid (CurAt a len cap zs B w2 s1) := curAt_below C1.out b2 C1.out.size
  have N2 : Hid (Only B w0 w2) := N1.out.trans (Only.of_below b2)
  clear b2 CP C1 N1
  go_wp2_with fail
  refine (below_some C2.out 7 (by omega) (by omega)).mono ?_
  rintro e w3 ⟨J, s3, rfl, hJ0, hJ1, c3, n3⟩
  have C3 : Hid (CurAt a len cap zs B w3 s3) := c3
  have N3 : Hid (Only B w0 w3) := N2.out.trans n3
  have hBw := c3.size
  clear c3 n3 C2 N2
  rcases (by omega : J = 0 ∨ J = 1 ∨ J = 2 ∨ J = 3 ∨ J = 4 ∨ 5 ≤ J) with rfl | rfl | rfl | rfl | rfl | h5
  · have hs := spoilV_size zs len P s3 (by omega)
    go_wp2_with fail
    refine (spoil_at C3.out P (by omega)).mono ?_
    rintro e w4 ⟨rfl, n4⟩
    have N4 : Hid (Only B w0 w4) := N3.out.trans n4
    clear n4
    generalize spoilV zs len P s3 = S at *
    go_wp2
    go_ret
    exact ⟨S, by omega, rfl, N4.out⟩
  · go_wp2_with fail
    refine (below_some C3.out ((P.size : Int) + 1) (by omega) (by omega)).mono ?_
    rintro e w4 ⟨KK, s4, rfl, hK0, hK1, c4, n4⟩
    obtain ⟨K, rfl⟩ : ∃ K : Nat, KK = K := ⟨KK.toNat, by omega⟩
    have hK : (K : Int) ≤ P.size := by omega
    have N4 : Hid (Only B w0 w4) := N3.out.trans n4
    clear c4 n4
    go_wp2
    go_ret
    exact ⟨P.extract 0 K, by rw [ByteArray.size_extract]; omega, rfl, N4.out⟩
  · have CA : Hid (CurAt a len cap zs B (w3.alloc (.cells (srcC.map Value.string).toArray 9)) s3) := curAt_alloc C3.out _
    go_wp2_with fail
    refine (pick_text CA.out srcC w3.heap.size 6 rfl (by omega) (by omega) (by simp) (by omega) (strs_new w3 srcC 9 _ rfl)).mono ?_
    rintro e w4 ⟨T, s4, hT, rfl, c4, n4⟩
    have hTs := srcC_size T hT
    have N4 : Hid (Only B w0 w4) := (N3.out.trans (only_alloc _ _)).trans n4
    have hov : ¬ 9223372036854775807 < P.size + T.size := by omega
    clear c4 n4 CA C3 hT
    go_wp2
    go_ret
    exact ⟨P ++ T, by rw [ByteArray.size_append]; omega, rfl, N4.out⟩
  · go_wp2_with fail
    refine (source_at C3.out).mono ?_
    rintro e w4 ⟨S, hS, rfl, n4⟩
    have N4 : Hid (Only B w0 w4) := N3.out.trans n4
    clear n4
    go_wp2
    go_ret
    exact ⟨S, by omega, rfl, N4.out⟩
  · have CA : Hid (CurAt a len cap zs B (w3.alloc (.cells (srcD.map Value.string).toArray 9)) s3) := curAt_alloc C3.out _
    go_wp2_with fail
    refine (pick_text CA.out srcD w3.heap.size 14 rfl (by omega) (by omega) (by simp) (by omega) (strs_new w3 srcD 9 _ rfl)).mono ?_
    rintro e w4 ⟨T, s4, hT, rfl, c4, n4⟩
    have hTs := srcD_size T hT
    have N4 : Hid (Only B w0 w4) := (N3.out.trans (only_alloc _ _)).trans n4
    clear c4 n4 CA C3 hT
    go_wp2
    go_ret
    exact ⟨T, by omega, rfl, N4.out⟩
  · have e0 : ¬ J = 0 := by omega
    have e1 : ¬ J = 1 := by omega
    have e2 : ¬ J = 2 := by omega
    have e3 : ¬ J = 3 := by omega
    have e4 : ¬ J = 4 := by omega
    go_wp2
    go_ret
    exact ⟨P, by omega, rfl, N3.out⟩

theorem draw_parse (a : Option Addr) (len cap : Nat) (zs : List Int) (w : World) (hrow : IsRow w a len cap zs) (hl : len ≤ 1048576) :
    Calls Tryz.prog 10 #[.slice a len cap] w fun e w' => ∃ S : ByteArray, S.size ≤ 3100 ∧ e = .returned (.string S) ∧ Below w.heap.size w w' := by
  have HR : Hid (IsRow w a len cap zs) := hrow
  clear hrow
  go_enter Tryz.func10, Tryz.ntmps10
  go_wp2_with fail
  refine (new_at a len cap zs w HR.out hl).mono ?_
  rintro e w1 ⟨rfl, c1, b1⟩
  have C1 : Hid (CurAt a len cap zs w.heap.size w1 (newS zs len)) := c1
  clear c1
  go_wp2_with fail
  refine (src4_at a len cap zs w.heap.size w1 _ C1.out).mono ?_
  rintro e w2 ⟨S, hS, rfl, b2⟩
  have b3 := b1.trans (b2.below b1.size)
  clear b1 b2
  go_wp2
  go_ret
  exact ⟨S, hS, rfl, b3⟩
end

section
open Go.ChangeShapes Go.WideShapes Go.ChangeAt Go.RowKit

theorem draws_print (a : Option Addr) (len cap : Nat) (zs : List Int) (w : World) (hrow : IsRow w a len cap zs) (hl : len ≤ 1048576) :
    Calls Tryz.prog 5 #[.slice a len cap] w (DrawsP w) := by
  refine (draw_print a len cap zs w hrow hl).mono ?_
  rintro e w' ⟨⟨al, g, c, l, rfl, hal, hA, hll, hT⟩, hb⟩
  refine ⟨al, g, c, l, rfl, hal, hA, hll, fun i hi => ?_, hb⟩
  have := trim_at hT hi
  unfold Trim1 Fit9 at this
  unfold maxLen
  omega

theorem parsed_law (a : Option Addr) (len cap : Nat) (zs : List Int) (w : World) (hrow : IsRow w a len cap zs) (hv : Vars w) :
    Calls Tryz.prog 3 #[.slice a len cap] w fun e w' => e = .returned (.bool true) ∧ Below w.heap.size w w' := by
  by_cases hbig : (1048576 : Int) < len
  · go_enter Tryz.func3, Tryz.ntmps3
    go_wp2_with fail
    refine (big_at a len cap true (decide_eq_true hbig) w).mono ?_
    rintro e w' ⟨rfl, rfl⟩
    go_wp2
    go_ret
    exact ⟨rfl, Below.refl _ _⟩
  · exact parsed_walk a len cap zs w hrow hbig hv (draws_print a len cap zs w hrow (by omega)) (fun w' hb => draw_parse a len cap zs w' (row_lowP hrow hb) (by omega))
end
end Go.Proofs.YtobijbhgpgnfkaaGreatDoor
