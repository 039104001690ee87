/-
  Several texts in one, in their order: each is told at its own place by its theorems. Conditions: written at each theorem.
-/
import Derived.Test.YtlooccddflpmnaaDoorPm
import Derived.Test.YtlooccddflpmnaaDoorKf
import Derived.Test.YtlooccddflpmnaaDoorTv
import Derived.Test.YtlooccddflpmnaaDoorGs
import Derived.Test.YtlooccddflpmnaaDoorLx
import Derived.Test.YtlooccddflpmnaaDoorXt
namespace Go.Proofs.YtlooccddflpmnaaDoor
set_option linter.unusedVariables false

section
open Go.ChangeShapes Go.WideShapes Go.ChangeAt Go.RowKit

theorem getD_more {ts us : List Tok} {q : Nat} (h : q < ts.length) : (ts ++ us).getD q noTok = ts.getD q noTok := by simp [List.getD, List.getElem?_append_left h]

theorem takeE_more {ts : List Tok} (us : List Tok) {E : Int} (E' : Int) {i : Nat} {k : Int} {r : Nat × Tok} (h : takeE ts E i k = .ok r) : takeE (ts ++ us) E' i k = .ok r := by
  obtain ⟨j, t⟩ := r
  obtain ⟨rfl, hi, rfl, hk⟩ := takeE_ok h
  unfold takeE
  have hi' : i < (ts ++ us).length := by simp only [List.length_append]; omega
  rw [if_pos hi', getD_more hi, if_pos hk]

theorem nameE_more {ts : List Tok} (us : List Tok) {E : Int} (E' : Int) {i : Nat} {r : Nat × ByteArray} (h : nameE ts E i = .ok r) : nameE (ts ++ us) E' i = .ok r := by
  unfold nameE at h ⊢
  split at h
  · cases h
  · rename_i hn
    split at h
    · rename_i j t ht
      obtain ⟨_, hi, _, _⟩ := takeE_ok ht
      rw [takeE_more us E' ht, if_neg (by rw [getD_more hi]; exact fun hh => hn ⟨hi, hh.2⟩)]
      exact h
    · cases h

theorem argsE_more {ts : List Tok} (us : List Tok) {E : Int} (E' : Int) {rec rec' : Nat → List Nod → Except Flt (Nat × List Nod)} (hr : ∀ i l r, rec i l = .ok r → rec' i l = .ok r) :
    ∀ (cs : List UInt8) (i : Nat) (n : Nod) (l : List Nod) (ks : List Int) (r : Nat × Nod × List Nod × List Int), argsE ts E rec cs i n l ks = .ok r → argsE (ts ++ us) E' rec' cs i n l ks = .ok r
  | [], i, n, l, ks, r, h => by simpa only [argsE] using h
  | c :: cs, i, n, l, ks, r, h => by
    rw [argsE] at h ⊢
    split at h
    · rename_i hc
      rw [if_pos hc]
      split at h
      · rename_i j s hs
        rw [nameE_more us E' hs]
        exact argsE_more us E' hr cs _ _ _ _ _ h
      · cases h
    · rename_i hc
      rw [if_neg hc]
      split at h
      · rename_i j m hs
        rw [hr _ _ _ hs]
        exact argsE_more us E' hr cs _ _ _ _ _ h
      · cases h

/-- What is read stays read when more tokens follow. -/
theorem exprE_more {ts : List Tok} (us : List Tok) {E : Int} (E' : Int) : ∀ (f f' : Nat), f ≤ f' → ∀ (i : Nat) (l : List Nod) (r : Nat × List Nod), exprE ts E f i l = .ok r → exprE (ts ++ us) E' f' i l = .ok r
  | 0, _, _, i, l, r, h => by cases h
  | f + 1, 0, hf, i, l, r, h => absurd hf (by omega)
  | f + 1, f' + 1, hf, i, l, r, h => by
    rw [exprE] at h ⊢
    split at h
    · rename_i hi
      have hi' : i < (ts ++ us).length := by simp only [List.length_append]; omega
      rw [if_pos hi', getD_more hi]
      split at h
      · rename_i c
        rw [if_pos c]
        exact h
      · rename_i c
        rw [if_neg c]
        split at h
        · rename_i c2
          rw [if_pos c2]
          split at h
          · rename_i c3
            rw [if_pos c3]
            exact h
          · rename_i c3
            rw [if_neg c3]
            split at h
            · rename_i j s hs
              rw [nameE_more us E' hs]
              exact h
            · cases h
        · rename_i c2
          rw [if_neg c2]
          split at h
          · cases h
          · rename_i c3
            rw [if_neg c3]
            split at h
            · cases h
            · rename_i j key hk
              rw [takeE_more us E' hk]
              dsimp only
              split at h
              · cases h
              · rename_i c4
                rw [if_neg c4]
                split at h
                · cases h
                · rename_i j2 n l2 ks ha
                  rw [argsE_more us E' (fun i l r h => exprE_more us E' f f' (by omega) i l r h) _ _ _ _ _ _ ha]
                  dsimp only
                  split at h
                  · cases h
                  · rename_i j3 t3 h3
                    rw [takeE_more us E' h3]
                    exact h
    · cases h

/-- What begins with no word and no number ends with a closing bracket. -/
theorem exprE_close {ts : List Tok} {E : Int} {f i j : Nat} {l m : List Nod} (h : exprE ts E f i l = .ok (j, m)) (h4 : (ts.getD i noTok).kind ≠ 4) (h3 : (ts.getD i noTok).kind ≠ 3) :
    0 < j ∧ (ts.getD (j - 1) noTok).kind = 2 := by
  cases f with
  | zero => cases h
  | succ f =>
    rw [exprE] at h
    split at h
    · split at h
      · cases h
      · split at h
        · cases h
        · split at h
          · cases h
          · split at h
            · cases h
            · split at h
              · cases h
              · rename_i j3 t3 e3
                obtain ⟨rfl, c2, rfl, c4⟩ := takeE_ok e3
                simp only [Except.ok.injEq, Prod.mk.injEq] at h
                obtain ⟨rfl, rfl⟩ := h
                exact ⟨by omega, c4⟩
    · cases h

/-- A fault: there are no tokens any more, or a token is not what is asked for. -/
def FltAt (ts : List Tok) (E : Int) (e : Flt) : Prop := e = (2, E) ∨ ∃ q, q < ts.length ∧ e = (3, (ts.getD q noTok).place)

theorem takeE_flt {ts : List Tok} {E : Int} {i : Nat} {k : Int} {e : Flt} (h : takeE ts E i k = .error e) : FltAt ts E e := by
  unfold takeE at h
  split at h
  · rename_i hi
    split at h
    · cases h
    · simp only [Except.error.injEq] at h
      exact Or.inr ⟨i, hi, h.symm⟩
  · simp only [Except.error.injEq] at h
    exact Or.inl h.symm

theorem nameE_flt {ts : List Tok} {E : Int} {i : Nat} {e : Flt} (h : nameE ts E i = .error e) : FltAt ts E e := by
  unfold nameE at h
  split at h
  · rename_i hi
    simp only [Except.error.injEq] at h
    exact Or.inr ⟨i, hi.1, h.symm⟩
  · split at h
    · cases h
    · rename_i e' he
      simp only [Except.error.injEq] at h
      subst h
      exact takeE_flt he

theorem argsE_flt {ts : List Tok} {E : Int} {rec : Nat → List Nod → Except Flt (Nat × List Nod)} (lo : Nat) (hf : Fair ts rec) (hr : ∀ i l e, lo ≤ i → i ≤ ts.length → rec i l = .error e → FltAt ts E e) :
    ∀ (cs : List UInt8) (i : Nat) (n : Nod) (l : List Nod) (ks : List Int) (e : Flt), lo ≤ i → i ≤ ts.length → argsE ts E rec cs i n l ks = .error e → FltAt ts E e
  | [], i, n, l, ks, e, _, _, h => by simp only [argsE] at h; cases h
  | c :: cs, i, n, l, ks, e, hi, hl, h => by
    rw [argsE] at h
    split at h
    · split at h
      · rename_i j s hs
        obtain ⟨rfl, _, _⟩ := nameE_ok hs
        exact argsE_flt lo hf hr cs _ _ _ _ _ (by omega) (by omega) h
      · rename_i e' he
        simp only [Except.error.injEq] at h
        subst h
        exact nameE_flt he
    · split at h
      · rename_i j m hs
        obtain ⟨a, b, _⟩ := hf _ _ _ _ hs
        exact argsE_flt lo hf hr cs _ _ _ _ _ (by omega) b h
      · rename_i e' he
        simp only [Except.error.injEq] at h
        subst h
        exact hr _ _ _ hi hl he

theorem exprE_flt {ts : List Tok} {E : Int} : ∀ (f i : Nat) (l : List Nod) (e : Flt), ts.length < f + i → i ≤ ts.length → exprE ts E f i l = .error e → FltAt ts E e
  | 0, i, l, e, hi, hl, h => absurd hi (by omega)
  | f + 1, i, l, e, hi, hl, h => by
    rw [exprE] at h
    split at h
    · rename_i hi2
      split at h
      · cases h
      · split at h
        · split at h
          · cases h
          · split at h
            · cases h
            · rename_i e' he
              simp only [Except.error.injEq] at h
              subst h
              exact nameE_flt he
        · split at h
          · simp only [Except.error.injEq] at h
            exact Or.inr ⟨i, hi2, h.symm⟩
          · split at h
            · rename_i e' he
              simp only [Except.error.injEq] at h
              subst h
              exact takeE_flt he
            · rename_i j key hk
              obtain ⟨rfl, k2, rfl, _⟩ := takeE_ok hk
              split at h
              · simp only [Except.error.injEq] at h
                exact Or.inr ⟨_, k2, h.symm⟩
              · split at h
                · rename_i e' he
                  simp only [Except.error.injEq] at h
                  subst h
                  exact argsE_flt (i + 2) (exprE_fair ts E f) (fun i' l' e' hi' hl' h' => exprE_flt f i' l' e' (by omega) hl' h') _ _ _ _ _ _ (by omega) (by omega) he
                · split at h
                  · rename_i e' he
                    simp only [Except.error.injEq] at h
                    subst h
                    exact takeE_flt he
                  · cases h
    · simp only [Except.error.injEq] at h
      exact Or.inl h.symm
end

section
open Go.ChangeShapes Go.WideShapes Go.ChangeAt Go.RowKit

/-- A word, a number, the brackets: tokens with no place. -/
def pWord (s : ByteArray) : Tok := ⟨3, s, 0, 0⟩
def pNum (s : ByteArray) (n : Int) : Tok := ⟨4, s, n, 0⟩
def pOpen : Tok := ⟨1, ⟨#[40]⟩, 0, 0⟩
def pShut : Tok := ⟨2, ⟨#[41]⟩, 0, 0⟩

/-- The pieces behind a key: names and kids as the form asks for them. -/
def argP (rec : Nat → List Tok) : List UInt8 → List ByteArray → List Int → List Tok
  | [], _, _ => []
  | c :: cs, ns, ks => if c = 110 then pWord (ns.headD ByteArray.empty) :: argP rec cs ns.tail ks else rec (ks.headD 0).toNat ++ argP rec cs ns ks.tail

/-- The pieces of node i's text; dec tells a number's digits. -/
def showP (dec : Int → ByteArray) (ts : List Nod) : Nat → Nat → List Tok
  | 0, _ => []
  | f + 1, i =>
    if (ts.getD i noNod).kind = 1 then [pWord (ts.getD i noNod).name]
    else if (ts.getD i noNod).kind = 2 then [pNum (dec (ts.getD i noNod).n) (ts.getD i noNod).n]
    else if (ts.getD i noNod).kind = 12 then [pWord ⟨#[110, 105, 108]⟩]
    else [pOpen, pWord (keyN (ts.getD i noNod).kind (ts.getD i noNod).n)]
      ++ argP (showP dec ts f) (goesOn (ts.getD i noNod).kind) [(ts.getD i noNod).name, (ts.getD i noNod).other] [(ts.getD i noNod).a, (ts.getD i noNod).b, (ts.getD i noNod).c] ++ [pShut]

/-- From the token p on, the pieces stand among the tokens, whatever their places. -/
def Stand (us : List Tok) (p : Nat) (ps : List Tok) : Prop :=
  p + ps.length ≤ us.length ∧ ∀ q, q < ps.length → (us.getD (p + q) noTok).kind = (ps.getD q noTok).kind ∧ (us.getD (p + q) noTok).text = (ps.getD q noTok).text ∧ (us.getD (p + q) noTok).n = (ps.getD q noTok).n

theorem stand_left {us : List Tok} {p : Nat} {ps qs : List Tok} (h : Stand us p (ps ++ qs)) : Stand us p ps := by
  obtain ⟨h1, h2⟩ := h
  simp only [List.length_append] at h1 h2
  refine ⟨by omega, fun q hq => ?_⟩
  have := h2 q (by omega)
  rwa [getD_more hq] at this

theorem stand_right {us : List Tok} {p : Nat} {ps qs : List Tok} (h : Stand us p (ps ++ qs)) : Stand us (p + ps.length) qs := by
  obtain ⟨h1, h2⟩ := h
  simp only [List.length_append] at h1 h2
  refine ⟨by omega, fun q hq => ?_⟩
  have := h2 (ps.length + q) (by omega)
  have e : (ps ++ qs).getD (ps.length + q) noTok = qs.getD q noTok := by
    simp [List.getD, List.getElem?_append_right]
  rw [e] at this
  rwa [Nat.add_assoc]

theorem stand_word {us : List Tok} {p : Nat} {s : ByteArray} {qs : List Tok} (h : Stand us p (pWord s :: qs)) (E : Int) : takeE us E p 3 = .ok (p + 1, us.getD p noTok) ∧ (us.getD p noTok).text = s ∧ Stand us (p + 1) qs := by
  have hr := stand_right (ps := [pWord s]) (qs := qs) h
  obtain ⟨h1, h2⟩ := h
  simp only [List.length_cons] at h1
  have := h2 0 (by simp)
  obtain ⟨a, b, c⟩ := this
  refine ⟨?_, b, hr⟩
  unfold takeE
  rw [if_pos (by omega)]
  rw [Nat.add_zero] at a
  rw [if_pos (by rw [a]; rfl)]

theorem stand_name {us : List Tok} {p : Nat} {s : ByteArray} {qs : List Tok} (h : Stand us p (pWord s :: qs)) (hs : isKeyB s = false) (E : Int) : nameE us E p = .ok (p + 1, s) ∧ Stand us (p + 1) qs := by
  obtain ⟨a, b, c⟩ := stand_word h E
  refine ⟨?_, c⟩
  unfold nameE
  rw [if_neg (by rw [b, hs]; rintro ⟨_, h⟩; cases h), a]
  dsimp only
  rw [b]
end

section
open Go.ChangeShapes Go.WideShapes Go.ChangeAt Go.RowKit

/-- The nodes of the part of node j, behind so many nodes. -/
def partAt (ts : List Nod) (st : List Int) (j n : Nat) : List Nod := ((ts.take (j + 1)).drop (st.getD j 0).toNat).map (shiftN ((n : Int) - st.getD j 0))

theorem partAt_length (ts : List Nod) (st : List Int) (j n : Nat) (hj : j < ts.length) (h : 0 ≤ st.getD j 0 ∧ st.getD j 0 ≤ j) : (partAt ts st j n).length = j + 1 - (st.getD j 0).toNat := by
  unfold partAt
  rw [List.length_map, cut_length _ _ _ (by omega) (by omega)]
end

section
open Go.ChangeShapes Go.WideShapes Go.ChangeAt Go.RowKit

/-- Nodes s to e, put behind n others. -/
def cutM (ts : List Nod) (s e n : Nat) : List Nod := ((ts.take e).drop s).map (shiftN ((n : Int) - s))

theorem cutM_split {ts : List Nod} {s p e n : Nat} (h1 : s ≤ p) (h2 : p ≤ e) (h3 : e ≤ ts.length) : cutM ts s e n = cutM ts s p n ++ cutM ts p e (n + (p - s)) := by
  unfold cutM
  have e1 : ((n + (p - s) : Nat) : Int) - p = (n : Int) - s := by omega
  rw [cut_split ts s p e h1 h2 h3, List.map_append, e1]

theorem cutM_nil (ts : List Nod) (s n : Nat) : cutM ts s s n = [] := by
  unfold cutM
  rw [List.drop_eq_nil_of_le (by simp; omega)]
  rfl

theorem cutM_one {ts : List Nod} {j n : Nat} (h : j < ts.length) : cutM ts j (j + 1) n = [shiftN ((n : Int) - j) (ts.getD j noNod)] := by
  unfold cutM
  rw [cut_one ts j h]
  rfl

theorem cutM_len {ts : List Nod} {s e n : Nat} (h1 : s ≤ e) (h3 : e ≤ ts.length) : (cutM ts s e n).length = e - s := by
  unfold cutM
  rw [List.length_map, cut_length _ _ _ h1 h3]

theorem cutM_last {ts : List Nod} {s i n : Nat} (h1 : s ≤ i) (h3 : i < ts.length) : cutM ts s (i + 1) n = cutM ts s i n ++ [shiftN ((n : Int) - s) (ts.getD i noNod)] := by
  rw [cutM_split h1 (Nat.le_succ i) h3, cutM_one h3]
  have e1 : ((n + (i - s) : Nat) : Int) - i = (n : Int) - s := by omega
  rw [e1]

theorem args_n {us : List Tok} {E : Int} {rec : Nat → List Nod → Except Flt (Nat × List Nod)} {cs : List UInt8} {p : Nat} {n : Nod} {l : List Nod} {ks : List Int} {s : ByteArray} {qs : List Tok}
    (h : Stand us p (pWord s :: qs)) (hs : isNameB s = true) : argsE us E rec (110 :: cs) p n l ks = argsE us E rec cs (p + 1) (if n.name.size = 0 then { n with name := s } else { n with other := s }) l ks := by
  have hk : isKeyB s = false := by
    have := (Bool.and_eq_true_iff.1 hs).2
    simpa using this
  rw [argsE, if_pos rfl, (stand_name h hk E).1]

theorem args_e {us : List Tok} {E : Int} {rec : Nat → List Nod → Except Flt (Nat × List Nod)} {cs : List UInt8} {p j : Nat} {n : Nod} {l m : List Nod} {ks : List Int}
    (h : rec p l = .ok (j, m)) : argsE us E rec (101 :: cs) p n l ks = argsE us E rec cs j n m (ks ++ [(m.length : Int) - 1]) := by
  rw [argsE, if_neg (by decide), h]

theorem form_read {us : List Tok} {E : Int} {k x : Int} (hk : IsForm k x) {A : List Tok} {p g : Nat} (h : Stand us p ([pOpen, pWord (keyN k x)] ++ A ++ [pShut])) {l l2 : List Nod} {n : Nod} {ks : List Int}
    (ha : argsE us E (exprE us E g) (goesOn k) (p + 2) ⟨k, 0, 0, 0, if k = 8 then x else 0, ByteArray.empty, ByteArray.empty⟩ l [] = .ok (p + 2 + A.length, n, l2, ks)) :
    exprE us E (g + 1) p l = .ok (p + ([pOpen, pWord (keyN k x)] ++ A ++ [pShut]).length, l2 ++ [withKids n ks]) := by
  have hs := stand_right h
  have h0 := stand_left h
  have h1 := stand_right (ps := [pOpen]) (qs := [pWord (keyN k x)]) (stand_left h0)
  obtain ⟨t1, t2, _⟩ := stand_word h1 E
  have ho := h0.2 0 (by simp)
  have hl := h.1
  simp only [List.length_append, List.length_cons, List.length_nil] at hl
  have hsk := hs.2 0 (by simp)
  simp only [List.length_append, List.length_cons, List.length_nil, Nat.add_zero] at hsk ho t1 t2
  have o1 : (us.getD p noTok).kind = 1 := ho.1
  have s1 : (us.getD (p + (0 + 1 + 1 + A.length)) noTok).kind = 2 := hsk.1
  rw [exprE, if_pos (by omega), if_neg (by rw [o1]; decide), if_neg (by rw [o1]; decide), if_neg (by rw [o1]; decide)]
  rw [show p + 1 = p + (0 + 1) from rfl, t1]
  dsimp only
  rw [t2, form_key hk]
  dsimp only
  rw [if_neg (by have := hk.1; omega)]
  rw [show p + (0 + 1) + 1 = p + 2 from rfl, ha]
  dsimp only
  have e3 : takeE us E (p + 2 + A.length) 2 = .ok (p + 2 + A.length + 1, us.getD (p + 2 + A.length) noTok) := by
    unfold takeE
    rw [if_pos (by omega), if_pos (by rw [← s1]; congr 2; omega)]
  rw [e3]
  dsimp only
  simp only [List.length_append, List.length_cons, List.length_nil]
  congr 2
  omega
end

section
open Go.ChangeShapes Go.WideShapes Go.ChangeAt Go.RowKit

/-- Node i's pieces are read as the nodes of its part. -/
def Reads (dec : Int → ByteArray) (us : List Tok) (E : Int) (ts : List Nod) (st : List Nat) (i : Nat) : Prop :=
  ∀ (f g p : Nat) (l : List Nod), i < f → i < g → l.length + (i + 1 - st.getD i 0) ≤ 1000000 → Stand us p (showP dec ts f i) → exprE us E g p l = .ok (p + (showP dec ts f i).length, l ++ cutM ts (st.getD i 0) (i + 1) l.length)

def chainE (st : List Nat) (i : Nat) : List UInt8 → List Int → Nat → Nat → Prop
  | [], _, e, z => e = z
  | c :: cs, ks, e, z => if c = 110 then chainE st i cs ks e z else ∃ k : Nat, ks.headD 0 = k ∧ k < i ∧ st.getD k 0 = e ∧ chainE st i cs ks.tail (k + 1) z

def usedE (d : Int) : List UInt8 → List Int → List Int
  | [], _ => []
  | c :: cs, ks => if c = 110 then usedE d cs ks else (ks.headD 0 + d) :: usedE d cs ks.tail

def namesE : List UInt8 → List ByteArray → Prop
  | [], _ => True
  | c :: cs, ns => if c = 110 then isNameB (ns.headD ByteArray.empty) = true ∧ namesE cs ns.tail else namesE cs ns

def fillE : List UInt8 → List ByteArray → Nod → Nod
  | [], _, n => n
  | c :: cs, ns, n => if c = 110 then fillE cs ns.tail (if n.name.size = 0 then { n with name := ns.headD ByteArray.empty } else { n with other := ns.headD ByteArray.empty }) else fillE cs ns n

def OnlyTwo (cs : List UInt8) : Prop := ∀ c ∈ cs, c = 110 ∨ c = 101

theorem args_read {dec : Int → ByteArray} {us : List Tok} {E : Int} {ts : List Nod} {st : List Nat} {i f g s : Nat} {l0 : List Nod} (hi : i ≤ ts.length) (hl : l0.length + (i - s) ≤ 1000000)
    (hst : ∀ k, k < i → st.getD k 0 ≤ k) (hR : ∀ k, k < i → Reads dec us E ts st k) (hf : i ≤ f) (hg : i ≤ g) :
    ∀ (cs : List UInt8) (ns : List ByteArray) (ks : List Int) (q : Nat) (n : Nod) (acc : List Int) (e z : Nat), OnlyTwo cs → s ≤ e → e ≤ i → chainE st i cs ks e z → namesE cs ns → Stand us q (argP (showP dec ts f) cs ns ks) →
      argsE us E (exprE us E g) cs q n (l0 ++ cutM ts s e l0.length) acc
        = .ok (q + (argP (showP dec ts f) cs ns ks).length, fillE cs ns n, l0 ++ cutM ts s z l0.length, acc ++ usedE ((l0.length : Int) - s) cs ks)
  | [], ns, ks, q, n, acc, e, z, hc, hs, he, hch, hns, hS => by
    simp only [chainE] at hch
    subst hch
    simp only [argsE, argP, fillE, usedE, List.length_nil, Nat.add_zero, List.append_nil]
  | c :: cs, ns, ks, q, n, acc, e, z, hc, hs, he, hch, hns, hS => by
    have hc' : OnlyTwo cs := fun x hx => hc x (List.mem_cons_of_mem _ hx)
    rcases hc c List.mem_cons_self with rfl | rfl
    · simp only [chainE, namesE, argP, if_true] at hch hns hS
      rw [args_n hS hns.1]
      have ih := args_read (s := s) (l0 := l0) hi hl hst hR hf hg cs ns.tail ks (q + 1) (if n.name.size = 0 then { n with name := ns.headD ByteArray.empty } else { n with other := ns.headD ByteArray.empty }) acc e z hc' hs he hch hns.2
        (stand_right (ps := [pWord (ns.headD ByteArray.empty)]) hS)
      rw [ih]
      simp only [argP, fillE, usedE, if_true, List.length_cons]
      congr 2
      omega
    · have h101 : ¬ ((101 : UInt8) = 110) := by decide
      simp only [chainE, namesE, argP, if_neg h101] at hch hns hS
      obtain ⟨k, hk, hki, hse, hch⟩ := hch
      rw [hk, Int.toNat_natCast] at hS
      have hkk := hst k hki
      have hr := hR k hki f g q (l0 ++ cutM ts s e l0.length) (by omega) (by omega) (by rw [List.length_append, cutM_len hs (by omega)]; omega) (stand_left hS)
      rw [hse, List.length_append, cutM_len hs (by omega), List.append_assoc, ← cutM_split (p := e) (e := k + 1) hs (by omega) (by omega)] at hr
      rw [args_e hr]
      have ih := args_read (s := s) (l0 := l0) hi hl hst hR hf hg cs ns ks.tail (q + (showP dec ts f k).length) n (acc ++ [((l0 ++ cutM ts s (k + 1) l0.length).length : Int) - 1]) (k + 1) z hc' (by omega) (by omega) hch hns (stand_right hS)
      have hlen : ((l0 ++ cutM ts s (k + 1) l0.length).length : Int) - 1 = (k : Int) + ((l0.length : Int) - s) := by
        rw [List.length_append, cutM_len (by omega) (by omega)]
        omega
      rw [hlen] at ih ⊢
      rw [ih]
      simp only [argP, fillE, usedE, if_neg h101, List.length_append, hk, Int.toNat_natCast]
      rw [List.append_assoc, Nat.add_assoc]
      rfl
end

section
open Go.ChangeShapes Go.WideShapes Go.ChangeAt Go.RowKit

theorem wrap_in {x : Int} (h1 : -9223372036854775808 ≤ x) (h2 : x ≤ 9223372036854775807) : wrap64 x = x := by
  unfold wrap64
  omega

theorem empty_of {s : ByteArray} (h : s.size = 0) : s = ByteArray.empty := size_eq s h

theorem name_full {s : ByteArray} (h : isNameB s = true) : s.size ≠ 0 ∧ isKeyB s = false := by
  obtain ⟨a, b⟩ := Bool.and_eq_true_iff.1 h
  have := of_decide_eq_true a
  exact ⟨by omega, by simpa using b⟩

/-- What a form with so many names and kids is filled to. -/
theorem filled {t : Nod} (hF : FieldsOk t) (hk : IsForm t.kind t.n) (d : Int) (hd : -1000000 ≤ d ∧ d ≤ 1000000) (ha : 0 ≤ t.a ∧ t.a ≤ 1000000) (hb : 0 ≤ t.b ∧ t.b ≤ 1000000) (hc : 0 ≤ t.c ∧ t.c ≤ 1000000) :
    withKids (fillE (goesOn t.kind) [t.name, t.other] ⟨t.kind, 0, 0, 0, if t.kind = 8 then t.n else 0, ByteArray.empty, ByteArray.empty⟩) (usedE d (goesOn t.kind) [t.a, t.b, t.c]) = shiftN d t := by
  obtain ⟨kind, a, b, c, n, name, other⟩ := t
  simp only at hF hk ha hb hc ⊢
  obtain ⟨⟨k1, k2⟩, ⟨z1, z2, z3⟩, ⟨m1, m2, m3, m4⟩, ⟨n1, n2, n3⟩⟩ := hF
  obtain ⟨h1, h2, h3, h4⟩ := hk
  have wa : wrap64 (a + d) = a + d := wrap_in (by omega) (by omega)
  have wb : wrap64 (b + d) = b + d := wrap_in (by omega) (by omega)
  have wc : wrap64 (c + d) = c + d := wrap_in (by omega) (by omega)
  have : kind = 3 ∨ kind = 4 ∨ kind = 5 ∨ kind = 6 ∨ kind = 7 ∨ kind = 8 ∨ kind = 9 ∨ kind = 10 ∨ kind = 11 ∨ kind = 13 ∨ kind = 14 ∨ kind = 15 ∨ kind = 16 ∨ kind = 17 ∨ kind = 18 ∨ kind = 19 := by omega
  rcases this with rfl | rfl | rfl | rfl | rfl | rfl | rfl | rfl | rfl | rfl | rfl | rfl | rfl | rfl | rfl | rfl <;>
    simp [arN, nmN] at z1 z2 z3 m1 m2 m3 m4 n1 n2 n3 <;>
    (try have := empty_of m1) <;> (try have := empty_of m3) <;> (try have := (name_full m2).1) <;> (try have := (name_full m4).1) <;>
    (try subst z1) <;> (try subst z2) <;> (try subst z3) <;> (try subst n3) <;>
    simp_all [goesOn, fillE, usedE, withKids, shiftN, arN]

theorem goes_two (k : Int) : OnlyTwo (goesOn k) := by
  unfold goesOn
  repeat' split
  all_goals (intro c hc; simp only [List.mem_cons, List.not_mem_nil, or_false] at hc; rcases hc with rfl | hc <;> first | decide | (rcases hc with rfl | hc <;> first | decide | (rcases hc with rfl | hc <;> first | decide | (rcases hc with rfl | rfl <;> decide))))

theorem goes_names {t : Nod} (hF : FieldsOk t) (hk : IsForm t.kind t.n) : namesE (goesOn t.kind) [t.name, t.other] := by
  obtain ⟨kind, a, b, c, n, name, other⟩ := t
  simp only at hF hk ⊢
  obtain ⟨⟨k1, k2⟩, _, ⟨m1, m2, m3, m4⟩, _⟩ := hF
  obtain ⟨h1, h2, h3, h4⟩ := hk
  have : kind = 3 ∨ kind = 4 ∨ kind = 5 ∨ kind = 6 ∨ kind = 7 ∨ kind = 8 ∨ kind = 9 ∨ kind = 10 ∨ kind = 11 ∨ kind = 13 ∨ kind = 14 ∨ kind = 15 ∨ kind = 16 ∨ kind = 17 ∨ kind = 18 ∨ kind = 19 := by omega
  rcases this with rfl | rfl | rfl | rfl | rfl | rfl | rfl | rfl | rfl | rfl | rfl | rfl | rfl | rfl | rfl | rfl <;>
    simp [nmN] at m1 m2 m3 m4 <;> simp_all [goesOn, namesE]

theorem goes_chain {ts : List Nod} {st : List Nat} (hR : Right ts st) {i : Nat} (hi : i < ts.length) (hk : IsForm (ts.getD i noNod).kind (ts.getD i noNod).n) :
    chainE st i (goesOn (ts.getD i noNod).kind) [(ts.getD i noNod).a, (ts.getD i noNod).b, (ts.getD i noNod).c] (st.getD i 0) i
      ∧ (0 ≤ (ts.getD i noNod).a ∧ (ts.getD i noNod).a ≤ 1000000) ∧ (0 ≤ (ts.getD i noNod).b ∧ (ts.getD i noNod).b ≤ 1000000) ∧ (0 ≤ (ts.getD i noNod).c ∧ (ts.getD i noNod).c ≤ 1000000) := by
  obtain ⟨hlen, hA⟩ := hR
  obtain ⟨hF, hs, r0, r1, r2, r3⟩ := hA i hi
  have hle : ∀ k, k < i → st.getD k 0 ≤ k := fun k hk => (hA k (by omega)).2.1
  generalize ts.getD i noNod = t at *
  obtain ⟨kind, a, b, c, n, name, other⟩ := t
  simp only at hF hk r0 r1 r2 r3 ⊢
  obtain ⟨⟨k1, k2⟩, ⟨z1, z2, z3⟩, _, _⟩ := hF
  obtain ⟨h1, h2, h3, h4⟩ := hk
  have : arN kind = 1 ∨ arN kind = 2 ∨ arN kind = 3 := by
    unfold arN
    repeat' split
    all_goals omega
  rcases this with e | e | e
  · obtain ⟨a', rfl, e1, e2⟩ := r1 e
    have hb : b = 0 := z2 (by show arN kind < 2; omega)
    have hc : c = 0 := z3 (by show arN kind < 3; omega)
    refine ⟨?_, by omega, by omega, by omega⟩
    have : kind = 3 ∨ kind = 10 ∨ kind = 11 ∨ kind = 15 ∨ kind = 16 ∨ kind = 18 := by
      unfold arN at e
      repeat' split at e
      all_goals omega
    rcases this with rfl | rfl | rfl | rfl | rfl | rfl <;>
      (simp [goesOn, chainE]; exact ⟨a', rfl, by omega, e2, by omega⟩)
  · obtain ⟨a', b', rfl, rfl, e1, e2, e3⟩ := r2 e
    have hc : c = 0 := z3 (by show arN kind < 3; omega)
    have := hle b' (by omega)
    refine ⟨?_, by omega, by omega, by omega⟩
    have : kind = 4 ∨ kind = 5 ∨ kind = 6 ∨ kind = 8 ∨ kind = 9 ∨ kind = 13 ∨ kind = 17 ∨ kind = 19 := by
      unfold arN at e
      repeat' split at e
      all_goals omega
    rcases this with rfl | rfl | rfl | rfl | rfl | rfl | rfl | rfl <;>
      (simp [goesOn, chainE]; exact ⟨a', rfl, by omega, e3, b', rfl, by omega, e2.symm, e1⟩)
  · obtain ⟨a', b', c', rfl, rfl, rfl, e1, e2, e3, e4⟩ := r3 e
    have := hle c' (by omega)
    have := hle b' (by omega)
    refine ⟨?_, by omega, by omega, by omega⟩
    have : kind = 7 ∨ kind = 14 := by
      unfold arN at e
      repeat' split at e
      all_goals omega
    rcases this with rfl | rfl <;>
      (simp [goesOn, chainE]; exact ⟨a', rfl, by omega, e4, b', rfl, by omega, e3.symm, c', rfl, by omega, e2.symm, e1⟩)

theorem leaf_shift {t : Nod} (h : arN t.kind = 0) (x : Int) : shiftN x t = t := by
  unfold shiftN
  rw [h]
  simp
end

section
open Go.ChangeShapes Go.WideShapes Go.ChangeAt Go.RowKit

theorem leaf_cut {ts : List Nod} {st : List Nat} {i n : Nat} {t : Nod} (hi : i < ts.length) (hs : st.getD i 0 = i) (ht : ts.getD i noNod = t) (ha : arN t.kind = 0) : cutM ts (st.getD i 0) (i + 1) n = [t] := by
  rw [hs, cutM_one hi, ht, leaf_shift ha]

/-- Each node of a right program is read from its pieces. -/
theorem node_reads {dec : Int → ByteArray} {us : List Tok} {E : Int} {ts : List Nod} {st : List Nat} (hR : Right ts st) :
    ∀ (b i : Nat), i < b → i < ts.length → Reads dec us E ts st i
  | 0, i, hb, hi => absurd hb (by omega)
  | b + 1, i, hb, hi => by
    intro f g p l hf hg hl hS
    have ih : ∀ k, k < i → Reads dec us E ts st k := fun k hk => node_reads hR b k (by omega) (by omega)
    have hch := @goes_chain ts st hR i hi
    obtain ⟨hlen, hA⟩ := hR
    have hle : ∀ k, k < i → st.getD k 0 ≤ k := fun k hk => (hA k (by omega)).2.1
    obtain ⟨hF, hs, r0, -⟩ := hA i hi
    obtain ⟨f, rfl⟩ : ∃ f', f = f' + 1 := ⟨f - 1, by omega⟩
    obtain ⟨g, rfl⟩ : ∃ g', g = g' + 1 := ⟨g - 1, by omega⟩
    have hlast := @cutM_last ts (st.getD i 0) i l.length hs hi
    by_cases k1 : (ts.getD i noNod).kind = 1
    · rw [showP, if_pos k1] at hS ⊢
      obtain ⟨_, ⟨z1, z2, z3⟩, ⟨m1, m2, m3, m4⟩, ⟨n1, n2, n3⟩⟩ := hF
      have hnm := m2 (by rw [k1]; decide)
      have hky := (name_full hnm).2
      obtain ⟨s1, _⟩ := stand_name hS hky E
      have hz := hS.2 0 (by simp)
      have hzl := hS.1
      simp only [List.length_cons, List.length_nil, Nat.add_zero] at hz hzl
      have q1 : (us.getD p noTok).kind = 3 := hz.1
      have q2 : (us.getD p noTok).text = (ts.getD i noNod).name := hz.2.1
      have a0 : arN (ts.getD i noNod).kind = 0 := by rw [k1]; rfl
      rw [exprE, if_pos (by omega), if_neg (by rw [q1]; decide), if_pos q1, if_neg (by
        rw [q2]
        intro hn
        unfold isKeyB at hky
        rw [hn] at hky
        revert hky
        decide), s1]
      dsimp only
      rw [leaf_cut hi (r0 a0) rfl a0]
      have e1 : (ts.getD i noNod) = ⟨1, 0, 0, 0, 0, (ts.getD i noNod).name, ByteArray.empty⟩ := by
        have := z1 (by omega)
        have := z2 (by omega)
        have := z3 (by omega)
        have := n3 (by omega) (by omega)
        have := empty_of (m3 (by rw [k1]; decide))
        generalize ts.getD i noNod = t at *
        obtain ⟨kind, a, b, c, n, name, other⟩ := t
        simp_all
      rw [← e1]
      rfl
    · by_cases k2 : (ts.getD i noNod).kind = 2
      · rw [showP, if_neg k1, if_pos k2] at hS ⊢
        obtain ⟨_, ⟨z1, z2, z3⟩, ⟨m1, m2, m3, m4⟩, ⟨n1, n2, n3⟩⟩ := hF
        have hz := hS.2 0 (by simp)
        have hzl := hS.1
        simp only [List.length_cons, List.length_nil, Nat.add_zero] at hz hzl
        have q1 : (us.getD p noTok).kind = 4 := hz.1
        have q2 : (us.getD p noTok).n = (ts.getD i noNod).n := hz.2.2
        have a0 : arN (ts.getD i noNod).kind = 0 := by rw [k2]; rfl
        rw [exprE, if_pos (by omega), if_pos q1, q2, leaf_cut hi (r0 a0) rfl a0]
        have e1 : (ts.getD i noNod) = ⟨2, 0, 0, 0, (ts.getD i noNod).n, ByteArray.empty, ByteArray.empty⟩ := by
          have := z1 (by omega)
          have := z2 (by omega)
          have := z3 (by omega)
          have := empty_of (m1 (by rw [k2]; decide))
          have := empty_of (m3 (by rw [k2]; decide))
          generalize ts.getD i noNod = t at *
          obtain ⟨kind, a, b, c, n, name, other⟩ := t
          simp_all
        rw [← e1]
        rfl
      · by_cases k12 : (ts.getD i noNod).kind = 12
        · rw [showP, if_neg k1, if_neg k2, if_pos k12] at hS ⊢
          obtain ⟨_, ⟨z1, z2, z3⟩, ⟨m1, m2, m3, m4⟩, ⟨n1, n2, n3⟩⟩ := hF
          have hz := hS.2 0 (by simp)
          have hzl := hS.1
          simp only [List.length_cons, List.length_nil, Nat.add_zero] at hz hzl
          have q1 : (us.getD p noTok).kind = 3 := hz.1
          have q2 : (us.getD p noTok).text = ⟨#[110, 105, 108]⟩ := hz.2.1
          have a0 : arN (ts.getD i noNod).kind = 0 := by rw [k12]; rfl
          rw [exprE, if_pos (by omega), if_neg (by rw [q1]; decide), if_pos q1, if_pos (by rw [q2]), leaf_cut hi (r0 a0) rfl a0]
          have e1 : (ts.getD i noNod) = ⟨12, 0, 0, 0, 0, ByteArray.empty, ByteArray.empty⟩ := by
            have := z1 (by omega)
            have := z2 (by omega)
            have := z3 (by omega)
            have := n3 (by omega) (by omega)
            have := empty_of (m1 (by rw [k12]; decide))
            have := empty_of (m3 (by rw [k12]; decide))
            generalize ts.getD i noNod = t at *
            obtain ⟨kind, a, b, c, n, name, other⟩ := t
            simp_all
          rw [← e1]
          rfl
        · have hk : IsForm (ts.getD i noNod).kind (ts.getD i noNod).n := by
            obtain ⟨⟨u1, u2⟩, _, _, ⟨n1, n2, n3⟩⟩ := hF
            exact ⟨by omega, u2, k12, n2⟩
          rw [showP, if_neg k1, if_neg k2, if_neg k12] at hS ⊢
          obtain ⟨c1, c2, c3, c4⟩ := hch hk
          have hp := stand_right (stand_left hS)
          have har := args_read (s := st.getD i 0) (l0 := l) (g := g) (Nat.le_of_lt hi) (by omega) hle ih (by omega) (by omega) (goesOn (ts.getD i noNod).kind) [(ts.getD i noNod).name, (ts.getD i noNod).other]
            [(ts.getD i noNod).a, (ts.getD i noNod).b, (ts.getD i noNod).c] (p + 2) ⟨(ts.getD i noNod).kind, 0, 0, 0, if (ts.getD i noNod).kind = 8 then (ts.getD i noNod).n else 0, ByteArray.empty, ByteArray.empty⟩ [] (st.getD i 0) i (goes_two _) (Nat.le_refl _) hs c1 (goes_names hF hk) hp
          rw [cutM_nil, List.append_nil, List.nil_append] at har
          rw [form_read hk hS har, filled hF hk _ (by omega) c2 c3 c4, hlast, List.append_assoc l]
end

section
open Go.ChangeShapes Go.WideShapes Go.ChangeAt Go.RowKit

/-- The first j tokens are the same. -/
def AgreeTo (ts us : List Tok) (j : Nat) : Prop := ∀ q, q < j → q < us.length ∧ us.getD q noTok = ts.getD q noTok

theorem takeE_by {ts us : List Tok} {E : Int} (E' : Int) {i : Nat} {k : Int} {j : Nat} {t : Tok} (h : takeE ts E i k = .ok (j, t)) (ha : AgreeTo ts us j) : takeE us E' i k = .ok (j, t) := by
  obtain ⟨rfl, hi, rfl, hk⟩ := takeE_ok h
  obtain ⟨a, b⟩ := ha i (by omega)
  unfold takeE
  rw [if_pos a, b, if_pos hk]

theorem nameE_by {ts us : List Tok} {E : Int} (E' : Int) {i j : Nat} {s : ByteArray} (h : nameE ts E i = .ok (j, s)) (ha : AgreeTo ts us j) : nameE us E' i = .ok (j, s) := by
  unfold nameE at h ⊢
  split at h
  · cases h
  · rename_i hn
    split at h
    · rename_i j' t ht
      have hj := h
      simp only [Except.ok.injEq, Prod.mk.injEq] at hj
      obtain ⟨rfl, _⟩ := hj
      obtain ⟨e1, hi, _, _⟩ := takeE_ok ht
      obtain ⟨a, b⟩ := ha i (by omega)
      rw [takeE_by E' ht ha, if_neg (by rw [b]; exact fun hh => hn ⟨hi, hh.2⟩)]
      exact h
    · cases h

theorem argsE_by {ts us : List Tok} {E : Int} (E' : Int) {rec rec' : Nat → List Nod → Except Flt (Nat × List Nod)} (hf : Fair ts rec) {J : Nat} (ha : AgreeTo ts us J) (hr : ∀ i l j m, j ≤ J → rec i l = .ok (j, m) → rec' i l = .ok (j, m)) :
    ∀ (cs : List UInt8) (i : Nat) (n : Nod) (l : List Nod) (ks : List Int) (j : Nat) (r : Nod × List Nod × List Int), j ≤ J → argsE ts E rec cs i n l ks = .ok (j, r) → argsE us E' rec' cs i n l ks = .ok (j, r)
  | [], i, n, l, ks, j, r, hj, h => by simpa only [argsE] using h
  | c :: cs, i, n, l, ks, j, r, hj, h => by
    rw [argsE] at h ⊢
    split at h
    · rename_i hc
      rw [if_pos hc]
      split at h
      · rename_i j1 s hs
        obtain ⟨r1, r2, r3⟩ := r
        have hm := (argsE_fair hf _ _ _ _ _ _ _ _ _ h).1
        rw [nameE_by E' hs (fun q hq => ha q (by omega))]
        exact argsE_by E' hf ha hr cs _ _ _ _ _ _ hj h
      · cases h
    · rename_i hc
      rw [if_neg hc]
      split at h
      · rename_i j1 m hs
        obtain ⟨r1, r2, r3⟩ := r
        have hm := (argsE_fair hf _ _ _ _ _ _ _ _ _ h).1
        rw [hr _ _ _ _ (by omega) hs]
        exact argsE_by E' hf ha hr cs _ _ _ _ _ _ hj h
      · cases h

/-- What is read goes by the tokens that are passed. -/
theorem exprE_by {ts us : List Tok} {E : Int} (E' : Int) : ∀ (f f' : Nat), f ≤ f' → ∀ (i : Nat) (l : List Nod) (j : Nat) (m : List Nod), AgreeTo ts us j → exprE ts E f i l = .ok (j, m) → exprE us E' f' i l = .ok (j, m)
  | 0, _, _, i, l, j, m, ha, h => by cases h
  | f + 1, 0, hf, i, l, j, m, ha, h => absurd hf (by omega)
  | f + 1, f' + 1, hf, i, l, j, m, ha, h => by
    have hfair := exprE_fair ts E (f + 1) i l j m h
    obtain ⟨a, b⟩ := ha i (by omega)
    rw [exprE] at h ⊢
    split at h
    · rename_i hi
      rw [if_pos a, b]
      split at h
      · rename_i c
        rw [if_pos c]
        exact h
      · rename_i c
        rw [if_neg c]
        split at h
        · rename_i c2
          rw [if_pos c2]
          split at h
          · rename_i c3
            rw [if_pos c3]
            exact h
          · rename_i c3
            rw [if_neg c3]
            split at h
            · rename_i j1 s hs
              have hj := h
              simp only [Except.ok.injEq, Prod.mk.injEq] at hj
              rw [nameE_by E' hs (fun q hq => ha q (by omega))]
              exact h
            · cases h
        · rename_i c2
          rw [if_neg c2]
          split at h
          · cases h
          · rename_i c3
            rw [if_neg c3]
            split at h
            · cases h
            · rename_i j1 key hk
              split at h
              · cases h
              · rename_i c4
                split at h
                · cases h
                · rename_i j2 n l2 ks hb
                  have fa := argsE_fair (exprE_fair ts E f) _ _ _ _ _ _ _ _ _ hb
                  split at h
                  · cases h
                  · rename_i j3 t3 h3
                    obtain ⟨g1, _, _, _⟩ := takeE_ok h3
                    have hj := h
                    simp only [Except.ok.injEq, Prod.mk.injEq] at hj
                    rw [takeE_by E' hk (fun q hq => ha q (by omega))]
                    dsimp only
                    rw [if_neg c4, argsE_by E' (exprE_fair ts E f) ha (fun i l j' m hj' h => exprE_by E' f f' (by omega) i l j' m (fun q hq => ha q (by omega)) h) _ _ _ _ _ _ _ (by omega) hb]
                    dsimp only
                    rw [takeE_by E' h3 (fun q hq => ha q (by omega))]
                    exact h
    · cases h

/-- Tokens that are read to their end, from a bracket on; a beginning of them, its last token cut or not: it is not read. -/
theorem begun_bad {us vs ws : List Tok} {x : Tok} {E E' : Int} {f : Nat} {m : List Nod} (hu : exprE us E f 0 [] = .ok (us.length, m)) (h3 : (us.getD 0 noTok).kind ≠ 3) (h4 : (us.getD 0 noTok).kind ≠ 4)
    (hw : AgreeTo vs us ws.length) (hlen : ws.length < us.length) (hv : vs = ws ∨ (vs = ws ++ [x] ∧ x.kind ≠ 2 ∧ 0 < ws.length)) (g : Nat) (hg : g ≤ f) (r : Nat × List Nod) : exprE vs E' g 0 [] ≠ .ok r := by
  intro h
  obtain ⟨j, l⟩ := r
  obtain ⟨f1, f2, _, _⟩ := exprE_fair vs E' g 0 [] j l h
  have hsmall : j ≤ ws.length → False := fun hj => by
    have := exprE_by E g f hg 0 [] j l (fun q hq => hw q (by omega)) h
    rw [hu] at this
    simp only [Except.ok.injEq, Prod.mk.injEq] at this
    omega
  rcases hv with rfl | ⟨rfl, hx, h0⟩
  · exact hsmall f2
  · by_cases hj : j ≤ ws.length
    · exact hsmall hj
    · simp only [List.length_append, List.length_cons, List.length_nil] at f2
      obtain ⟨_, e0⟩ := hw 0 h0
      obtain ⟨_, c⟩ := exprE_close h (by rw [← e0]; exact h4) (by rw [← e0]; exact h3)
      have e1 : j - 1 = ws.length := by omega
      rw [e1] at c
      simp [List.getD] at c
      exact hx c
end

section
/-- A text out of a list of bytes. -/
def bsL (U : List UInt8) : ByteArray := ⟨U.toArray⟩

theorem bsL_size (U : List UInt8) : (bsL U).size = U.length := by simp [bsL, ByteArray.size]

theorem bAt_data (s : ByteArray) (q : Nat) : bAt s q = (s.data.toList.getD q 0).toNat := by
  by_cases h : q < s.size
  · have h' : q < s.data.toList.length := by simpa using h
    rw [bAt_in h, List.getD, List.getElem?_eq_getElem h']
    rfl
  · have h' : ¬ q < s.data.toList.length := by simpa using h
    rw [List.getD, List.getElem?_eq_none (by omega)]
    simp [bAt, h]

theorem bsL_data (U : List UInt8) : (bsL U).data.toList = U := by simp [bsL]

theorem bAt_list (U : List UInt8) (q : Nat) : bAt (bsL U) q = (U.getD q 0).toNat := by rw [bAt_data, bsL_data]

theorem bytes_ext {a b : ByteArray} (h : a.data.toList = b.data.toList) : a = b := by
  cases a; cases b
  simp only at h
  congr 1
  exact Array.toList_inj.1 h

theorem len_data (s : ByteArray) : s.data.toList.length = s.size := by rw [Array.length_toList]; rfl

theorem extract_mid (P X R : List UInt8) : (bsL (P ++ X ++ R)).extract P.length (P.length + X.length) = bsL X := by
  apply bytes_ext
  rw [ByteArray.data_extract, bsL_data]
  simp [bsL]

theorem bAt_mid (P X R : List UInt8) (q : Nat) (h : q < X.length) : bAt (bsL (P ++ X ++ R)) (P.length + q) = (X.getD q 0).toNat := by
  rw [bAt_list]
  simp only [List.getD]
  rw [List.append_assoc, List.getElem?_append_right (by omega), List.getElem?_append_left (by omega), Nat.add_sub_cancel_left]

theorem bAt_end (P X : List UInt8) (b : UInt8) (R : List UInt8) : bAt (bsL (P ++ X ++ b :: R)) (P.length + X.length) = b.toNat := by
  rw [bAt_list]
  simp only [List.getD]
  rw [List.getElem?_append_right (by simp)]
  simp

/-- What a token is, wherever it stands. -/
def VT (t : Tok) : Prop :=
  (t.kind = 1 ∧ t.text = byteS 40 ∧ t.n = 0) ∨ (t.kind = 2 ∧ t.text = byteS 41 ∧ t.n = 0) ∨
  (t.kind = 3 ∧ 1 ≤ t.text.size ∧ t.text.size ≤ 8 ∧ (∀ q, q < t.text.size → lowA (bAt t.text q)) ∧ t.n = 0) ∨
  (t.kind = 4 ∧ 1 ≤ t.text.size ∧ (∀ q, q < t.text.size → dig9 (bAt t.text q)) ∧ IsRd t.text.data.toList t.n true ∧ t.n ≤ 65535)

/-- A text behind which a token that ended there has ended. -/
def Closed (kd : Int) (R : List UInt8) : Prop := R = [] ∨ kd = 1 ∨ kd = 2 ∨ ∃ b R', R = b :: R' ∧ ¬ lowA b.toNat ∧ ¬ dig9 b.toNat

theorem tok_step (P R : List UInt8) (t : Tok) (ht : VT t) (hR : Closed t.kind R) :
    Step (bsL (P ++ t.text.data.toList ++ R)) P.length (P.length + t.text.size) [⟨t.kind, t.text, t.n, (P.length : Nat)⟩] := by
  obtain ⟨kd, T, n, pl⟩ := t
  unfold VT at ht
  simp only at ht hR ⊢
  have hl : T.data.toList.length = T.size := len_data T
  have hx : 1 ≤ T.size := by
    rcases ht with ⟨_, h, _⟩ | ⟨_, h, _⟩ | ⟨_, h, _⟩ | ⟨_, h, _⟩
    · rw [h]; simp [ByteArray.size]
    · rw [h]; simp [ByteArray.size]
    · exact h
    · exact h
  have hz : (bsL (P ++ T.data.toList ++ R)).size = P.length + T.size + R.length := by rw [bsL_size, List.length_append, List.length_append, hl]
  have hm : ∀ q, q < T.size → bAt (bsL (P ++ T.data.toList ++ R)) (P.length + q) = bAt T q := fun q hq => by
    rw [bAt_mid _ _ _ _ (by omega), bAt_data T]
  have h0 : bAt (bsL (P ++ T.data.toList ++ R)) P.length = bAt T 0 := hm 0 (by omega)
  have hext : (bsL (P ++ T.data.toList ++ R)).extract P.length (P.length + T.size) = T := by
    rw [← hl, extract_mid]
    exact bytes_ext (bsL_data _)
  have run : ∀ p : Nat → Prop, (∀ q, q < T.size → p (bAt T q)) → (R = [] ∨ ∃ b R', R = b :: R' ∧ ¬ p b.toNat) → RunTo p (bsL (P ++ T.data.toList ++ R)) P.length (P.length + T.size) := by
    intro p hp hr
    refine ⟨by omega, by omega, fun j h1 h2 => ?_, fun h => ?_⟩
    · have := hm (j - P.length) (by omega)
      rw [show P.length + (j - P.length) = j by omega] at this
      rw [this]
      exact hp _ (by omega)
    · rcases hr with rfl | ⟨b, R', rfl, hb⟩
      · rw [hz, List.length_nil] at h; omega
      · have := bAt_end P T.data.toList b R'
        rw [hl] at this
        rw [this]
        exact hb
  refine ⟨by omega, ?_⟩
  rcases ht with ⟨rfl, rfl, rfl⟩ | ⟨rfl, rfl, rfl⟩ | ⟨rfl, _, h8, ha, rfl⟩ | ⟨rfl, _, ha, hr, hn⟩
  · exact Or.inr (Or.inr (Or.inl ⟨by rw [h0]; rfl, rfl, rfl⟩))
  · exact Or.inr (Or.inr (Or.inr (Or.inl ⟨by rw [h0]; rfl, rfl, rfl⟩)))
  · refine Or.inr (Or.inr (Or.inr (Or.inr (Or.inl ⟨by rw [h0]; exact ha 0 (by omega), run lowA ha ?_, by omega, by rw [hext]⟩))))
    rcases hR with h | h | h | ⟨b, R', h, h1, _⟩
    · exact Or.inl h
    · omega
    · omega
    · exact Or.inr ⟨b, R', h, h1⟩
  · refine Or.inr (Or.inr (Or.inr (Or.inr (Or.inr ⟨by rw [h0]; exact ha 0 (by omega), run dig9 ha ?_, n, by rw [hext]; exact hr, hn, by rw [hext]⟩))))
    rcases hR with h | h | h | ⟨b, R', h, _, h2⟩
    · exact Or.inl h
    · omega
    · omega
    · exact Or.inr ⟨b, R', h, h2⟩

/-- The first k tokens, read again: their places may be others. -/
def Same (ts : List Tok) (k : Nat) (ts' : List Tok) : Prop :=
  ts'.length = k ∧ ∀ q, q < k → (ts'.getD q noTok).kind = (ts.getD q noTok).kind ∧ (ts'.getD q noTok).text = (ts.getD q noTok).text ∧ (ts'.getD q noTok).n = (ts.getD q noTok).n

theorem getD_left {ts us : List Tok} {q : Nat} (h : q < ts.length) : (ts ++ us).getD q noTok = ts.getD q noTok := by simp [List.getD, List.getElem?_append_left h]
theorem getD_last {ts : List Tok} {t : Tok} {q : Nat} (h : q = ts.length) : (ts ++ [t]).getD q noTok = t := by subst h; simp [List.getD]

theorem same_next {ts ts' : List Tok} {k : Nat} (h : Same ts k ts') (pl : Int) : Same ts (k + 1) (ts' ++ [⟨(ts.getD k noTok).kind, (ts.getD k noTok).text, (ts.getD k noTok).n, pl⟩]) := by
  refine ⟨by rw [List.length_append, h.1]; rfl, fun q hq => ?_⟩
  by_cases hk : q < k
  · rw [getD_left (by rw [h.1]; exact hk)]
    exact h.2 q hk
  · obtain rfl : q = k := by omega
    rw [getD_last h.1.symm]
    exact ⟨rfl, rfl, rfl⟩

theorem relex (ts : List Tok) (hv : ∀ k, k < ts.length → VT (ts.getD k noTok)) : ∀ k, k ≤ ts.length → ∀ R, (k = 0 ∨ Closed (kindOf ts (k - 1)) R) →
    ∃ m ts', Reach (bsL (ulx ts k ++ R)) m (ulx ts k).length ts' ∧ Same ts k ts'
  | 0, _, R, _ => ⟨0, [], ⟨rfl, rfl⟩, rfl, fun q hq => by omega⟩
  | k + 1, hk, R, hR => by
    have hR' : Closed (kindOf ts k) R := by
      rcases hR with h | h
      · omega
      · exact h
    have ht := hv k (by omega)
    have e : ulx ts (k + 1) ++ R = ulx ts k ++ (gap ts k ++ (textOf ts k).data.toList ++ R) := by simp [ulx, List.append_assoc]
    have hc : k = 0 ∨ Closed (kindOf ts (k - 1)) (gap ts k ++ (textOf ts k).data.toList ++ R) := by
      by_cases h0 : k = 0
      · exact Or.inl h0
      · right
        by_cases h1 : kindOf ts (k - 1) = 1
        · exact Or.inr (Or.inl h1)
        · by_cases h2 : kindOf ts k = 2
          · have hX : textOf ts k = byteS 41 := by
              rcases ht with ⟨h, _⟩ | ⟨_, h, _⟩ | ⟨h, _⟩ | ⟨h, _⟩
              · unfold kindOf at h2; omega
              · exact h
              · unfold kindOf at h2; omega
              · unfold kindOf at h2; omega
            have hg : gap ts k = [] := by unfold gap; rw [if_neg (fun h => h.2.2 h2)]
            rw [hX, hg]
            exact Or.inr (Or.inr (Or.inr ⟨41, R, rfl, by decide, by decide⟩))
          · have hg : gap ts k = [32] := by unfold gap; rw [if_pos ⟨by omega, h1, h2⟩]
            rw [hg]
            exact Or.inr (Or.inr (Or.inr ⟨32, (textOf ts k).data.toList ++ R, rfl, by decide, by decide⟩))
    obtain ⟨m, ts', hr, hs⟩ := relex ts hv k (by omega) _ hc
    rw [← e] at hr
    -- the blank
    have hb : ∃ m', Reach (bsL (ulx ts (k + 1) ++ R)) m' (ulx ts k ++ gap ts k).length ts' := by
      by_cases hg : gap ts k = []
      · exact ⟨m, by rw [hg, List.append_nil]; exact hr⟩
      · have hg' : gap ts k = [32] := by
          unfold gap at hg ⊢
          split
          · rfl
          · rename_i h; rw [if_neg h] at hg; exact absurd rfl hg
        refine ⟨m + 1, ?_⟩
        have hst : Step (bsL (ulx ts (k + 1) ++ R)) (ulx ts k).length ((ulx ts k).length + 1) [] := by
          have hbb : bAt (bsL (ulx ts (k + 1) ++ R)) (ulx ts k).length = 32 := by
            have := bAt_end (ulx ts k) [] 32 ((textOf ts k).data.toList ++ R)
            rw [e, hg']
            simpa using this
          refine ⟨?_, Or.inl ⟨Or.inl hbb, rfl, rfl⟩⟩
          rw [bsL_size, e, hg']
          simp
        have h2 : Reach (bsL (ulx ts (k + 1) ++ R)) (m + 1) ((ulx ts k).length + 1) (ts' ++ []) := ⟨_, _, _, hr, hst, rfl⟩
        rw [List.append_nil] at h2
        rw [hg', List.length_append]
        exact h2
    obtain ⟨m', hr'⟩ := hb
    have e2 : ulx ts (k + 1) ++ R = (ulx ts k ++ gap ts k) ++ (ts.getD k noTok).text.data.toList ++ R := by simp [ulx, textOf, List.append_assoc]
    have hst := tok_step (ulx ts k ++ gap ts k) R (ts.getD k noTok) ht hR'
    rw [← e2] at hst
    have e3 : (ulx ts (k + 1)).length = (ulx ts k ++ gap ts k).length + (ts.getD k noTok).text.size := by
      simp only [ulx, List.length_append, textOf, len_data]
    rw [e3]
    exact ⟨m' + 1, _, ⟨_, _, _, hr', hst, rfl⟩, same_next hs _⟩

/-- Where the first k tokens end. -/
def endOf (ts : List Tok) : Nat → Int
  | 0 => 0
  | k + 1 => (ts.getD k noTok).place + (ts.getD k noTok).text.size

/-- The token stands in the text where it says. -/
def Sits (s : ByteArray) (t : Tok) : Prop := ∃ p : Nat, t.place = p ∧ p + t.text.size ≤ s.size ∧ s.extract p (p + t.text.size) = t.text

theorem extract_one (s : ByteArray) (i : Nat) (hi : i < s.size) (b : UInt8) (hb : bAt s i = b.toNat) : s.extract i (i + 1) = byteS b := by
  apply ByteArray.ext_getElem
  · have h1 : (byteS b).size = 1 := rfl
    rw [h1, ByteArray.size_extract]; omega
  · intro j h1 h2
    have hj : j = 0 := by
      have : (byteS b).size = 1 := rfl
      omega
    subst hj
    rw [ByteArray.getElem_extract]
    rw [bAt_in hi] at hb
    exact UInt8.toNat_inj.1 hb

theorem step_vt {s : ByteArray} {i j : Nat} {ts : List Tok} (h : Step s i j ts) : ts = [] ∨ ∃ t, ts = [t] ∧ VT t ∧ t.place = i ∧ i + t.text.size = j ∧ s.extract i j = t.text := by
  have hlt := step_lt h
  have hle := step_le h
  obtain ⟨hi, h⟩ := h
  have hsz : (s.extract i j).size = j - i := by rw [ByteArray.size_extract]; omega
  have hat : ∀ q, q < j - i → bAt (s.extract i j) q = bAt s (i + q) := fun q hq => bAt_extract s i j q hle (by omega)
  rcases h with ⟨_, rfl, rfl⟩ | ⟨_, _, rfl⟩ | ⟨hb, rfl, rfl⟩ | ⟨hb, rfl, rfl⟩ | ⟨hb, hr, h8, rfl⟩ | ⟨hb, hr, n, hn, hm, rfl⟩
  · exact Or.inl rfl
  · exact Or.inl rfl
  · exact Or.inr ⟨_, rfl, Or.inl ⟨rfl, rfl, rfl⟩, rfl, by simp [ByteArray.size], extract_one s i hi 40 hb⟩
  · exact Or.inr ⟨_, rfl, Or.inr (Or.inl ⟨rfl, rfl, rfl⟩), rfl, by simp [ByteArray.size], extract_one s i hi 41 hb⟩
  · refine Or.inr ⟨_, rfl, Or.inr (Or.inr (Or.inl ⟨rfl, by simp only; omega, by simp only; omega, fun q hq => ?_, rfl⟩)), rfl, by simp only; omega, rfl⟩
    simp only at hq ⊢
    rw [hat q (by omega)]
    exact hr.2.2.1 _ (by omega) (by omega)
  · refine Or.inr ⟨_, rfl, Or.inr (Or.inr (Or.inr ⟨rfl, by simp only; omega, fun q hq => ?_, hn, hm⟩)), rfl, by simp only; omega, rfl⟩
    simp only at hq ⊢
    rw [hat q (by omega)]
    exact hr.2.2.1 _ (by omega) (by omega)

theorem lens_left (ts : List Tok) (t : Tok) : ∀ k, k ≤ ts.length → lens (ts ++ [t]) k = lens ts k
  | 0, _ => rfl
  | k + 1, h => by
    simp only [lens, textOf]
    rw [lens_left ts t k (by omega), getD_left (by omega)]

theorem endOf_left (ts : List Tok) (t : Tok) (k : Nat) (h : k ≤ ts.length) : endOf (ts ++ [t]) k = endOf ts k := by
  cases k with
  | zero => rfl
  | succ k => simp only [endOf]; rw [getD_left (by omega)]

/-- Tokens that were read so far: each is one, stands where it says, behind the one ahead of it. -/
structure Good (s : ByteArray) (i : Nat) (ts : List Tok) : Prop where
  each : ∀ k, k < ts.length → VT (ts.getD k noTok) ∧ Sits s (ts.getD k noTok) ∧ endOf ts k ≤ (ts.getD k noTok).place
  last : endOf ts ts.length ≤ i
  all : lens ts ts.length ≤ i

theorem reach_good {s : ByteArray} : ∀ {m i : Nat} {ts : List Tok}, Reach s m i ts → Good s i ts
  | 0, i, ts, h => by
    obtain ⟨rfl, rfl⟩ := h
    exact ⟨fun k hk => by simp at hk, by simp [endOf], by simp [lens]⟩
  | m + 1, i, ts, h => by
    obtain ⟨i', ts', us, hr, hs, rfl⟩ := h
    have ih := reach_good hr
    have hlt := step_lt hs
    have hle := step_le hs
    rcases step_vt hs with rfl | ⟨t, rfl, hv, hp, hz, hx⟩
    · rw [List.append_nil]
      exact ⟨ih.each, by have := ih.last; omega, by have := ih.all; omega⟩
    · refine ⟨fun k hk => ?_, ?_, ?_⟩
      · have hk' : k ≤ ts'.length := by simp at hk; omega
        rw [endOf_left _ _ _ hk']
        by_cases h : k < ts'.length
        · rw [getD_left h]
          exact ih.each k h
        · obtain rfl : k = ts'.length := by omega
          rw [getD_last rfl]
          refine ⟨hv, ⟨i', hp, by omega, by rw [hz]; exact hx⟩, by rw [hp]; exact ih.last⟩
      · rw [List.length_append]
        show endOf (ts' ++ [t]) (ts'.length + 1) ≤ _
        simp only [endOf]
        rw [getD_last rfl]
        omega
      · rw [List.length_append]
        show lens (ts' ++ [t]) (ts'.length + 1) ≤ _
        simp only [lens, textOf]
        rw [lens_left _ _ _ (Nat.le_refl _), getD_last rfl]
        have := ih.all
        omega

theorem fin_all {s : ByteArray} {ts : List Tok} (hs : s.size ≤ 4000) (h : Lexes s ts (-1)) : ∃ m i, Reach s m i ts ∧ s.size ≤ i := by
  rcases h with ⟨h, _⟩ | ⟨_, m, i, out, hr, hf⟩
  · omega
  · rcases hf with ⟨h1, rfl, _⟩ | ⟨_, _, h⟩
    · exact ⟨m, i, hr, h1⟩
    · omega

/-- Read, put together, and read again. -/
theorem relexes {s : ByteArray} {ts : List Tok} (hs : s.size ≤ 1000) (h : Lexes s ts (-1)) :
    Good s s.size ts ∧ ts.length ≤ 1000 ∧ lens ts ts.length ≤ 1000 ∧ (ulxS ts).size ≤ 4000 ∧ ∃ ts', Lexes (ulxS ts) ts' (-1) ∧ Same ts ts.length ts' := by
  obtain ⟨m, i, hr, hi⟩ := fin_all (by omega) h
  have hle := reach_le hr
  obtain rfl : i = s.size := by omega
  have hg := reach_good hr
  have hlen : ts.length ≤ s.size := by
    have : ∀ k, k ≤ ts.length → k ≤ lens ts k := by
      intro k
      induction k with
      | zero => intro _; omega
      | succ k ih =>
        intro hk
        have h1 := ih (by omega)
        have hv := (hg.each k (by omega)).1
        have hx : 1 ≤ (textOf ts k).size := by
          unfold textOf
          rcases hv with ⟨_, h, _⟩ | ⟨_, h, _⟩ | ⟨_, h, _⟩ | ⟨_, h, _⟩
          · rw [h]; simp [ByteArray.size]
          · rw [h]; simp [ByteArray.size]
          · exact h
          · exact h
        simp only [lens]
        omega
    have h1 := this ts.length (Nat.le_refl _)
    have h2 := hg.all
    omega
  have hall := hg.all
  have hmin : min ts.length 4000 = ts.length := by omega
  have hu := ulx_length ts ts.length
  have hsz : (ulxS ts).size = (ulx ts ts.length).length := by unfold ulxS; rw [hmin]; exact bsL_size _
  refine ⟨hg, by omega, by omega, by omega, ?_⟩
  obtain ⟨m', ts', hr', hsame⟩ := relex ts (fun k hk => (hg.each k hk).1) ts.length (Nat.le_refl _) [] (Or.inr (Or.inl rfl))
  rw [List.append_nil] at hr'
  have e : ulxS ts = bsL (ulx ts ts.length) := by unfold ulxS bsL; rw [hmin]
  refine ⟨ts', Or.inr ⟨by omega, m', (ulx ts ts.length).length, ts', ?_, Or.inl ⟨by omega, rfl, rfl⟩⟩, hsame⟩
  rw [e]
  exact hr'
end

section
open Go.ChangeShapes Go.WideShapes Go.ChangeAt Go.RowKit

/-- Tokens put together; a tells whether a blank is due. -/
def ulxL : Bool → List Tok → List UInt8
  | _, [] => []
  | a, t :: ts => (if a = true ∧ t.kind ≠ 2 then [32] else []) ++ t.text.data.toList ++ ulxL (decide (t.kind ≠ 1)) ts

def endA : Bool → List Tok → Bool
  | a, [] => a
  | a, t :: ts => endA (decide (t.kind ≠ 1)) ts

theorem ulxL_append : ∀ (ts us : List Tok) (a : Bool), ulxL a (ts ++ us) = ulxL a ts ++ ulxL (endA a ts) us
  | [], us, a => rfl
  | t :: ts, us, a => by
    simp only [List.cons_append, ulxL, endA, ulxL_append ts us, List.append_assoc]

theorem endA_append : ∀ (ts : List Tok) (t : Tok) (a : Bool), endA a (ts ++ [t]) = decide (t.kind ≠ 1)
  | [], t, a => rfl
  | x :: ts, t, a => by
    simp only [List.cons_append, endA, endA_append ts t]

theorem ulx_eq (ts : List Tok) : ∀ k, k ≤ ts.length → ulx ts k = ulxL false (ts.take k) ∧ (endA false (ts.take k) = true ↔ (0 < k ∧ kindOf ts (k - 1) ≠ 1))
  | 0, _ => ⟨rfl, by simp [endA]⟩
  | k + 1, h => by
    obtain ⟨h1, h2⟩ := ulx_eq ts k (by omega)
    have e : ts.take (k + 1) = ts.take k ++ [ts.getD k noTok] := by
      rw [List.take_succ_eq_append_getElem (by omega)]
      simp [List.getD, List.getElem?_eq_getElem (show k < ts.length by omega)]
    refine ⟨?_, ?_⟩
    · rw [e, ulxL_append, ← h1]
      simp only [ulx, ulxL, List.append_nil, textOf, List.append_assoc]
      congr 2
      unfold gap
      by_cases hc : 0 < k ∧ kindOf ts (k - 1) ≠ 1 ∧ kindOf ts k ≠ 2
      · rw [if_pos hc, if_pos ⟨h2.2 ⟨hc.1, hc.2.1⟩, hc.2.2⟩]
      · rw [if_neg hc, if_neg (fun hh => hc ⟨(h2.1 hh.1).1, (h2.1 hh.1).2, hh.2⟩)]
    · rw [e, endA_append, decide_eq_true_iff]
      constructor
      · intro hh; exact ⟨by omega, hh⟩
      · intro hh; exact hh.2

def decS (n : Int) : ByteArray := ⟨(Lib.itoa n).toArray⟩

def dueL (a : Bool) : List UInt8 := if a = true then [32] else []

/-- What stands behind a key, put together. -/
theorem argP_text {r : Nat → List Tok} {r' : Nat → List UInt8} : ∀ (cs : List UInt8) (ns : List ByteArray) (ks : List Int) (rs : List Tok), (∀ j, j < (cs.filter (· ≠ 110)).length → ∀ (a : Bool) (qs : List Tok), ulxL a (r (ks.getD j 0).toNat ++ qs) = dueL a ++ r' (ks.getD j 0).toNat ++ ulxL true qs) →
    ulxL true (argP r cs ns ks ++ rs) = argT r' cs ns ks ++ ulxL true rs
  | [], ns, ks, rs, h => rfl
  | c :: cs, ns, ks, rs, h => by
    unfold argP argT
    by_cases hc : c = 110
    · rw [if_pos hc, if_pos hc]
      have ih := argP_text (r := r) (r' := r') cs ns.tail ks rs (fun j hj => h j (by simpa [hc] using hj))
      rw [List.cons_append, ulxL]
      have e : (decide ((pWord (ns.headD ByteArray.empty)).kind ≠ 1)) = true := rfl
      rw [e, ih, if_pos ⟨rfl, by show (3 : Int) ≠ 2; decide⟩]
      simp [pWord]
    · have hl : ((c :: cs).filter (· ≠ 110)).length = (cs.filter (· ≠ 110)).length + 1 := by simp [hc]
      rw [if_neg hc, if_neg hc]
      have h0 := h 0 (by omega) true (argP r cs ns ks.tail ++ rs)
      rw [← headD_getD] at h0
      have ih := argP_text (r := r) (r' := r') cs ns ks.tail rs (fun j hj => by
        have := h (j + 1) (by omega)
        rw [getD_tail]
        exact this)
      rw [List.append_assoc, h0, ih]
      simp [dueL]

/-- The pieces of a node, put together, are its text. -/
theorem show_text {ts : List Nod} {st : List Nat} (hR : Right ts st) : ∀ (f i : Nat), i < f → i < ts.length → ∀ (a : Bool) (qs : List Tok), ulxL a (showP decS ts f i ++ qs) = dueL a ++ textN ts f i ++ ulxL true qs
  | 0, i, h, _ => by omega
  | f + 1, i, h, hi => by
    intro a qs
    obtain ⟨hF, _⟩ := hR.2 i hi
    have hkid := fun {j : Nat} (hj : j < arN (ts.getD i noNod).kind) => kid_ahead hR hi hj
    have one : ∀ (t : Tok) (T : List UInt8), t.kind ≠ 1 → t.kind ≠ 2 → t.text.data.toList = T → ulxL a ([t] ++ qs) = dueL a ++ T ++ ulxL true qs := by
      intro t T h1 h2 hT
      show (if a = true ∧ t.kind ≠ 2 then [32] else []) ++ t.text.data.toList ++ ulxL (decide (t.kind ≠ 1)) qs = _
      rw [hT, decide_eq_true h1]
      unfold dueL
      by_cases ha : a = true
      · rw [if_pos ⟨ha, h2⟩, if_pos ha]
      · rw [if_neg (fun hh => ha hh.1), if_neg ha]
    show ulxL a (showP decS ts (f + 1) i ++ qs) = dueL a ++ nodeT (textN ts f) (ts.getD i noNod) ++ ulxL true qs
    unfold showP nodeT
    by_cases h1 : (ts.getD i noNod).kind = 1
    · rw [if_pos h1, if_pos h1]
      exact one _ _ (by show (3 : Int) ≠ 1; decide) (by show (3 : Int) ≠ 2; decide) rfl
    by_cases h2 : (ts.getD i noNod).kind = 2
    · rw [if_neg h1, if_neg h1, if_pos h2, if_pos h2]
      exact one _ _ (by show (4 : Int) ≠ 1; decide) (by show (4 : Int) ≠ 2; decide) (by simp [pNum, decS])
    by_cases h12 : (ts.getD i noNod).kind = 12
    · rw [if_neg h1, if_neg h1, if_neg h2, if_neg h2, if_pos h12, if_pos h12]
      exact one _ _ (by show (3 : Int) ≠ 1; decide) (by show (3 : Int) ≠ 2; decide) rfl
    rw [if_neg h1, if_neg h1, if_neg h2, if_neg h2, if_neg h12, if_neg h12]
    have har := asked_ar (fields_form hF h1 h2 h12)
    unfold asked at har
    have hargs := argP_text (r := showP decS ts f) (r' := textN ts f) (goesOn (ts.getD i noNod).kind) [(ts.getD i noNod).name, (ts.getD i noNod).other] [(ts.getD i noNod).a, (ts.getD i noNod).b, (ts.getD i noNod).c] ([pShut] ++ qs) (fun j hj => by
      rw [har] at hj
      obtain ⟨q, hq, hlt, _⟩ := hkid hj
      rw [hq, Int.toNat_natCast]
      exact show_text hR f q (by omega) (by omega))
    unfold formT
    rw [List.append_assoc, List.append_assoc, List.cons_append, List.cons_append, List.nil_append, ulxL, ulxL]
    have e1 : decide (pOpen.kind ≠ 1) = false := rfl
    have e2 : decide ((pWord (keyN (ts.getD i noNod).kind (ts.getD i noNod).n)).kind ≠ 1) = true := rfl
    have e4 : (if a = true ∧ pOpen.kind ≠ 2 then [32] else []) = dueL a := by
      unfold dueL
      by_cases ha : a = true
      · rw [if_pos ⟨ha, by decide⟩, if_pos ha]
      · rw [if_neg (fun hh => ha hh.1), if_neg ha]
    have e5 : (if false = true ∧ (pWord (keyN (ts.getD i noNod).kind (ts.getD i noNod).n)).kind ≠ 2 then ([32] : List UInt8) else []) = [] := if_neg (fun hh => by cases hh.1)
    have e3 : ulxL true ([pShut] ++ qs) = [41] ++ ulxL true qs := rfl
    rw [e1, e2, hargs, e4, e5, e3]
    simp [pOpen, pWord]

theorem text_ulx {ts : List Nod} {st : List Nat} (hR : Right ts st) {f i : Nat} (h : i < f) (hi : i < ts.length) : ulx (showP decS ts f i) (showP decS ts f i).length = textN ts f i := by
  have := show_text hR f i h hi false []
  rw [(ulx_eq _ _ (Nat.le_refl _)).1, List.take_length]
  simpa [dueL, ulxL] using this

/-- The first k tokens with the places that they have in the text. -/
def placed (ts : List Tok) : Nat → List Tok
  | 0 => []
  | k + 1 => placed ts k ++ [⟨(ts.getD k noTok).kind, (ts.getD k noTok).text, (ts.getD k noTok).n, ((ulx ts k ++ gap ts k).length : Nat)⟩]

theorem placed_len (ts : List Tok) : ∀ k, (placed ts k).length = k
  | 0 => rfl
  | k + 1 => by simp [placed, placed_len ts k]

theorem placed_at (ts : List Tok) : ∀ k q, q < k → (placed ts k).getD q noTok = ⟨(ts.getD q noTok).kind, (ts.getD q noTok).text, (ts.getD q noTok).n, ((ulx ts q ++ gap ts q).length : Nat)⟩
  | 0, q, h => by omega
  | k + 1, q, h => by
    unfold placed
    by_cases hq : q < k
    · rw [getD_left (by rw [placed_len]; exact hq)]
      exact placed_at ts k q hq
    · obtain rfl : q = k := by omega
      rw [getD_last (placed_len ts q).symm]

theorem relexP (ts : List Tok) (hv : ∀ k, k < ts.length → VT (ts.getD k noTok)) : ∀ k, k ≤ ts.length → ∀ R, (k = 0 ∨ Closed (kindOf ts (k - 1)) R) →
    ∃ m, Reach (bsL (ulx ts k ++ R)) m (ulx ts k).length (placed ts k)
  | 0, _, R, _ => ⟨0, rfl, rfl⟩
  | k + 1, hk, R, hR => by
    have hR' : Closed (kindOf ts k) R := by
      rcases hR with h | h
      · omega
      · exact h
    have ht := hv k (by omega)
    have e : ulx ts (k + 1) ++ R = ulx ts k ++ (gap ts k ++ (textOf ts k).data.toList ++ R) := by simp [ulx, List.append_assoc]
    have hc : k = 0 ∨ Closed (kindOf ts (k - 1)) (gap ts k ++ (textOf ts k).data.toList ++ R) := by
      by_cases h0 : k = 0
      · exact Or.inl h0
      · right
        by_cases h1 : kindOf ts (k - 1) = 1
        · exact Or.inr (Or.inl h1)
        · by_cases h2 : kindOf ts k = 2
          · have hX : textOf ts k = byteS 41 := by
              rcases ht with ⟨h, _⟩ | ⟨_, h, _⟩ | ⟨h, _⟩ | ⟨h, _⟩
              · unfold kindOf at h2; omega
              · exact h
              · unfold kindOf at h2; omega
              · unfold kindOf at h2; omega
            have hg : gap ts k = [] := by unfold gap; rw [if_neg (fun h => h.2.2 h2)]
            rw [hX, hg]
            exact Or.inr (Or.inr (Or.inr ⟨41, R, rfl, by decide, by decide⟩))
          · have hg : gap ts k = [32] := by unfold gap; rw [if_pos ⟨by omega, h1, h2⟩]
            rw [hg]
            exact Or.inr (Or.inr (Or.inr ⟨32, (textOf ts k).data.toList ++ R, rfl, by decide, by decide⟩))
    obtain ⟨m, hr⟩ := relexP ts hv k (by omega) _ hc
    rw [← e] at hr
    -- the blank
    have hb : ∃ m', Reach (bsL (ulx ts (k + 1) ++ R)) m' (ulx ts k ++ gap ts k).length (placed ts k) := by
      by_cases hg : gap ts k = []
      · exact ⟨m, by rw [hg, List.append_nil]; exact hr⟩
      · have hg' : gap ts k = [32] := by
          unfold gap at hg ⊢
          split
          · rfl
          · rename_i h; rw [if_neg h] at hg; exact absurd rfl hg
        refine ⟨m + 1, ?_⟩
        have hst : Step (bsL (ulx ts (k + 1) ++ R)) (ulx ts k).length ((ulx ts k).length + 1) [] := by
          have hbb : bAt (bsL (ulx ts (k + 1) ++ R)) (ulx ts k).length = 32 := by
            have := bAt_end (ulx ts k) [] 32 ((textOf ts k).data.toList ++ R)
            rw [e, hg']
            simpa using this
          refine ⟨?_, Or.inl ⟨Or.inl hbb, rfl, rfl⟩⟩
          rw [bsL_size, e, hg']
          simp
        have h2 : Reach (bsL (ulx ts (k + 1) ++ R)) (m + 1) ((ulx ts k).length + 1) (placed ts k ++ []) := ⟨_, _, _, hr, hst, rfl⟩
        rw [List.append_nil] at h2
        rw [hg', List.length_append]
        exact h2
    obtain ⟨m', hr'⟩ := hb
    have e2 : ulx ts (k + 1) ++ R = (ulx ts k ++ gap ts k) ++ (ts.getD k noTok).text.data.toList ++ R := by simp [ulx, textOf, List.append_assoc]
    have hst := tok_step (ulx ts k ++ gap ts k) R (ts.getD k noTok) ht hR'
    rw [← e2] at hst
    have e3 : (ulx ts (k + 1)).length = (ulx ts k ++ gap ts k).length + (ts.getD k noTok).text.size := by
      simp only [ulx, List.length_append, textOf, len_data]
    rw [e3]
    exact ⟨m' + 1, ⟨_, _, _, hr', hst, rfl⟩⟩


theorem placed_stand (ts : List Tok) {k : Nat} (hk : k = ts.length) : Stand (placed ts k) 0 ts := by
  subst hk
  refine ⟨by rw [placed_len]; omega, fun q hq => ?_⟩
  rw [Nat.zero_add, placed_at ts ts.length q hq]
  exact ⟨rfl, rfl, rfl⟩
end

section
open Go.ChangeShapes Go.WideShapes Go.ChangeAt Go.RowKit

theorem word_key {k n : Int} (h : IsForm k n) : isWordB (keyN k n) = true := by
  obtain ⟨h1, h2, h3, h4⟩ := h
  by_cases h8 : k = 8
  · subst h8
    obtain ⟨a, b⟩ := h4 rfl
    have : n = 0 ∨ n = 1 ∨ n = 2 ∨ n = 3 := by omega
    rcases this with rfl | rfl | rfl | rfl <;> decide +kernel
  · have e : keyN k n = keyN k 0 := by
      unfold keyN
      rw [if_neg h8, if_neg h8]
    rw [e]
    have : k = 3 ∨ k = 4 ∨ k = 5 ∨ k = 6 ∨ k = 7 ∨ k = 9 ∨ k = 10 ∨ k = 11 ∨ k = 13 ∨ k = 14 ∨ k = 15 ∨ k = 16 ∨ k = 17 ∨ k = 18 ∨ k = 19 := by omega
    clear h1 h2 h3 h4 h8 e
    rcases this with rfl | rfl | rfl | rfl | rfl | rfl | rfl | rfl | rfl | rfl | rfl | rfl | rfl | rfl | rfl <;> decide +kernel

theorem vt_word {s : ByteArray} (h : isWordB s = true) : VT (pWord s) := by
  obtain ⟨a, b, c⟩ := of_decide_eq_true h
  exact Or.inr (Or.inr (Or.inl ⟨rfl, a, b, c, rfl⟩))

theorem vt_open : VT pOpen := Or.inl ⟨rfl, rfl, rfl⟩
theorem vt_shut : VT pShut := Or.inr (Or.inl ⟨rfl, rfl, rfl⟩)

theorem rd_itoa {n : Int} (h0 : 0 ≤ n) (h1 : n ≤ 65535) : IsRd (Lib.itoa n) n true := Or.inl ⟨rfl, by omega, by omega, rfl⟩

theorem vt_digits {l : List UInt8} {u : Nat} (hl : l = Lib.decDigits u) (hu : u ≤ 65535) (pl : Int) : VT ⟨4, bsL l, u, pl⟩ := by
  subst hl
  have hp := dd_pos u
  refine Or.inr (Or.inr (Or.inr ⟨rfl, by show 1 ≤ (bsL _).size; rw [bsL_size]; omega, fun q hq => ?_, ?_, by show (u : Int) ≤ 65535; omega⟩))
  · have hq' : q < (Lib.decDigits u).length := by
      have : q < (bsL (Lib.decDigits u)).size := hq
      rwa [bsL_size] at this
    show dig9 (bAt (bsL (Lib.decDigits u)) q)
    rw [bAt_list, List.getD, List.getElem?_eq_getElem hq']
    have := dd_digits u _ (List.getElem_mem hq')
    exact this
  · show IsRd (bsL (Lib.decDigits u)).data.toList u true
    rw [bsL_data, ← itoa_pos]
    exact rd_itoa (by omega) (by omega)

theorem vt_num {n : Int} (h0 : 0 ≤ n) (h1 : n ≤ 65535) : VT (pNum (decS n) n) := by
  obtain ⟨u, rfl⟩ : ∃ u : Nat, n = u := ⟨n.toNat, by omega⟩
  exact vt_digits (l := Lib.itoa u) (itoa_pos u) (by omega) 0

theorem argP_vt {r : Nat → List Tok} : ∀ (cs : List UInt8) (ns : List ByteArray) (ks : List Int), namesE cs ns → (∀ j, j < (cs.filter (· ≠ 110)).length → ∀ t ∈ r (ks.getD j 0).toNat, VT t) → ∀ t ∈ argP r cs ns ks, VT t
  | [], ns, ks, hn, h, t, ht => by simp [argP] at ht
  | c :: cs, ns, ks, hn, h, t, ht => by
    unfold argP at ht
    unfold namesE at hn
    by_cases hc : c = 110
    · rw [if_pos hc] at ht hn
      rcases List.mem_cons.1 ht with rfl | ht
      · exact vt_word (Bool.and_eq_true_iff.1 hn.1).1
      · exact argP_vt cs ns.tail ks hn.2 (fun j hj => h j (by simpa [hc] using hj)) t ht
    · have hl : ((c :: cs).filter (· ≠ 110)).length = (cs.filter (· ≠ 110)).length + 1 := by simp [hc]
      rw [if_neg hc] at ht hn
      rcases List.mem_append.1 ht with ht | ht
      · have := h 0 (by omega)
        rw [← headD_getD] at this
        exact this t ht
      · exact argP_vt cs ns ks.tail hn (fun j hj => by
          have := h (j + 1) (by omega)
          rw [getD_tail]
          exact this) t ht

theorem show_vt {ts : List Nod} {st : List Nat} (hR : Right ts st) : ∀ (f i : Nat), i < f → i < ts.length → ∀ t ∈ showP decS ts f i, VT t
  | 0, i, h, _ => by omega
  | f + 1, i, h, hi => by
    intro t ht
    obtain ⟨hF, _⟩ := hR.2 i hi
    have hkid := fun {j : Nat} (hj : j < arN (ts.getD i noNod).kind) => kid_ahead hR hi hj
    unfold showP at ht
    by_cases h1 : (ts.getD i noNod).kind = 1
    · rw [if_pos h1] at ht
      rw [List.mem_singleton.1 ht]
      have hn := hF.2.2.1.2.1 (by rw [h1]; decide)
      exact vt_word (Bool.and_eq_true_iff.1 hn).1
    by_cases h2 : (ts.getD i noNod).kind = 2
    · rw [if_neg h1, if_pos h2] at ht
      rw [List.mem_singleton.1 ht]
      have hn := hF.2.2.2.1 h2
      exact vt_num hn.1 hn.2
    by_cases h12 : (ts.getD i noNod).kind = 12
    · rw [if_neg h1, if_neg h2, if_pos h12] at ht
      rw [List.mem_singleton.1 ht]
      exact vt_word (by decide +kernel)
    rw [if_neg h1, if_neg h2, if_neg h12] at ht
    have hfm := fields_form hF h1 h2 h12
    have har := asked_ar hfm
    unfold asked at har
    rcases List.mem_append.1 ht with ht | ht
    · rcases List.mem_append.1 ht with ht | ht
      · simp only [List.mem_cons, List.not_mem_nil, or_false] at ht
        rcases ht with rfl | rfl
        · exact vt_open
        · exact vt_word (word_key hfm)
      · exact argP_vt _ _ _ (goes_names hF hfm) (fun j hj => by
          rw [har] at hj
          obtain ⟨q, hq, hlt, _⟩ := hkid hj
          rw [hq, Int.toNat_natCast]
          exact show_vt hR f q (by omega) (by omega)) t ht
    · rw [List.mem_singleton.1 ht]
      exact vt_shut

theorem getD_mem {us : List Tok} {k : Nat} (h : k < us.length) : us.getD k noTok ∈ us := by
  rw [List.getD, List.getElem?_eq_getElem h]
  exact List.getElem_mem h

theorem vt_size {t : Tok} (h : VT t) : 1 ≤ t.text.size ∧ t.text.size ≤ 8 ∨ (t.kind = 4 ∧ 1 ≤ t.text.size) := by
  rcases h with ⟨_, h, _⟩ | ⟨_, h, _⟩ | ⟨_, h, h', _⟩ | ⟨h, h', _⟩
  · left; rw [h]; exact ⟨by decide, by decide⟩
  · left; rw [h]; exact ⟨by decide, by decide⟩
  · left; exact ⟨h, h'⟩
  · right; exact ⟨h, h'⟩

theorem vt_pos {t : Tok} (h : VT t) : 1 ≤ t.text.size := by
  rcases vt_size h with h | h
  · exact h.1
  · exact h.2

/-- A beginning of the digits of a number are the digits of a number. -/
theorem dd_front : ∀ (u : Nat) (d : Nat), 0 < d → d ≤ (Lib.decDigits u).length → ∃ v, v ≤ u ∧ (Lib.decDigits u).take d = Lib.decDigits v := by
  intro u
  induction u using Nat.strongRecOn with
  | ind u ih =>
    intro d h0 hd
    by_cases hu : u < 10
    · rw [dd_small hu] at hd ⊢
      simp at hd
      obtain rfl : d = 1 := by omega
      exact ⟨u, Nat.le_refl _, by rw [dd_small hu]; rfl⟩
    · rw [dd_big hu] at hd ⊢
      simp only [List.length_append, List.length_cons, List.length_nil] at hd
      by_cases hl : d ≤ (Lib.decDigits (u / 10)).length
      · obtain ⟨v, hv, e⟩ := ih (u / 10) (by omega) d h0 hl
        exact ⟨v, by omega, by rw [List.take_append_of_le_length hl, e]⟩
      · refine ⟨u, Nat.le_refl _, ?_⟩
        rw [List.take_of_length_le (by simp; omega), ← dd_big hu]

/-- A beginning of a word or of a number is one. -/
theorem vt_front {t : Tok} (h : VT t) {d : Nat} (h0 : 0 < d) (hd : d < t.text.size) (pl : Int) : ∃ n', VT ⟨t.kind, bsL (t.text.data.toList.take d), n', pl⟩ ∧ (t.kind = 3 ∨ t.kind = 4) := by
  obtain ⟨kd, T, n, p⟩ := t
  simp only at h hd ⊢
  have hlen : T.data.toList.length = T.size := len_data T
  have hsz : (bsL (T.data.toList.take d)).size = d := by rw [bsL_size, List.length_take]; omega
  rcases h with ⟨_, h, _⟩ | ⟨_, h, _⟩ | ⟨hk, h1, h8, ha, _⟩ | ⟨hk, h1, ha, hr, hn⟩
  · have h' : T = byteS 40 := h
    rw [h'] at hd
    have : (byteS 40).size = 1 := rfl
    omega
  · have h' : T = byteS 41 := h
    rw [h'] at hd
    have : (byteS 41).size = 1 := rfl
    omega
  · refine ⟨0, Or.inr (Or.inr (Or.inl ⟨hk, by show 1 ≤ (bsL _).size; rw [hsz]; omega, by show (bsL _).size ≤ 8; rw [hsz]; have : T.size ≤ 8 := h8; omega, fun q hq => ?_, rfl⟩)), Or.inl hk⟩
    have hq' : q < d := by
      have : q < (bsL (T.data.toList.take d)).size := hq
      rwa [hsz] at this
    show lowA (bAt (bsL (T.data.toList.take d)) q)
    have e : bAt (bsL (T.data.toList.take d)) q = bAt T q := by
      rw [bAt_list, bAt_data]
      simp only [List.getD]
      rw [List.getElem?_take_of_lt hq']
    rw [e]
    exact ha q (by show q < T.size; omega)
  · rcases hr with ⟨_, a1, a2, a3⟩ | ⟨h, _⟩
    · have a3' : T.data.toList = Lib.itoa n := a3
      by_cases hneg : n < 0
      · obtain ⟨u, rfl⟩ : ∃ u : Nat, n = -(u : Int) := ⟨n.natAbs, by omega⟩
        rw [itoa_neg u (by omega)] at a3'
        have := ha 0 (by show 0 < T.size; omega)
        have e : bAt T 0 = 45 := by
          rw [bAt_data, a3']
          rfl
        have this' : dig9 (bAt T 0) := this
        rw [e] at this'
        exact absurd this' (by decide)
      · obtain ⟨u, rfl⟩ : ∃ u : Nat, n = u := ⟨n.toNat, by omega⟩
        rw [itoa_pos] at a3'
        obtain ⟨v, hv, e⟩ := dd_front u d h0 (by rw [← a3']; omega)
        have hn' : (u : Int) ≤ 65535 := hn
        have hk' : kd = 4 := hk
        subst hk'
        refine ⟨v, ?_, Or.inr rfl⟩
        rw [a3', e]
        exact vt_digits rfl (by omega) pl
    · cases h

/-- Where a beginning of a text ends among the tokens. -/
theorem cut_at (us : List Tok) : ∀ (n k : Nat), k < (ulx us n).length → ∃ m, m < n ∧ (ulx us m).length ≤ k ∧ k < (ulx us (m + 1)).length
  | 0, k, h => by simp [ulx] at h
  | n + 1, k, h => by
    by_cases hk : k < (ulx us n).length
    · obtain ⟨m, h1, h2, h3⟩ := cut_at us n k hk
      exact ⟨m, by omega, h2, h3⟩
    · exact ⟨n, by omega, by omega, h⟩

theorem ulx_more (us : List Tok) : ∀ (n m : Nat), m ≤ n → ∃ R, ulx us n = ulx us m ++ R
  | 0, m, h => by
    obtain rfl : m = 0 := by omega
    exact ⟨[], by simp⟩
  | n + 1, m, h => by
    rcases Nat.lt_or_eq_of_le h with hl | rfl
    · obtain ⟨R, hR⟩ := ulx_more us n m (by omega)
      exact ⟨R ++ gap us n ++ (textOf us n).data.toList, by simp only [ulx, hR, List.append_assoc]⟩
    · exact ⟨[], by simp⟩

theorem lexes_of {s : ByteArray} {m i : Nat} {ts : List Tok} (h : Reach s m i ts) (hs : s.size ≤ 4000) (hi : s.size ≤ i) : Lexes s ts (-1) := Or.inr ⟨hs, m, i, ts, h, Or.inl ⟨hi, rfl, rfl⟩⟩

theorem gap_two (us : List Tok) (k : Nat) : gap us k = [] ∨ gap us k = [32] := by
  unfold gap
  split
  · exact Or.inr rfl
  · exact Or.inl rfl

theorem blank_step {P R : List UInt8} : Step (bsL (P ++ 32 :: R)) P.length (P.length + 1) [] := by
  have hbb : bAt (bsL (P ++ 32 :: R)) P.length = 32 := by
    have := bAt_end P [] 32 R
    simpa using this
  refine ⟨?_, Or.inl ⟨Or.inl hbb, rfl, rfl⟩⟩
  rw [bsL_size]
  simp

/-- A beginning of tokens' text is read as a beginning of the tokens, the last one cut or not. -/
theorem begun_lex (us : List Tok) (hv : ∀ q, q < us.length → VT (us.getD q noTok)) {k : Nat} (hk : k < (ulx us us.length).length) (h4 : k ≤ 4000) :
    ∃ m vs, m < us.length ∧ Lexes (bsL ((ulx us us.length).take k)) vs (-1) ∧ (∀ t ∈ vs, 0 ≤ t.place ∧ t.place < k) ∧
      (vs = placed us m ∨ ∃ x, vs = placed us m ++ [x] ∧ (x.kind = 3 ∨ x.kind = 4) ∧ 1 < (us.getD m noTok).text.size) := by
  obtain ⟨m, hm, h1, h2⟩ := cut_at us us.length k hk
  have ht := hv m hm
  obtain ⟨R0, hR0⟩ := ulx_more us us.length (m + 1) (by omega)
  have hlt : (textOf us m).data.toList.length = (textOf us m).size := len_data _
  have hstep : (ulx us (m + 1)).length = (ulx us m).length + (gap us m).length + (textOf us m).size := by
    simp only [ulx, List.length_append, hlt]
  obtain ⟨d, hd⟩ : ∃ d, k = (ulx us m).length + d := ⟨k - (ulx us m).length, by omega⟩
  have hT : (ulx us us.length).take k = ulx us m ++ (gap us m ++ (textOf us m).data.toList).take d := by
    rw [hR0]
    have e : ulx us (m + 1) = ulx us m ++ (gap us m ++ (textOf us m).data.toList) := by simp only [ulx, List.append_assoc]
    rw [e, List.append_assoc, hd, List.take_append, Nat.add_sub_cancel_left, List.take_of_length_le (by omega)]
    congr 1
    rw [List.take_append_of_le_length]
    simp only [List.length_append, hlt]
    omega
  have hplace : ∀ t ∈ placed us m, 0 ≤ t.place ∧ t.place < k := by
    have : ∀ b, b ≤ m → ∀ t ∈ placed us b, 0 ≤ t.place ∧ t.place < ((ulx us b).length : Int) := by
      intro b
      induction b with
      | zero => intro _ t ht'; simp [placed] at ht'
      | succ b ih =>
        intro hb t ht'
        unfold placed at ht'
        have hz : (ulx us (b + 1)).length = (ulx us b).length + (gap us b).length + (textOf us b).size := by
          simp only [ulx, List.length_append, len_data]
        have hp := vt_pos (hv b (by omega))
        rcases List.mem_append.1 ht' with h | h
        · have := ih (by omega) t h
          omega
        · rw [List.mem_singleton.1 h]
          show (0 : Int) ≤ ((ulx us b ++ gap us b).length : Nat) ∧ ((ulx us b ++ gap us b).length : Nat) < ((ulx us (b + 1)).length : Int)
          rw [List.length_append]
          have : (textOf us b).size = (us.getD b noTok).text.size := rfl
          omega
    intro t ht'
    have := this m (Nat.le_refl _) t ht'
    omega
  have hsize : (bsL ((ulx us us.length).take k)).size = k := by rw [bsL_size, List.length_take]; omega
  have hclosed : ∀ R, (R = [] ∨ ∃ R', R = 32 :: R') → (m = 0 ∨ Closed (kindOf us (m - 1)) R) := by
    intro R hR
    right
    rcases hR with rfl | ⟨R', rfl⟩
    · exact Or.inl rfl
    · exact Or.inr (Or.inr (Or.inr ⟨32, R', rfl, by decide, by decide⟩))
  by_cases hd0 : d = 0
  · subst hd0
    rw [List.take_zero] at hT
    obtain ⟨a, hr⟩ := relexP us hv m (by omega) [] (hclosed [] (Or.inl rfl))
    refine ⟨m, placed us m, hm, ?_, hplace, Or.inl rfl⟩
    rw [hT] at hsize ⊢
    exact lexes_of hr (by omega) (by omega)
  · by_cases hg1 : d ≤ (gap us m).length
    · have hg : gap us m = [32] := by
        rcases gap_two us m with h | h
        · rw [h] at hg1; simp at hg1; omega
        · exact h
      obtain rfl : d = 1 := by rw [hg] at hg1; simp at hg1; omega
      rw [hg] at hT
      have hT' : (ulx us us.length).take k = ulx us m ++ 32 :: [] := hT
      obtain ⟨a, hr⟩ := relexP us hv m (by omega) [32] (hclosed [32] (Or.inr ⟨[], rfl⟩))
      refine ⟨m, placed us m, hm, ?_, hplace, Or.inl rfl⟩
      rw [hT'] at hsize ⊢
      have h3 : Reach (bsL (ulx us m ++ 32 :: [])) (a + 1) ((ulx us m).length + 1) (placed us m ++ []) := ⟨_, _, _, hr, blank_step, rfl⟩
      rw [List.append_nil] at h3
      exact lexes_of h3 (by omega) (by omega)
    · obtain ⟨c, hc⟩ : ∃ c, d = (gap us m).length + c := ⟨d - (gap us m).length, by omega⟩
      have hc0 : 0 < c := by omega
      have hcs : c < (textOf us m).size := by omega
      have hT' : (ulx us us.length).take k = ulx us m ++ gap us m ++ (textOf us m).data.toList.take c := by
        rw [hT, hc, List.take_append, Nat.add_sub_cancel_left, List.take_of_length_le (by omega), List.append_assoc]
      obtain ⟨n', hvt, hkd⟩ := vt_front ht hc0 hcs 0
      have hcl : m = 0 ∨ Closed (kindOf us (m - 1)) (gap us m ++ (textOf us m).data.toList.take c) := by
        by_cases h0 : m = 0
        · exact Or.inl h0
        · right
          by_cases h1 : kindOf us (m - 1) = 1
          · exact Or.inr (Or.inl h1)
          · have hg : gap us m = [32] := by
              unfold gap
              rw [if_pos ⟨by omega, h1, by show (us.getD m noTok).kind ≠ 2; omega⟩]
            rw [hg]
            exact Or.inr (Or.inr (Or.inr ⟨32, _, rfl, by decide, by decide⟩))
      obtain ⟨a, hr⟩ := relexP us hv m (by omega) (gap us m ++ (textOf us m).data.toList.take c) hcl
      rw [← List.append_assoc] at hr
      have hb : ∃ a', Reach (bsL (ulx us m ++ gap us m ++ (textOf us m).data.toList.take c)) a' (ulx us m ++ gap us m).length (placed us m) := by
        rcases gap_two us m with hg | hg
        · exact ⟨a, by rw [hg, List.append_nil] at hr ⊢; exact hr⟩
        · refine ⟨a + 1, ?_⟩
          rw [hg] at hr ⊢
          have e : ulx us m ++ [32] ++ (textOf us m).data.toList.take c = ulx us m ++ 32 :: (textOf us m).data.toList.take c := by simp
          rw [e] at hr ⊢
          have h3 : Reach (bsL (ulx us m ++ 32 :: (textOf us m).data.toList.take c)) (a + 1) ((ulx us m).length + 1) (placed us m ++ []) := ⟨_, _, _, hr, blank_step, rfl⟩
          rw [List.append_nil] at h3
          rw [List.length_append]
          exact h3
      obtain ⟨a', hr'⟩ := hb
      have hst := tok_step (ulx us m ++ gap us m) [] ⟨(us.getD m noTok).kind, bsL ((us.getD m noTok).text.data.toList.take c), n', 0⟩ hvt (Or.inl rfl)
      rw [List.append_nil] at hst
      simp only [bsL_data] at hst
      have hcl2 : ((us.getD m noTok).text.data.toList.take c).length = c := by
        rw [List.length_take]
        have : (us.getD m noTok).text.data.toList.length = (textOf us m).size := hlt
        omega
      rw [bsL_size, hcl2] at hst
      refine ⟨m, placed us m ++ [⟨(us.getD m noTok).kind, bsL ((us.getD m noTok).text.data.toList.take c), n', ((ulx us m ++ gap us m).length : Nat)⟩], hm, ?_, ?_, Or.inr ⟨_, rfl, hkd, by show 1 < (textOf us m).size; omega⟩⟩
      · rw [hT'] at hsize ⊢
        have h3 : Reach (bsL (ulx us m ++ gap us m ++ (textOf us m).data.toList.take c)) (a' + 1) ((ulx us m ++ gap us m).length + c) (placed us m ++ [⟨(us.getD m noTok).kind, bsL ((us.getD m noTok).text.data.toList.take c), n', ((ulx us m ++ gap us m).length : Nat)⟩]) := ⟨_, _, _, hr', hst, rfl⟩
        exact lexes_of h3 (by omega) (by rw [List.length_append]; omega)
      · intro t ht'
        rcases List.mem_append.1 ht' with h | h
        · exact hplace t h
        · rw [List.mem_singleton.1 h]
          show (0 : Int) ≤ ((ulx us m ++ gap us m).length : Nat) ∧ ((ulx us m ++ gap us m).length : Nat) < (k : Int)
          rw [List.length_append]
          omega

/-- A text in brackets is a form's. -/
theorem open_of {ts : List Nod} {st : List Nat} (hR : Right ts st) {f i : Nat} (hi : i < ts.length) (h : (textN ts (f + 1) i).head? = some 40) : (showP decS ts (f + 1) i).getD 0 noTok = pOpen := by
  obtain ⟨hF, _⟩ := hR.2 i hi
  have h' : (nodeT (textN ts f) (ts.getD i noNod)).head? = some 40 := h
  unfold showP
  unfold nodeT at h'
  by_cases h1 : (ts.getD i noNod).kind = 1
  · rw [if_pos h1] at h'
    have hn := hF.2.2.1.2.1 (by rw [h1]; decide)
    obtain ⟨a, b, c⟩ := of_decide_eq_true (Bool.and_eq_true_iff.1 hn).1
    have := c 0 (by omega)
    rw [bAt_data, List.getD, ← List.head?_eq_getElem?, h'] at this
    exact absurd this (by decide)
  by_cases h2 : (ts.getD i noNod).kind = 2
  · rw [if_neg h1, if_pos h2] at h'
    have hn := hF.2.2.2.1 h2
    obtain ⟨u, hu⟩ : ∃ u : Nat, (ts.getD i noNod).n = u := ⟨(ts.getD i noNod).n.toNat, by omega⟩
    rw [hu, itoa_pos] at h'
    have := dd_digits u 40 (List.mem_of_mem_head? h')
    exact absurd this.1 (by decide)
  by_cases h12 : (ts.getD i noNod).kind = 12
  · rw [if_neg h1, if_neg h2, if_pos h12] at h'
    exact absurd h' (by decide)
  rw [if_neg h1, if_neg h2, if_neg h12]
  rfl

/-- Tokens that stand there stand there yet when more follow. -/
theorem stand_more {us vs : List Tok} {p : Nat} {ps : List Tok} (h : Stand us p ps) : Stand (us ++ vs) p ps := by
  obtain ⟨h1, h2⟩ := h
  refine ⟨by rw [List.length_append]; omega, fun q hq => ?_⟩
  rw [getD_left (by omega)]
  exact h2 q hq

theorem reads_all {ts : List Nod} {st : List Nat} (hR : Right ts st) (hl : 1 ≤ ts.length) (vs : List Tok) (E : Int) (g : Nat) (hg : ts.length ≤ g) :
    exprE (placed (showP decS ts ts.length (ts.length - 1)) (showP decS ts ts.length (ts.length - 1)).length ++ vs) E g 0 [] = .ok ((showP decS ts ts.length (ts.length - 1)).length, cutM ts (st.getD (ts.length - 1) 0) ts.length 0) := by
  have h := node_reads (dec := decS) (us := placed (showP decS ts ts.length (ts.length - 1)) (showP decS ts ts.length (ts.length - 1)).length ++ vs) (E := E) hR ts.length (ts.length - 1) (by omega) (by omega) ts.length g 0 [] (by omega) (by omega) (by have := hR.1; simp; omega) (stand_more (placed_stand _ rfl))
  rw [h]
  simp only [Nat.zero_add, List.nil_append, List.length_nil]
  rw [show ts.length - 1 + 1 = ts.length by omega]

/-- No beginning of a text in brackets is a program: it ends too early, or a word stands where none should. -/
theorem begun_parse {ts : List Nod} {st : List Nat} (hR : Right ts st) (hl : 1 ≤ ts.length) (hl2 : ts.length ≤ 150) (hh : (textN ts ts.length (ts.length - 1)).head? = some 40) {k : Nat} (hk : k < (textN ts ts.length (ts.length - 1)).length) :
    ∃ vs c q, Lexes (bsL ((textN ts ts.length (ts.length - 1)).take k)) vs (-1) ∧ parseE vs k = ([], c, q) ∧ ((c = 2 ∧ q = k) ∨ (c = 3 ∧ q < k)) := by
  have hlen := textN_len hR ts.length (ts.length - 1) (by omega) (by omega)
  have hT := text_ulx hR (show ts.length - 1 < ts.length by omega) (show ts.length - 1 < ts.length by omega)
  have hall := reads_all hR hl [] k
  have hvt := show_vt hR ts.length (ts.length - 1) (by omega) (by omega)
  have hop : (showP decS ts ts.length (ts.length - 1)).getD 0 noTok = pOpen := by
    obtain ⟨n, hn⟩ : ∃ n, ts.length = n + 1 := ⟨ts.length - 1, by omega⟩
    rw [hn] at hh ⊢
    exact open_of hR (by omega) hh
  generalize showP decS ts ts.length (ts.length - 1) = us at *
  rw [← hT] at hk hlen ⊢
  rw [List.append_nil] at hall
  obtain ⟨m, vs, hm, hx, hpl, hv⟩ := begun_lex us (fun q hq => hvt _ (getD_mem hq)) hk (by omega)
  have hagree : AgreeTo vs (placed us us.length) (placed us m).length := by
    intro q hq
    rw [placed_len] at hq
    refine ⟨by rw [placed_len]; omega, ?_⟩
    rw [placed_at us us.length q (by omega)]
    rcases hv with rfl | ⟨x, rfl, _⟩
    · rw [placed_at us m q hq]
    · rw [getD_left (by rw [placed_len]; exact hq), placed_at us m q hq]
  have h0 : (placed us us.length).getD 0 noTok = ⟨pOpen.kind, pOpen.text, pOpen.n, ((ulx us 0 ++ gap us 0).length : Nat)⟩ := by
    rw [placed_at us us.length 0 (by omega), hop]
  have hfull := hall (vs.length + 1 + ts.length) (by omega)
  have hno : ∀ r, exprE vs k (vs.length + 1) 0 [] ≠ .ok r := fun r => by
    refine begun_bad (us := placed us us.length) (ws := placed us m) (x := vs.getD m noTok) (f := vs.length + 1 + ts.length) (E := (k : Int)) (m := cutM ts (st.getD (ts.length - 1) 0) ts.length 0) (by rw [placed_len]; exact hfull) (by rw [h0]; show (1 : Int) ≠ 3; decide) (by rw [h0]; show (1 : Int) ≠ 4; decide) hagree (by rw [placed_len, placed_len]; exact hm) ?_ (vs.length + 1) (by omega) r
    rcases hv with h | ⟨x, h, hxk, hsz⟩
    · exact Or.inl h
    · right
      have hx2 : vs.getD m noTok = x := by rw [h, getD_last (placed_len us m).symm]
      refine ⟨by rw [hx2]; exact h, by rw [hx2]; omega, ?_⟩
      rw [placed_len]
      rcases Nat.eq_zero_or_pos m with rfl | hp
      · rw [hop] at hsz
        exact absurd hsz (by decide)
      · exact hp
  rcases he : exprE vs k (vs.length + 1) 0 [] with e | r
  · obtain ⟨c, q⟩ := e
    refine ⟨vs, c, q, hx, ?_, ?_⟩
    · unfold parseE
      rw [he]
    · rcases exprE_flt (vs.length + 1) 0 [] (c, q) (by omega) (by omega) he with h | ⟨j, hj, h⟩
      · injection h with h1 h2
        exact Or.inl ⟨h1, h2⟩
      · injection h with h1 h2
        have := hpl _ (getD_mem hj)
        exact Or.inr ⟨h1, by omega⟩
  · exact absurd he (hno r)

theorem argP_len {r : Nat → List Tok} {b : Nat → Nat} : ∀ (cs : List UInt8) (ns : List ByteArray) (ks : List Int), (∀ j, j < (cs.filter (· ≠ 110)).length → b j ≤ 17 * (r (ks.getD j 0).toNat).length) → ((List.range (cs.filter (· ≠ 110)).length).map b).sum ≤ 17 * (argP r cs ns ks).length
  | [], ns, ks, h => by simp [argP]
  | c :: cs, ns, ks, h => by
    unfold argP
    by_cases hc : c = 110
    · have e2 : ((c :: cs).filter (· ≠ 110)).length = (cs.filter (· ≠ 110)).length := by simp [hc]
      have ih := argP_len (r := r) (b := b) cs ns.tail ks (fun j hj => h j (by omega))
      rw [if_pos hc, e2, List.length_cons]
      omega
    · have e2 : ((c :: cs).filter (· ≠ 110)).length = (cs.filter (· ≠ 110)).length + 1 := by simp [hc]
      have ih := argP_len (r := r) (b := fun j => b (j + 1)) cs ns ks.tail (fun j hj => by
        have := h (j + 1) (by omega)
        rw [getD_tail]
        exact this)
      have h0 := h 0 (by omega)
      rw [← headD_getD] at h0
      rw [if_neg hc, e2, List.range_succ_eq_map, List.map_cons, List.sum_cons, List.map_map, List.length_append]
      have e3 : ((List.range (cs.filter (· ≠ 110)).length).map (b ∘ Nat.succ)).sum = ((List.range (cs.filter (· ≠ 110)).length).map (fun j => b (j + 1))).sum := rfl
      rw [e3]
      omega

/-- A node has as many pieces as its part has nodes, at least. -/
theorem show_count {ts : List Nod} {st : List Nat} (hR : Right ts st) : ∀ (f i : Nat), i < f → i < ts.length → i + 1 - st.getD i 0 ≤ (showP decS ts f i).length
  | 0, i, h, _ => by omega
  | f + 1, i, h, hi => by
    obtain ⟨hF, hs, hz, _⟩ := hR.2 i hi
    have hsum := kids_sum hR hi
    have hkid := fun {j : Nat} (hj : j < arN (ts.getD i noNod).kind) => kid_ahead hR hi hj
    unfold showP
    by_cases h1 : (ts.getD i noNod).kind = 1
    · rw [if_pos h1]
      have := hz (by rw [h1]; rfl)
      show _ ≤ 1
      omega
    by_cases h2 : (ts.getD i noNod).kind = 2
    · rw [if_neg h1, if_pos h2]
      have := hz (by rw [h2]; rfl)
      show _ ≤ 1
      omega
    by_cases h12 : (ts.getD i noNod).kind = 12
    · rw [if_neg h1, if_neg h2, if_pos h12]
      have := hz (by rw [h12]; rfl)
      show _ ≤ 1
      omega
    rw [if_neg h1, if_neg h2, if_neg h12]
    have har := asked_ar (fields_form hF h1 h2 h12)
    unfold asked at har
    have := argP_len (r := showP decS ts f) (b := fun j => 17 * ((([(ts.getD i noNod).a, (ts.getD i noNod).b, (ts.getD i noNod).c].getD j 0).toNat) + 1 - st.getD (([(ts.getD i noNod).a, (ts.getD i noNod).b, (ts.getD i noNod).c].getD j 0).toNat) 0)) (goesOn (ts.getD i noNod).kind) [(ts.getD i noNod).name, (ts.getD i noNod).other] [(ts.getD i noNod).a, (ts.getD i noNod).b, (ts.getD i noNod).c] (fun j hj => by
      rw [har] at hj
      obtain ⟨q, hq, hlt, _⟩ := hkid hj
      rw [hq, Int.toNat_natCast]
      have := show_count hR f q (by omega) (by omega)
      omega)
    rw [har, hsum] at this
    simp only [List.length_append, List.length_cons, List.length_nil]
    omega

/-- A number behind a program is too much. -/
theorem more_parse {ts : List Nod} {st : List Nat} (hR : Right ts st) (hl : 1 ≤ ts.length) (hl2 : ts.length ≤ 150) (h0 : st.getD (ts.length - 1) 0 = 0) :
    ∃ vs, Lexes (bsL (textN ts ts.length (ts.length - 1) ++ [32, 49])) vs (-1) ∧ parseE vs (((textN ts ts.length (ts.length - 1)).length + 2 : Nat) : Int) = ([], 4, (((textN ts ts.length (ts.length - 1)).length + 1 : Nat) : Int)) := by
  have hlen := textN_len hR ts.length (ts.length - 1) (by omega) (by omega)
  have hT := text_ulx hR (show ts.length - 1 < ts.length by omega) (show ts.length - 1 < ts.length by omega)
  have hall := reads_all hR hl
  have hcnt := show_count hR ts.length (ts.length - 1) (by omega) (by omega)
  have hst0 : st.getD (ts.length - 1) 0 = 0 := h0
  have hvt := show_vt hR ts.length (ts.length - 1) (by omega) (by omega)
  generalize showP decS ts ts.length (ts.length - 1) = us at *
  rw [← hT] at hlen ⊢
  obtain ⟨a, hr⟩ := relexP us (fun q hq => hvt _ (getD_mem hq)) us.length (Nat.le_refl _) [32, 49] (Or.inr (Or.inr (Or.inr (Or.inr ⟨32, [49], rfl, by decide, by decide⟩))))
  have h3 : Reach (bsL (ulx us us.length ++ 32 :: [49])) (a + 1) ((ulx us us.length).length + 1) (placed us us.length ++ []) := ⟨_, _, _, hr, blank_step, rfl⟩
  rw [List.append_nil] at h3
  have hv1 : VT ⟨4, bsL [49], 1, 0⟩ := vt_digits (l := [49]) (u := 1) (by rw [dd_small (by omega)]; rfl) (by omega) 0
  have hst := tok_step (ulx us us.length ++ [32]) [] ⟨4, bsL [49], 1, 0⟩ hv1 (Or.inl rfl)
  have e1 : ulx us us.length ++ [32] ++ (bsL [49]).data.toList ++ [] = ulx us us.length ++ 32 :: [49] := by simp [bsL]
  have e2 : (ulx us us.length ++ [32]).length = (ulx us us.length).length + 1 := by simp
  simp only at hst
  rw [e1, e2] at hst
  have h4 : Reach (bsL (ulx us us.length ++ 32 :: [49])) (a + 1 + 1) ((ulx us us.length).length + 1 + (bsL [49]).size) (placed us us.length ++ [⟨4, bsL [49], 1, ((ulx us us.length).length + 1 : Nat)⟩]) := ⟨_, _, _, h3, hst, rfl⟩
  have hs1 : (bsL [49]).size = 1 := rfl
  have hsz : (bsL (ulx us us.length ++ 32 :: [49])).size = (ulx us us.length).length + 2 := by rw [bsL_size]; simp
  refine ⟨_, lexes_of h4 (by omega) (by omega), ?_⟩
  unfold parseE
  have hvl : (placed us us.length ++ [(⟨4, bsL [49], 1, ((ulx us us.length).length + 1 : Nat)⟩ : Tok)]).length = us.length + 1 := by simp [placed_len]
  have hex := hall [⟨4, bsL [49], 1, ((ulx us us.length).length + 1 : Nat)⟩] ((ulx us us.length).length + 2 : Nat) (us.length + 1 + 1) (by omega)
  rw [hvl, hex]
  simp only
  rw [if_pos (by omega), getD_last (placed_len us us.length).symm]
end
end Go.Proofs.YtlooccddflpmnaaDoor
