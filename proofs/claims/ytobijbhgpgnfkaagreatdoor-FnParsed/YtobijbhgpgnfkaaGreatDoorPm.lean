/-
  Reading a program, plain: tokens one by one, faults as they come first. Conditions: written at each theorem.
-/
import Derived.Test.YtobijbhgpgnfkaaGreatDoorNy
import Derived.Test.YtobijbhgpgnfkaaGreatDoorTk
namespace Go.Proofs.YtobijbhgpgnfkaaGreatDoor
open Go.ChangeShapes Go.WideShapes Go.ChangeAt Go.RowKit
set_option linter.unusedVariables false

/-- A fault: its code, its place. -/
abbrev Flt := Int × Int

def takeE (ts : List Tok) (E : Int) (i : Nat) (kind : Int) : Except Flt (Nat × Tok) :=
  if i < ts.length then (if (ts.getD i noTok).kind = kind then .ok (i + 1, ts.getD i noTok) else .error (3, (ts.getD i noTok).place)) else .error (2, E)

def nameE (ts : List Tok) (E : Int) (i : Nat) : Except Flt (Nat × ByteArray) :=
  if i < ts.length ∧ isKeyB (ts.getD i noTok).text = true then .error (3, (ts.getD i noTok).place)
  else match takeE ts E i 3 with
    | .ok (j, t) => .ok (j, t.text)
    | .error e => .error e

/-- The forms by their key: the kind, what N holds, how it goes on (110 a name, 101 an expression). -/
def formE (key : ByteArray) : Int × Int × ByteArray :=
  if (key.toList == [102, 117, 110]) = true then (3, 0, ⟨#[110, 101]⟩)
  else if (key.toList == [97, 112, 112]) = true then (4, 0, ⟨#[101, 101]⟩)
  else if (key.toList == [108, 101, 116]) = true then (5, 0, ⟨#[110, 101, 101]⟩)
  else if (key.toList == [114, 101, 99]) = true then (6, 0, ⟨#[110, 110, 101, 101]⟩)
  else if (key.toList == [105, 102]) = true then (7, 0, ⟨#[101, 101, 101]⟩)
  else if (key.toList == [97, 100, 100]) = true then (8, 0, ⟨#[101, 101]⟩)
  else if (key.toList == [115, 117, 98]) = true then (8, 1, ⟨#[101, 101]⟩)
  else if (key.toList == [108, 101, 115, 115]) = true then (8, 2, ⟨#[101, 101]⟩)
  else if (key.toList == [115, 97, 109, 101]) = true then (8, 3, ⟨#[101, 101]⟩)
  else if (key.toList == [112, 97, 105, 114]) = true then (9, 0, ⟨#[101, 101]⟩)
  else if (key.toList == [102, 115, 116]) = true then (10, 0, ⟨#[101]⟩)
  else if (key.toList == [115, 110, 100]) = true then (11, 0, ⟨#[101]⟩)
  else if (key.toList == [99, 111, 110, 115]) = true then (13, 0, ⟨#[101, 101]⟩)
  else if (key.toList == [109, 97, 116, 99, 104]) = true then (14, 0, ⟨#[101, 101, 110, 110, 101]⟩)
  else if (key.toList == [114, 101, 102]) = true then (15, 0, ⟨#[101]⟩)
  else if (key.toList == [103, 101, 116]) = true then (16, 0, ⟨#[101]⟩)
  else if (key.toList == [115, 101, 116]) = true then (17, 0, ⟨#[101, 101]⟩)
  else if (key.toList == [114, 97, 105, 115, 101]) = true then (18, 0, ⟨#[101]⟩)
  else if (key.toList == [116, 114, 121]) = true then (19, 0, ⟨#[101, 110, 101]⟩)
  else (0, 0, ⟨#[]⟩)

theorem ite_len {c : Prop} [Decidable c] {x y : Int × Int × ByteArray} (hx : x.2.2.size ≤ 5) (hy : y.2.2.size ≤ 5) : (if c then x else y).2.2.size ≤ 5 := by
  split <;> assumption

theorem formE_len (key : ByteArray) : (formE key).2.2.size ≤ 5 := by
  unfold formE
  repeat' first | decide | refine ite_len ?_ ?_

/-- What a form has behind its key. -/
def argsE (ts : List Tok) (E : Int) (rec : Nat → List Nod → Except Flt (Nat × List Nod)) : List UInt8 → Nat → Nod → List Nod → List Int → Except Flt (Nat × Nod × List Nod × List Int)
  | [], i, n, l, ks => .ok (i, n, l, ks)
  | c :: cs, i, n, l, ks =>
    if c = 110 then
      match nameE ts E i with
      | .ok (j, s) => argsE ts E rec cs j (if n.name.size = 0 then { n with name := s } else { n with other := s }) l ks
      | .error e => .error e
    else
      match rec i l with
      | .ok (j, m) => argsE ts E rec cs j n m (ks ++ [(m.length : Int) - 1])
      | .error e => .error e

def withKids (n : Nod) (ks : List Int) : Nod := match ks with
  | [] => n
  | [a] => { n with a := a }
  | [a, b] => { n with a := a, b := b }
  | a :: b :: c :: _ => { n with a := a, b := b, c := c }

/-- An expression behind the nodes that there are. -/
def exprE (ts : List Tok) (E : Int) : Nat → Nat → List Nod → Except Flt (Nat × List Nod)
  | 0, _, _ => .error (0, 0)
  | f + 1, i, l =>
    if i < ts.length then
      if (ts.getD i noTok).kind = 4 then .ok (i + 1, l ++ [⟨2, 0, 0, 0, (ts.getD i noTok).n, ByteArray.empty, ByteArray.empty⟩])
      else if (ts.getD i noTok).kind = 3 then
        if (ts.getD i noTok).text.data.toList = [110, 105, 108] then .ok (i + 1, l ++ [⟨12, 0, 0, 0, 0, ByteArray.empty, ByteArray.empty⟩])
        else match nameE ts E i with
          | .ok (j, s) => .ok (j, l ++ [⟨1, 0, 0, 0, 0, s, ByteArray.empty⟩])
          | .error e => .error e
      else if (ts.getD i noTok).kind = 2 then .error (3, (ts.getD i noTok).place)
      else match takeE ts E (i + 1) 3 with
        | .error e => .error e
        | .ok (j, key) =>
          if (formE key.text).1 = 0 then .error (3, key.place)
          else match argsE ts E (exprE ts E f) (formE key.text).2.2.data.toList j ⟨(formE key.text).1, 0, 0, 0, (formE key.text).2.1, ByteArray.empty, ByteArray.empty⟩ l [] with
            | .error e => .error e
            | .ok (j2, n, l2, ks) => match takeE ts E j2 2 with
              | .error e => .error e
              | .ok (j3, _) => .ok (j3, l2 ++ [withKids n ks])
    else .error (2, E)

/-- What a program's tokens come to: nodes, the code, the place. -/
def parseE (ts : List Tok) (E : Int) : List Nod × Int × Int :=
  match exprE ts E (ts.length + 1) 0 [] with
  | .error (c, a) => ([], c, a)
  | .ok (j, l) => if j < ts.length then ([], 4, (ts.getD j noTok).place) else if 150 < l.length then ([], 5, 0) else (l, 0, 0)

theorem takeE_ok {ts : List Tok} {E : Int} {i j : Nat} {k : Int} {t : Tok} (h : takeE ts E i k = .ok (j, t)) : j = i + 1 ∧ i < ts.length ∧ t = ts.getD i noTok ∧ t.kind = k := by
  unfold takeE at h
  split at h
  · rename_i hi
    split at h
    · rename_i hk
      simp only [Except.ok.injEq, Prod.mk.injEq] at h
      obtain ⟨rfl, rfl⟩ := h
      exact ⟨rfl, hi, rfl, hk⟩
    · cases h
  · cases h

theorem takeE_bad {ts : List Tok} {E : Int} {i : Nat} {k : Int} {e : Flt} (h : takeE ts E i k = .error e) : e.1 = 2 ∨ e.1 = 3 := by
  unfold takeE at h
  split at h
  · split at h
    · cases h
    · simp only [Except.error.injEq] at h
      subst h
      exact Or.inr rfl
  · simp only [Except.error.injEq] at h
    subst h
    exact Or.inl rfl

theorem nameE_ok {ts : List Tok} {E : Int} {i j : Nat} {s : ByteArray} (h : nameE ts E i = .ok (j, s)) : j = i + 1 ∧ i < ts.length ∧ s = (ts.getD i noTok).text := by
  unfold nameE at h
  split at h
  · cases h
  · split at h
    · rename_i j' t ht
      simp only [Except.ok.injEq, Prod.mk.injEq] at h
      obtain ⟨rfl, rfl⟩ := h
      obtain ⟨a, b, rfl, _⟩ := takeE_ok ht
      exact ⟨a, b, rfl⟩
    · cases h

theorem nameE_bad {ts : List Tok} {E : Int} {i : Nat} {e : Flt} (h : nameE ts E i = .error e) : e.1 = 2 ∨ e.1 = 3 := by
  unfold nameE at h
  split at h
  · simp only [Except.error.injEq] at h
    subst h
    exact Or.inr rfl
  · split at h
    · cases h
    · rename_i e' he
      simp only [Except.error.injEq] at h
      subst h
      exact takeE_bad he

/-- As many nodes come as tokens are taken, at most. -/
def Fair (ts : List Tok) (rec : Nat → List Nod → Except Flt (Nat × List Nod)) : Prop :=
  (∀ i l j m, rec i l = .ok (j, m) → i < j ∧ j ≤ ts.length ∧ 0 < m.length ∧ m.length + i ≤ l.length + j)

theorem argsE_fair {ts : List Tok} {E : Int} {rec : Nat → List Nod → Except Flt (Nat × List Nod)} (hf : Fair ts rec) : ∀ (cs : List UInt8) (i : Nat) (n : Nod) (l : List Nod) (ks : List Int) (j : Nat) (n' : Nod) (m : List Nod) (ks' : List Int),
    argsE ts E rec cs i n l ks = .ok (j, n', m, ks') → i ≤ j ∧ (i ≤ ts.length → j ≤ ts.length) ∧ m.length + i ≤ l.length + j ∧ ks'.length ≤ ks.length + cs.length
  | [], i, n, l, ks, j, n', m, ks', h => by
    simp only [argsE, Except.ok.injEq, Prod.mk.injEq] at h
    obtain ⟨rfl, rfl, rfl, rfl⟩ := h
    simp
  | c :: cs, i, n, l, ks, j, n', m, ks', h => by
    rw [argsE] at h
    split at h
    · split at h
      · rename_i j1 s hs
        obtain ⟨e1, e2, _⟩ := nameE_ok hs
        have ih := argsE_fair hf cs _ _ _ _ _ _ _ _ h
        simp only [List.length_cons]
        omega
      · cases h
    · split at h
      · rename_i j1 m1 hs
        obtain ⟨e1, e2, e3, e4⟩ := hf _ _ _ _ hs
        have ih := argsE_fair hf cs _ _ _ _ _ _ _ _ h
        simp only [List.length_append, List.length_cons, List.length_nil] at ih ⊢
        omega
      · cases h

theorem exprE_fair (ts : List Tok) (E : Int) : ∀ f, Fair ts (exprE ts E f)
  | 0 => fun i l j m h => by cases h
  | f + 1 => fun i l j m h => by
    rw [exprE] at h
    split at h
    · rename_i hi
      split at h
      · simp only [Except.ok.injEq, Prod.mk.injEq] at h
        obtain ⟨rfl, rfl⟩ := h
        simp
        omega
      · split at h
        · split at h
          · simp only [Except.ok.injEq, Prod.mk.injEq] at h
            obtain ⟨rfl, rfl⟩ := h
            simp
            omega
          · split at h
            · rename_i j1 s hs
              obtain ⟨e1, e2, _⟩ := nameE_ok hs
              simp only [Except.ok.injEq, Prod.mk.injEq] at h
              obtain ⟨rfl, rfl⟩ := h
              simp
              omega
            · cases h
        · split at h
          · cases h
          · split at h
            · cases h
            · rename_i j1 key hk
              obtain ⟨k1, k2, _, _⟩ := takeE_ok hk
              split at h
              · cases h
              · split at h
                · cases h
                · rename_i j2 n l2 ks ha
                  have fa := argsE_fair (exprE_fair ts E f) _ _ _ _ _ _ _ _ _ ha
                  split at h
                  · cases h
                  · rename_i j3 t3 h3
                    obtain ⟨c1, c2, _, _⟩ := takeE_ok h3
                    simp only [Except.ok.injEq, Prod.mk.injEq] at h
                    obtain ⟨rfl, rfl⟩ := h
                    simp
                    omega
    · cases h
end Go.Proofs.YtobijbhgpgnfkaaGreatDoor
