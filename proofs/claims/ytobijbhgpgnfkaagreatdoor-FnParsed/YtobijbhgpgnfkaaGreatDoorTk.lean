/-
  Tokens, as a list of plain data and as cells of memory; the text that Unlex makes of them, token by token. Conditions: written at each theorem.
-/
import Derived.Test.YtobijbhgpgnfkaaGreatDoorRows
import Derived.WalkKit
import Derived.Below
import Derived.Laws.OwnMore
import Derived.Lib.Strings
namespace Go.Proofs.YtobijbhgpgnfkaaGreatDoor
open Go.RowKit
set_option linter.unusedVariables false

structure Tok where
  kind : Int
  text : ByteArray
  n : Int
  place : Int

def noTok : Tok := ⟨0, ByteArray.empty, 0, 0⟩

def tcells (t : Tok) : List Value := [.int .i64 t.kind, .string t.text, .int .i64 t.n, .int .i64 t.place]

/-- The i-th token's cells lie in block g behind each other. -/
structure TokIn (w : World) (g i : Nat) (t : Tok) : Prop where
  c0 : w.cell? ⟨g, i * 4, none⟩ = some (.int .i64 t.kind)
  c1 : w.cell? ⟨g, i * 4 + 1, none⟩ = some (.string t.text)
  c2 : w.cell? ⟨g, i * 4 + 2, none⟩ = some (.int .i64 t.n)
  c3 : w.cell? ⟨g, i * 4 + 3, none⟩ = some (.int .i64 t.place)

def TokAt (w : World) (g : Nat) (ts : List Tok) : Prop := ∀ i, i < ts.length → TokIn w g i (ts.getD i noTok)

theorem cell_lt' {w : World} {p : Addr} {v : Value} (h : w.cell? p = some v) : p.block < w.heap.size := World.block_lt_of_cell? w p h

theorem TokIn.below {w w' : World} {g i B : Nat} {t : Tok} (h : TokIn w g i t) (hb : Below B w w') (hg : g < B) : TokIn w' g i t :=
  ⟨(World.cell?_of_block (hb.block g hg)).trans h.c0, (World.cell?_of_block (hb.block g hg)).trans h.c1, (World.cell?_of_block (hb.block g hg)).trans h.c2, (World.cell?_of_block (hb.block g hg)).trans h.c3⟩

theorem TokAt.below {w w' : World} {g B : Nat} {ts : List Tok} (h : TokAt w g ts) (hb : Below B w w') (hg : g < B) : TokAt w' g ts := fun i hi => (h i hi).below hb hg

theorem getD_in {ts : List Tok} {i : Nat} (h : i < ts.length) : ts[i]? = some (ts.getD i noTok) := by simp [List.getD, List.getElem?_eq_getElem h]

theorem flat_at (ts : List Tok) : ∀ (i j : Nat), i < ts.length → j < 4 → (ts.flatMap tcells)[i * 4 + j]? = (tcells (ts.getD i noTok))[j]? := by
  induction ts with
  | nil => intro i j h _; simp at h
  | cons t ts ih =>
    intro i j h hj
    rcases i with _ | i
    · rw [List.flatMap_cons, List.getElem?_append_left (by simp [tcells]; omega)]
      simp
    · rw [List.flatMap_cons, List.getElem?_append_right (by simp [tcells]; omega)]
      have e : (i + 1) * 4 + j - (tcells t).length = i * 4 + j := by simp [tcells]; omega
      rw [e, ih i j (by simpa using h) hj]
      rfl

theorem flat_length (ts : List Tok) : (ts.flatMap tcells).length = ts.length * 4 := by
  induction ts with
  | nil => rfl
  | cons t ts ih => rw [List.flatMap_cons, List.length_append, ih]; simp [tcells]; omega

theorem flat_set (t : Tok) : ∀ (l : List Tok) (k : Nat), k < l.length →
    ((((l.flatMap tcells).set (k * 4) (.int .i64 t.kind)).set (k * 4 + 1) (.string t.text)).set (k * 4 + 2) (.int .i64 t.n)).set (k * 4 + 3) (.int .i64 t.place) = (l.set k t).flatMap tcells
  | [], k, h => by simp at h
  | x :: l, 0, h => by simp [tcells]
  | x :: l, k + 1, h => by
    have ih := flat_set t l k (by simpa using h)
    rw [List.set_cons_succ, List.flatMap_cons, List.flatMap_cons, ← ih]
    have e : (k + 1) * 4 = k * 4 + 4 := by omega
    rw [e]
    simp [tcells]

/-- A row of the call's own that holds the tokens' cells holds the tokens. -/
theorem tokAt_own {w : World} {base : Nat} {e : TypeId} {g n cap : Nat} {ts : List Tok} (h : w.ownsRow base e 4 (.slice (some ⟨g, 0, none⟩) n cap) n (ts.flatMap tcells)) (hn : n = ts.length) : TokAt w g ts := by
  subst hn
  intro i hi
  have c : ∀ j, j < 4 → w.cell? ⟨g, i * 4 + j, none⟩ = (tcells (ts.getD i noTok))[j]? := fun j hj => by rw [h.cellAt _ (by omega), flat_at ts i j hi hj]
  exact ⟨c 0 (by omega), c 1 (by omega), c 2 (by omega), c 3 (by omega)⟩

def kindOf (ts : List Tok) (i : Nat) : Int := (ts.getD i noTok).kind
def textOf (ts : List Tok) (i : Nat) : ByteArray := (ts.getD i noTok).text

/-- A blank stands ahead of the token at place k. -/
def gap (ts : List Tok) (k : Nat) : List UInt8 := if 0 < k ∧ kindOf ts (k - 1) ≠ 1 ∧ kindOf ts k ≠ 2 then [32] else []

/-- What Unlex makes of the first k tokens. -/
def ulx (ts : List Tok) : Nat → List UInt8
  | 0 => []
  | k + 1 => ulx ts k ++ gap ts k ++ (textOf ts k).data.toList

def ulxS (ts : List Tok) : ByteArray := ⟨(ulx ts (min ts.length 4000)).toArray⟩

/-- How many bytes the first k Texts have. -/
def lens (ts : List Tok) : Nat → Nat
  | 0 => 0
  | k + 1 => lens ts k + (textOf ts k).size

theorem lens_mono (ts : List Tok) : ∀ {k m : Nat}, k ≤ m → lens ts k ≤ lens ts m
  | k, 0, h => by
    obtain rfl : k = 0 := by omega
    exact Nat.le_refl _
  | k, m + 1, h => by
    rcases Nat.lt_or_eq_of_le h with hl | rfl
    · exact Nat.le_trans (lens_mono ts (Nat.le_of_lt_succ hl)) (by simp [lens])
    · exact Nat.le_refl _

theorem gap_le (ts : List Tok) (k : Nat) : (gap ts k).length ≤ 1 := by unfold gap; split <;> simp

theorem ulx_length (ts : List Tok) : ∀ k, (ulx ts k).length ≤ k + lens ts k
  | 0 => by simp [ulx]
  | k + 1 => by
    have := ulx_length ts k
    have h1 := gap_le ts k
    have h2 : (textOf ts k).data.toList.length = (textOf ts k).size := by rw [Array.length_toList]; rfl
    simp only [ulx, List.length_append, lens, h2]
    omega
end Go.Proofs.YtobijbhgpgnfkaaGreatDoor
