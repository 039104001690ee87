/-
  Scopes, plain: what a name is bound by, from the parent on. Conditions: written at each theorem.
-/
import Derived.Test.YtcpafjpjfinbkaaSc
namespace Go.Proofs.Ytcpafjpjfinbkaa
open Go.ChangeShapes Go.WideShapes Go.ChangeAt Go.RowKit
set_option linter.unusedVariables false

/-- The names that a node binds in a kid, the innermost first, with their roles. -/
def bndL (t : Nod) (c : Int) : List (ByteArray × Int) :=
  if t.kind = 3 then [(t.name, 0)]
  else if t.kind = 5 ∨ t.kind = 19 then (if c = t.b then [(t.name, 0)] else [])
  else if t.kind = 6 then (if c = t.a then [(t.other, 1), (t.name, 0)] else [(t.name, 0)])
  else if t.kind = 14 then (if c = t.c then [(t.other, 1), (t.name, 0)] else [])
  else []

def lookR (s : ByteArray) : List (ByteArray × Int) → Option Int
  | [] => none
  | (n, r) :: l => if n = s then some r else lookR s l

/-- How many roles a kind binds in its k-th kid. -/
def rolN (kind : Int) (k : Nat) : Nat :=
  if kind = 3 then [1, 0, 0].getD k 0
  else if kind = 5 ∨ kind = 19 then [0, 1, 0].getD k 0
  else if kind = 6 then [2, 1, 0].getD k 0
  else if kind = 14 then [0, 0, 2].getD k 0
  else 0

/-- The same by the kid's place. -/
def rolL (t : Nod) : Nat → List (ByteArray × Int)
  | 0 => []
  | 1 => [(t.name, 0)]
  | _ => [(t.other, 1), (t.name, 0)]

theorem arN_3 : arN 3 = 1 := rfl
theorem arN_5 : arN 5 = 2 := rfl
theorem arN_6 : arN 6 = 2 := rfl
theorem arN_14 : arN 14 = 3 := rfl
theorem arN_19 : arN 19 = 2 := rfl

theorem bndL_rol {ts : List Nod} {st : List Nat} (h : Right ts st) {j : Nat} (hj : j < ts.length) {k : Nat} (hk : k < (kidL (ts.getD j noNod)).length) : bndL (ts.getD j noNod) ((kidL (ts.getD j noNod)).getD k 0) = rolL (ts.getD j noNod) (rolN (ts.getD j noNod).kind k) := by
  obtain ⟨hF, h0, k0, k1, k2, k3⟩ := h.2 j hj
  have hs : ∀ c, c < j → st.getD c 0 ≤ c := fun c hc => (h.2 c (by omega)).2.1
  generalize ts.getD j noNod = t at *
  unfold bndL rolN
  by_cases e3 : t.kind = 3
  · rw [if_pos e3, if_pos e3]
    have ea : arN t.kind = 1 := by rw [e3]; rfl
    rw [kidL_1 ea] at hk
    obtain rfl : k = 0 := by simp at hk; omega
    rfl
  rw [if_neg e3, if_neg e3]
  by_cases e5 : t.kind = 5 ∨ t.kind = 19
  · rw [if_pos e5, if_pos e5]
    have ea : arN t.kind = 2 := by rcases e5 with e | e <;> rw [e] <;> rfl
    obtain ⟨a, b, ha, hb, g1, g2, g3⟩ := k2 ea
    have q := hs b (by omega)
    rw [kidL_2 ea] at hk ⊢
    rcases (by simp at hk; omega : k = 0 ∨ k = 1) with rfl | rfl
    · rw [if_neg (by simp [ha, hb]; omega)]
      rfl
    · rw [if_pos (by simp)]
      rfl
  rw [if_neg e5, if_neg e5]
  by_cases e6 : t.kind = 6
  · rw [if_pos e6, if_pos e6]
    have ea : arN t.kind = 2 := by rw [e6]; rfl
    obtain ⟨a, b, ha, hb, g1, g2, g3⟩ := k2 ea
    have q := hs b (by omega)
    rw [kidL_2 ea] at hk ⊢
    rcases (by simp at hk; omega : k = 0 ∨ k = 1) with rfl | rfl
    · rw [if_pos (by simp)]
      rfl
    · rw [if_neg (by simp [ha, hb]; omega)]
      rfl
  rw [if_neg e6, if_neg e6]
  by_cases e14 : t.kind = 14
  · rw [if_pos e14, if_pos e14]
    have ea : arN t.kind = 3 := by rw [e14]; rfl
    obtain ⟨a, b, c, ha, hb, hc, g1, g2, g3, g4⟩ := k3 ea
    have q1 := hs c (by omega)
    have q2 := hs b (by omega)
    rw [kidL_3 ea] at hk ⊢
    rcases (by simp at hk; omega : k = 0 ∨ k = 1 ∨ k = 2) with rfl | rfl | rfl
    · rw [if_neg (by simp [ha, hc]; omega)]
      rfl
    · rw [if_neg (by simp [hb, hc]; omega)]
      rfl
    · rw [if_pos (by simp)]
      rfl
  rw [if_neg e14, if_neg e14]
  rfl

/-- What binds a name that is seen at a node, so many parents up. -/
def scF (ts : List Nod) (s : ByteArray) : Nat → Int → Int × Int
  | 0, _ => (-1, -1)
  | f + 1, kid => if parP ts kid < 0 then (-1, -1) else match lookR s (bndL (ts.getD (parP ts kid).toNat noNod) kid) with
    | some r => (parP ts kid, r)
    | none => scF ts s f (parP ts kid)

theorem scF_step (ts : List Nod) (s : ByteArray) (f : Nat) (kid : Int) : scF ts s (f + 1) kid = if parP ts kid < 0 then (-1, -1) else match lookR s (bndL (ts.getD (parP ts kid).toNat noNod) kid) with
    | some r => (parP ts kid, r)
    | none => scF ts s f (parP ts kid) := rfl

theorem scF_more {ts : List Nod} (hp : ∀ (m : Int), parP ts m = -1 ∨ ∃ p c : Nat, parP ts m = p ∧ p < ts.length ∧ m = c ∧ c < p ∧ hasI (kidL (ts.getD p noNod)) m = true) (s : ByteArray) : ∀ (f : Nat) (kid : Nat), ts.length ≤ kid + f → scF ts s (f + 1) kid = scF ts s f kid
  | 0, kid, h => by
    rcases hp kid with e | ⟨p, c, e, h1, h2, h3, _⟩
    · rw [scF_step, if_pos (by omega)]; rfl
    · have : kid = c := by omega
      omega
  | f + 1, kid, h => by
    rw [scF_step ts s (f + 1) kid, scF_step ts s f kid]
    rcases hp kid with e | ⟨p, c, e, h1, h2, h3, _⟩
    · rw [if_pos (by omega), if_pos (by omega)]
    · have hc : kid = c := by omega
      rw [e, if_neg (by omega), if_neg (by omega)]
      split
      · rfl
      · exact scF_more hp s f p (by omega)

theorem scF_any {ts : List Nod} (hp : ∀ (m : Int), parP ts m = -1 ∨ ∃ p c : Nat, parP ts m = p ∧ p < ts.length ∧ m = c ∧ c < p ∧ hasI (kidL (ts.getD p noNod)) m = true) (s : ByteArray) (kid : Nat) : ∀ (d : Nat), scF ts s (ts.length - kid + d) kid = scF ts s (ts.length - kid) kid
  | 0 => rfl
  | d + 1 => by
    rw [← Nat.add_assoc, scF_more hp s _ kid (by omega), scF_any hp s kid d]

/-- What binds a name that is seen at a node. -/
def scB (ts : List Nod) (kid : Int) (s : ByteArray) : Int × Int := scF ts s ts.length kid

theorem scB_at {ts : List Nod} (hp : ∀ (m : Int), parP ts m = -1 ∨ ∃ p c : Nat, parP ts m = p ∧ p < ts.length ∧ m = c ∧ c < p ∧ hasI (kidL (ts.getD p noNod)) m = true) (s : ByteArray) (kid f : Nat) (h : ts.length ≤ kid + f) : scF ts s f kid = scB ts kid s := by
  have h1 := scF_any hp s kid (f - (ts.length - kid))
  have h2 := scF_any hp s kid (ts.length - (ts.length - kid))
  rw [show ts.length - kid + (f - (ts.length - kid)) = f by omega] at h1
  rw [show ts.length - kid + (ts.length - (ts.length - kid)) = ts.length by omega] at h2
  rw [h1, scB, h2]

/-- The scope at a node, by the last k nodes alone. -/
def scU (ts : List Nod) (k : Nat) (m : Int) (s : ByteArray) : Int × Int :=
  if parU ts m k < 0 then (-1, -1) else match lookR s (bndL (ts.getD (parU ts m k).toNat noNod) m) with
    | some r => (parU ts m k, r)
    | none => scB ts (parU ts m k) s

theorem parU_whole {ts : List Nod} (h : nodesB ts = true) (m : Nat) : ∀ j, j ≤ m + 1 → j ≤ ts.length → parU ts m ts.length = parU ts m (ts.length - j)
  | 0, _, _ => by rw [Nat.sub_zero]
  | j + 1, h1, h2 => by
    obtain ⟨_, _, ⟨st, hR⟩, _⟩ := right_par h
    rw [parU_whole h m j (by omega) (by omega), parU_at (by omega), if_neg]
    intro hc
    obtain ⟨c, e, hc1, _⟩ := kids_low hR (by omega) hc
    omega

theorem scU_whole {ts : List Nod} (h : nodesB ts = true) (m k : Nat) (hm : m < ts.length) (hk : ts.length ≤ k + (m + 1)) (hk2 : k ≤ ts.length) (s : ByteArray) : scU ts k m s = scB ts m s := by
  obtain ⟨_, hl, _, hp, _⟩ := right_par h
  have e : parU ts m k = parP ts m := by
    rw [parP, parU_whole h m (ts.length - k) (by omega) (by omega)]
    congr 1
    omega
  unfold scU
  rw [e]
  have h1 : scB ts m s = scF ts s (ts.length - 1 + 1) m := by rw [scB]; congr 1; omega
  rw [h1, scF_step]
  by_cases hn : parP ts m < 0
  · rw [if_pos hn, if_pos hn]
  · rw [if_neg hn, if_neg hn]
    rcases hp m with e0 | ⟨p, c, e0, g1, g2, g3, _⟩
    · omega
    · rw [e0]
      split
      · rfl
      · exact (scB_at hp s p (ts.length - 1) (by omega)).symm

end Go.Proofs.Ytcpafjpjfinbkaa
