/-
  The key of a form, plain. Conditions: written at each theorem.
-/
import Derived.Test.YtlooccddflpmnaaDoorRows
import Derived.WalkKit
import Derived.ProofKit
import Derived.OpenShut
import Derived.ShutString
import Derived.WalkSpells
import Derived.Laws.OwnMore
import Derived.Below
namespace Go.Proofs.YtlooccddflpmnaaDoor
set_option linter.unusedVariables false

/-- The key of a form, by its kind and, with a primitive, by N. -/
def keyN (k n : Int) : ByteArray :=
  if k = 8 then
    if n = 0 then ⟨#[97, 100, 100]⟩ else if n = 1 then ⟨#[115, 117, 98]⟩ else if n = 2 then ⟨#[108, 101, 115, 115]⟩ else if n = 3 then ⟨#[115, 97, 109, 101]⟩ else ⟨#[]⟩
  else if k = 3 then ⟨#[102, 117, 110]⟩
  else if k = 4 then ⟨#[97, 112, 112]⟩
  else if k = 5 then ⟨#[108, 101, 116]⟩
  else if k = 6 then ⟨#[114, 101, 99]⟩
  else if k = 7 then ⟨#[105, 102]⟩
  else if k = 9 then ⟨#[112, 97, 105, 114]⟩
  else if k = 10 then ⟨#[102, 115, 116]⟩
  else if k = 11 then ⟨#[115, 110, 100]⟩
  else if k = 12 then ⟨#[110, 105, 108]⟩
  else if k = 13 then ⟨#[99, 111, 110, 115]⟩
  else if k = 14 then ⟨#[109, 97, 116, 99, 104]⟩
  else if k = 15 then ⟨#[114, 101, 102]⟩
  else if k = 16 then ⟨#[103, 101, 116]⟩
  else if k = 17 then ⟨#[115, 101, 116]⟩
  else if k = 18 then ⟨#[114, 97, 105, 115, 101]⟩
  else if k = 19 then ⟨#[116, 114, 121]⟩
  else ⟨#[]⟩

/-- How a form goes on behind its key. -/
def goesOn (k : Int) : List UInt8 :=
  if k = 3 then [110, 101]
  else if k = 5 then [110, 101, 101]
  else if k = 6 then [110, 110, 101, 101]
  else if k = 7 then [101, 101, 101]
  else if k = 14 then [101, 101, 110, 110, 101]
  else if k = 19 then [101, 110, 101]
  else if k = 10 ∨ k = 11 ∨ k = 15 ∨ k = 16 ∨ k = 18 then [101]
  else [101, 101]

def IsForm (k n : Int) : Prop := 3 ≤ k ∧ k ≤ 19 ∧ k ≠ 12 ∧ (k = 8 → 0 ≤ n ∧ n ≤ 3)

theorem keyN_no {k : Int} (n : Int) (h : k < 3 ∨ 19 < k) : keyN k n = ⟨#[]⟩ := by
  unfold keyN
  repeat rw [if_neg (by omega)]

theorem keyN_prim_no {n : Int} (h : n < 0 ∨ 3 < n) : keyN 8 n = ⟨#[]⟩ := by
  unfold keyN
  rw [if_pos rfl]
  repeat rw [if_neg (by omega)]
end Go.Proofs.YtlooccddflpmnaaDoor
