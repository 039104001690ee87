/-
  Types as they landed: a free variable comes to stand for a type, or is refused. Conditions: written at each theorem.
-/
import Derived.Test.YtjjanmccijghgaaDoorIx
namespace Go.Proofs.YtjjanmccijghgaaDoor
open Go.ChangeShapes Go.WideShapes Go.ChangeAt Go.RowKit
set_option linter.unusedVariables false

/-- The error that tells that two types do not go together lies where it is kept. -/
def ErrAt (w : World) (E : Value) : Prop := w.cell? ⟨0, 0, none⟩ = some E

theorem ErrAt.below {w w' : World} {E : Value} (h : ErrAt w E) (hb : Below w.heap.size w w') : ErrAt w' E := (World.cell?_of_block (hb.block _ (typ_lt h))).trans h

theorem ErrAt.shm {w w' : World} {E : Value} {bl : Nat → Nat} {n : Nat} (h : ErrAt w E) (hm : Shm bl n w w') (hne : ∀ i, i < n → bl i ≠ 0) : ErrAt w' E := (World.cell?_of_block (hm.block _ (typ_lt h) hne)).trans h

/-- What a call that makes two shapes one ends with. -/
def MkEnd (bl : Nat → Nat) (E : Value) (u : List Typ) (ρ : Nat → Tr) (x y : Nat) (w : World) (e : Ending) (w' : World) : Prop :=
  ∃ u', ((e = .returned .nilIface ∧ MkOk u ρ x y true u') ∨ (e = .returned E ∧ MkOk u ρ x y false u')) ∧ Shp w' bl u' ∧ Shm bl u.length w w'

set_option maxHeartbeats 2000000 in
set_option maxRecDepth 20000 in
theorem impl_stand {u : List Typ} {r : Nat → Nat} {ρ : Nat → Tr} (h : Ok u r ρ) (bl : Nat → Nat) (tp : TypeId) (p : Value) (i j : Nat) (hi : i < u.length) (hj : j < u.length) (hne : i ≠ j) (h0 : (u.getD i noTyp).kind = 0) (hf : (u.getD i noTyp).a < 0) (hup : (u.getD j noTyp).kind = 0 → (u.getD j noTyp).a < 0) (w : World) (hS : Shp w bl u) (hE : ErrAt w (.iface tp p)) :
    Calls Tryd.prog 32 #[shP bl i, shP bl j] w (MkEnd bl (.iface tp p) u ρ i j w) := by
  have HS : Hid (Shp w bl u) := hS
  have HE : Hid (ErrAt w (.iface tp p)) := hE
  have HZ : Hid (Calls _ _ _ _ _) := impl_size h bl j hj w hS
  have HH : Hid (∀ W : World, Shp W bl u → Calls Tryd.prog 41 #[shP bl j, shP bl i] W fun e w' => e = .returned (.bool (occT i (ρ j))) ∧ Below W.heap.size W w') := fun W hW => impl_holds h bl i hi h0 hf (r j + 1) j hj (by omega) W hW
  have HG : Hid (60 < sizeT (ρ j) → MkOk u ρ i j false u) := fun hz => mk_great h hj hz
  have HO : Hid (occT i (ρ j) = true → MkOk u ρ i j false u) := fun ho => mk_occ h hi hj hne h0 hf hup ho
  have HB : Hid (occT i (ρ j) = false → MkOk u ρ i j true (u.set i (linkT j))) := fun ho => mk_bind h hi hj h0 hf ho
  have HM : Hid (min (sizeT (ρ j)) 61 ≤ 60 ∨ 60 < sizeT (ρ j)) := by show _ ∨ _; omega
  have HM2 : Hid (60 < min (sizeT (ρ j)) 61 → 60 < sizeT (ρ j)) := fun h => by omega
  clear hS hE h h0 hf hup hne
  generalize min (sizeT (ρ j)) 61 = n at *
  generalize occT i (ρ j) = bo at *
  go_enter Tryd.func32, Tryd.ntmps32
  go_wp2_with fail
  refine HZ.out.mono ?_
  rintro e w1 ⟨rfl, b1⟩
  by_cases hn : 60 < n
  · have hn' : (60 : Int) < n := by omega
    have HV : Hid (_) := HG.out (HM2.out hn)
    have ce : w1.cell? ⟨0, 0, none⟩ = some (.iface tp p) := HE.out.below b1
    have HS1 : Hid (Shp w1 bl u) := HS.out.below b1
    have HM1 : Hid (Shm bl u.length w w1) := Shm.of_below b1
    clear b1 hn HM HM2 HG
    go_wp2
    go_ret
    exact ⟨u, Or.inr ⟨rfl, HV.out⟩, HS1.out, HM1.out⟩
  · have hn' : ¬ (60 : Int) < n := by omega
    have HS1 : Hid (Shp w1 bl u) := HS.out.below b1
    have HE1 : Hid (ErrAt w1 (.iface tp p)) := HE.out.below b1
    have HB1 : Hid (Below w.heap.size w w1) := b1
    clear b1 hn HM HM2 HG
    go_wp2_with fail
    refine (HH.out w1 HS1.out).mono ?_
    rintro e w2 ⟨rfl, b2⟩
    have HS2 : Hid (Shp w2 bl u) := HS1.out.below b2
    have ce : w2.cell? ⟨0, 0, none⟩ = some (.iface tp p) := HE1.out.below b2
    have HM1 : Hid (Shm bl u.length w w2) := (Shm.of_below HB1.out).trans (Shm.of_below b2)
    clear b2
    cases bo
    · have HV : Hid (_) := HB.out rfl
      have HP : Hid (Calls _ _ _ _ _) := impl_pointTo bl u i j hi w2 HS2.out
      go_wp2_with fail
      refine HP.out.mono ?_
      rintro e w3 ⟨rfl, hS3, hm3⟩
      have HS3 : Hid (Shp w3 bl (u.set i (linkT j))) := hS3
      have HM3 : Hid (Shm bl u.length w w3) := HM1.out.trans hm3
      clear hS3 hm3
      go_wp2
      go_ret
      exact ⟨_, Or.inl ⟨rfl, HV.out⟩, HS3.out, HM3.out⟩
    · have HV : Hid (_) := HO.out rfl
      go_wp2
      go_ret
      exact ⟨u, Or.inr ⟨rfl, HV.out⟩, HS2.out, HM1.out⟩
end Go.Proofs.YtjjanmccijghgaaDoor
