/-
  Types, the specification's ShowType. Conditions: written at each theorem.
-/
import Derived.Test.YtbhfpfoekalphaaDoorHl
namespace Go.Proofs.YtbhfpfoekalphaaDoor
open Go.ChangeShapes Go.WideShapes Go.ChangeAt Go.RowKit
set_option linter.unusedVariables false

theorem siz_le (ts : List Typ) (i : Int) : sizB ts i ≤ 61 := by
  unfold sizB
  split <;> omega

theorem sho_yes {ts : List Typ} {i : Int} (h : 1 ≤ sizB ts i ∧ sizB ts i ≤ 60) : ∃ m : Nat, i = m ∧ m < ts.length ∧ tabB ts = true ∧ sizeT (solB ts m) ≤ 60 ∧ shoB ts i = (shoT 0 (solB ts m) []).1 := by
  obtain ⟨ht, h0, h1⟩ := siz_in h.1
  have e : sizB ts i = min (sizeT (solB ts i.toNat)) 61 := by unfold sizB; rw [if_pos ⟨ht, h0, h1⟩]
  refine ⟨i.toNat, by omega, by omega, ht, by omega, by unfold shoB; rw [if_pos h]⟩

set_option maxHeartbeats 1000000 in
set_option maxRecDepth 20000 in
theorem spec_showType (a : Option Addr) (g cap : Nat) (ts : List Typ) (i : Int) (hne : 0 < ts.length → a = some ⟨g, 0, none⟩) (hl : ts.length ≤ 1048576) (w : World) (hA : TypAt w g ts) :
    Calls Tryd.prog 16 #[.slice a ts.length cap, .int .i64 i] w fun e w' => e = .returned (.string ⟨(shoB ts i).toArray⟩) ∧ Below w.heap.size w w' := by
  have HA : Hid (TypAt w g ts) := hA
  have HZ : Hid (Calls _ _ _ _ _) := spec_sizeOf a g cap ts i hne hl w hA
  have hz := siz_le ts i
  by_cases hs : 1 ≤ sizB ts i ∧ sizB ts i ≤ 60
  · obtain ⟨m, rfl, hm, ht, hm60, he⟩ := sho_yes hs
    obtain ⟨h40, r, hok⟩ := tab_ok ht
    have HOK : Hid (Ok ts r (solB ts)) := hok
    have HV : Hid (⟨(shoT 0 (solB ts m) []).1.toArray⟩ = (⟨(shoB ts m).toArray⟩ : ByteArray)) := by show _ = _; rw [he]
    generalize sizB ts m = n at *
    clear hA he ht
    go_enter Tryd.func16, Tryd.ntmps16
    go_wp2_with fail
    refine HZ.out.mono ?_
    rintro e w1 ⟨rfl, b1⟩
    have A1 : Hid (TypAt w1 g ts) := HA.out.below b1 (fun h => HA.out.lt h)
    go_wp2_with fail
    refine (ty_in (n : Int) 1 60 _).mono ?_
    rintro e w2 ⟨rfl, rfl⟩
    rw [decide_eq_true (show (1 : Int) ≤ n by omega), decide_eq_true (show (n : Int) ≤ 60 by omega)]
    have A2 : Hid (TypAt (w2.alloc (.cells #[] 3)) g ts) := A1.out.below ((Below.refl _ w2).alloc (Nat.le_refl _) _) (fun h => A1.out.lt h)
    have HS : Hid (Calls Tryd.prog 32 #[.slice a ts.length cap, .int .i64 m, .slice (some ⟨w2.heap.size, 0, none⟩) 0 0] (w2.alloc (.cells #[] 3)) (ShoEnd (w2.alloc (.cells #[] 3)) (solB ts m) [])) := spec_show HOK.out a g cap hne (by omega) (r m + 1) m [] w2.heap.size 0 hm (by omega) (by simp; omega) (by simp) _ A2.out (fun q hq => absurd hq (by simp [natL]))
    unfold ShoEnd at HS
    have s1 := b1.size
    clear hs hz
    go_wp2_with fail
    refine HS.out.mono ?_
    rintro e w3 ⟨G, c, rfl, _, _, b3⟩
    have B3 : Below w.heap.size w w3 := (b1.alloc s1 _).trans (b3.mono (by simp; omega))
    clear b3 HS
    go_wp2
    go_ret
    exact ⟨by rw [← HV.out] <;> rfl, B3⟩
  · have HV : Hid (shoB ts i = []) := by show _ = _; unfold shoB; rw [if_neg hs]
    generalize sizB ts i = n at *
    go_enter Tryd.func16, Tryd.ntmps16
    go_wp2_with fail
    refine HZ.out.mono ?_
    rintro e w1 ⟨rfl, b1⟩
    go_wp2_with fail
    refine (ty_in (n : Int) 1 60 _).mono ?_
    rintro e w2 ⟨rfl, rfl⟩
    rw [show (decide ((1 : Int) ≤ n) && decide ((n : Int) ≤ 60)) = false by
      rw [Bool.and_eq_false_iff]
      rcases Nat.lt_or_ge n 1 with h | h
      · exact Or.inl (decide_eq_false (by omega))
      · exact Or.inr (decide_eq_false (by omega))]
    clear hs hz
    go_wp2
    go_ret
    exact ⟨by rw [HV.out] <;> rfl, b1⟩
end Go.Proofs.YtbhfpfoekalphaaDoor
