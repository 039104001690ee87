/-
  Unlex as it landed: what it makes of tokens that lie in memory. Conditions: written at each theorem.
-/
import Derived.Test.YthnhnhajgfllfacDoorTk
import Derived.Test.YthnhnhajgfllfacDoorBd
import Derived.Test.YthnhnhajgfllfacDoorShelf
import Derived.ShutString
import Derived.WalkSpells
namespace Go.Proofs.YthnhnhajgfllfacDoor
open Go.ChangeShapes Go.WideShapes Go.ChangeAt Go.RowKit
set_option linter.unusedVariables false

set_option maxHeartbeats 2000000 in
set_option maxRecDepth 20000 in
theorem impl_unlex (a : Option Addr) (g cap : Nat) (ts : List Tok) (hne : 0 < ts.length → a = some ⟨g, 0, none⟩) (hl : ts.length ≤ 1048576) (hsz : lens ts ts.length ≤ 1048576)
    (w : World) (hT : TokAt w g ts) :
    Calls Tryd.prog 11 #[.slice a ts.length cap] w fun e w' => e = .returned (.string (ulxS ts)) ∧ Below w.heap.size w w' := by
  go_enter Tryd.func11, Tryd.ntmps11
  go_wp2
  go_loopw [4] (fun i wr => ∃ k : Nat, k ≤ ts.length ∧ k ≤ 4000 ∧ i = .int .i64 k ∧ Lib.IsBuilderF 53 5 w.heap.size w.heap.size (Lib.byteCells (ulx ts k)) wr ∧ Below w.heap.size w wr) (fun i _ => 4001 - (intOf i).toNat)
  case atStart => exact ⟨0, by omega, by omega, rfl, Lib.IsBuilderF.of (Lib.fresh_isBuilder 53 5 w), (Below.refl _ w).alloc (Nat.le_refl _) _⟩
  case round =>
    obtain ⟨k, hk, hk4, rfl, hI, hb⟩ := hrel
    by_cases hin : k < ts.length ∧ k < 4000
    · obtain ⟨hkl, hk4'⟩ := hin
      have hgw : g < w.heap.size := cell_lt' (hT k hkl).c0
      have hTr := hT.below hb hgw
      have e1 : (k : Int) < ts.length := by omega
      have e2 : (k : Int) < 4000 := by omega
      obtain rfl := hne (by omega)
      have t := hTr k hkl
      have q0 : wr.cell? ⟨g, k * 4, none⟩ = some (.int .i64 (kindOf ts k)) := t.c0
      have q1 : wr.cell? ⟨g, k * 4 + 1, none⟩ = some (.string (textOf ts k)) := t.c1
      have hl1 : (ulx ts (k + 1)).length ≤ 2097153 := by
        have h1 := ulx_length ts (k + 1)
        have h2 := lens_mono ts (show k + 1 ≤ ts.length by omega)
        omega
      have hsize := hb.size
      have hts : (textOf ts k).data.toList.length = (textOf ts k).size := by rw [Array.length_toList]; rfl
      have hl2 : Hid ((ulx ts k).length + (gap ts k).length + (textOf ts k).size ≤ 2097153) := by
        show (ulx ts k).length + (gap ts k).length + (textOf ts k).size ≤ 2097153
        simp only [ulx, List.length_append, hts] at hl1
        exact hl1
      have HU : Hid (ulx ts (k + 1) = ulx ts k ++ gap ts k ++ (textOf ts k).data.toList) := rfl
      have P0 : 0 < k → wr.cell? ⟨g, (k - 1) * 4, none⟩ = some (.int .i64 (kindOf ts (k - 1))) := fun h => (hTr (k - 1) (by omega)).c0
      clear t hts hl1 hT hTr
      by_cases h0 : k = 0
      · subst h0
        have hg : gap ts 0 = [] := by simp [gap]
        rw [hg] at HU hl2
        clear P0
        have hl3 := hl2.out
        simp only [List.length_nil] at hl3
        have HL3 : Hid ((ulx ts 0).length + 0 + (textOf ts 0).size ≤ 2097153) := hl3
        clear hl3 hg
        go_wp2_with fail
        refine (bd_text_in _ _ _ _ wr hI (by rw [Lib.byteCells_length]; have := HL3.out; omega) hsize).mono ?_
        rintro e w1 ⟨rfl, hI1, hb1⟩
        go_wp2
        go_roundw
        case rel =>
          refine ⟨1, by omega, by omega, rfl, ?_, hb.trans hb1⟩
          rw [HU.out, List.append_nil, Lib.byteCells_append]
          exact Or.inr (by simpa [Lib.strCells, Lib.byteCells] using hI1)
        case measure => simp [intOf]
      · have h0' : (0 : Int) < k := by omega
        have p0 := P0 (by omega)
        clear P0
        have HG : Hid (gap ts k = if kindOf ts (k - 1) ≠ 1 ∧ kindOf ts k ≠ 2 then [32] else []) := by
          show gap ts k = _
          unfold gap
          by_cases hc : kindOf ts (k - 1) ≠ 1 ∧ kindOf ts k ≠ 2
          · rw [if_pos ⟨by omega, hc⟩, if_pos hc]
          · rw [if_neg (fun h => hc h.2), if_neg hc]
        generalize kindOf ts (k - 1) = x at *
        generalize kindOf ts k = y at *
        by_cases hx : x = 1
        · subst hx
          rw [if_neg (fun h => h.1 rfl)] at HG
          go_wp2_with fail
          refine (bd_text_in _ _ _ _ wr hI (by rw [Lib.byteCells_length]; have := hl2.out; omega) hsize).mono ?_
          rintro e w1 ⟨rfl, hI1, hb1⟩
          go_wp2
          go_roundw
          case rel =>
            refine ⟨k + 1, by omega, by omega, by go_num, ?_, hb.trans hb1⟩
            rw [HU.out, HG.out, List.append_nil, Lib.byteCells_append]
            exact Or.inr (by simpa [Lib.strCells, Lib.byteCells] using hI1)
          case measure => simp [intOf]; omega
        · have hx' : (x != 1) = true := by simpa using hx
          by_cases hy : y = 2
          · subst hy
            rw [if_neg (fun h => h.2 rfl)] at HG
            go_wp2_with fail
            refine (bd_text_in _ _ _ _ wr hI (by rw [Lib.byteCells_length]; have := hl2.out; omega) hsize).mono ?_
            rintro e w1 ⟨rfl, hI1, hb1⟩
            go_wp2
            go_roundw
            case rel =>
              refine ⟨k + 1, by omega, by omega, by go_num, ?_, hb.trans hb1⟩
              rw [HU.out, HG.out, List.append_nil, Lib.byteCells_append]
              exact Or.inr (by simpa [Lib.strCells, Lib.byteCells] using hI1)
            case measure => simp [intOf]; omega
          · have hy' : (y != 2) = true := by simpa using hy
            rw [if_pos ⟨hx, hy⟩] at HG
            have HL : Hid ((ulx ts k).length + 1 + (textOf ts k).size ≤ 2097153) := by
              have h := hl2.out
              rw [HG.out] at h
              exact h
            clear hl2
            go_wp2_with fail
            refine (bd_byte_in _ _ _ 32 wr hI (by rw [Lib.byteCells_length]; have := HL.out; omega) hsize).mono ?_
            rintro e w1 ⟨rfl, hI1, hb1⟩
            have q2 : w1.cell? ⟨g, k * 4 + 1, none⟩ = some (.string (textOf ts k)) := (World.cell?_of_block (hb1.block g hgw)).trans q1
            have hsize1 := hb1.size
            clear q0 q1 p0
            go_wp2_with fail
            refine (bd_text_in _ _ _ _ w1 (Or.inr hI1) (by rw [List.length_append, Lib.byteCells_length]; have := HL.out; simp only [List.length_cons, List.length_nil]; omega) (by omega)).mono ?_
            rintro e w2 ⟨rfl, hI2, hb2⟩
            go_wp2
            go_roundw
            case rel =>
              refine ⟨k + 1, by omega, by omega, by go_num, ?_, (hb.trans hb1).trans hb2⟩
              rw [HU.out, HG.out, Lib.byteCells_append, Lib.byteCells_append]
              exact Or.inr (by simpa [Lib.strCells, Lib.byteCells] using hI2)
            case measure => simp [intOf]; omega
    · have hend : k = min ts.length 4000 := by omega
      have hsize := hb.size
      have HR : Hid (ulxS ts = ⟨(ulx ts k).toArray⟩) := by
        show ulxS ts = _
        rw [ulxS, ← hend]
      clear hend hl hsz hT
      by_cases hkl : k < ts.length
      · have e1 : (k : Int) < ts.length := by omega
        have e2 : (4000 : Int) ≤ k := by omega
        clear hin hk4 hk
        go_wp2_with fail
        refine (Tryd.Builder_String_any_k _ _ _ wr hI hsize).mono ?_
        rintro e w1 ⟨rfl, _, hb1, _⟩
        go_wp2
        go_ret
        exact ⟨by rw [HR.out]; rfl, hb.trans hb1⟩
      · have e1 : (ts.length : Int) ≤ k := by omega
        clear hin hk4 hk
        go_wp2_with fail
        refine (Tryd.Builder_String_any_k _ _ _ wr hI hsize).mono ?_
        rintro e w1 ⟨rfl, _, hb1, _⟩
        go_wp2
        go_ret
        exact ⟨by rw [HR.out]; rfl, hb.trans hb1⟩
end Go.Proofs.YthnhnhajgfllfacDoor
