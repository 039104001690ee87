/-
  Unlex, the specification's: what it makes of tokens that lie in memory. Conditions: written at each theorem.
-/
import Derived.Test.YthnhnhajgfllfakTk
import Derived.ProofKit
import Derived.ShutString
import Derived.WalkSpells
namespace Go.Proofs.Ythnhnhajgfllfak
open Go.ChangeShapes Go.WideShapes Go.ChangeAt Go.RowKit
set_option linter.unusedVariables false

theorem ext_bytes {a b : ByteArray} (h : a.data.toList = b.data.toList) : a = b := by
  cases a; cases b
  simp only at h
  congr 1
  exact Array.toList_inj.1 h

theorem app_list (a b : ByteArray) : (a ++ b).data.toList = a.data.toList ++ b.data.toList := by simp [ByteArray.data_append]

set_option maxHeartbeats 2000000 in
set_option maxRecDepth 20000 in
theorem spec_unlex (a : Option Addr) (g cap : Nat) (ts : List Tok) (hne : 0 < ts.length → a = some ⟨g, 0, none⟩) (hl : ts.length ≤ 1048576) (hsz : lens ts ts.length ≤ 1048576)
    (w : World) (hT : TokAt w g ts) :
    Calls Try.prog 6 #[.slice a ts.length cap] w fun e w' => e = .returned (.string (ulxS ts)) ∧ w' = w := by
  go_enter Try.func6, Try.ntmps6
  go_wp2
  go_loop [3, 4] (fun s i => ∃ (k : Nat) (S : ByteArray), k ≤ ts.length ∧ k ≤ 4000 ∧ i = .int .i64 k ∧ s = .string S ∧ Hid (S.data.toList = ulx ts k)) (fun _ i => 4001 - (intOf i).toNat)
  case atStart => exact ⟨0, ⟨#[]⟩, by omega, by omega, rfl, rfl, rfl⟩
  case round =>
    obtain ⟨k, S, hk, hk4, rfl, rfl, HS⟩ := hrel
    by_cases hin : k < ts.length ∧ k < 4000
    · obtain ⟨hkl, hk4'⟩ := hin
      have e1 : (k : Int) < ts.length := by omega
      have e2 : (k : Int) < 4000 := by omega
      obtain rfl := hne (by omega)
      have t := hT k hkl
      have q0 : w.cell? ⟨g, k * 4, none⟩ = some (.int .i64 (kindOf ts k)) := t.c0
      have q1 : w.cell? ⟨g, k * 4 + 1, none⟩ = some (.string (textOf ts k)) := t.c1
      have hl1 : (ulx ts (k + 1)).length ≤ 2097153 := by
        have h1 := ulx_length ts (k + 1)
        have h2 := lens_mono ts (show k + 1 ≤ ts.length by omega)
        omega
      have hts : (textOf ts k).data.toList.length = (textOf ts k).size := by rw [Array.length_toList]; rfl
      have hSs : S.data.toList.length = S.size := by rw [Array.length_toList]; rfl
      have hl2 : S.size + (gap ts k).length + (textOf ts k).size ≤ 2097153 := by
        simp only [ulx, List.length_append, hts] at hl1
        rw [← HS.out, hSs] at hl1
        exact hl1
      have HL : Hid (S.size + (gap ts k).length + (textOf ts k).size ≤ 2097153) := hl2
      have HU : Hid (ulx ts (k + 1) = ulx ts k ++ gap ts k ++ (textOf ts k).data.toList) := rfl
      have P0 : 0 < k → w.cell? ⟨g, (k - 1) * 4, none⟩ = some (.int .i64 (kindOf ts (k - 1))) := fun h => (hT (k - 1) (by omega)).c0
      clear t hts hSs hl1 hT hl hsz hl2
      by_cases h0 : k = 0
      · subst h0
        have HG : Hid (gap ts 0 = []) := by show gap ts 0 = []; simp [gap]
        have b1 : ¬ 9223372036854775807 < S.size + (textOf ts 0).size := by have := HL.out; omega
        clear P0
        go_wp2
        go_round
        case rel =>
          refine ⟨1, _, by omega, by omega, rfl, rfl, ?_⟩
          show _ = ulx ts (0 + 1)
          rw [HU.out, HG.out, app_list, HS.out, List.append_nil]
        case measure => simp [intOf]
      · have h0' : (0 : Int) < k := by omega
        have p0 := P0 (by omega)
        clear P0
        have HG : Hid (gap ts k = if kindOf ts (k - 1) ≠ 1 ∧ kindOf ts k ≠ 2 then [32] else []) := by
          show gap ts k = _
          unfold gap
          by_cases hc : kindOf ts (k - 1) ≠ 1 ∧ kindOf ts k ≠ 2
          · rw [if_pos ⟨by omega, hc⟩, if_pos hc]
          · rw [if_neg (fun h => hc h.2), if_neg hc]
        generalize kindOf ts (k - 1) = x at *
        generalize kindOf ts k = y at *
        have b1 : ¬ 9223372036854775807 < S.size + (textOf ts k).size := by have := HL.out; omega
        by_cases hx : x = 1
        · subst hx
          rw [if_neg (fun h => h.1 rfl)] at HG
          go_wp2
          go_round
          case rel =>
            refine ⟨k + 1, _, by omega, by omega, by go_num, rfl, ?_⟩
            show _ = ulx ts (k + 1)
            rw [HU.out, HG.out, app_list, HS.out, List.append_nil]
          case measure => simp [intOf]; omega
        · have hx' : (x != 1) = true := by simpa using hx
          by_cases hy : y = 2
          · subst hy
            rw [if_neg (fun h => h.2 rfl)] at HG
            go_wp2
            go_round
            case rel =>
              refine ⟨k + 1, _, by omega, by omega, by go_num, rfl, ?_⟩
              show _ = ulx ts (k + 1)
              rw [HU.out, HG.out, app_list, HS.out, List.append_nil]
            case measure => simp [intOf]; omega
          · have hy' : (y != 2) = true := by simpa using hy
            rw [if_pos ⟨hx, hy⟩] at HG
            have b0 : ¬ 9223372036854775807 < S.size + 1 := by have := HL.out; omega
            have z1 : (ByteArray.mk #[32]).size = 1 := rfl
            have b2 : ¬ 9223372036854775807 < S.size + 1 + (textOf ts k).size := by have := HL.out; rw [HG.out] at this; simp only [List.length_cons, List.length_nil] at this; omega
            go_wp2
            go_round
            case rel =>
              refine ⟨k + 1, _, by omega, by omega, by go_num, rfl, ?_⟩
              show _ = ulx ts (k + 1)
              rw [HU.out, HG.out, app_list, app_list, HS.out]
            case measure => simp [intOf]; omega
    · have hend : k = min ts.length 4000 := by omega
      have HR : Hid (S = ulxS ts) := by
        show S = ulxS ts
        apply ext_bytes
        rw [HS.out, ulxS, ← hend]
      clear hend hl hsz hT
      by_cases hkl : k < ts.length
      · have e1 : (k : Int) < ts.length := by omega
        have e2 : (4000 : Int) ≤ k := by omega
        clear hin hk4 hk
        go_wp2
        go_ret
        exact ⟨by rw [← HR.out]; rfl, rfl⟩
      · have e1 : (ts.length : Int) ≤ k := by omega
        clear hin hk4 hk
        go_wp2
        go_ret
        exact ⟨by rw [← HR.out]; rfl, rfl⟩
end Go.Proofs.Ythnhnhajgfllfak
