/-
  What Fixed makes: the bytes of a number, the greatest first, or nothing where it does not fit; and the walks of both functions that make it. Conditions: written at each theorem.
-/
import Derived.Test.YtpjaiehkhbkgiaiPut
namespace Go.Proofs.Ytpjaiehkhbkgiai
open Go.ChangeShapes Go.WideShapes Go.ChangeAt Go.RowKit
set_option linter.unusedVariables false

def dig (n j : Nat) : Nat := n / 256 ^ j % 256
def fxs (n k : Nat) : List UInt8 := (List.range k).map fun i => UInt8.ofNat (dig n (k - 1 - i))
def fx (n k : Nat) : ByteArray := ⟨(fxs n k).toArray⟩
def fxAns (n k : Nat) : ByteArray := if n / 256 ^ k = 0 then fx n k else ByteArray.empty

theorem fxs_succ (n k : Nat) : fxs n (k + 1) = UInt8.ofNat (dig n k) :: fxs n k := by
  apply List.ext_getElem?
  intro i
  cases i with
  | zero => simp [fxs]
  | succ i =>
    simp only [fxs, List.getElem?_cons_succ, List.getElem?_map]
    by_cases h : i < k
    · rw [List.getElem?_range (by omega), List.getElem?_range h]
      simp only [Option.map_some]
      rw [show k + 1 - 1 - (i + 1) = k - 1 - i by omega]
    · rw [List.getElem?_eq_none (by simp; omega), List.getElem?_eq_none (by simp; omega)]; rfl

theorem conv1 (w : World) (x : Int) : (convert 30 9 (.slice (some ⟨w.heap.size, 0, none⟩) 1 1)).run Try.prog (w.alloc (.cells #[.int .u8 x] 5)) =
    .ok (.string (strOfNums [x])) (w.alloc (.cells #[.int .u8 x] 5)) :=
  run_convert_bytes_arg _ 30 5 Try.underlying30 Try.underlying5 w.heap.size 0 1 1 [x] rfl (fun i hi => by
    obtain rfl : i = 0 := by omega
    rw [World.cell?_alloc_at _ _ _ _ rfl]
    rfl) 9 Try.underlying9

theorem fx_step (n k q : Nat) (hq : n / 256 ^ k = q) : strOfNums [(q : Int) % 256] ++ fx n k = fx n (k + 1) := by
  have e : (fx n (k + 1)) = ByteArray.mk (UInt8.ofNat (dig n k) :: fxs n k).toArray := by rw [fx, fxs_succ]
  have e2 : ((q : Int) % 256).toNat = dig n k := by simp only [dig, hq]; omega
  rw [e]
  show ByteArray.mk ([((q : Int) % 256)].map fun n => UInt8.ofNat n.toNat).toArray ++ ByteArray.mk (fxs n k).toArray = _
  rw [ByteArray.mk_append_mk]
  simp [e2]

theorem spec_fx (n wd : Nat) (hn : n < 9223372036854775808) (h1 : 1 ≤ wd) (h7 : wd ≤ 7) (w : World) :
    Calls Try.prog 6 #[.int .i64 n, .int .i64 wd] w fun e w' => e = .returned (.string (fxAns n wd)) ∧ Below w.heap.size w w' := by
  go_enter Try.func6, Try.ntmps6
  go_wp2_with (go_at_call 12; refine (in_yes wd 1 7 (by omega) (by omega) w).mono ?_; rintro e w' ⟨rfl, rfl⟩)
  go_loopw [0, 5, 6] (fun m out i wr => ∃ k : Nat, k ≤ wd ∧ i = .int .i64 k ∧ m = .int .i64 (n / 256 ^ k : Nat) ∧ out = .string (fx n k) ∧ Below w.heap.size w wr) (fun _ _ i _ => 8 - (intOf i).toNat)
  case atStart => exact ⟨0, by omega, rfl, by simp, rfl, Below.refl _ _⟩
  case round =>
    obtain ⟨k, hk, rfl, rfl, rfl, hbel⟩ := hrel
    have hq : n / 256 ^ k < 9223372036854775808 := Nat.lt_of_le_of_lt (Nat.div_le_self _ _) hn
    have hsz : (fx n k).size = k := by simp [fx, fxs, ByteArray.size]
    have hsz1 : ∀ x, (strOfNums [x]).size = 1 := fun x => strOfNums_size [x]
    have hq1 : n / 256 ^ (k + 1) = n / 256 ^ k / 256 := by rw [Nat.pow_succ, Nat.div_div_eq_div_mul]
    generalize hqq : n / 256 ^ k = q at *
    have hstep := fx_step n k q hqq
    have HQ : Hid (n / 256 ^ (k + 1) = q / 256) := hq1
    have HS : Hid (strOfNums [(q : Int) % 256] ++ fx n k = fx n (k + 1)) := hstep
    have HQQ : Hid (n / 256 ^ k = q) := hqq
    clear hq1 hstep hqq
    have hc := conv1 wr
    go_wp2
    · have hlt : k < wd := by omega
      go_roundw
      case rel => exact ⟨k + 1, by omega, by go_num, by rw [HQ.out]; go_num, by rw [HS.out], hbel.alloc hbel.size _⟩
      case measure => simp [intOf]; omega
    · have hge : wd ≤ k := by omega
      have h0 : 0 < q := by omega
      obtain rfl : k = wd := by omega
      have e : fxAns n k = ByteArray.empty := by rw [fxAns, HQQ.out, if_neg (by omega)]
      rw [e]
      go_ret
      exact ⟨rfl, hbel⟩
    · have hge : wd ≤ k := by omega
      have h0 : ¬ 0 < q := by omega
      obtain rfl : k = wd := by omega
      have e : fxAns n k = fx n k := by rw [fxAns, HQQ.out, if_pos (by omega)]
      rw [e]
      go_ret
      exact ⟨rfl, hbel⟩
end Go.Proofs.Ytpjaiehkhbkgiai
