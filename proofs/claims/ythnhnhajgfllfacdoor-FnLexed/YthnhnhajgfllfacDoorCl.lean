/-
  The draw of a text to be read: it is short. Conditions: written at each theorem.
-/
import Derived.Test.YthnhnhajgfllfacDoorCn
namespace Go.Proofs.YthnhnhajgfllfacDoor
open Go.ChangeShapes Go.WideShapes Go.ChangeAt Go.RowKit
set_option linter.unusedVariables false

def srcA : List ByteArray := [⟨#[40]⟩, ⟨#[41]⟩, ⟨#[102, 117, 110]⟩, ⟨#[120]⟩, ⟨#[97, 98, 99]⟩, ⟨#[49, 50]⟩, ⟨#[48]⟩, ⟨#[54, 53, 53, 51, 53]⟩, ⟨#[32]⟩, ⟨#[10]⟩, ⟨#[35, 32, 110, 111, 116, 101, 10]⟩, ⟨#[108, 101, 116]⟩, ⟨#[32]⟩, ⟨#[40]⟩]
def srcB : List ByteArray := [⟨#[54, 53, 53, 51, 54]⟩, ⟨#[48, 48, 55]⟩, ⟨#[97, 98, 99, 100, 101, 102, 103, 104, 105]⟩, ⟨#[65]⟩, ⟨#[97, 49]⟩, ⟨#[35]⟩, ⟨#[45, 49]⟩, ⟨#[97, 98, 99, 100, 101, 102, 103, 104]⟩, ⟨#[49, 97]⟩]

theorem srcA_size : ∀ S ∈ srcA, S.size ≤ 7 := by decide
theorem srcB_size : ∀ S ∈ srcB, S.size ≤ 9 := by decide

theorem strs_new (w : World) (ls : List ByteArray) (t : TypeId) (cs : Array Value) (hcs : cs = (ls.map Value.string).toArray) : ∀ j, j < ls.length → (w.alloc (.cells cs t)).cell? ⟨w.heap.size, j, none⟩ = some (.string (ls.getD j ByteArray.empty)) := by
  subst hcs
  intro j hj
  rw [cell_of_row _ _ _ _ _ _ (MapKept.heap_alloc w _).1]
  simp [List.getD, List.getElem?_eq_getElem hj]

set_option maxHeartbeats 1000000 in
set_option maxRecDepth 20000 in
theorem source_at {a : Option Addr} {len cap : Nat} {zs : List Int} {B : Nat} {w : World} {s : Nat × Int} (h : CurAt a len cap zs B w s) :
    Calls Tryd.prog 23 #[.pointer (some ⟨B, 0, none⟩)] w fun e w' => ∃ S : ByteArray, S.size ≤ 100 ∧ e = .returned (.string S) ∧ Only B w w' := by
  have H : Hid (CurAt a len cap zs B w s) := h
  clear h
  have hr := belowV_range (zs := zs) (len := len) 12 s (by omega)
  go_enter Tryd.func23, Tryd.ntmps23
  go_wp2_with fail
  refine (below_at H.out 12 (by omega)).mono ?_
  rintro e w1 ⟨rfl, c1, b1⟩
  obtain ⟨n0, hn0⟩ := Int.eq_ofNat_of_zero_le hr.1
  have hn1 : n0 ≤ 11 := by omega
  rw [hn0]
  have C1 : Hid (CurAt a len cap zs B w1 (belowV zs len 12 s).2) := c1
  have B1 : Hid (Only B w w1) := b1
  clear c1 b1 hr hn0 H
  go_wp2
  go_loopw [3, 4] (fun o n wr => ∃ (S : ByteArray) (k : Nat) (s' : Nat × Int), o = .string S ∧ n = .int .i64 k ∧ S.size + 7 * k ≤ 77 ∧ Hid (CurAt a len cap zs B wr s') ∧ Hid (Only B w wr)) (fun _ n _ => (intOf n).toNat)
  case atStart => exact ⟨⟨#[]⟩, n0, _, rfl, rfl, by simp [ByteArray.size]; omega, C1, B1⟩
  case round =>
    obtain ⟨S, k, s', rfl, rfl, hS, CR, BR⟩ := hrel
    by_cases hk : k = 0
    · subst hk
      clear C1 B1
      go_wp2_with fail
      refine (once_at CR.out 6 (by omega)).mono ?_
      rintro e w2 ⟨rfl, c2, b2⟩
      have C2 : Hid (CurAt a len cap zs B w2 (belowV zs len 6 s').2) := c2
      have B2 : Hid (Only B w w2) := BR.out.trans b2
      clear c2 b2 CR BR
      cases hc : ((belowV zs len 6 s').1 == 0) with
      | true =>
        have CA : Hid (CurAt a len cap zs B (w2.alloc (.cells (srcB.map Value.string).toArray 9)) (belowV zs len 6 s').2) := curAt_alloc C2.out _
        go_wp2_with fail
        refine (pick_text CA.out srcB w2.heap.size 9 rfl (by omega) (by omega) (by simp) (by have := C2.out.size; omega) (strs_new w2 srcB 9 _ rfl)).mono ?_
        rintro e w3 ⟨T, s3, hT, rfl, c3, b3⟩
        have hTs := srcB_size T hT
        have B3 : Hid (Only B w w3) := (B2.out.trans (only_alloc _ _)).trans b3
        have hov : ¬ 9223372036854775807 < S.size + T.size := by omega
        clear c3 b3 CA C2 B2 hc hT
        go_wp2
        go_ret
        exact ⟨S ++ T, by rw [ByteArray.size_append]; omega, rfl, B3.out⟩
      | false =>
        clear C2 hc
        go_wp2
        go_ret
        exact ⟨S, by omega, rfl, B2.out⟩
    · have hk' : (0 : Int) < k := by omega
      have CA : Hid (CurAt a len cap zs B (wr.alloc (.cells (srcA.map Value.string).toArray 9)) s') := curAt_alloc CR.out _
      clear C1 B1
      go_wp2_with fail
      refine (pick_text CA.out srcA wr.heap.size 14 rfl (by omega) (by omega) (by simp) (by have := CR.out.size; omega) (strs_new wr srcA 9 _ rfl)).mono ?_
      rintro e w3 ⟨T, s3, hT, rfl, c3, b3⟩
      have hTs := srcA_size T hT
      have C3 : Hid (CurAt a len cap zs B w3 s3) := c3
      have B3 : Hid (Only B w w3) := (BR.out.trans (only_alloc _ _)).trans b3
      have hov : ¬ 9223372036854775807 < S.size + T.size := by omega
      clear c3 b3 CA CR BR hT
      go_wp2
      go_roundw
      case rel => exact ⟨S ++ T, k - 1, s3, rfl, by congr 1; omega, by rw [ByteArray.size_append]; omega, C3, B3⟩
      case measure => simp [intOf]; omega

theorem drawLex_at (a : Option Addr) (len cap : Nat) (zs : List Int) (w : World) (hrow : IsRow w a len cap zs) (hl : len ≤ 1048576) :
    Calls Tryd.prog 6 #[.slice a len cap] w fun e w' => ∃ S : ByteArray, S.size ≤ 100 ∧ e = .returned (.string S) ∧ Below w.heap.size w w' := by
  have HR : Hid (IsRow w a len cap zs) := hrow
  clear hrow
  go_enter Tryd.func6, Tryd.ntmps6
  go_wp2_with fail
  refine (new_at a len cap zs w HR.out hl).mono ?_
  rintro e w1 ⟨rfl, c1, b1⟩
  have C1 : Hid (CurAt a len cap zs w.heap.size w1 (newS zs len)) := c1
  clear c1
  go_wp2_with fail
  refine (source_at C1.out).mono ?_
  rintro e w2 ⟨S, hS, rfl, b2⟩
  have b3 := b1.trans (b2.below b1.size)
  clear b1 b2
  go_wp2
  go_ret
  exact ⟨S, hS, rfl, b3⟩

theorem big_at (a : Option Addr) (len cap : Nat) (b : Bool) (hb : decide ((1048576 : Int) < len) = b) (w : World) :
    Calls Tryd.prog 5 #[.slice a len cap] w fun e w' => e = .returned (.bool b) ∧ w' = w := by
  subst hb
  go_enter Tryd.func5, Tryd.ntmps5
  go_wp2
  go_ret
  exact ⟨rfl, rfl⟩
end Go.Proofs.YthnhnhajgfllfacDoor
