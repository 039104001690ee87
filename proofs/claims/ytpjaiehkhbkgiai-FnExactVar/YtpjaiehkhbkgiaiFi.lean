/-
  Fixed as it landed: the bytes of a number, the greatest first, or nothing where it does not fit. Conditions: written at each theorem.
-/
import Derived.Test.YtpjaiehkhbkgiaiFx
namespace Go.Proofs.Ytpjaiehkhbkgiai
open Go.ChangeShapes Go.WideShapes Go.ChangeAt Go.RowKit
set_option linter.unusedVariables false
theorem Try.info5 : (Try.prog.info? 5).map (fun i => (i.zero, i.size, i.bytes)) = some (some (.int .u8 0), 1, 1) := by kernel_rfl

theorem pow8 (k : Nat) : (2 : Int) ^ (8 * k) = ((256 ^ k : Nat) : Int) := by
  rw [Int.pow_mul]
  norm_cast

theorem shr8 (n k : Nat) : (n : Int) / 2 ^ (8 * k) = ((n / 256 ^ k : Nat) : Int) := by
  rw [pow8]; norm_cast

/-- What the room holds when k bytes have been laid. -/
def fxc (n wd k : Nat) : List Value := (List.range wd).map fun i => .int .u8 (if i < k then (dig n (wd - 1 - i) : Int) else 0)

theorem fxc_length (n wd k : Nat) : (fxc n wd k).length = wd := by simp [fxc]

theorem fxc_zero (n wd : Nat) : madeCells (Value.int .u8 0).cells (wd * 1) = (fxc n wd 0).toArray := by
  apply Array.ext
  · simp [madeCells, fxc]
  · intro i h1 h2
    have e : i % 1 = 0 := by omega
    simp [madeCells, fxc, Value.cells, e]

theorem fxc_step (n wd k : Nat) (h : k < wd) (x : Int) (hx : x = (dig n (wd - 1 - k) : Int)) : splice (fxc n wd k) k [.int .u8 x] = fxc n wd (k + 1) := by
  subst hx
  apply List.ext_getElem?
  intro i
  simp only [splice, fxc, List.length_singleton]
  rw [List.getElem?_append]
  simp only [List.length_take, List.length_map, List.length_range, Nat.min_eq_left (Nat.le_of_lt h)]
  by_cases hi : i < k
  · rw [if_pos hi, List.getElem?_take_of_lt hi, List.getElem?_map, List.getElem?_map, List.getElem?_range (by omega)]
    simp [hi, Nat.lt_succ_of_lt hi]
  · rw [if_neg hi]
    by_cases he : i = k
    · subst he
      simp [List.getElem?_map, List.getElem?_range h]
    · rw [List.getElem?_append_right (by simp; omega)]
      simp only [List.length_singleton, List.getElem?_drop, List.getElem?_map]
      rw [show k + 1 + (i - k - 1) = i by omega]
      by_cases hw : i < wd
      · rw [List.getElem?_range hw]
        simp [hi, show ¬ i < k + 1 by omega]
      · rw [List.getElem?_eq_none (by simp; omega)]; rfl

theorem room_alloc {wr : World} {g : Nat} {x : Obj} (h : wr.heap[g]? = some x) (o : Obj) : (wr.alloc o).heap[g]? = some x := by
  rw [Below.heap_alloc wr o g (Array.getElem?_eq_some_iff.1 h).1]; exact h

theorem room_cell {wr : World} {g : Nat} {cs : List Value} {t : TypeId} (h : wr.heap[g]? = some (.cells cs.toArray t (0, 0))) (i : Nat) : wr.cell? ⟨g, i, none⟩ = cs[i]? := by
  simp [World.cell?, h]

theorem fx_conv (n wd : Nat) (wr : World) (g : Nat) (h : wr.heap[g]? = some (.cells (fxc n wd wd).toArray 5 (0, 0))) :
    (convert 30 9 (.slice (some ⟨g, 0, none⟩) wd wd)).run Try.prog wr = .ok (.string (fx n wd)) wr := by
  have e : fx n wd = strOfNums ((List.range wd).map fun i => (dig n (wd - 1 - i) : Int)) := by
    simp [fx, fxs, strOfNums]
  rw [e]
  refine run_convert_bytes_arg _ 30 5 Try.underlying30 Try.underlying5 g 0 wd wd _ (by simp) (fun i hi => ?_) 9 Try.underlying9
  rw [room_cell h]
  simp [fxc, hi]

theorem impl_fx (n wd : Nat) (hn : n < 9223372036854775808) (h1 : 1 ≤ wd) (h7 : wd ≤ 7) (hfit : ((n : Int) / 2 ^ (8 * wd) != 0) = false) (w : World) :
    Calls Try.prog 7 #[.int .i64 n, .int .i64 wd] w fun e w' => e = .returned (.string (fx n wd)) ∧ Below w.heap.size w w' := by
  obtain ⟨i0, hi, hz0, hz1, hz2⟩ := info_parts Try.info5
  have hmk := run_make (P := Try.prog) w 30 5 i0 (.int .u8 0) Try.underlying30 hi hz0 .i64 .i64 wd wd (by omega) (by omega) (by rw [hz2]; omega) (by omega)
  rw [hz1] at hmk
  simp only [Int.toNat_natCast] at hmk
  rw [fxc_zero n wd] at hmk
  clear hi hz0 hz1 hz2
  go_enter Try.func7, Try.ntmps7
  go_wp2
  go_loopw [6, 7] (fun a s wr => ∃ k : Nat, k ≤ wd ∧ a = .int .i64 k ∧ s = .int .i64 (8 * ((wd : Int) - 1 - k)) ∧ Hid (wr.heap[w.heap.size]? = some (.cells (fxc n wd k).toArray 5 (0, 0))) ∧ Below w.heap.size w wr) (fun a _ _ => 8 - (intOf a).toNat)
  case atStart =>
    refine ⟨0, by omega, rfl, by simp, ?_, (Below.refl _ _).alloc (Nat.le_refl _) _⟩
    exact (MapKept.heap_alloc w _).1
  case round =>
    obtain ⟨k, hk, rfl, rfl, hroom, hbel⟩ := hrel
    clear hmk
    by_cases hkw : k = wd
    · subst hkw
      have hc := fx_conv n k wr w.heap.size hroom.out
      go_wp2
      go_ret
      exact ⟨rfl, hbel⟩
    · have hlt : k < wd := by omega
      have hx : Hid ((n : Int) / 2 ^ (8 * (wd - 1 - k)) % 256 = (dig n (wd - 1 - k) : Int)) := by
        show (n : Int) / 2 ^ (8 * (wd - 1 - k)) % 256 = (dig n (wd - 1 - k) : Int)
        rw [shr8]; simp [dig]
      go_wp2_with fail
      refine (put_any w.heap.size wd wd k 1 wr.heap.size w.heap.size (fxc n wd k) [.int .u8 ((n : Int) / 2 ^ (8 * (wd - 1 - k)) % 256)] _ w (room_alloc hroom.out _) rfl ?c1 (by omega) (by omega) (by rw [fxc_length]; omega) (by omega) (by unfold maxLen; omega) ?c2 (hbel.alloc hbel.size _) (Nat.le_refl _)).mono ?_
      case c1 =>
        intro j v hj
        obtain rfl : j = 0 := by
          rcases j with _ | j
          · rfl
          · simp at hj
        rw [World.cell?_alloc_at _ _ _ _ rfl]
        simpa using hj
      case c2 => simp [Value.oneCell']
      rintro e w' ⟨rfl, hroom', hbel'⟩
      rw [fxc_step n wd k hlt _ hx.out] at hroom'
      have hr2 : Hid (w'.heap[w.heap.size]? = some (.cells (fxc n wd (k + 1)).toArray 5 (0, 0))) := hroom'
      clear hroom' hroom hbel hx
      go_wp2
      go_roundw
      case rel => exact ⟨k + 1, by omega, by go_num, by go_num, hr2, hbel'⟩
      case measure => simp [intOf]; omega

theorem impl_fx_big (n wd : Nat) (hn : n < 9223372036854775808) (h1 : 1 ≤ wd) (h7 : wd ≤ 7) (hfit : ((n : Int) / 2 ^ (8 * wd) != 0) = true) (w : World) :
    Calls Try.prog 7 #[.int .i64 n, .int .i64 wd] w fun e w' => e = .returned (.string ByteArray.empty) ∧ Below w.heap.size w w' := by
  go_enter Try.func7, Try.ntmps7
  go_wp2
  go_ret
  exact ⟨rfl, Below.refl _ _⟩

theorem impl_fx_all (n wd : Nat) (hn : n < 9223372036854775808) (h1 : 1 ≤ wd) (h7 : wd ≤ 7) (w : World) :
    Calls Try.prog 7 #[.int .i64 n, .int .i64 wd] w fun e w' => e = .returned (.string (fxAns n wd)) ∧ Below w.heap.size w w' := by
  by_cases h : n / 256 ^ wd = 0
  · have e : fxAns n wd = fx n wd := by rw [fxAns, if_pos h]
    rw [e]
    exact impl_fx n wd hn h1 h7 (by rw [shr8, h]; rfl) w
  · have e : fxAns n wd = ByteArray.empty := by rw [fxAns, if_neg h]
    rw [e]
    refine impl_fx_big n wd hn h1 h7 ?_ w
    rw [shr8]
    simp only [bne_iff_ne, ne_eq]
    omega

theorem impl_fx_no (n wd : Int) (h : wd < 1 ∨ 7 < wd ∨ n < 0) (w : World) :
    Calls Try.prog 7 #[.int .i64 n, .int .i64 wd] w fun e w' => e = .returned (.string ByteArray.empty) ∧ Below w.heap.size w w' := by
  by_cases h1 : wd < 1
  · go_enter Try.func7, Try.ntmps7
    go_wp2
    go_ret
    exact ⟨rfl, Below.refl _ _⟩
  · by_cases h2 : 7 < wd
    · go_enter Try.func7, Try.ntmps7
      go_wp2
      go_ret
      exact ⟨rfl, Below.refl _ _⟩
    · have h3 : n < 0 := by omega
      go_enter Try.func7, Try.ntmps7
      go_wp2
      go_ret
      exact ⟨rfl, Below.refl _ _⟩

theorem spec_fx_no (n wd : Int) (h : wd < 1 ∨ 7 < wd ∨ n < 0) (w : World) :
    Calls Try.prog 6 #[.int .i64 n, .int .i64 wd] w fun e w' => e = .returned (.string ByteArray.empty) ∧ Below w.heap.size w w' := by
  by_cases h1 : wd < 1 ∨ 7 < wd
  · go_enter Try.func6, Try.ntmps6
    go_wp2_with (go_at_call 12; refine (in_no wd 1 7 h1 w).mono ?_; rintro e w' ⟨rfl, rfl⟩)
    go_ret
    exact ⟨rfl, Below.refl _ _⟩
  · have h2 : n < 0 := by omega
    go_enter Try.func6, Try.ntmps6
    go_wp2_with (go_at_call 12; refine (in_yes wd 1 7 (by omega) (by omega) w).mono ?_; rintro e w' ⟨rfl, rfl⟩)
    go_ret
    exact ⟨rfl, Below.refl _ _⟩
end Go.Proofs.Ytpjaiehkhbkgiai
