/-
  Dec, the specification's: the decimal text of every int. Conditions: written at each theorem.
-/
import Derived.Test.YthmfkbnfdheopaaDoorDl
namespace Go.Proofs.YthmfkbnfdheopaaDoor
open Go.ChangeShapes Go.WideShapes Go.ChangeAt Go.RowKit
set_option linter.unusedVariables false

set_option maxRecDepth 20000 in
theorem spec_dec_pos (N : Nat) (h0 : 0 < N) (hN : N < 9223372036854775808) (w : World) :
    Calls Tryd.prog 52 #[.int .i64 N] w fun e w' => e = .returned (.string ⟨(Lib.itoa N).toArray⟩) ∧ Below w.heap.size w w' := by
  rw [itoa_pos]
  go_enter Tryd.func52, Tryd.ntmps52
  go_wp2
  go_loopw [0, 3] (fun n out wr => ∃ (q : Nat) (L : List UInt8), n = .int .i64 q ∧ q ≤ N ∧ out = .string ⟨L.toArray⟩ ∧ Hid (Left N q L) ∧ Below w.heap.size w wr) (fun n _ _ => (intOf n).toNat)
  case atStart => exact ⟨N, [], rfl, Nat.le_refl _, rfl, left_start N h0, Below.refl _ _⟩
  case round =>
    obtain ⟨q, L, rfl, hq, rfl, hleft, hbel⟩ := hrel
    have hlen := left_length hleft.out (by omega)
    by_cases hq0 : q = 0
    · subst hq0
      have E : Hid (L = Lib.decDigits N) := hleft.out.1 rfl
      go_wp2
      rw [E.out]
      go_ret
      exact ⟨rfl, hbel⟩
    · have hpos : 0 < q := by omega
      have hpos' : (0 : Int) < q := by omega
      have hc := conv1 wr
      have hs1 : ∀ x, (strOfNums [x]).size = 1 := fun x => strOfNums_size [x]
      have hs2 : (ByteArray.mk L.toArray).size ≤ 19 := by simpa [ByteArray.size] using hlen
      have E : Hid (Left N (q / 10) (UInt8.ofNat (48 + q % 10) :: L)) := left_step hleft.out hpos
      clear hleft
      go_wp2
      go_roundw
      case rel => exact ⟨q / 10, UInt8.ofNat (48 + q % 10) :: L, by go_num, by omega, by rw [lay_digit], E, hbel.alloc hbel.size _⟩
      case measure => simp [intOf]; omega

theorem spec_dec_zero (w : World) :
    Calls Tryd.prog 52 #[.int .i64 0] w fun e w' => e = .returned (.string ⟨(Lib.itoa 0).toArray⟩) ∧ Below w.heap.size w w' := by
  have e0 : (⟨(Lib.itoa 0).toArray⟩ : ByteArray) = ⟨#[48]⟩ := by
    rw [show (0 : Int) = ((0 : Nat) : Int) from rfl, itoa_pos, dd_small (by omega)]
    rfl
  rw [e0]
  go_enter Tryd.func52, Tryd.ntmps52
  go_wp2
  go_ret
  exact ⟨rfl, Below.refl _ _⟩

theorem tmod_neg (q : Nat) : (-(q : Int)).tmod 10 = -((q : Int) % 10) := by
  rw [Int.neg_tmod, Int.tmod_eq_emod_of_nonneg (by omega)]

theorem tdiv_neg (q : Nat) : (-(q : Int)).tdiv 10 = -((q : Int) / 10) := by
  rw [Int.neg_tdiv, Int.tdiv_eq_ediv_of_nonneg (by omega)]

set_option maxRecDepth 20000 in
theorem spec_dec_neg (N : Nat) (h0 : 0 < N) (hN : N ≤ 9223372036854775808) (w : World) :
    Calls Tryd.prog 52 #[.int .i64 (-(N : Int))] w fun e w' => e = .returned (.string ⟨(Lib.itoa (-(N : Int))).toArray⟩) ∧ Below w.heap.size w w' := by
  rw [itoa_neg N (by omega)]
  have hn0 : -(N : Int) < 0 := by omega
  go_enter Tryd.func52, Tryd.ntmps52
  go_wp2
  go_loopw [0, 3] (fun n out wr => ∃ (q : Nat) (L : List UInt8), n = .int .i64 (-(q : Int)) ∧ q ≤ N ∧ out = .string ⟨L.toArray⟩ ∧ Hid (Left N q L) ∧ Below w.heap.size w wr) (fun n _ _ => (-(intOf n)).toNat)
  case atStart => exact ⟨N, [], rfl, Nat.le_refl _, rfl, left_start N h0, Below.refl _ _⟩
  case round =>
    obtain ⟨q, L, rfl, hq, rfl, hleft, hbel⟩ := hrel
    have hlen := left_length hleft.out (by omega)
    have hs2 : (ByteArray.mk L.toArray).size ≤ 19 := by simpa [ByteArray.size] using hlen
    by_cases hq0 : q = 0
    · subst hq0
      have E : Hid (L = Lib.decDigits N) := hleft.out.1 rfl
      have e45 : Hid ((ByteArray.mk #[45]) ++ (ByteArray.mk (Lib.decDigits N).toArray) = ByteArray.mk (45 :: Lib.decDigits N).toArray) := by
        show (ByteArray.mk [45].toArray) ++ (ByteArray.mk (Lib.decDigits N).toArray) = _
        rw [ByteArray.mk_append_mk]
        rfl
      go_wp2
      rw [E.out, e45.out]
      go_ret
      exact ⟨rfl, hbel⟩
    · have hpos : 0 < q := by omega
      have hpos' : -(q : Int) < 0 := by omega
      have hc := conv1 wr
      have hs1 : ∀ x, (strOfNums [x]).size = 1 := fun x => strOfNums_size [x]
      have E : Hid (Left N (q / 10) (UInt8.ofNat (48 + q % 10) :: L)) := left_step hleft.out hpos
      have t1 := tmod_neg q
      have t2 := tdiv_neg q
      clear hleft
      by_cases hd : (q : Int) % 10 = 0
      · have HE : Hid (strOfNums [(48 : Int)] ++ ByteArray.mk L.toArray = ByteArray.mk (UInt8.ofNat (48 + q % 10) :: L).toArray) := by
          have := lay_digit q L
          rw [hd] at this
          exact this
        go_wp2
        go_roundw
        case rel => exact ⟨q / 10, UInt8.ofNat (48 + q % 10) :: L, by go_num, by omega, by rw [HE.out], E, hbel.alloc hbel.size _⟩
        case measure => simp [intOf]; omega
      · have hd2 : -((q : Int) % 10) < 0 := by omega
        go_wp2
        go_roundw
        case rel => exact ⟨q / 10, UInt8.ofNat (48 + q % 10) :: L, by go_num, by omega, by rw [lay_digit], E, hbel.alloc hbel.size _⟩
        case measure => simp [intOf]; omega

/-- The specification's Dec makes the decimal text of every int. -/
theorem spec_dec (n : Int) (h0 : -9223372036854775808 ≤ n) (h1 : n ≤ 9223372036854775807) (w : World) :
    Calls Tryd.prog 52 #[.int .i64 n] w fun e w' => e = .returned (.string ⟨(Lib.itoa n).toArray⟩) ∧ Below w.heap.size w w' := by
  rcases Int.lt_trichotomy n 0 with h | h | h
  · obtain ⟨N, rfl⟩ : ∃ N : Nat, n = -(N : Int) := ⟨n.natAbs, by omega⟩
    exact spec_dec_neg N (by omega) (by omega) w
  · subst h
    exact spec_dec_zero w
  · obtain ⟨N, rfl⟩ := Int.eq_ofNat_of_zero_le (show 0 ≤ n by omega)
    exact spec_dec_pos N (by omega) (by omega) w
end Go.Proofs.YthmfkbnfdheopaaDoor
