/-
  Plain facts on numbers and bytes, of no program: what a text's byte is, what wrapping and the bitwise or do to numbers that fit. No condition beyond those written at each theorem.
-/
import Derived.Test.YtpjaiehkhbkgiaiRows
import Derived.WalkKit
import Derived.ProofKit
import Derived.OpenShut
import Derived.ShutString
namespace Go.Proofs.Ytpjaiehkhbkgiai
open Go.ChangeShapes Go.WideShapes Go.ChangeAt Go.RowKit
set_option linter.unusedVariables false

theorem or_join (i x y : Nat) (hx : x % 2 ^ i = 0) (hy : y < 2 ^ i) (hs : x + y < 9223372036854775808) :
    bits .or .i64 (x : Int) (y : Int) = ((x + y : Nat) : Int) := by
  show IntKind.i64.wrap ((BitVec.ofInt 64 (x : Int) ||| BitVec.ofInt 64 (y : Int)).toNat : Int) = _
  rw [BitVec.toNat_or, ofInt_u64 x (by omega), ofInt_u64 y (by omega), nat_join i x y hx hy, IntKind.wrap_i64]
  omega

theorem wrap64_nat (n : Nat) (h : n < 9223372036854775808) : wrap64 (n : Int) = (n : Int) :=
  IntWalk.wrap64_in _ (by omega)

def byteAt (s : ByteArray) (k : Nat) : Nat := if h : k < s.size then s[k].toNat else 0

theorem byteAt_in {s : ByteArray} {k : Nat} (h : k < s.size) : byteAt s k = s[k].toNat := by simp [byteAt, h]

theorem byteAt_lt (s : ByteArray) (k : Nat) : byteAt s k < 256 := by
  unfold byteAt
  split
  · exact UInt8.toNat_lt _
  · omega

def rd (s : ByteArray) : Nat → Nat
  | 0 => 0
  | k + 1 => rd s k * 256 + byteAt s k

theorem rd_lt (s : ByteArray) : ∀ k, rd s k < 256 ^ k
  | 0 => by simp [rd]
  | k + 1 => by
    have h := rd_lt s k
    have hb := byteAt_lt s k
    simp only [rd, Nat.pow_succ]
    omega

theorem rd_lt48 (s : ByteArray) {k : Nat} (h : k ≤ 6) : rd s k < 281474976710656 :=
  Nat.lt_of_lt_of_le (rd_lt s k) (Nat.pow_le_pow_right (by omega) h)

theorem wrap64_byte (b : UInt8) : wrap64 (b.toNat : Int) = (b.toNat : Int) :=
  wrap64_nat _ (by have := b.toNat_lt; omega)

theorem or_byte (n : Nat) (b : UInt8) (h : n < 36028797018963968) : bits .or .i64 ((n : Int) * 256) (b.toNat : Int) = ((n * 256 + b.toNat : Nat) : Int) := by
  have := b.toNat_lt
  have e : ((n : Int) * 256) = ((n * 256 : Nat) : Int) := by omega
  rw [e, or_join 8 (n * 256) b.toNat (by omega) (by omega) (by omega)]

end Go.Proofs.Ytpjaiehkhbkgiai
