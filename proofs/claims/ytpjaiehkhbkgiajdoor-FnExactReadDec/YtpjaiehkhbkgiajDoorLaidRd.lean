/-
  A world that holds the library's tables and its two errors as their texts lay them: there is one; and what a world that holds them so gives. Conditions: written at each theorem.
-/
import Derived.Test.YtpjaiehkhbkgiajDoorLaid
import Derived.Test.YtpjaiehkhbkgiajDoorRi
import Derived.LaidLaws
namespace Go.Proofs.YtpjaiehkhbkgiajDoor
open Go.ChangeShapes Go.WideShapes Go.ChangeAt Go.RowKit
set_option linter.unusedVariables false

def synS : ByteArray := ⟨#[105, 110, 118, 97, 108, 105, 100, 32, 115, 121, 110, 116, 97, 120]⟩
def rngS : ByteArray := ⟨#[118, 97, 108, 117, 101, 32, 111, 117, 116, 32, 111, 102, 32, 114, 97, 110, 103, 101]⟩

/-- So many blocks has the settled world. -/
def lowOf (P : Program) : Nat := (World.holding P default ⟨#[], #[], []⟩).heap.size

def putErr (k : Nat) : Obj → Obj
  | .cells _ t frozen => .cells #[.iface 61 (.pointer (some ⟨k, 0, none⟩))] t frozen
  | o => o

def laidOf2 (P : Program) (os : Os) : World :=
  { World.holding P os ⟨#[.cells #[.string rngS] 63, .cells #[.string synS] 63], #[], []⟩ with heap := (((((World.holding P os ⟨#[.cells #[.string rngS] 63, .cells #[.string synS] 63], #[], []⟩).heap.modify 2 (put64 Lib.pow10Tab)).modify 3 (put8 tab32)).modify 4 (put8 tab64)).modify 1 (putErr (lowOf P))).modify 0 (putErr (lowOf P + 1)) }

theorem gSyn : Tryd.prog.globalNamed "strconv.ErrSyntax" = some 0 := by kernel_rfl
theorem gRng : Tryd.prog.globalNamed "strconv.ErrRange" = some 1 := by kernel_rfl
theorem gSynType : (Tryd.prog.globals[0]?).map (·.type) = some 29 := by kernel_rfl
theorem gRngType : (Tryd.prog.globals[1]?).map (·.type) = some 29 := by kernel_rfl
theorem cells63 : Tryd.prog.cellsOf 63 = 1 := by kernel_rfl
theorem cells9 : Tryd.prog.cellsOf 9 = 1 := by kernel_rfl

theorem pow_rd {W : World} (h : laidMet Tryd.prog Rows.fnExactReadDecRow.laid W) : PowIs W :=
  Lib.tabIs_of_head gPow gPowType Tryd.underlying55 Tryd.underlying41 cells41 cells55 h.tail.tail

theorem star : "*" ++ "errors.errorString" = "*errors.errorString" := by decide
theorem row61 (u : TypeId) (h : Tryd.prog.typeName? 3 u = some "*errors.errorString") : u = 61 :=
  typeName_ptr_named (nm := "errors.errorString") (by rw [star]; kernel_rfl) (by kernel_rfl) (by decide) u (by rw [star]; exact h)

theorem rng_rd {W : World} (h : laidMet Tryd.prog Rows.fnExactReadDecRow.laid W) : ∃ tp p, W.var? Tryd.prog "strconv.ErrRange" = some #[.iface tp p] := by
  obtain ⟨a, s, hv, _, _, _⟩ := laid_sentinel h.tail.tail.tail gRng gRngType Tryd.underlying29 row61 Tryd.underlying61 Tryd.underlying63 rfl rfl Tryd.underlying9 cells63 cells9
  exact ⟨_, _, hv⟩

theorem syn_rd {W : World} (h : laidMet Tryd.prog Rows.fnExactReadDecRow.laid W) : ∃ tp p, W.var? Tryd.prog "strconv.ErrSyntax" = some #[.iface tp p] := by
  obtain ⟨a, s, hv, _, _, _⟩ := laid_sentinel h.tail.tail.tail.tail gSyn gSynType Tryd.underlying29 row61 Tryd.underlying61 Tryd.underlying63 rfl rfl Tryd.underlying9 cells63 cells9
  exact ⟨_, _, hv⟩
end Go.Proofs.YtpjaiehkhbkgiajDoor
