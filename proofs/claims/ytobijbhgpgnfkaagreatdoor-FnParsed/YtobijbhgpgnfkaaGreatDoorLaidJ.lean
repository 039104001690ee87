/-
  A world that holds the library's tables and its two errors as their texts lay them: there is one; and what a world that holds them so gives. Conditions: written at each theorem.
-/
import Derived.Test.YtobijbhgpgnfkaaGreatDoorQ3
import Derived.Test.YtobijbhgpgnfkaaGreatDoorCards
import Derived.Test.YtobijbhgpgnfkaaGreatDoorTie
import Derived.Deep.DeepHandedRow
import Derived.Stop.LaidErr
import Derived.LaidLaws
namespace Go.Proofs.YtobijbhgpgnfkaaGreatDoor
open Go.ChangeShapes Go.WideShapes Go.ChangeAt Go.RowKit
set_option linter.unusedVariables false

theorem own : ownKnob Tryz.prog.godebug = none := by kernel_rfl

def put8 (l : List Int) : Obj → Obj
  | .cells _ t frozen => .cells (l.map (Value.int .u8)).toArray t frozen
  | o => o
def put64 (l : List Int) : Obj → Obj
  | .cells _ t frozen => .cells (l.map (Value.int .u64)).toArray t frozen
  | o => o

def tab32 : List Int := [0, 1, 28, 2, 29, 14, 24, 3, 30, 22, 20, 15, 25, 17, 4, 8, 31, 27, 13, 23, 21, 19, 16, 7, 26, 12, 18, 6, 11, 5, 10, 9]
def tab64 : List Int := [0, 1, 56, 2, 57, 49, 28, 3, 61, 58, 42, 50, 38, 29, 17, 4, 62, 47, 59, 36, 45, 43, 51, 22, 53, 39, 33, 30, 24, 18, 12, 5, 63, 55, 48, 27, 60, 41, 37, 16, 46, 35, 44, 21, 52, 32, 23, 11, 54, 26, 40, 15, 34, 20, 31, 10, 25, 14, 19, 9, 13, 8, 7, 6]

theorem gPowType : (Tryz.prog.globals[2]?).map (·.type) = some 177 := by kernel_rfl
theorem cellsP : Tryz.prog.cellsOf 177 = 20 := by kernel_rfl
theorem cellsU : Tryz.prog.cellsOf 165 = 1 := by kernel_rfl


def synS : ByteArray := ⟨#[105, 110, 118, 97, 108, 105, 100, 32, 115, 121, 110, 116, 97, 120]⟩
def rngS : ByteArray := ⟨#[118, 97, 108, 117, 101, 32, 111, 117, 116, 32, 111, 102, 32, 114, 97, 110, 103, 101]⟩

/-- So many blocks has the settled world. -/
def lowOf (P : Program) : Nat := (World.holding P default ⟨#[], #[], []⟩).heap.size

def putErr (k : Nat) : Obj → Obj
  | .cells _ t frozen => .cells #[.iface 183 (.pointer (some ⟨k, 0, none⟩))] t frozen
  | o => o

def laidOf2 (P : Program) (os : Os) : World :=
  { World.holding P os ⟨#[.cells #[.string rngS] 185, .cells #[.string synS] 185], #[], []⟩ with heap := (((((World.holding P os ⟨#[.cells #[.string rngS] 185, .cells #[.string synS] 185], #[], []⟩).heap.modify 2 (put64 Lib.pow10Tab)).modify 3 (put8 tab32)).modify 4 (put8 tab64)).modify 1 (putErr (lowOf P))).modify 0 (putErr (lowOf P + 1)) }

theorem gSynType : (Tryz.prog.globals[0]?).map (·.type) = some 70 := by kernel_rfl
theorem gRngType : (Tryz.prog.globals[1]?).map (·.type) = some 70 := by kernel_rfl
theorem cellsE : Tryz.prog.cellsOf 185 = 1 := by kernel_rfl
theorem cells9 : Tryz.prog.cellsOf 9 = 1 := by kernel_rfl

theorem pow_rd {W : World} (h : laidMet Tryz.prog Rows.fnParsedRow.laid W) : PowIs W :=
  Lib.tabIs_of_head gPow gPowType Tryz.underlying177 Tryz.underlying165 cellsU cellsP h.tail.tail

theorem star : "*" ++ "errors.errorString" = "*errors.errorString" := by decide
theorem rowE (u : TypeId) (h : Tryz.prog.typeName? 3 u = some "*errors.errorString") : u = 183 :=
  typeName_ptr_named (nm := "errors.errorString") (by rw [star]; kernel_rfl) (by kernel_rfl) (by decide) u (by rw [star]; exact h)

theorem rng_rd {W : World} (h : laidMet Tryz.prog Rows.fnParsedRow.laid W) : ∃ tp p, W.var? Tryz.prog "strconv.ErrRange" = some #[.iface tp p] := by
  obtain ⟨a, s, hv, _, _, _⟩ := laid_sentinel h.tail.tail.tail gRng gRngType Tryz.underlying70 rowE Tryz.underlying183 Tryz.underlying185 rfl rfl Tryz.underlying9 cellsE cells9
  exact ⟨_, _, hv⟩

theorem syn_rd {W : World} (h : laidMet Tryz.prog Rows.fnParsedRow.laid W) : ∃ tp p, W.var? Tryz.prog "strconv.ErrSyntax" = some #[.iface tp p] := by
  obtain ⟨a, s, hv, _, _, _⟩ := laid_sentinel h.tail.tail.tail.tail gSyn gSynType Tryz.underlying70 rowE Tryz.underlying183 Tryz.underlying185 rfl rfl Tryz.underlying9 cellsE cells9
  exact ⟨_, _, hv⟩
theorem vars_rd {W : World} (h : laidMet Tryz.prog Rows.fnParsedRow.laid W) : Vars W := by
  obtain ⟨ts, ps, hS⟩ := syn_rd h
  obtain ⟨tr, pr, hR⟩ := rng_rd h
  exact ⟨pow_rd h, ⟨ts, ps, hS⟩, tr, pr, hR⟩
theorem laidOut : laidOutB Tryz.prog = true := by kernel_rfl
end Go.Proofs.YtobijbhgpgnfkaaGreatDoor
