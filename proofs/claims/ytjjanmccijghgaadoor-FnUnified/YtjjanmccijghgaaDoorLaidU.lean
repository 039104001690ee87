/-
  A world that holds the library's tables as their texts lay them: there is one; and what a world that holds them so gives. Conditions: written at each theorem.
-/
import Derived.Test.YtjjanmccijghgaaDoorJd
import Derived.Test.YtjjanmccijghgaaDoorCards
import Derived.Test.YtjjanmccijghgaaDoorTie
import Derived.Deep.DeepHandedRow
import Derived.Stop.LaidErr
import Derived.LaidLaws
namespace Go.Proofs.YtjjanmccijghgaaDoor
open Go.ChangeShapes Go.WideShapes Go.ChangeAt Go.RowKit
set_option linter.unusedVariables false

theorem own : ownKnob Tryd.prog.godebug = none := by kernel_rfl

def put8 (l : List Int) : Obj → Obj
  | .cells _ t frozen => .cells (l.map (Value.int .u8)).toArray t frozen
  | o => o
def put64 (l : List Int) : Obj → Obj
  | .cells _ t frozen => .cells (l.map (Value.int .u64)).toArray t frozen
  | o => o

def tab32 : List Int := [0, 1, 28, 2, 29, 14, 24, 3, 30, 22, 20, 15, 25, 17, 4, 8, 31, 27, 13, 23, 21, 19, 16, 7, 26, 12, 18, 6, 11, 5, 10, 9]
def tab64 : List Int := [0, 1, 56, 2, 57, 49, 28, 3, 61, 58, 42, 50, 38, 29, 17, 4, 62, 47, 59, 36, 45, 43, 51, 22, 53, 39, 33, 30, 24, 18, 12, 5, 63, 55, 48, 27, 60, 41, 37, 16, 46, 35, 44, 21, 52, 32, 23, 11, 54, 26, 40, 15, 34, 20, 31, 10, 25, 14, 19, 9, 13, 8, 7, 6]

def laidOf (P : Program) (os : Os) : World :=
  { World.holding P os ⟨#[], #[], []⟩ with heap := (((World.holding P os ⟨#[], #[], []⟩).heap.modify 1 (put64 Lib.pow10Tab)).modify 2 (put8 tab32)).modify 3 (put8 tab64) }

theorem gPowType : (Tryd.prog.globals[1]?).map (·.type) = some 117 := by kernel_rfl
theorem cellsP : Tryd.prog.cellsOf 117 = 20 := by kernel_rfl
theorem cellsU : Tryd.prog.cellsOf 111 = 1 := by kernel_rfl

theorem laidOut : laidOutB Tryd.prog = true := by kernel_rfl
def apS : ByteArray := ⟨#[116, 104, 101, 32, 116, 121, 112, 101, 115, 32, 100, 111, 32, 110, 111, 116, 32, 103, 111, 32, 116, 111, 103, 101, 116, 104, 101, 114]⟩
def lowOf (P : Program) : Nat := (World.holding P default ⟨#[], #[], []⟩).heap.size
def putErr (k : Nat) : Obj → Obj
  | .cells _ t frozen => .cells #[.iface 124 (.pointer (some ⟨k, 0, none⟩))] t frozen
  | o => o
def laidOfE (P : Program) (os : Os) : World :=
  { World.holding P os ⟨#[.cells #[.string apS] 146], #[], []⟩ with heap := ((((World.holding P os ⟨#[.cells #[.string apS] 146], #[], []⟩).heap.modify 1 (put64 Lib.pow10Tab)).modify 2 (put8 tab32)).modify 3 (put8 tab64)).modify 0 (putErr (lowOf P)) }
theorem gAp : Tryd.prog.globalNamed "loop.example/g01292/impl.errApart" = some 0 := by kernel_rfl
theorem gApType : (Tryd.prog.globals[0]?).map (·.type) = some 45 := by kernel_rfl
theorem cellsE : Tryd.prog.cellsOf 146 = 1 := by kernel_rfl
theorem cells9 : Tryd.prog.cellsOf 9 = 1 := by kernel_rfl
theorem star : "*" ++ "errors.errorString" = "*errors.errorString" := by decide
theorem rowE (u : TypeId) (h : Tryd.prog.typeName? 3 u = some "*errors.errorString") : u = 124 :=
  typeName_ptr_named (nm := "errors.errorString") (by rw [star]; kernel_rfl) (by kernel_rfl) (by decide) u (by rw [star]; exact h)
end Go.Proofs.YtjjanmccijghgaaDoor
