/-
  What is wanted of Parse, gathered: how many nodes it tells at most. Conditions: written at each theorem.
-/
import Derived.Test.YtncoooimgeoihaaDoorPd
import Derived.Test.YtncoooimgeoihaaDoorRp
import Derived.Test.YtncoooimgeoihaaDoorNe
import Derived.Test.YtncoooimgeoihaaDoorNm
namespace Go.Proofs.YtncoooimgeoihaaDoor
open Go.ChangeShapes Go.WideShapes Go.ChangeAt Go.RowKit
set_option linter.unusedVariables false

theorem parseE_len (ts : List Tok) (E : Int) : (parseE ts E).1.length ≤ 150 := by
  unfold parseE
  split
  · simp
  · split
    · simp
    · split
      · simp
      · simp only
        omega

theorem parse_len {s : ByteArray} {ts : List Tok} {n : Int} (h : Lexes s ts n) : (parseR ts n s.size).1.length ≤ 150 := by
  unfold parseR
  split
  · simp
  · exact parseE_len ts s.size
end Go.Proofs.YtncoooimgeoihaaDoor
