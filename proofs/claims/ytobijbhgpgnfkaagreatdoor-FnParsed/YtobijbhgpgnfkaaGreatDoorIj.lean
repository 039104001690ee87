/-
  Keys, arity, names: as they landed (they lie in ..Ia). Conditions: written at each theorem.
-/
import Derived.Test.YtobijbhgpgnfkaaGreatDoorIa
namespace Go.Proofs.YtobijbhgpgnfkaaGreatDoor
end Go.Proofs.YtobijbhgpgnfkaaGreatDoor
