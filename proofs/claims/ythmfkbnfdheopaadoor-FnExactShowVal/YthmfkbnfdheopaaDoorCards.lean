/-
  DERIVED. GIVEN WITH THE SEED: THE CARDS: each row of YthmfkbnfdheopaaDoorRows.lean that lists a variable, with what it lists TIED to the program's text (the seventh form; the later family's looks); each row that meets fmt, with fmt's text TOLD by the authors' own Lean function (tested against real Go, not proved from fmt's source: count such statements apart). THE CARD IS WHAT COUNTS. Prove the row's statement (the work); the ties are given (YthmfkbnfdheopaaDoorTie.lean); close each card by the builder's one call (the guide's Derived/Test/ToyasCard.lean, 'card_holds'). Laid BY PROGRAM, IN A SANDBOX (cutbox-door.mjs). By AI agents, Wed Nov 11 2026. No macro, syntax, notation, axiom, sorry.
-/
import Derived.Test.YthmfkbnfdheopaaDoorRows
import GoSem.ClaimSeven
namespace Go.Proofs.YthmfkbnfdheopaaDoor
namespace Rows

/-- THE TIED CARD OF 'laws.FnValues'. -/
def fnValuesCard : Claim7 := { stood := { row := fnValuesRow, standIns := [], harness := (true, "eff73ea352b4f19705b408dfa192fecbee133c6c989aebb3b53327e5a80b6daf"), looks := false }, kinds := [], alts := [], laidByText := true, laidKinds := [.data, .data, .data], laidTests := true, laidLooks := .later }
def FnValuesCardSaid : Prop := Claim7.holds Tryd.pinned (.plain (OpenSpec.ofChange fnValuesSpec)) fnValuesCard

/-- THE TIED CARD OF 'laws.FnExactShowVal'. -/
def fnExactShowValCard : Claim7 := { stood := { row := fnExactShowValRow, standIns := [], harness := (true, "eff73ea352b4f19705b408dfa192fecbee133c6c989aebb3b53327e5a80b6daf"), looks := false }, kinds := [], alts := [], laidByText := true, laidKinds := [.data, .data, .data], laidTests := true, laidLooks := .later }
def FnExactShowValCardSaid : Prop := Claim7.holds Tryd.pinned (.plain (OpenSpec.ofChange fnExactShowValSpec)) fnExactShowValCard

/-- THE SECOND FORM's CARD OF 'laws.FnValues'. -/
def fnValuesUptoCard : Claim7 := { stood := { row := fnValuesUptoRow, standIns := [], harness := (true, "eff73ea352b4f19705b408dfa192fecbee133c6c989aebb3b53327e5a80b6daf"), looks := false }, kinds := [], alts := [], laidByText := true, laidKinds := [.data, .data, .data], laidTests := true, laidLooks := .later }
def FnValuesUptoCardSaid : Prop := Claim7.holds Tryd.pinned (.plain (OpenSpec.upto fnValuesSpec)) fnValuesUptoCard

/-- THE SECOND FORM's CARD OF 'laws.FnExactShowVal'. -/
def fnExactShowValUptoCard : Claim7 := { stood := { row := fnExactShowValUptoRow, standIns := [], harness := (true, "eff73ea352b4f19705b408dfa192fecbee133c6c989aebb3b53327e5a80b6daf"), looks := false }, kinds := [], alts := [], laidByText := true, laidKinds := [.data, .data, .data], laidTests := true, laidLooks := .later }
def FnExactShowValUptoCardSaid : Prop := Claim7.holds Tryd.pinned (.plain (OpenSpec.upto fnExactShowValSpec)) fnExactShowValUptoCard
end Rows
end Go.Proofs.YthmfkbnfdheopaaDoor
