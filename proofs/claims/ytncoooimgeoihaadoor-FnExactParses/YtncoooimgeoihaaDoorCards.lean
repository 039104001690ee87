/-
  DERIVED. GIVEN WITH THE SEED: THE CARDS: each row of YtncoooimgeoihaaDoorRows.lean that lists a variable, with what it lists TIED to the program's text (the seventh form; the later family's looks); each row that meets fmt, with fmt's text TOLD by the authors' own Lean function (tested against real Go, not proved from fmt's source: count such statements apart). THE CARD IS WHAT COUNTS. Prove the row's statement (the work); the ties are given (YtncoooimgeoihaaDoorTie.lean); close each card by the builder's one call (the guide's Derived/Test/ToyasCard.lean, 'card_holds'). Laid BY PROGRAM, IN A SANDBOX (cutbox-door.mjs). By AI agents, Wed Nov 11 2026. No macro, syntax, notation, axiom, sorry.
-/
import Derived.Test.YtncoooimgeoihaaDoorRows
import GoSem.ClaimSeven
namespace Go.Proofs.YtncoooimgeoihaaDoor
namespace Rows

/-- THE TIED CARD OF 'laws.FnBegun'. -/
def fnBegunCard : Claim7 := { stood := { row := fnBegunRow, standIns := [], harness := (true, "a282b8c42a819239646c0d30babd2448311cbbf7394513d00348175e908dc673"), looks := true }, kinds := [], alts := [], laidByText := true, laidKinds := [.data, .data, .data, .sentinel, .sentinel], laidTests := true, laidLooks := .later }
def FnBegunCardSaid : Prop := Claim7.holds Tryd.pinned (.plain (OpenSpec.ofChange fnBegunSpec)) fnBegunCard

/-- THE TIED CARD OF 'laws.FnExactParse'. -/
def fnExactParseCard : Claim7 := { stood := { row := fnExactParseRow, standIns := [], harness := (true, "a282b8c42a819239646c0d30babd2448311cbbf7394513d00348175e908dc673"), looks := true }, kinds := [], alts := [], laidByText := true, laidKinds := [.data, .data, .data, .sentinel, .sentinel], laidTests := true, laidLooks := .later }
def FnExactParseCardSaid : Prop := Claim7.holds Tryd.pinned (.plain (OpenSpec.ofChange fnExactParseSpec)) fnExactParseCard

/-- THE TIED CARD OF 'laws.FnExactParses'. -/
def fnExactParsesCard : Claim7 := { stood := { row := fnExactParsesRow, standIns := [], harness := (true, "a282b8c42a819239646c0d30babd2448311cbbf7394513d00348175e908dc673"), looks := true }, kinds := [], alts := [], laidByText := true, laidKinds := [.data, .data, .data, .sentinel, .sentinel], laidTests := true, laidLooks := .later }
def FnExactParsesCardSaid : Prop := Claim7.holds Tryd.pinned (.plain (OpenSpec.ofChange fnExactParsesSpec)) fnExactParsesCard

/-- THE SECOND FORM's CARD OF 'laws.FnBegun'. -/
def fnBegunUptoCard : Claim7 := { stood := { row := fnBegunUptoRow, standIns := [], harness := (true, "a282b8c42a819239646c0d30babd2448311cbbf7394513d00348175e908dc673"), looks := true }, kinds := [], alts := [], laidByText := true, laidKinds := [.data, .data, .data, .sentinel, .sentinel], laidTests := true, laidLooks := .later }
def FnBegunUptoCardSaid : Prop := Claim7.holds Tryd.pinned (.plain (OpenSpec.upto fnBegunSpec)) fnBegunUptoCard

/-- THE SECOND FORM's CARD OF 'laws.FnExactParse'. -/
def fnExactParseUptoCard : Claim7 := { stood := { row := fnExactParseUptoRow, standIns := [], harness := (true, "a282b8c42a819239646c0d30babd2448311cbbf7394513d00348175e908dc673"), looks := true }, kinds := [], alts := [], laidByText := true, laidKinds := [.data, .data, .data, .sentinel, .sentinel], laidTests := true, laidLooks := .later }
def FnExactParseUptoCardSaid : Prop := Claim7.holds Tryd.pinned (.plain (OpenSpec.upto fnExactParseSpec)) fnExactParseUptoCard

/-- THE SECOND FORM's CARD OF 'laws.FnExactParses'. -/
def fnExactParsesUptoCard : Claim7 := { stood := { row := fnExactParsesUptoRow, standIns := [], harness := (true, "a282b8c42a819239646c0d30babd2448311cbbf7394513d00348175e908dc673"), looks := true }, kinds := [], alts := [], laidByText := true, laidKinds := [.data, .data, .data, .sentinel, .sentinel], laidTests := true, laidLooks := .later }
def FnExactParsesUptoCardSaid : Prop := Claim7.holds Tryd.pinned (.plain (OpenSpec.upto fnExactParsesSpec)) fnExactParsesUptoCard
end Rows
end Go.Proofs.YtncoooimgeoihaaDoor
