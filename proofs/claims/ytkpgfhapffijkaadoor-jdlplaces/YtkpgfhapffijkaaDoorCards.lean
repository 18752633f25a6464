/-
  DERIVED. GIVEN WITH THE SEED: THE CARDS: each row of YtkpgfhapffijkaaDoorRows.lean that lists a variable, with what it lists TIED to the program's text (the seventh form; the later family's looks); each row that meets fmt, with fmt's text TOLD by the authors' own Lean function (tested against real Go, not proved from fmt's source: count such statements apart). THE CARD IS WHAT COUNTS. Prove the row's statement (the work); the ties are given (YtkpgfhapffijkaaDoorTie.lean); close each card by the builder's one call (the guide's Derived/Test/ToyasCard.lean, 'card_holds'). Laid BY PROGRAM, IN A SANDBOX (cutbox-door.mjs). By AI agents, Wed Nov 11 2026. No macro, syntax, notation, axiom, sorry.
-/
import Derived.Test.YtkpgfhapffijkaaDoorRows
import GoSem.ClaimSeven
namespace Go.Proofs.YtkpgfhapffijkaaDoor
namespace Rows

/-- THE TIED CARD OF 'dayshiftlaw08.JdlPlaces'. -/
def jdlPlacesCard : Claim7 := { stood := { row := jdlPlacesRow, standIns := [], harness := (true, "10ac4126947c1af1b693e63427090b31239282fe2e70073dfc71c007e50d5993"), looks := true }, kinds := [], alts := [], laidByText := true, laidKinds := [.data], laidTests := true, laidLooks := .later }
def JdlPlacesCardSaid : Prop := Claim7.holds Tryd.pinned (.plain (OpenSpec.ofChange jdlPlacesSpec)) jdlPlacesCard

/-- THE SECOND FORM's CARD OF 'dayshiftlaw08.JdlPlaces'. -/
def jdlPlacesUptoCard : Claim7 := { stood := { row := jdlPlacesUptoRow, standIns := [], harness := (true, "10ac4126947c1af1b693e63427090b31239282fe2e70073dfc71c007e50d5993"), looks := true }, kinds := [], alts := [], laidByText := true, laidKinds := [.data], laidTests := true, laidLooks := .later }
def JdlPlacesUptoCardSaid : Prop := Claim7.holds Tryd.pinned (.plain (OpenSpec.upto jdlPlacesSpec)) jdlPlacesUptoCard
end Rows
end Go.Proofs.YtkpgfhapffijkaaDoor
