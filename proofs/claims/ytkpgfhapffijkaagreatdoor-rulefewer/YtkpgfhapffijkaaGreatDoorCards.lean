/-
  DERIVED. GIVEN WITH THE SEED: THE CARDS: each row of YtkpgfhapffijkaaGreatDoorRows.lean that lists a variable, with what it lists TIED to the program's text (the seventh form; the later family's looks); each row that meets fmt, with fmt's text TOLD by the authors' own Lean function (tested against real Go, not proved from fmt's source: count such statements apart). THE CARD IS WHAT COUNTS. Prove the row's statement (the work); the ties are given (YtkpgfhapffijkaaGreatDoorTie.lean); close each card by the builder's one call (the guide's Derived/Test/ToyasCard.lean, 'card_holds'). Laid BY PROGRAM, IN A SANDBOX (cutbox-door.mjs). By AI agents, Wed Nov 11 2026. No macro, syntax, notation, axiom, sorry.
-/
import Derived.Test.YtkpgfhapffijkaaGreatDoorRows
import GoSem.ClaimSeven
namespace Go.Proofs.YtkpgfhapffijkaaGreatDoor
namespace Rows

/-- THE TIED CARD OF 'dayshiftlaw08.JdlMore'. -/
def jdlMoreCard : Claim7 := { stood := { row := jdlMoreRow, standIns := [], harness := (true, "5c9d383263bd7f704606e152d2a63a4af229a1501d92e4d108756f7dd252d599"), looks := true }, kinds := [], alts := [], laidByText := true, laidKinds := [.data], laidTests := true, laidLooks := .later }
def JdlMoreCardSaid : Prop := Claim7.holds Tryz.pinned (.plain (OpenSpec.ofChange jdlMoreSpec)) jdlMoreCard

/-- THE TIED CARD OF 'dayshiftlaw09.RuleFewer'. -/
def ruleFewerCard : Claim7 := { stood := { row := ruleFewerRow, standIns := [], harness := (true, "5c9d383263bd7f704606e152d2a63a4af229a1501d92e4d108756f7dd252d599"), looks := true }, kinds := [], alts := [], laidByText := true, laidKinds := [.data, .data, .data], laidTests := true, laidLooks := .later }
def RuleFewerCardSaid : Prop := Claim7.holds Tryz.pinned (.plain (OpenSpec.ofChange ruleFewerSpec)) ruleFewerCard

/-- THE TIED CARD OF 'dayshiftlaw09.RuleOrder'. -/
def ruleOrderCard : Claim7 := { stood := { row := ruleOrderRow, standIns := [], harness := (true, "5c9d383263bd7f704606e152d2a63a4af229a1501d92e4d108756f7dd252d599"), looks := true }, kinds := [], alts := [], laidByText := true, laidKinds := [.data, .data, .data], laidTests := true, laidLooks := .later }
def RuleOrderCardSaid : Prop := Claim7.holds Tryz.pinned (.plain (OpenSpec.ofChange ruleOrderSpec)) ruleOrderCard

/-- THE TIED CARD OF 'dayshiftlaw10.BookNext'. -/
def bookNextCard : Claim7 := { stood := { row := bookNextRow, standIns := [], harness := (true, "5c9d383263bd7f704606e152d2a63a4af229a1501d92e4d108756f7dd252d599"), looks := true }, kinds := [], alts := [], laidByText := true, laidKinds := [.data, .data, .data, .data, .data, .data], laidTests := true, laidLooks := .later }
def BookNextCardSaid : Prop := Claim7.holds Tryz.pinned (.plain (OpenSpec.ofChange bookNextSpec)) bookNextCard

/-- THE TIED CARD OF 'dayshiftlaw10.BookNil'. -/
def bookNilCard : Claim7 := { stood := { row := bookNilRow, standIns := [], harness := (true, "5c9d383263bd7f704606e152d2a63a4af229a1501d92e4d108756f7dd252d599"), looks := true }, kinds := [], alts := [], laidByText := true, laidKinds := [.data, .data, .data, .data, .data, .data], laidTests := true, laidLooks := .later }
def BookNilCardSaid : Prop := Claim7.holds Tryz.pinned (.plain (OpenSpec.ofChange bookNilSpec)) bookNilCard

/-- THE SECOND FORM's CARD OF 'dayshiftlaw08.JdlMore'. -/
def jdlMoreUptoCard : Claim7 := { stood := { row := jdlMoreUptoRow, standIns := [], harness := (true, "5c9d383263bd7f704606e152d2a63a4af229a1501d92e4d108756f7dd252d599"), looks := true }, kinds := [], alts := [], laidByText := true, laidKinds := [.data], laidTests := true, laidLooks := .later }
def JdlMoreUptoCardSaid : Prop := Claim7.holds Tryz.pinned (.plain (OpenSpec.upto jdlMoreSpec)) jdlMoreUptoCard

/-- THE SECOND FORM's CARD OF 'dayshiftlaw09.RuleFewer'. -/
def ruleFewerUptoCard : Claim7 := { stood := { row := ruleFewerUptoRow, standIns := [], harness := (true, "5c9d383263bd7f704606e152d2a63a4af229a1501d92e4d108756f7dd252d599"), looks := true }, kinds := [], alts := [], laidByText := true, laidKinds := [.data, .data, .data], laidTests := true, laidLooks := .later }
def RuleFewerUptoCardSaid : Prop := Claim7.holds Tryz.pinned (.plain (OpenSpec.upto ruleFewerSpec)) ruleFewerUptoCard

/-- THE SECOND FORM's CARD OF 'dayshiftlaw09.RuleOrder'. -/
def ruleOrderUptoCard : Claim7 := { stood := { row := ruleOrderUptoRow, standIns := [], harness := (true, "5c9d383263bd7f704606e152d2a63a4af229a1501d92e4d108756f7dd252d599"), looks := true }, kinds := [], alts := [], laidByText := true, laidKinds := [.data, .data, .data], laidTests := true, laidLooks := .later }
def RuleOrderUptoCardSaid : Prop := Claim7.holds Tryz.pinned (.plain (OpenSpec.upto ruleOrderSpec)) ruleOrderUptoCard

/-- THE SECOND FORM's CARD OF 'dayshiftlaw10.BookNext'. -/
def bookNextUptoCard : Claim7 := { stood := { row := bookNextUptoRow, standIns := [], harness := (true, "5c9d383263bd7f704606e152d2a63a4af229a1501d92e4d108756f7dd252d599"), looks := true }, kinds := [], alts := [], laidByText := true, laidKinds := [.data, .data, .data, .data, .data, .data], laidTests := true, laidLooks := .later }
def BookNextUptoCardSaid : Prop := Claim7.holds Tryz.pinned (.plain (OpenSpec.upto bookNextSpec)) bookNextUptoCard

/-- THE SECOND FORM's CARD OF 'dayshiftlaw10.BookNil'. -/
def bookNilUptoCard : Claim7 := { stood := { row := bookNilUptoRow, standIns := [], harness := (true, "5c9d383263bd7f704606e152d2a63a4af229a1501d92e4d108756f7dd252d599"), looks := true }, kinds := [], alts := [], laidByText := true, laidKinds := [.data, .data, .data, .data, .data, .data], laidTests := true, laidLooks := .later }
def BookNilUptoCardSaid : Prop := Claim7.holds Tryz.pinned (.plain (OpenSpec.upto bookNilSpec)) bookNilUptoCard
end Rows
end Go.Proofs.YtkpgfhapffijkaaGreatDoor
