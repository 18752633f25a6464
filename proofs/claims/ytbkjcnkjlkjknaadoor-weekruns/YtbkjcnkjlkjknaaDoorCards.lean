/-
  DERIVED. GIVEN WITH THE SEED: THE CARDS: each row of YtbkjcnkjlkjknaaDoorRows.lean that lists a variable, with what it lists TIED to the program's text (the seventh form; the later family's looks); each row that meets fmt, with fmt's text TOLD by the authors' own Lean function (tested against real Go, not proved from fmt's source: count such statements apart). THE CARD IS WHAT COUNTS. Prove the row's statement (the work); the ties are given (YtbkjcnkjlkjknaaDoorTie.lean); close each card by the builder's one call (the guide's Derived/Test/ToyasCard.lean, 'card_holds'). Laid BY PROGRAM, IN A SANDBOX (cutbox-door.mjs). By AI agents, Wed Nov 11 2026. No macro, syntax, notation, axiom, sorry.
-/
import Derived.Test.YtbkjcnkjlkjknaaDoorRows
import GoSem.ClaimSeven
namespace Go.Proofs.YtbkjcnkjlkjknaaDoor
namespace Rows

/-- THE TIED CARD OF 'dayshiftlaw01.DateYears'. -/
def dateYearsCard : Claim7 := { stood := { row := dateYearsRow, standIns := [], harness := (true, "5859743ecd41fa6082591fb64a1521db22b2702a3aee12c4187a96ba14a2eefb"), looks := false }, kinds := [], alts := [], laidByText := true, laidKinds := [.data], laidTests := true, laidLooks := .later }
def DateYearsCardSaid : Prop := Claim7.holds Tryd.pinned (.plain (OpenSpec.ofChange dateYearsSpec)) dateYearsCard

/-- THE TIED CARD OF 'dayshiftlaw01.DateDays'. -/
def dateDaysCard : Claim7 := { stood := { row := dateDaysRow, standIns := [], harness := (true, "5859743ecd41fa6082591fb64a1521db22b2702a3aee12c4187a96ba14a2eefb"), looks := false }, kinds := [], alts := [], laidByText := true, laidKinds := [.data], laidTests := true, laidLooks := .later }
def DateDaysCardSaid : Prop := Claim7.holds Tryd.pinned (.plain (OpenSpec.ofChange dateDaysSpec)) dateDaysCard

/-- THE TIED CARD OF 'dayshiftlaw01.DateTexts'. -/
def dateTextsCard : Claim7 := { stood := { row := dateTextsRow, standIns := [], harness := (true, "5859743ecd41fa6082591fb64a1521db22b2702a3aee12c4187a96ba14a2eefb"), looks := false }, kinds := [], alts := [], laidByText := true, laidKinds := [.data], laidTests := true, laidLooks := .later }
def DateTextsCardSaid : Prop := Claim7.holds Tryd.pinned (.plain (OpenSpec.ofChange dateTextsSpec)) dateTextsCard

/-- THE TIED CARD OF 'dayshiftlaw01.DateBack'. -/
def dateBackCard : Claim7 := { stood := { row := dateBackRow, standIns := [], harness := (true, "5859743ecd41fa6082591fb64a1521db22b2702a3aee12c4187a96ba14a2eefb"), looks := false }, kinds := [], alts := [], laidByText := true, laidKinds := [.data], laidTests := true, laidLooks := .later }
def DateBackCardSaid : Prop := Claim7.holds Tryd.pinned (.plain (OpenSpec.ofChange dateBackSpec)) dateBackCard

/-- THE TIED CARD OF 'dayshiftlaw01.DateOrder'. -/
def dateOrderCard : Claim7 := { stood := { row := dateOrderRow, standIns := [], harness := (true, "5859743ecd41fa6082591fb64a1521db22b2702a3aee12c4187a96ba14a2eefb"), looks := false }, kinds := [], alts := [], laidByText := true, laidKinds := [.data], laidTests := true, laidLooks := .later }
def DateOrderCardSaid : Prop := Claim7.holds Tryd.pinned (.plain (OpenSpec.ofChange dateOrderSpec)) dateOrderCard

/-- THE TIED CARD OF 'dayshiftlaw02.WeekDays'. -/
def weekDaysCard : Claim7 := { stood := { row := weekDaysRow, standIns := [], harness := (true, "5859743ecd41fa6082591fb64a1521db22b2702a3aee12c4187a96ba14a2eefb"), looks := false }, kinds := [], alts := [], laidByText := true, laidKinds := [.data], laidTests := true, laidLooks := .later }
def WeekDaysCardSaid : Prop := Claim7.holds Tryd.pinned (.plain (OpenSpec.ofChange weekDaysSpec)) weekDaysCard

/-- THE TIED CARD OF 'dayshiftlaw02.WeekNths'. -/
def weekNthsCard : Claim7 := { stood := { row := weekNthsRow, standIns := [], harness := (true, "5859743ecd41fa6082591fb64a1521db22b2702a3aee12c4187a96ba14a2eefb"), looks := false }, kinds := [], alts := [], laidByText := true, laidKinds := [.data], laidTests := true, laidLooks := .later }
def WeekNthsCardSaid : Prop := Claim7.holds Tryd.pinned (.plain (OpenSpec.ofChange weekNthsSpec)) weekNthsCard

/-- THE TIED CARD OF 'dayshiftlaw02.WeekClocks'. -/
def weekClocksCard : Claim7 := { stood := { row := weekClocksRow, standIns := [], harness := (true, "5859743ecd41fa6082591fb64a1521db22b2702a3aee12c4187a96ba14a2eefb"), looks := false }, kinds := [], alts := [], laidByText := true, laidKinds := [.data], laidTests := true, laidLooks := .later }
def WeekClocksCardSaid : Prop := Claim7.holds Tryd.pinned (.plain (OpenSpec.ofChange weekClocksSpec)) weekClocksCard

/-- THE TIED CARD OF 'dayshiftlaw02.WeekTimes'. -/
def weekTimesCard : Claim7 := { stood := { row := weekTimesRow, standIns := [], harness := (true, "5859743ecd41fa6082591fb64a1521db22b2702a3aee12c4187a96ba14a2eefb"), looks := false }, kinds := [], alts := [], laidByText := true, laidKinds := [.data, .data], laidTests := true, laidLooks := .later }
def WeekTimesCardSaid : Prop := Claim7.holds Tryd.pinned (.plain (OpenSpec.ofChange weekTimesSpec)) weekTimesCard

/-- THE TIED CARD OF 'dayshiftlaw02.WeekOrder'. -/
def weekOrderCard : Claim7 := { stood := { row := weekOrderRow, standIns := [], harness := (true, "5859743ecd41fa6082591fb64a1521db22b2702a3aee12c4187a96ba14a2eefb"), looks := false }, kinds := [], alts := [], laidByText := true, laidKinds := [.data], laidTests := true, laidLooks := .later }
def WeekOrderCardSaid : Prop := Claim7.holds Tryd.pinned (.plain (OpenSpec.ofChange weekOrderSpec)) weekOrderCard

/-- THE TIED CARD OF 'dayshiftlaw02.WeekRuns'. -/
def weekRunsCard : Claim7 := { stood := { row := weekRunsRow, standIns := [], harness := (true, "5859743ecd41fa6082591fb64a1521db22b2702a3aee12c4187a96ba14a2eefb"), looks := false }, kinds := [], alts := [], laidByText := true, laidKinds := [.data], laidTests := true, laidLooks := .later }
def WeekRunsCardSaid : Prop := Claim7.holds Tryd.pinned (.plain (OpenSpec.ofChange weekRunsSpec)) weekRunsCard

/-- THE TIED CARD OF 'dayshiftlaw02.WeekEnds'. -/
def weekEndsCard : Claim7 := { stood := { row := weekEndsRow, standIns := [], harness := (true, "5859743ecd41fa6082591fb64a1521db22b2702a3aee12c4187a96ba14a2eefb"), looks := false }, kinds := [], alts := [], laidByText := true, laidKinds := [.data], laidTests := true, laidLooks := .later }
def WeekEndsCardSaid : Prop := Claim7.holds Tryd.pinned (.plain (OpenSpec.ofChange weekEndsSpec)) weekEndsCard

/-- THE SECOND FORM's CARD OF 'dayshiftlaw01.DateYears'. -/
def dateYearsUptoCard : Claim7 := { stood := { row := dateYearsUptoRow, standIns := [], harness := (true, "5859743ecd41fa6082591fb64a1521db22b2702a3aee12c4187a96ba14a2eefb"), looks := false }, kinds := [], alts := [], laidByText := true, laidKinds := [.data], laidTests := true, laidLooks := .later }
def DateYearsUptoCardSaid : Prop := Claim7.holds Tryd.pinned (.plain (OpenSpec.upto dateYearsSpec)) dateYearsUptoCard

/-- THE SECOND FORM's CARD OF 'dayshiftlaw01.DateDays'. -/
def dateDaysUptoCard : Claim7 := { stood := { row := dateDaysUptoRow, standIns := [], harness := (true, "5859743ecd41fa6082591fb64a1521db22b2702a3aee12c4187a96ba14a2eefb"), looks := false }, kinds := [], alts := [], laidByText := true, laidKinds := [.data], laidTests := true, laidLooks := .later }
def DateDaysUptoCardSaid : Prop := Claim7.holds Tryd.pinned (.plain (OpenSpec.upto dateDaysSpec)) dateDaysUptoCard

/-- THE SECOND FORM's CARD OF 'dayshiftlaw01.DateTexts'. -/
def dateTextsUptoCard : Claim7 := { stood := { row := dateTextsUptoRow, standIns := [], harness := (true, "5859743ecd41fa6082591fb64a1521db22b2702a3aee12c4187a96ba14a2eefb"), looks := false }, kinds := [], alts := [], laidByText := true, laidKinds := [.data], laidTests := true, laidLooks := .later }
def DateTextsUptoCardSaid : Prop := Claim7.holds Tryd.pinned (.plain (OpenSpec.upto dateTextsSpec)) dateTextsUptoCard

/-- THE SECOND FORM's CARD OF 'dayshiftlaw01.DateBack'. -/
def dateBackUptoCard : Claim7 := { stood := { row := dateBackUptoRow, standIns := [], harness := (true, "5859743ecd41fa6082591fb64a1521db22b2702a3aee12c4187a96ba14a2eefb"), looks := false }, kinds := [], alts := [], laidByText := true, laidKinds := [.data], laidTests := true, laidLooks := .later }
def DateBackUptoCardSaid : Prop := Claim7.holds Tryd.pinned (.plain (OpenSpec.upto dateBackSpec)) dateBackUptoCard

/-- THE SECOND FORM's CARD OF 'dayshiftlaw01.DateOrder'. -/
def dateOrderUptoCard : Claim7 := { stood := { row := dateOrderUptoRow, standIns := [], harness := (true, "5859743ecd41fa6082591fb64a1521db22b2702a3aee12c4187a96ba14a2eefb"), looks := false }, kinds := [], alts := [], laidByText := true, laidKinds := [.data], laidTests := true, laidLooks := .later }
def DateOrderUptoCardSaid : Prop := Claim7.holds Tryd.pinned (.plain (OpenSpec.upto dateOrderSpec)) dateOrderUptoCard

/-- THE SECOND FORM's CARD OF 'dayshiftlaw02.WeekDays'. -/
def weekDaysUptoCard : Claim7 := { stood := { row := weekDaysUptoRow, standIns := [], harness := (true, "5859743ecd41fa6082591fb64a1521db22b2702a3aee12c4187a96ba14a2eefb"), looks := false }, kinds := [], alts := [], laidByText := true, laidKinds := [.data], laidTests := true, laidLooks := .later }
def WeekDaysUptoCardSaid : Prop := Claim7.holds Tryd.pinned (.plain (OpenSpec.upto weekDaysSpec)) weekDaysUptoCard

/-- THE SECOND FORM's CARD OF 'dayshiftlaw02.WeekNths'. -/
def weekNthsUptoCard : Claim7 := { stood := { row := weekNthsUptoRow, standIns := [], harness := (true, "5859743ecd41fa6082591fb64a1521db22b2702a3aee12c4187a96ba14a2eefb"), looks := false }, kinds := [], alts := [], laidByText := true, laidKinds := [.data], laidTests := true, laidLooks := .later }
def WeekNthsUptoCardSaid : Prop := Claim7.holds Tryd.pinned (.plain (OpenSpec.upto weekNthsSpec)) weekNthsUptoCard

/-- THE SECOND FORM's CARD OF 'dayshiftlaw02.WeekClocks'. -/
def weekClocksUptoCard : Claim7 := { stood := { row := weekClocksUptoRow, standIns := [], harness := (true, "5859743ecd41fa6082591fb64a1521db22b2702a3aee12c4187a96ba14a2eefb"), looks := false }, kinds := [], alts := [], laidByText := true, laidKinds := [.data], laidTests := true, laidLooks := .later }
def WeekClocksUptoCardSaid : Prop := Claim7.holds Tryd.pinned (.plain (OpenSpec.upto weekClocksSpec)) weekClocksUptoCard

/-- THE SECOND FORM's CARD OF 'dayshiftlaw02.WeekTimes'. -/
def weekTimesUptoCard : Claim7 := { stood := { row := weekTimesUptoRow, standIns := [], harness := (true, "5859743ecd41fa6082591fb64a1521db22b2702a3aee12c4187a96ba14a2eefb"), looks := false }, kinds := [], alts := [], laidByText := true, laidKinds := [.data, .data], laidTests := true, laidLooks := .later }
def WeekTimesUptoCardSaid : Prop := Claim7.holds Tryd.pinned (.plain (OpenSpec.upto weekTimesSpec)) weekTimesUptoCard

/-- THE SECOND FORM's CARD OF 'dayshiftlaw02.WeekOrder'. -/
def weekOrderUptoCard : Claim7 := { stood := { row := weekOrderUptoRow, standIns := [], harness := (true, "5859743ecd41fa6082591fb64a1521db22b2702a3aee12c4187a96ba14a2eefb"), looks := false }, kinds := [], alts := [], laidByText := true, laidKinds := [.data], laidTests := true, laidLooks := .later }
def WeekOrderUptoCardSaid : Prop := Claim7.holds Tryd.pinned (.plain (OpenSpec.upto weekOrderSpec)) weekOrderUptoCard

/-- THE SECOND FORM's CARD OF 'dayshiftlaw02.WeekRuns'. -/
def weekRunsUptoCard : Claim7 := { stood := { row := weekRunsUptoRow, standIns := [], harness := (true, "5859743ecd41fa6082591fb64a1521db22b2702a3aee12c4187a96ba14a2eefb"), looks := false }, kinds := [], alts := [], laidByText := true, laidKinds := [.data], laidTests := true, laidLooks := .later }
def WeekRunsUptoCardSaid : Prop := Claim7.holds Tryd.pinned (.plain (OpenSpec.upto weekRunsSpec)) weekRunsUptoCard

/-- THE SECOND FORM's CARD OF 'dayshiftlaw02.WeekEnds'. -/
def weekEndsUptoCard : Claim7 := { stood := { row := weekEndsUptoRow, standIns := [], harness := (true, "5859743ecd41fa6082591fb64a1521db22b2702a3aee12c4187a96ba14a2eefb"), looks := false }, kinds := [], alts := [], laidByText := true, laidKinds := [.data], laidTests := true, laidLooks := .later }
def WeekEndsUptoCardSaid : Prop := Claim7.holds Tryd.pinned (.plain (OpenSpec.upto weekEndsSpec)) weekEndsUptoCard
end Rows
end Go.Proofs.YtbkjcnkjlkjknaaDoor
