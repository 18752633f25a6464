/-
  NARROWER THAN 'FOR EVERY INPUT', by the rows' own cells (each row's printed sentence says how): DateYears: laid · DateDays: laid · DateTexts: laid · DateBack: laid · DateOrder: laid · WeekDays: laid · WeekNths: laid · WeekClocks: laid · WeekTimes: laid · WeekOrder: laid · WeekRuns: laid · WeekEnds: laid.
  DERIVED. THE GIVEN ROWS OF THIS SEAT. 12 by the template 'for every input the law returns true; each argument reads behind the call as it read before'; 0 by the template 'total and deterministic' (their statements: YtbkjcnkjlkjknaaDoorTotals.lean).
  GIVEN WITH THE SEED: the statements are not yours to turn. If you find one false, say at which input.
  Laid BY PROGRAM, IN A SANDBOX (cutbox-rows.mjs): the forced cells as the released guide's own fill.sh prints them over the translation c50bf8431efede9d… (all of the seat's roots in one cut). By AI agents, Wed Nov 11 2026. No macro, syntax, notation, axiom, sorry.
-/
import Derived.Test.YtbkjcnkjlkjknaaDoorChecked
import GoSem.Claim
import GoSem.ClaimJoined
import GoSem.ClaimMapViews
import Derived.JoinedTies
import Derived.KernelRfl
namespace Go.Proofs.YtbkjcnkjlkjknaaDoor
/- THE CELL 'sum', in the pinned program and in every row, IS THE sha256 OF THE DUMP (.gsa) THAT YtbkjcnkjlkjknaaDoorProg.lean LOADS. Nothing in Lean hashes anything: it is a label: what it is worth is what the hold of that sum in a sandbox is worth. -/
noncomputable def Tryd.pinned : Pinned := { name := "ytbkjcnkjlkjknaadoor", sum := "c50bf8431efede9df82178b580cf49f02f918a892864aed5a6f4c1931314249b", checked := Tryd.checked }
namespace Rows
def none {H : Type} : Left H := { results := [], args := [] }

/- WHAT THE LISTED PACKAGE-LEVEL VARIABLES READ AS WHEN THE CALL BEGINS. Each datum BY PROGRAM (the guide's laid-datum.mjs) off the statement by which the dump's own 'gosem.cut.vars' lays the variable. In a bare row this is a premise. The card (YtbkjcnkjlkjknaaDoorCards.lean) ties it to the program's text. -/
def laid_dayshift_date_lengths {H : Type} : DataW H := .agg [.lit (.int .i64 31), .lit (.int .i64 28), .lit (.int .i64 31), .lit (.int .i64 30), .lit (.int .i64 31), .lit (.int .i64 30), .lit (.int .i64 31), .lit (.int .i64 31), .lit (.int .i64 30), .lit (.int .i64 31), .lit (.int .i64 30), .lit (.int .i64 31)]
def laid_dayshift_week_digits {H : Type} : DataW H := .agg [.lit (.int .u8 48), .lit (.int .u8 49), .lit (.int .u8 50), .lit (.int .u8 51), .lit (.int .u8 52), .lit (.int .u8 53), .lit (.int .u8 54), .lit (.int .u8 55), .lit (.int .u8 56), .lit (.int .u8 57)]

/-- 'dayshiftlaw01.DateYears': WHATEVER THE INPUT: true; the input reads as it did. -/
def dateYearsSpec : ChangeSpec := { name := "dateYears", fn := fun _ => fun
  | [d1, d2, d3] => { results := [.lit (.bool true)], args := [d1, d2, d3] }
  | _ => none }
def dateYearsRow : OpenClaim := { program := "ytbkjcnkjlkjknaadoor", sum := "c50bf8431efede9df82178b580cf49f02f918a892864aed5a6f4c1931314249b", func := "dayshift/dayshiftlaw01.DateYears", spec := "dateYears", named := ["dayshift/date.lengths"], apart := false, laid := [("dayshift/date.lengths", laid_dayshift_date_lengths)] }
def DateYearsSaid : Prop := dateYearsRow.holds Tryd.pinned (OpenSpec.ofChange dateYearsSpec)

/-- ITS FALSE NEIGHBOUR: 'it returns false'. Refute it at one input. -/
def dateYearsWrong : ChangeSpec := { name := "dateYears", fn := fun _ => fun
  | [d1, d2, d3] => { results := [.lit (.bool false)], args := [d1, d2, d3] }
  | _ => none }
def DateYearsWrongFalsely : Prop := dateYearsRow.holds Tryd.pinned (OpenSpec.ofChange dateYearsWrong)

/-- 'dayshiftlaw01.DateDays': WHATEVER THE INPUT: true; the input reads as it did. -/
def dateDaysSpec : ChangeSpec := { name := "dateDays", fn := fun _ => fun
  | [d] => { results := [.lit (.bool true)], args := [d] }
  | _ => none }
def dateDaysRow : OpenClaim := { program := "ytbkjcnkjlkjknaadoor", sum := "c50bf8431efede9df82178b580cf49f02f918a892864aed5a6f4c1931314249b", func := "dayshift/dayshiftlaw01.DateDays", spec := "dateDays", named := ["dayshift/date.lengths"], apart := false, laid := [("dayshift/date.lengths", laid_dayshift_date_lengths)] }
def DateDaysSaid : Prop := dateDaysRow.holds Tryd.pinned (OpenSpec.ofChange dateDaysSpec)

/-- ITS FALSE NEIGHBOUR: 'it returns false'. Refute it at one input. -/
def dateDaysWrong : ChangeSpec := { name := "dateDays", fn := fun _ => fun
  | [d] => { results := [.lit (.bool false)], args := [d] }
  | _ => none }
def DateDaysWrongFalsely : Prop := dateDaysRow.holds Tryd.pinned (OpenSpec.ofChange dateDaysWrong)

/-- 'dayshiftlaw01.DateTexts': WHATEVER THE INPUT: true; the input reads as it did. -/
def dateTextsSpec : ChangeSpec := { name := "dateTexts", fn := fun _ => fun
  | [d1, d2] => { results := [.lit (.bool true)], args := [d1, d2] }
  | _ => none }
def dateTextsRow : OpenClaim := { program := "ytbkjcnkjlkjknaadoor", sum := "c50bf8431efede9df82178b580cf49f02f918a892864aed5a6f4c1931314249b", func := "dayshift/dayshiftlaw01.DateTexts", spec := "dateTexts", named := ["dayshift/date.lengths"], apart := false, laid := [("dayshift/date.lengths", laid_dayshift_date_lengths)] }
def DateTextsSaid : Prop := dateTextsRow.holds Tryd.pinned (OpenSpec.ofChange dateTextsSpec)

/-- ITS FALSE NEIGHBOUR: 'it returns false'. Refute it at one input. -/
def dateTextsWrong : ChangeSpec := { name := "dateTexts", fn := fun _ => fun
  | [d1, d2] => { results := [.lit (.bool false)], args := [d1, d2] }
  | _ => none }
def DateTextsWrongFalsely : Prop := dateTextsRow.holds Tryd.pinned (OpenSpec.ofChange dateTextsWrong)

/-- 'dayshiftlaw01.DateBack': WHATEVER THE INPUT: true; the input reads as it did. -/
def dateBackSpec : ChangeSpec := { name := "dateBack", fn := fun _ => fun
  | [d] => { results := [.lit (.bool true)], args := [d] }
  | _ => none }
def dateBackRow : OpenClaim := { program := "ytbkjcnkjlkjknaadoor", sum := "c50bf8431efede9df82178b580cf49f02f918a892864aed5a6f4c1931314249b", func := "dayshift/dayshiftlaw01.DateBack", spec := "dateBack", named := ["dayshift/date.lengths"], apart := false, laid := [("dayshift/date.lengths", laid_dayshift_date_lengths)] }
def DateBackSaid : Prop := dateBackRow.holds Tryd.pinned (OpenSpec.ofChange dateBackSpec)

/-- ITS FALSE NEIGHBOUR: 'it returns false'. Refute it at one input. -/
def dateBackWrong : ChangeSpec := { name := "dateBack", fn := fun _ => fun
  | [d] => { results := [.lit (.bool false)], args := [d] }
  | _ => none }
def DateBackWrongFalsely : Prop := dateBackRow.holds Tryd.pinned (OpenSpec.ofChange dateBackWrong)

/-- 'dayshiftlaw01.DateOrder': WHATEVER THE INPUT: true; the input reads as it did. -/
def dateOrderSpec : ChangeSpec := { name := "dateOrder", fn := fun _ => fun
  | [d1, d2, d3, d4, d5, d6] => { results := [.lit (.bool true)], args := [d1, d2, d3, d4, d5, d6] }
  | _ => none }
def dateOrderRow : OpenClaim := { program := "ytbkjcnkjlkjknaadoor", sum := "c50bf8431efede9df82178b580cf49f02f918a892864aed5a6f4c1931314249b", func := "dayshift/dayshiftlaw01.DateOrder", spec := "dateOrder", named := ["dayshift/date.lengths"], apart := false, laid := [("dayshift/date.lengths", laid_dayshift_date_lengths)] }
def DateOrderSaid : Prop := dateOrderRow.holds Tryd.pinned (OpenSpec.ofChange dateOrderSpec)

/-- ITS FALSE NEIGHBOUR: 'it returns false'. Refute it at one input. -/
def dateOrderWrong : ChangeSpec := { name := "dateOrder", fn := fun _ => fun
  | [d1, d2, d3, d4, d5, d6] => { results := [.lit (.bool false)], args := [d1, d2, d3, d4, d5, d6] }
  | _ => none }
def DateOrderWrongFalsely : Prop := dateOrderRow.holds Tryd.pinned (OpenSpec.ofChange dateOrderWrong)

/-- 'dayshiftlaw02.WeekDays': WHATEVER THE INPUT: true; the input reads as it did. -/
def weekDaysSpec : ChangeSpec := { name := "weekDays", fn := fun _ => fun
  | [d] => { results := [.lit (.bool true)], args := [d] }
  | _ => none }
def weekDaysRow : OpenClaim := { program := "ytbkjcnkjlkjknaadoor", sum := "c50bf8431efede9df82178b580cf49f02f918a892864aed5a6f4c1931314249b", func := "dayshift/dayshiftlaw02.WeekDays", spec := "weekDays", named := ["dayshift/date.lengths"], apart := false, laid := [("dayshift/date.lengths", laid_dayshift_date_lengths)] }
def WeekDaysSaid : Prop := weekDaysRow.holds Tryd.pinned (OpenSpec.ofChange weekDaysSpec)

/-- ITS FALSE NEIGHBOUR: 'it returns false'. Refute it at one input. -/
def weekDaysWrong : ChangeSpec := { name := "weekDays", fn := fun _ => fun
  | [d] => { results := [.lit (.bool false)], args := [d] }
  | _ => none }
def WeekDaysWrongFalsely : Prop := weekDaysRow.holds Tryd.pinned (OpenSpec.ofChange weekDaysWrong)

/-- 'dayshiftlaw02.WeekNths': WHATEVER THE INPUT: true; the input reads as it did. -/
def weekNthsSpec : ChangeSpec := { name := "weekNths", fn := fun _ => fun
  | [d1, d2, d3, d4] => { results := [.lit (.bool true)], args := [d1, d2, d3, d4] }
  | _ => none }
def weekNthsRow : OpenClaim := { program := "ytbkjcnkjlkjknaadoor", sum := "c50bf8431efede9df82178b580cf49f02f918a892864aed5a6f4c1931314249b", func := "dayshift/dayshiftlaw02.WeekNths", spec := "weekNths", named := ["dayshift/date.lengths"], apart := false, laid := [("dayshift/date.lengths", laid_dayshift_date_lengths)] }
def WeekNthsSaid : Prop := weekNthsRow.holds Tryd.pinned (OpenSpec.ofChange weekNthsSpec)

/-- ITS FALSE NEIGHBOUR: 'it returns false'. Refute it at one input. -/
def weekNthsWrong : ChangeSpec := { name := "weekNths", fn := fun _ => fun
  | [d1, d2, d3, d4] => { results := [.lit (.bool false)], args := [d1, d2, d3, d4] }
  | _ => none }
def WeekNthsWrongFalsely : Prop := weekNthsRow.holds Tryd.pinned (OpenSpec.ofChange weekNthsWrong)

/-- 'dayshiftlaw02.WeekClocks': WHATEVER THE INPUT: true; the input reads as it did. -/
def weekClocksSpec : ChangeSpec := { name := "weekClocks", fn := fun _ => fun
  | [d1, d2, d3, d4] => { results := [.lit (.bool true)], args := [d1, d2, d3, d4] }
  | _ => none }
def weekClocksRow : OpenClaim := { program := "ytbkjcnkjlkjknaadoor", sum := "c50bf8431efede9df82178b580cf49f02f918a892864aed5a6f4c1931314249b", func := "dayshift/dayshiftlaw02.WeekClocks", spec := "weekClocks", named := ["dayshift/date.lengths"], apart := false, laid := [("dayshift/date.lengths", laid_dayshift_date_lengths)] }
def WeekClocksSaid : Prop := weekClocksRow.holds Tryd.pinned (OpenSpec.ofChange weekClocksSpec)

/-- ITS FALSE NEIGHBOUR: 'it returns false'. Refute it at one input. -/
def weekClocksWrong : ChangeSpec := { name := "weekClocks", fn := fun _ => fun
  | [d1, d2, d3, d4] => { results := [.lit (.bool false)], args := [d1, d2, d3, d4] }
  | _ => none }
def WeekClocksWrongFalsely : Prop := weekClocksRow.holds Tryd.pinned (OpenSpec.ofChange weekClocksWrong)

/-- 'dayshiftlaw02.WeekTimes': WHATEVER THE INPUT: true; the input reads as it did. -/
def weekTimesSpec : ChangeSpec := { name := "weekTimes", fn := fun _ => fun
  | [d1, d2] => { results := [.lit (.bool true)], args := [d1, d2] }
  | _ => none }
def weekTimesRow : OpenClaim := { program := "ytbkjcnkjlkjknaadoor", sum := "c50bf8431efede9df82178b580cf49f02f918a892864aed5a6f4c1931314249b", func := "dayshift/dayshiftlaw02.WeekTimes", spec := "weekTimes", named := ["dayshift/week.digits", "dayshift/date.lengths"], apart := false, laid := [("dayshift/date.lengths", laid_dayshift_date_lengths), ("dayshift/week.digits", laid_dayshift_week_digits)] }
def WeekTimesSaid : Prop := weekTimesRow.holds Tryd.pinned (OpenSpec.ofChange weekTimesSpec)

/-- ITS FALSE NEIGHBOUR: 'it returns false'. Refute it at one input. -/
def weekTimesWrong : ChangeSpec := { name := "weekTimes", fn := fun _ => fun
  | [d1, d2] => { results := [.lit (.bool false)], args := [d1, d2] }
  | _ => none }
def WeekTimesWrongFalsely : Prop := weekTimesRow.holds Tryd.pinned (OpenSpec.ofChange weekTimesWrong)

/-- 'dayshiftlaw02.WeekOrder': WHATEVER THE INPUT: true; the input reads as it did. -/
def weekOrderSpec : ChangeSpec := { name := "weekOrder", fn := fun _ => fun
  | [d1, d2, d3] => { results := [.lit (.bool true)], args := [d1, d2, d3] }
  | _ => none }
def weekOrderRow : OpenClaim := { program := "ytbkjcnkjlkjknaadoor", sum := "c50bf8431efede9df82178b580cf49f02f918a892864aed5a6f4c1931314249b", func := "dayshift/dayshiftlaw02.WeekOrder", spec := "weekOrder", named := ["dayshift/date.lengths"], apart := false, laid := [("dayshift/date.lengths", laid_dayshift_date_lengths)] }
def WeekOrderSaid : Prop := weekOrderRow.holds Tryd.pinned (OpenSpec.ofChange weekOrderSpec)

/-- ITS FALSE NEIGHBOUR: 'it returns false'. Refute it at one input. -/
def weekOrderWrong : ChangeSpec := { name := "weekOrder", fn := fun _ => fun
  | [d1, d2, d3] => { results := [.lit (.bool false)], args := [d1, d2, d3] }
  | _ => none }
def WeekOrderWrongFalsely : Prop := weekOrderRow.holds Tryd.pinned (OpenSpec.ofChange weekOrderWrong)

/-- 'dayshiftlaw02.WeekRuns': WHATEVER THE INPUT: true; the input reads as it did. -/
def weekRunsSpec : ChangeSpec := { name := "weekRuns", fn := fun _ => fun
  | [d] => { results := [.lit (.bool true)], args := [d] }
  | _ => none }
def weekRunsRow : OpenClaim := { program := "ytbkjcnkjlkjknaadoor", sum := "c50bf8431efede9df82178b580cf49f02f918a892864aed5a6f4c1931314249b", func := "dayshift/dayshiftlaw02.WeekRuns", spec := "weekRuns", named := ["dayshift/date.lengths"], apart := false, laid := [("dayshift/date.lengths", laid_dayshift_date_lengths)] }
def WeekRunsSaid : Prop := weekRunsRow.holds Tryd.pinned (OpenSpec.ofChange weekRunsSpec)

/-- ITS FALSE NEIGHBOUR: 'it returns false'. Refute it at one input. -/
def weekRunsWrong : ChangeSpec := { name := "weekRuns", fn := fun _ => fun
  | [d] => { results := [.lit (.bool false)], args := [d] }
  | _ => none }
def WeekRunsWrongFalsely : Prop := weekRunsRow.holds Tryd.pinned (OpenSpec.ofChange weekRunsWrong)

/-- 'dayshiftlaw02.WeekEnds': WHATEVER THE INPUT: true; the input reads as it did. -/
def weekEndsSpec : ChangeSpec := { name := "weekEnds", fn := fun _ => fun
  | [d1, d2, d3, d4] => { results := [.lit (.bool true)], args := [d1, d2, d3, d4] }
  | _ => none }
def weekEndsRow : OpenClaim := { program := "ytbkjcnkjlkjknaadoor", sum := "c50bf8431efede9df82178b580cf49f02f918a892864aed5a6f4c1931314249b", func := "dayshift/dayshiftlaw02.WeekEnds", spec := "weekEnds", named := ["dayshift/date.lengths"], apart := false, laid := [("dayshift/date.lengths", laid_dayshift_date_lengths)] }
def WeekEndsSaid : Prop := weekEndsRow.holds Tryd.pinned (OpenSpec.ofChange weekEndsSpec)

/-- ITS FALSE NEIGHBOUR: 'it returns false'. Refute it at one input. -/
def weekEndsWrong : ChangeSpec := { name := "weekEnds", fn := fun _ => fun
  | [d1, d2, d3, d4] => { results := [.lit (.bool false)], args := [d1, d2, d3, d4] }
  | _ => none }
def WeekEndsWrongFalsely : Prop := weekEndsRow.holds Tryd.pinned (OpenSpec.ofChange weekEndsWrong)

/- THE SECOND FORM. 'bulk': how many values and letters a reading holds, each counted each time it is reached (what is shared counts as often as it is met; a slice's spare places count too). A statement '..UptoSaid' is the law's where the arguments, and the package variables that the reading takes, are together of bulk at most 1048576: NARROWER than '..Said'. Prove '..Said' where nothing that the law and all that it calls make is longer than what came in: it says more and counts as full. Else prove '..UptoSaid'. A law counts once. -/
mutual
def uptoBulk {H : Type} : DataW H → Nat
  | .lit (.string bytes) => bytes.length + 1
  | .lit _ => 1
  | .nil => 1
  | .ptr d => uptoBulk d + 1
  | .slice elems spare => uptoBulkAll elems + uptoBulkAll spare + 1
  | .agg parts => uptoBulkAll parts + 1
  | .iface _ d => uptoBulk d + 1
  | .map entries => uptoBulkEntries entries + 1
  | .held _ => 1
def uptoBulkAll {H : Type} : List (DataW H) → Nat
  | [] => 0
  | d :: r => uptoBulk d + uptoBulkAll r
def uptoBulkEntries {H : Type} : List (Lit × DataW H) → Nat
  | [] => 0
  | x :: r => uptoBulkEntry x + uptoBulkEntries r
def uptoBulkEntry {H : Type} : Lit × DataW H → Nat
  | (.string bytes, d) => bytes.length + uptoBulk d + 1
  | (_, d) => uptoBulk d + 1
 end
def uptoSmall : (H : Type) → List (DataW H) → Bool := fun _ ds => decide (uptoBulkAll ds ≤ 1048576)
def OpenSpec.upto (s : _root_.Go.ChangeSpec) : _root_.Go.OpenSpec := { _root_.Go.OpenSpec.ofChange s with cond := some uptoSmall }

/-- 'dayshiftlaw01.DateYears', WHERE WHAT IT READS IS OF BULK AT MOST 1048576: true; the input reads as it did. -/
def dateYearsUptoRow : OpenClaim := { program := "ytbkjcnkjlkjknaadoor", sum := "c50bf8431efede9df82178b580cf49f02f918a892864aed5a6f4c1931314249b", func := "dayshift/dayshiftlaw01.DateYears", spec := "dateYears", named := ["dayshift/date.lengths"], apart := false, laid := [("dayshift/date.lengths", laid_dayshift_date_lengths)], narrowed := true }
def DateYearsUptoSaid : Prop := dateYearsUptoRow.holds Tryd.pinned (OpenSpec.upto dateYearsSpec)

/-- 'dayshiftlaw01.DateDays', WHERE WHAT IT READS IS OF BULK AT MOST 1048576: true; the input reads as it did. -/
def dateDaysUptoRow : OpenClaim := { program := "ytbkjcnkjlkjknaadoor", sum := "c50bf8431efede9df82178b580cf49f02f918a892864aed5a6f4c1931314249b", func := "dayshift/dayshiftlaw01.DateDays", spec := "dateDays", named := ["dayshift/date.lengths"], apart := false, laid := [("dayshift/date.lengths", laid_dayshift_date_lengths)], narrowed := true }
def DateDaysUptoSaid : Prop := dateDaysUptoRow.holds Tryd.pinned (OpenSpec.upto dateDaysSpec)

/-- 'dayshiftlaw01.DateTexts', WHERE WHAT IT READS IS OF BULK AT MOST 1048576: true; the input reads as it did. -/
def dateTextsUptoRow : OpenClaim := { program := "ytbkjcnkjlkjknaadoor", sum := "c50bf8431efede9df82178b580cf49f02f918a892864aed5a6f4c1931314249b", func := "dayshift/dayshiftlaw01.DateTexts", spec := "dateTexts", named := ["dayshift/date.lengths"], apart := false, laid := [("dayshift/date.lengths", laid_dayshift_date_lengths)], narrowed := true }
def DateTextsUptoSaid : Prop := dateTextsUptoRow.holds Tryd.pinned (OpenSpec.upto dateTextsSpec)

/-- 'dayshiftlaw01.DateBack', WHERE WHAT IT READS IS OF BULK AT MOST 1048576: true; the input reads as it did. -/
def dateBackUptoRow : OpenClaim := { program := "ytbkjcnkjlkjknaadoor", sum := "c50bf8431efede9df82178b580cf49f02f918a892864aed5a6f4c1931314249b", func := "dayshift/dayshiftlaw01.DateBack", spec := "dateBack", named := ["dayshift/date.lengths"], apart := false, laid := [("dayshift/date.lengths", laid_dayshift_date_lengths)], narrowed := true }
def DateBackUptoSaid : Prop := dateBackUptoRow.holds Tryd.pinned (OpenSpec.upto dateBackSpec)

/-- 'dayshiftlaw01.DateOrder', WHERE WHAT IT READS IS OF BULK AT MOST 1048576: true; the input reads as it did. -/
def dateOrderUptoRow : OpenClaim := { program := "ytbkjcnkjlkjknaadoor", sum := "c50bf8431efede9df82178b580cf49f02f918a892864aed5a6f4c1931314249b", func := "dayshift/dayshiftlaw01.DateOrder", spec := "dateOrder", named := ["dayshift/date.lengths"], apart := false, laid := [("dayshift/date.lengths", laid_dayshift_date_lengths)], narrowed := true }
def DateOrderUptoSaid : Prop := dateOrderUptoRow.holds Tryd.pinned (OpenSpec.upto dateOrderSpec)

/-- 'dayshiftlaw02.WeekDays', WHERE WHAT IT READS IS OF BULK AT MOST 1048576: true; the input reads as it did. -/
def weekDaysUptoRow : OpenClaim := { program := "ytbkjcnkjlkjknaadoor", sum := "c50bf8431efede9df82178b580cf49f02f918a892864aed5a6f4c1931314249b", func := "dayshift/dayshiftlaw02.WeekDays", spec := "weekDays", named := ["dayshift/date.lengths"], apart := false, laid := [("dayshift/date.lengths", laid_dayshift_date_lengths)], narrowed := true }
def WeekDaysUptoSaid : Prop := weekDaysUptoRow.holds Tryd.pinned (OpenSpec.upto weekDaysSpec)

/-- 'dayshiftlaw02.WeekNths', WHERE WHAT IT READS IS OF BULK AT MOST 1048576: true; the input reads as it did. -/
def weekNthsUptoRow : OpenClaim := { program := "ytbkjcnkjlkjknaadoor", sum := "c50bf8431efede9df82178b580cf49f02f918a892864aed5a6f4c1931314249b", func := "dayshift/dayshiftlaw02.WeekNths", spec := "weekNths", named := ["dayshift/date.lengths"], apart := false, laid := [("dayshift/date.lengths", laid_dayshift_date_lengths)], narrowed := true }
def WeekNthsUptoSaid : Prop := weekNthsUptoRow.holds Tryd.pinned (OpenSpec.upto weekNthsSpec)

/-- 'dayshiftlaw02.WeekClocks', WHERE WHAT IT READS IS OF BULK AT MOST 1048576: true; the input reads as it did. -/
def weekClocksUptoRow : OpenClaim := { program := "ytbkjcnkjlkjknaadoor", sum := "c50bf8431efede9df82178b580cf49f02f918a892864aed5a6f4c1931314249b", func := "dayshift/dayshiftlaw02.WeekClocks", spec := "weekClocks", named := ["dayshift/date.lengths"], apart := false, laid := [("dayshift/date.lengths", laid_dayshift_date_lengths)], narrowed := true }
def WeekClocksUptoSaid : Prop := weekClocksUptoRow.holds Tryd.pinned (OpenSpec.upto weekClocksSpec)

/-- 'dayshiftlaw02.WeekTimes', WHERE WHAT IT READS IS OF BULK AT MOST 1048576: true; the input reads as it did. -/
def weekTimesUptoRow : OpenClaim := { program := "ytbkjcnkjlkjknaadoor", sum := "c50bf8431efede9df82178b580cf49f02f918a892864aed5a6f4c1931314249b", func := "dayshift/dayshiftlaw02.WeekTimes", spec := "weekTimes", named := ["dayshift/week.digits", "dayshift/date.lengths"], apart := false, laid := [("dayshift/date.lengths", laid_dayshift_date_lengths), ("dayshift/week.digits", laid_dayshift_week_digits)], narrowed := true }
def WeekTimesUptoSaid : Prop := weekTimesUptoRow.holds Tryd.pinned (OpenSpec.upto weekTimesSpec)

/-- 'dayshiftlaw02.WeekOrder', WHERE WHAT IT READS IS OF BULK AT MOST 1048576: true; the input reads as it did. -/
def weekOrderUptoRow : OpenClaim := { program := "ytbkjcnkjlkjknaadoor", sum := "c50bf8431efede9df82178b580cf49f02f918a892864aed5a6f4c1931314249b", func := "dayshift/dayshiftlaw02.WeekOrder", spec := "weekOrder", named := ["dayshift/date.lengths"], apart := false, laid := [("dayshift/date.lengths", laid_dayshift_date_lengths)], narrowed := true }
def WeekOrderUptoSaid : Prop := weekOrderUptoRow.holds Tryd.pinned (OpenSpec.upto weekOrderSpec)

/-- 'dayshiftlaw02.WeekRuns', WHERE WHAT IT READS IS OF BULK AT MOST 1048576: true; the input reads as it did. -/
def weekRunsUptoRow : OpenClaim := { program := "ytbkjcnkjlkjknaadoor", sum := "c50bf8431efede9df82178b580cf49f02f918a892864aed5a6f4c1931314249b", func := "dayshift/dayshiftlaw02.WeekRuns", spec := "weekRuns", named := ["dayshift/date.lengths"], apart := false, laid := [("dayshift/date.lengths", laid_dayshift_date_lengths)], narrowed := true }
def WeekRunsUptoSaid : Prop := weekRunsUptoRow.holds Tryd.pinned (OpenSpec.upto weekRunsSpec)

/-- 'dayshiftlaw02.WeekEnds', WHERE WHAT IT READS IS OF BULK AT MOST 1048576: true; the input reads as it did. -/
def weekEndsUptoRow : OpenClaim := { program := "ytbkjcnkjlkjknaadoor", sum := "c50bf8431efede9df82178b580cf49f02f918a892864aed5a6f4c1931314249b", func := "dayshift/dayshiftlaw02.WeekEnds", spec := "weekEnds", named := ["dayshift/date.lengths"], apart := false, laid := [("dayshift/date.lengths", laid_dayshift_date_lengths)], narrowed := true }
def WeekEndsUptoSaid : Prop := weekEndsUptoRow.holds Tryd.pinned (OpenSpec.upto weekEndsSpec)

end Rows
end Go.Proofs.YtbkjcnkjlkjknaaDoor
