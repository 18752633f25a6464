/-
  NARROWER THAN 'FOR EVERY INPUT', by the rows' own cells (each row's printed sentence says how): CalSets: loops, laid · CalMoved: loops, laid · CalFiscal: laid · CalAgain: loops, laid.
  DERIVED. THE GIVEN ROWS OF THIS SEAT. 4 by the template 'for every input the law returns true; each argument reads behind the call as it read before'; 0 by the template 'total and deterministic' (their statements: YthbfjkdklnffjaaDoorTotals.lean).
  GIVEN WITH THE SEED: the statements are not yours to turn. If you find one false, say at which input.
  Laid BY PROGRAM, IN A SANDBOX (cutbox-rows.mjs): the forced cells as the released guide's own fill.sh prints them over the translation 9bebc62c43ff8e23… (all of the seat's roots in one cut). By AI agents, Wed Nov 11 2026. No macro, syntax, notation, axiom, sorry.
-/
import Derived.Test.YthbfjkdklnffjaaDoorChecked
import GoSem.Claim
import GoSem.ClaimJoined
import GoSem.ClaimMapViews
import Derived.JoinedTies
import Derived.KernelRfl
namespace Go.Proofs.YthbfjkdklnffjaaDoor
/- THE CELL 'sum', in the pinned program and in every row, IS THE sha256 OF THE DUMP (.gsa) THAT YthbfjkdklnffjaaDoorProg.lean LOADS. Nothing in Lean hashes anything: it is a label: what it is worth is what the hold of that sum in a sandbox is worth. -/
noncomputable def Tryd.pinned : Pinned := { name := "ythbfjkdklnffjaadoor", sum := "9bebc62c43ff8e23697663f780690ab34fe370ab8a88860289910249e8e15279", checked := Tryd.checked }
namespace Rows
def none {H : Type} : Left H := { results := [], args := [] }

/- WHAT THE LISTED PACKAGE-LEVEL VARIABLES READ AS WHEN THE CALL BEGINS. Each datum BY PROGRAM (the guide's laid-datum.mjs) off the statement by which the dump's own 'gosem.cut.vars' lays the variable. In a bare row this is a premise. The card (YthbfjkdklnffjaaDoorCards.lean) ties it to the program's text. -/
def laid_dayshift_date_lengths {H : Type} : DataW H := .agg [.lit (.int .i64 31), .lit (.int .i64 28), .lit (.int .i64 31), .lit (.int .i64 30), .lit (.int .i64 31), .lit (.int .i64 30), .lit (.int .i64 31), .lit (.int .i64 31), .lit (.int .i64 30), .lit (.int .i64 31), .lit (.int .i64 30), .lit (.int .i64 31)]
def laid_math_bits_deBruijn32tab {H : Type} : DataW H := .agg [.lit (.int .u8 0), .lit (.int .u8 1), .lit (.int .u8 28), .lit (.int .u8 2), .lit (.int .u8 29), .lit (.int .u8 14), .lit (.int .u8 24), .lit (.int .u8 3), .lit (.int .u8 30), .lit (.int .u8 22), .lit (.int .u8 20), .lit (.int .u8 15), .lit (.int .u8 25), .lit (.int .u8 17), .lit (.int .u8 4), .lit (.int .u8 8), .lit (.int .u8 31), .lit (.int .u8 27), .lit (.int .u8 13), .lit (.int .u8 23), .lit (.int .u8 21), .lit (.int .u8 19), .lit (.int .u8 16), .lit (.int .u8 7), .lit (.int .u8 26), .lit (.int .u8 12), .lit (.int .u8 18), .lit (.int .u8 6), .lit (.int .u8 11), .lit (.int .u8 5), .lit (.int .u8 10), .lit (.int .u8 9)]
def laid_dayshift_cal_shapes {H : Type} : DataW H := .agg [.agg [.lit (.int .i64 0), .lit (.int .i64 0), .lit (.int .i64 0), .lit (.int .i64 0), .lit (.bool false)], .agg [.lit (.int .i64 1), .lit (.int .i64 1), .lit (.int .i64 0), .lit (.int .i64 0), .lit (.bool false)], .agg [.lit (.int .i64 0), .lit (.int .i64 64), .lit (.int .i64 0), .lit (.int .i64 0), .lit (.bool false)], .agg [.lit (.int .i64 0), .lit (.int .i64 64), .lit (.int .i64 0), .lit (.int .i64 0), .lit (.bool false)], .agg [.lit (.int .i64 2), .lit (.int .i64 2), .lit (.int .i64 0), .lit (.int .i64 0), .lit (.bool false)], .agg [.lit (.int .i64 1), .lit (.int .i64 1), .lit (.int .i64 0), .lit (.int .i64 0), .lit (.bool true)], .agg [.lit (.int .i64 2), .lit (.int .i64 2), .lit (.int .i64 0), .lit (.int .i64 0), .lit (.bool false)], .agg [.lit (.int .i64 0), .lit (.int .i64 0), .lit (.int .i64 1), .lit (.int .i64 8), .lit (.bool false)], .agg [.lit (.int .i64 0), .lit (.int .i64 0), .lit (.int .i64 1), .lit (.int .i64 8), .lit (.bool false)], .agg [.lit (.int .i64 0), .lit (.int .i64 0), .lit (.int .i64 1), .lit (.int .i64 1), .lit (.bool false)], .agg [.lit (.int .i64 0), .lit (.int .i64 0), .lit (.int .i64 0), .lit (.int .i64 0), .lit (.bool true)]]

/-- 'dayshiftlaw06.CalSets': WHATEVER THE INPUT: true; the input reads as it did. -/
def calSetsSpec : ChangeSpec := { name := "calSets", fn := fun _ => fun
  | [d1, d2, d3, d4] => { results := [.lit (.bool true)], args := [d1, d2, d3, d4] }
  | _ => none }
def calSetsRow : OpenClaim := { program := "ythbfjkdklnffjaadoor", sum := "9bebc62c43ff8e23697663f780690ab34fe370ab8a88860289910249e8e15279", func := "dayshift/dayshiftlaw06.CalSets", spec := "calSets", unfollowed := true, recurses := true, named := ["dayshift/cal.shapes", "dayshift/date.lengths", "math/bits.deBruijn32tab"], loops := true, plainKeys := false, apart := false, laid := [("dayshift/date.lengths", laid_dayshift_date_lengths), ("math/bits.deBruijn32tab", laid_math_bits_deBruijn32tab), ("dayshift/cal.shapes", laid_dayshift_cal_shapes)] }
def CalSetsSaid : Prop := calSetsRow.holds Tryd.pinned (OpenSpec.ofChange calSetsSpec)

/-- ITS FALSE NEIGHBOUR: 'it returns false'. Refute it at one input. -/
def calSetsWrong : ChangeSpec := { name := "calSets", fn := fun _ => fun
  | [d1, d2, d3, d4] => { results := [.lit (.bool false)], args := [d1, d2, d3, d4] }
  | _ => none }
def CalSetsWrongFalsely : Prop := calSetsRow.holds Tryd.pinned (OpenSpec.ofChange calSetsWrong)

/-- 'dayshiftlaw06.CalMoved': WHATEVER THE INPUT: true; the input reads as it did. -/
def calMovedSpec : ChangeSpec := { name := "calMoved", fn := fun _ => fun
  | [d1, d2, d3, d4, d5] => { results := [.lit (.bool true)], args := [d1, d2, d3, d4, d5] }
  | _ => none }
def calMovedRow : OpenClaim := { program := "ythbfjkdklnffjaadoor", sum := "9bebc62c43ff8e23697663f780690ab34fe370ab8a88860289910249e8e15279", func := "dayshift/dayshiftlaw06.CalMoved", spec := "calMoved", unfollowed := true, recurses := true, named := ["dayshift/cal.shapes", "dayshift/date.lengths", "math/bits.deBruijn32tab"], loops := true, plainKeys := false, apart := false, laid := [("dayshift/date.lengths", laid_dayshift_date_lengths), ("math/bits.deBruijn32tab", laid_math_bits_deBruijn32tab), ("dayshift/cal.shapes", laid_dayshift_cal_shapes)] }
def CalMovedSaid : Prop := calMovedRow.holds Tryd.pinned (OpenSpec.ofChange calMovedSpec)

/-- ITS FALSE NEIGHBOUR: 'it returns false'. Refute it at one input. -/
def calMovedWrong : ChangeSpec := { name := "calMoved", fn := fun _ => fun
  | [d1, d2, d3, d4, d5] => { results := [.lit (.bool false)], args := [d1, d2, d3, d4, d5] }
  | _ => none }
def CalMovedWrongFalsely : Prop := calMovedRow.holds Tryd.pinned (OpenSpec.ofChange calMovedWrong)

/-- 'dayshiftlaw06.CalFiscal': WHATEVER THE INPUT: true; the input reads as it did. -/
def calFiscalSpec : ChangeSpec := { name := "calFiscal", fn := fun _ => fun
  | [d1, d2, d3] => { results := [.lit (.bool true)], args := [d1, d2, d3] }
  | _ => none }
def calFiscalRow : OpenClaim := { program := "ythbfjkdklnffjaadoor", sum := "9bebc62c43ff8e23697663f780690ab34fe370ab8a88860289910249e8e15279", func := "dayshift/dayshiftlaw06.CalFiscal", spec := "calFiscal", unfollowed := true, recurses := true, named := ["dayshift/cal.shapes", "dayshift/date.lengths", "math/bits.deBruijn32tab"], plainKeys := false, apart := false, laid := [("dayshift/date.lengths", laid_dayshift_date_lengths), ("math/bits.deBruijn32tab", laid_math_bits_deBruijn32tab), ("dayshift/cal.shapes", laid_dayshift_cal_shapes)] }
def CalFiscalSaid : Prop := calFiscalRow.holds Tryd.pinned (OpenSpec.ofChange calFiscalSpec)

/-- ITS FALSE NEIGHBOUR: 'it returns false'. Refute it at one input. -/
def calFiscalWrong : ChangeSpec := { name := "calFiscal", fn := fun _ => fun
  | [d1, d2, d3] => { results := [.lit (.bool false)], args := [d1, d2, d3] }
  | _ => none }
def CalFiscalWrongFalsely : Prop := calFiscalRow.holds Tryd.pinned (OpenSpec.ofChange calFiscalWrong)

/-- 'dayshiftlaw06.CalAgain': WHATEVER THE INPUT: true; the input reads as it did. -/
def calAgainSpec : ChangeSpec := { name := "calAgain", fn := fun _ => fun
  | [d1, d2] => { results := [.lit (.bool true)], args := [d1, d2] }
  | _ => none }
def calAgainRow : OpenClaim := { program := "ythbfjkdklnffjaadoor", sum := "9bebc62c43ff8e23697663f780690ab34fe370ab8a88860289910249e8e15279", func := "dayshift/dayshiftlaw06.CalAgain", spec := "calAgain", unfollowed := true, recurses := true, named := ["dayshift/cal.shapes", "dayshift/date.lengths", "math/bits.deBruijn32tab"], loops := true, plainKeys := false, apart := false, laid := [("dayshift/date.lengths", laid_dayshift_date_lengths), ("math/bits.deBruijn32tab", laid_math_bits_deBruijn32tab), ("dayshift/cal.shapes", laid_dayshift_cal_shapes)] }
def CalAgainSaid : Prop := calAgainRow.holds Tryd.pinned (OpenSpec.ofChange calAgainSpec)

/-- ITS FALSE NEIGHBOUR: 'it returns false'. Refute it at one input. -/
def calAgainWrong : ChangeSpec := { name := "calAgain", fn := fun _ => fun
  | [d1, d2] => { results := [.lit (.bool false)], args := [d1, d2] }
  | _ => none }
def CalAgainWrongFalsely : Prop := calAgainRow.holds Tryd.pinned (OpenSpec.ofChange calAgainWrong)

/- THE SECOND FORM. 'bulk': how many values and letters a reading holds, each counted each time it is reached (what is shared counts as often as it is met; a slice's spare places count too). A statement '..UptoSaid' is the law's where the arguments, and the package variables that the reading takes, are together of bulk at most 1048576: NARROWER than '..Said'. Prove '..Said' where nothing that the law and all that it calls make is longer than what came in: it says more and counts as full. Else prove '..UptoSaid'. A law counts once. -/
mutual
def uptoBulk {H : Type} : DataW H → Nat
  | .lit (.string bytes) => bytes.length + 1
  | .lit _ => 1
  | .nil => 1
  | .ptr d => uptoBulk d + 1
  | .slice elems spare => uptoBulkAll elems + uptoBulkAll spare + 1
  | .agg parts => uptoBulkAll parts + 1
  | .iface _ d => uptoBulk d + 1
  | .map entries => uptoBulkEntries entries + 1
  | .held _ => 1
def uptoBulkAll {H : Type} : List (DataW H) → Nat
  | [] => 0
  | d :: r => uptoBulk d + uptoBulkAll r
def uptoBulkEntries {H : Type} : List (Lit × DataW H) → Nat
  | [] => 0
  | x :: r => uptoBulkEntry x + uptoBulkEntries r
def uptoBulkEntry {H : Type} : Lit × DataW H → Nat
  | (.string bytes, d) => bytes.length + uptoBulk d + 1
  | (_, d) => uptoBulk d + 1
 end
def uptoSmall : (H : Type) → List (DataW H) → Bool := fun _ ds => decide (uptoBulkAll ds ≤ 1048576)
def OpenSpec.upto (s : _root_.Go.ChangeSpec) : _root_.Go.OpenSpec := { _root_.Go.OpenSpec.ofChange s with cond := some uptoSmall }

/-- 'dayshiftlaw06.CalSets', WHERE WHAT IT READS IS OF BULK AT MOST 1048576: true; the input reads as it did. -/
def calSetsUptoRow : OpenClaim := { program := "ythbfjkdklnffjaadoor", sum := "9bebc62c43ff8e23697663f780690ab34fe370ab8a88860289910249e8e15279", func := "dayshift/dayshiftlaw06.CalSets", spec := "calSets", unfollowed := true, recurses := true, named := ["dayshift/cal.shapes", "dayshift/date.lengths", "math/bits.deBruijn32tab"], loops := true, plainKeys := false, apart := false, laid := [("dayshift/date.lengths", laid_dayshift_date_lengths), ("math/bits.deBruijn32tab", laid_math_bits_deBruijn32tab), ("dayshift/cal.shapes", laid_dayshift_cal_shapes)], narrowed := true }
def CalSetsUptoSaid : Prop := calSetsUptoRow.holds Tryd.pinned (OpenSpec.upto calSetsSpec)

/-- 'dayshiftlaw06.CalMoved', WHERE WHAT IT READS IS OF BULK AT MOST 1048576: true; the input reads as it did. -/
def calMovedUptoRow : OpenClaim := { program := "ythbfjkdklnffjaadoor", sum := "9bebc62c43ff8e23697663f780690ab34fe370ab8a88860289910249e8e15279", func := "dayshift/dayshiftlaw06.CalMoved", spec := "calMoved", unfollowed := true, recurses := true, named := ["dayshift/cal.shapes", "dayshift/date.lengths", "math/bits.deBruijn32tab"], loops := true, plainKeys := false, apart := false, laid := [("dayshift/date.lengths", laid_dayshift_date_lengths), ("math/bits.deBruijn32tab", laid_math_bits_deBruijn32tab), ("dayshift/cal.shapes", laid_dayshift_cal_shapes)], narrowed := true }
def CalMovedUptoSaid : Prop := calMovedUptoRow.holds Tryd.pinned (OpenSpec.upto calMovedSpec)

/-- 'dayshiftlaw06.CalFiscal', WHERE WHAT IT READS IS OF BULK AT MOST 1048576: true; the input reads as it did. -/
def calFiscalUptoRow : OpenClaim := { program := "ythbfjkdklnffjaadoor", sum := "9bebc62c43ff8e23697663f780690ab34fe370ab8a88860289910249e8e15279", func := "dayshift/dayshiftlaw06.CalFiscal", spec := "calFiscal", unfollowed := true, recurses := true, named := ["dayshift/cal.shapes", "dayshift/date.lengths", "math/bits.deBruijn32tab"], plainKeys := false, apart := false, laid := [("dayshift/date.lengths", laid_dayshift_date_lengths), ("math/bits.deBruijn32tab", laid_math_bits_deBruijn32tab), ("dayshift/cal.shapes", laid_dayshift_cal_shapes)], narrowed := true }
def CalFiscalUptoSaid : Prop := calFiscalUptoRow.holds Tryd.pinned (OpenSpec.upto calFiscalSpec)

/-- 'dayshiftlaw06.CalAgain', WHERE WHAT IT READS IS OF BULK AT MOST 1048576: true; the input reads as it did. -/
def calAgainUptoRow : OpenClaim := { program := "ythbfjkdklnffjaadoor", sum := "9bebc62c43ff8e23697663f780690ab34fe370ab8a88860289910249e8e15279", func := "dayshift/dayshiftlaw06.CalAgain", spec := "calAgain", unfollowed := true, recurses := true, named := ["dayshift/cal.shapes", "dayshift/date.lengths", "math/bits.deBruijn32tab"], loops := true, plainKeys := false, apart := false, laid := [("dayshift/date.lengths", laid_dayshift_date_lengths), ("math/bits.deBruijn32tab", laid_math_bits_deBruijn32tab), ("dayshift/cal.shapes", laid_dayshift_cal_shapes)], narrowed := true }
def CalAgainUptoSaid : Prop := calAgainUptoRow.holds Tryd.pinned (OpenSpec.upto calAgainSpec)

end Rows
end Go.Proofs.YthbfjkdklnffjaaDoor
