/-
  NARROWER THAN 'FOR EVERY INPUT', by the rows' own cells (each row's printed sentence says how): JdlMore: laid · RuleFewer: laid · RuleOrder: laid · BookNext: laid · BookNil: laid.
  DERIVED. THE GIVEN ROWS OF THIS SEAT. 5 by the template 'for every input the law returns true; each argument reads behind the call as it read before'; 0 by the template 'total and deterministic' (their statements: YtkpgfhapffijkaaGreatDoorTotals.lean).
  GIVEN WITH THE SEED: the statements are not yours to turn. If you find one false, say at which input.
  Laid BY PROGRAM, IN A SANDBOX (cutbox-rows.mjs): the forced cells as the released guide's own fill.sh prints them over the translation 8e866d08609f6b2f… (all of the seat's roots in one cut). By AI agents, Wed Nov 11 2026. No macro, syntax, notation, axiom, sorry.
-/
import Derived.Test.YtkpgfhapffijkaaGreatDoorChecked
import GoSem.Claim
import GoSem.ClaimJoined
import GoSem.ClaimMapViews
import Derived.JoinedTies
import Derived.KernelRfl
namespace Go.Proofs.YtkpgfhapffijkaaGreatDoor
/- THE CELL 'sum', in the pinned program and in every row, IS THE sha256 OF THE DUMP (.gsa) THAT YtkpgfhapffijkaaGreatDoorProg.lean LOADS. Nothing in Lean hashes anything: it is a label: what it is worth is what the hold of that sum in a sandbox is worth. -/
noncomputable def Tryz.pinned : Pinned := { name := "ytkpgfhapffijkaagreatdoor", sum := "8e866d08609f6b2f9425a190e997954a0b38c544393cc7a6963f67237fadafc8", checked := Tryz.checked }
namespace Rows
def none {H : Type} : Left H := { results := [], args := [] }

/- WHAT THE LISTED PACKAGE-LEVEL VARIABLES READ AS WHEN THE CALL BEGINS. Each datum BY PROGRAM (the guide's laid-datum.mjs) off the statement by which the dump's own 'gosem.cut.vars' lays the variable. In a bare row this is a premise. The card (YtkpgfhapffijkaaGreatDoorCards.lean) ties it to the program's text. -/
def laid_dayshift_date_lengths {H : Type} : DataW H := .agg [.lit (.int .i64 31), .lit (.int .i64 28), .lit (.int .i64 31), .lit (.int .i64 30), .lit (.int .i64 31), .lit (.int .i64 30), .lit (.int .i64 31), .lit (.int .i64 31), .lit (.int .i64 30), .lit (.int .i64 31), .lit (.int .i64 30), .lit (.int .i64 31)]
def laid_math_bits_deBruijn32tab {H : Type} : DataW H := .agg [.lit (.int .u8 0), .lit (.int .u8 1), .lit (.int .u8 28), .lit (.int .u8 2), .lit (.int .u8 29), .lit (.int .u8 14), .lit (.int .u8 24), .lit (.int .u8 3), .lit (.int .u8 30), .lit (.int .u8 22), .lit (.int .u8 20), .lit (.int .u8 15), .lit (.int .u8 25), .lit (.int .u8 17), .lit (.int .u8 4), .lit (.int .u8 8), .lit (.int .u8 31), .lit (.int .u8 27), .lit (.int .u8 13), .lit (.int .u8 23), .lit (.int .u8 21), .lit (.int .u8 19), .lit (.int .u8 16), .lit (.int .u8 7), .lit (.int .u8 26), .lit (.int .u8 12), .lit (.int .u8 18), .lit (.int .u8 6), .lit (.int .u8 11), .lit (.int .u8 5), .lit (.int .u8 10), .lit (.int .u8 9)]
def laid_dayshift_cal_shapes {H : Type} : DataW H := .agg [.agg [.lit (.int .i64 0), .lit (.int .i64 0), .lit (.int .i64 0), .lit (.int .i64 0), .lit (.bool false)], .agg [.lit (.int .i64 1), .lit (.int .i64 1), .lit (.int .i64 0), .lit (.int .i64 0), .lit (.bool false)], .agg [.lit (.int .i64 0), .lit (.int .i64 64), .lit (.int .i64 0), .lit (.int .i64 0), .lit (.bool false)], .agg [.lit (.int .i64 0), .lit (.int .i64 64), .lit (.int .i64 0), .lit (.int .i64 0), .lit (.bool false)], .agg [.lit (.int .i64 2), .lit (.int .i64 2), .lit (.int .i64 0), .lit (.int .i64 0), .lit (.bool false)], .agg [.lit (.int .i64 1), .lit (.int .i64 1), .lit (.int .i64 0), .lit (.int .i64 0), .lit (.bool true)], .agg [.lit (.int .i64 2), .lit (.int .i64 2), .lit (.int .i64 0), .lit (.int .i64 0), .lit (.bool false)], .agg [.lit (.int .i64 0), .lit (.int .i64 0), .lit (.int .i64 1), .lit (.int .i64 8), .lit (.bool false)], .agg [.lit (.int .i64 0), .lit (.int .i64 0), .lit (.int .i64 1), .lit (.int .i64 8), .lit (.bool false)], .agg [.lit (.int .i64 0), .lit (.int .i64 0), .lit (.int .i64 1), .lit (.int .i64 1), .lit (.bool false)], .agg [.lit (.int .i64 0), .lit (.int .i64 0), .lit (.int .i64 0), .lit (.int .i64 0), .lit (.bool true)]]
def laid_dayshift_week_digits {H : Type} : DataW H := .agg [.lit (.int .u8 48), .lit (.int .u8 49), .lit (.int .u8 50), .lit (.int .u8 51), .lit (.int .u8 52), .lit (.int .u8 53), .lit (.int .u8 54), .lit (.int .u8 55), .lit (.int .u8 56), .lit (.int .u8 57)]
def laid_math_bits_deBruijn64tab {H : Type} : DataW H := .agg [.lit (.int .u8 0), .lit (.int .u8 1), .lit (.int .u8 56), .lit (.int .u8 2), .lit (.int .u8 57), .lit (.int .u8 49), .lit (.int .u8 28), .lit (.int .u8 3), .lit (.int .u8 61), .lit (.int .u8 58), .lit (.int .u8 42), .lit (.int .u8 50), .lit (.int .u8 38), .lit (.int .u8 29), .lit (.int .u8 17), .lit (.int .u8 4), .lit (.int .u8 62), .lit (.int .u8 47), .lit (.int .u8 59), .lit (.int .u8 36), .lit (.int .u8 45), .lit (.int .u8 43), .lit (.int .u8 51), .lit (.int .u8 22), .lit (.int .u8 53), .lit (.int .u8 39), .lit (.int .u8 33), .lit (.int .u8 30), .lit (.int .u8 24), .lit (.int .u8 18), .lit (.int .u8 12), .lit (.int .u8 5), .lit (.int .u8 63), .lit (.int .u8 55), .lit (.int .u8 48), .lit (.int .u8 27), .lit (.int .u8 60), .lit (.int .u8 41), .lit (.int .u8 37), .lit (.int .u8 16), .lit (.int .u8 46), .lit (.int .u8 35), .lit (.int .u8 44), .lit (.int .u8 21), .lit (.int .u8 52), .lit (.int .u8 32), .lit (.int .u8 23), .lit (.int .u8 11), .lit (.int .u8 54), .lit (.int .u8 26), .lit (.int .u8 40), .lit (.int .u8 15), .lit (.int .u8 34), .lit (.int .u8 20), .lit (.int .u8 31), .lit (.int .u8 10), .lit (.int .u8 25), .lit (.int .u8 14), .lit (.int .u8 19), .lit (.int .u8 9), .lit (.int .u8 13), .lit (.int .u8 8), .lit (.int .u8 7), .lit (.int .u8 6)]
def laid_internal_strconv_uint64pow10 {H : Type} : DataW H := .agg [.lit (.int .u64 1), .lit (.int .u64 10), .lit (.int .u64 100), .lit (.int .u64 1000), .lit (.int .u64 10000), .lit (.int .u64 100000), .lit (.int .u64 1000000), .lit (.int .u64 10000000), .lit (.int .u64 100000000), .lit (.int .u64 1000000000), .lit (.int .u64 10000000000), .lit (.int .u64 100000000000), .lit (.int .u64 1000000000000), .lit (.int .u64 10000000000000), .lit (.int .u64 100000000000000), .lit (.int .u64 1000000000000000), .lit (.int .u64 10000000000000000), .lit (.int .u64 100000000000000000), .lit (.int .u64 1000000000000000000), .lit (.int .u64 10000000000000000000)]

/-- 'dayshiftlaw08.JdlMore': WHATEVER THE INPUT: true; the input reads as it did. -/
def jdlMoreSpec : ChangeSpec := { name := "jdlMore", fn := fun _ => fun
  | [d] => { results := [.lit (.bool true)], args := [d] }
  | _ => none }
def jdlMoreRow : OpenClaim := { program := "ytkpgfhapffijkaagreatdoor", sum := "8e866d08609f6b2f9425a190e997954a0b38c544393cc7a6963f67237fadafc8", func := "dayshift/dayshiftlaw08.JdlMore", spec := "jdlMore", inPlace := ["internal/bytealg.IndexByteString"], unfollowed := true, recurses := true, named := ["dayshift/date.lengths"], plainKeys := false, apart := false, laid := [("dayshift/date.lengths", laid_dayshift_date_lengths)] }
def JdlMoreSaid : Prop := jdlMoreRow.holds Tryz.pinned (OpenSpec.ofChange jdlMoreSpec)

/-- ITS FALSE NEIGHBOUR: 'it returns false'. Refute it at one input. -/
def jdlMoreWrong : ChangeSpec := { name := "jdlMore", fn := fun _ => fun
  | [d] => { results := [.lit (.bool false)], args := [d] }
  | _ => none }
def JdlMoreWrongFalsely : Prop := jdlMoreRow.holds Tryz.pinned (OpenSpec.ofChange jdlMoreWrong)

/-- 'dayshiftlaw09.RuleFewer': WHATEVER THE INPUT: true; the input reads as it did. -/
def ruleFewerSpec : ChangeSpec := { name := "ruleFewer", fn := fun _ => fun
  | [d1, d2] => { results := [.lit (.bool true)], args := [d1, d2] }
  | _ => none }
def ruleFewerRow : OpenClaim := { program := "ytkpgfhapffijkaagreatdoor", sum := "8e866d08609f6b2f9425a190e997954a0b38c544393cc7a6963f67237fadafc8", func := "dayshift/dayshiftlaw09.RuleFewer", spec := "ruleFewer", inPlace := ["internal/bytealg.IndexByteString"], unfollowed := true, recurses := true, named := ["dayshift/date.lengths", "dayshift/cal.shapes", "math/bits.deBruijn32tab"], plainKeys := false, apart := false, laid := [("dayshift/date.lengths", laid_dayshift_date_lengths), ("math/bits.deBruijn32tab", laid_math_bits_deBruijn32tab), ("dayshift/cal.shapes", laid_dayshift_cal_shapes)] }
def RuleFewerSaid : Prop := ruleFewerRow.holds Tryz.pinned (OpenSpec.ofChange ruleFewerSpec)

/-- ITS FALSE NEIGHBOUR: 'it returns false'. Refute it at one input. -/
def ruleFewerWrong : ChangeSpec := { name := "ruleFewer", fn := fun _ => fun
  | [d1, d2] => { results := [.lit (.bool false)], args := [d1, d2] }
  | _ => none }
def RuleFewerWrongFalsely : Prop := ruleFewerRow.holds Tryz.pinned (OpenSpec.ofChange ruleFewerWrong)

/-- 'dayshiftlaw09.RuleOrder': WHATEVER THE INPUT: true; the input reads as it did. -/
def ruleOrderSpec : ChangeSpec := { name := "ruleOrder", fn := fun _ => fun
  | [d] => { results := [.lit (.bool true)], args := [d] }
  | _ => none }
def ruleOrderRow : OpenClaim := { program := "ytkpgfhapffijkaagreatdoor", sum := "8e866d08609f6b2f9425a190e997954a0b38c544393cc7a6963f67237fadafc8", func := "dayshift/dayshiftlaw09.RuleOrder", spec := "ruleOrder", inPlace := ["internal/bytealg.IndexByteString"], unfollowed := true, recurses := true, named := ["dayshift/date.lengths", "dayshift/cal.shapes", "math/bits.deBruijn32tab"], plainKeys := false, apart := false, laid := [("dayshift/date.lengths", laid_dayshift_date_lengths), ("math/bits.deBruijn32tab", laid_math_bits_deBruijn32tab), ("dayshift/cal.shapes", laid_dayshift_cal_shapes)] }
def RuleOrderSaid : Prop := ruleOrderRow.holds Tryz.pinned (OpenSpec.ofChange ruleOrderSpec)

/-- ITS FALSE NEIGHBOUR: 'it returns false'. Refute it at one input. -/
def ruleOrderWrong : ChangeSpec := { name := "ruleOrder", fn := fun _ => fun
  | [d] => { results := [.lit (.bool false)], args := [d] }
  | _ => none }
def RuleOrderWrongFalsely : Prop := ruleOrderRow.holds Tryz.pinned (OpenSpec.ofChange ruleOrderWrong)

/-- 'dayshiftlaw10.BookNext': WHATEVER THE INPUT: true; the input reads as it did. -/
def bookNextSpec : ChangeSpec := { name := "bookNext", fn := fun _ => fun
  | [d1, d2, d3] => { results := [.lit (.bool true)], args := [d1, d2, d3] }
  | _ => none }
def bookNextRow : OpenClaim := { program := "ytkpgfhapffijkaagreatdoor", sum := "8e866d08609f6b2f9425a190e997954a0b38c544393cc7a6963f67237fadafc8", func := "dayshift/dayshiftlaw10.BookNext", spec := "bookNext", inPlace := ["internal/bytealg.IndexByteString", "internal/abi.NoEscape", "internal/bytealg.MakeNoZero"], unfollowed := true, recurses := true, named := ["dayshift/date.lengths", "dayshift/cal.shapes", "math/bits.deBruijn32tab", "dayshift/week.digits", "internal/strconv.uint64pow10", "math/bits.deBruijn64tab"], plainKeys := false, apart := false, laid := [("dayshift/date.lengths", laid_dayshift_date_lengths), ("dayshift/week.digits", laid_dayshift_week_digits), ("math/bits.deBruijn32tab", laid_math_bits_deBruijn32tab), ("math/bits.deBruijn64tab", laid_math_bits_deBruijn64tab), ("internal/strconv.uint64pow10", laid_internal_strconv_uint64pow10), ("dayshift/cal.shapes", laid_dayshift_cal_shapes)] }
def BookNextSaid : Prop := bookNextRow.holds Tryz.pinned (OpenSpec.ofChange bookNextSpec)

/-- ITS FALSE NEIGHBOUR: 'it returns false'. Refute it at one input. -/
def bookNextWrong : ChangeSpec := { name := "bookNext", fn := fun _ => fun
  | [d1, d2, d3] => { results := [.lit (.bool false)], args := [d1, d2, d3] }
  | _ => none }
def BookNextWrongFalsely : Prop := bookNextRow.holds Tryz.pinned (OpenSpec.ofChange bookNextWrong)

/-- 'dayshiftlaw10.BookNil': WHATEVER THE INPUT: true; the input reads as it did. -/
def bookNilSpec : ChangeSpec := { name := "bookNil", fn := fun _ => fun
  | [d1, d2, d3] => { results := [.lit (.bool true)], args := [d1, d2, d3] }
  | _ => none }
def bookNilRow : OpenClaim := { program := "ytkpgfhapffijkaagreatdoor", sum := "8e866d08609f6b2f9425a190e997954a0b38c544393cc7a6963f67237fadafc8", func := "dayshift/dayshiftlaw10.BookNil", spec := "bookNil", inPlace := ["internal/abi.NoEscape", "internal/bytealg.MakeNoZero", "internal/bytealg.IndexByteString"], unfollowed := true, recurses := true, named := ["dayshift/cal.shapes", "dayshift/date.lengths", "math/bits.deBruijn32tab", "dayshift/week.digits", "internal/strconv.uint64pow10", "math/bits.deBruijn64tab"], plainKeys := false, apart := false, laid := [("dayshift/date.lengths", laid_dayshift_date_lengths), ("dayshift/week.digits", laid_dayshift_week_digits), ("math/bits.deBruijn32tab", laid_math_bits_deBruijn32tab), ("math/bits.deBruijn64tab", laid_math_bits_deBruijn64tab), ("internal/strconv.uint64pow10", laid_internal_strconv_uint64pow10), ("dayshift/cal.shapes", laid_dayshift_cal_shapes)] }
def BookNilSaid : Prop := bookNilRow.holds Tryz.pinned (OpenSpec.ofChange bookNilSpec)

/-- ITS FALSE NEIGHBOUR: 'it returns false'. Refute it at one input. -/
def bookNilWrong : ChangeSpec := { name := "bookNil", fn := fun _ => fun
  | [d1, d2, d3] => { results := [.lit (.bool false)], args := [d1, d2, d3] }
  | _ => none }
def BookNilWrongFalsely : Prop := bookNilRow.holds Tryz.pinned (OpenSpec.ofChange bookNilWrong)

/- THE SECOND FORM. 'bulk': how many values and letters a reading holds, each counted each time it is reached (what is shared counts as often as it is met; a slice's spare places count too). A statement '..UptoSaid' is the law's where the arguments, and the package variables that the reading takes, are together of bulk at most 1048576: NARROWER than '..Said'. Prove '..Said' where nothing that the law and all that it calls make is longer than what came in: it says more and counts as full. Else prove '..UptoSaid'. A law counts once. -/
mutual
def uptoBulk {H : Type} : DataW H → Nat
  | .lit (.string bytes) => bytes.length + 1
  | .lit _ => 1
  | .nil => 1
  | .ptr d => uptoBulk d + 1
  | .slice elems spare => uptoBulkAll elems + uptoBulkAll spare + 1
  | .agg parts => uptoBulkAll parts + 1
  | .iface _ d => uptoBulk d + 1
  | .map entries => uptoBulkEntries entries + 1
  | .held _ => 1
def uptoBulkAll {H : Type} : List (DataW H) → Nat
  | [] => 0
  | d :: r => uptoBulk d + uptoBulkAll r
def uptoBulkEntries {H : Type} : List (Lit × DataW H) → Nat
  | [] => 0
  | x :: r => uptoBulkEntry x + uptoBulkEntries r
def uptoBulkEntry {H : Type} : Lit × DataW H → Nat
  | (.string bytes, d) => bytes.length + uptoBulk d + 1
  | (_, d) => uptoBulk d + 1
 end
def uptoSmall : (H : Type) → List (DataW H) → Bool := fun _ ds => decide (uptoBulkAll ds ≤ 1048576)
def OpenSpec.upto (s : _root_.Go.ChangeSpec) : _root_.Go.OpenSpec := { _root_.Go.OpenSpec.ofChange s with cond := some uptoSmall }

/-- 'dayshiftlaw08.JdlMore', WHERE WHAT IT READS IS OF BULK AT MOST 1048576: true; the input reads as it did. -/
def jdlMoreUptoRow : OpenClaim := { program := "ytkpgfhapffijkaagreatdoor", sum := "8e866d08609f6b2f9425a190e997954a0b38c544393cc7a6963f67237fadafc8", func := "dayshift/dayshiftlaw08.JdlMore", spec := "jdlMore", inPlace := ["internal/bytealg.IndexByteString"], unfollowed := true, recurses := true, named := ["dayshift/date.lengths"], plainKeys := false, apart := false, laid := [("dayshift/date.lengths", laid_dayshift_date_lengths)], narrowed := true }
def JdlMoreUptoSaid : Prop := jdlMoreUptoRow.holds Tryz.pinned (OpenSpec.upto jdlMoreSpec)

/-- 'dayshiftlaw09.RuleFewer', WHERE WHAT IT READS IS OF BULK AT MOST 1048576: true; the input reads as it did. -/
def ruleFewerUptoRow : OpenClaim := { program := "ytkpgfhapffijkaagreatdoor", sum := "8e866d08609f6b2f9425a190e997954a0b38c544393cc7a6963f67237fadafc8", func := "dayshift/dayshiftlaw09.RuleFewer", spec := "ruleFewer", inPlace := ["internal/bytealg.IndexByteString"], unfollowed := true, recurses := true, named := ["dayshift/date.lengths", "dayshift/cal.shapes", "math/bits.deBruijn32tab"], plainKeys := false, apart := false, laid := [("dayshift/date.lengths", laid_dayshift_date_lengths), ("math/bits.deBruijn32tab", laid_math_bits_deBruijn32tab), ("dayshift/cal.shapes", laid_dayshift_cal_shapes)], narrowed := true }
def RuleFewerUptoSaid : Prop := ruleFewerUptoRow.holds Tryz.pinned (OpenSpec.upto ruleFewerSpec)

/-- 'dayshiftlaw09.RuleOrder', WHERE WHAT IT READS IS OF BULK AT MOST 1048576: true; the input reads as it did. -/
def ruleOrderUptoRow : OpenClaim := { program := "ytkpgfhapffijkaagreatdoor", sum := "8e866d08609f6b2f9425a190e997954a0b38c544393cc7a6963f67237fadafc8", func := "dayshift/dayshiftlaw09.RuleOrder", spec := "ruleOrder", inPlace := ["internal/bytealg.IndexByteString"], unfollowed := true, recurses := true, named := ["dayshift/date.lengths", "dayshift/cal.shapes", "math/bits.deBruijn32tab"], plainKeys := false, apart := false, laid := [("dayshift/date.lengths", laid_dayshift_date_lengths), ("math/bits.deBruijn32tab", laid_math_bits_deBruijn32tab), ("dayshift/cal.shapes", laid_dayshift_cal_shapes)], narrowed := true }
def RuleOrderUptoSaid : Prop := ruleOrderUptoRow.holds Tryz.pinned (OpenSpec.upto ruleOrderSpec)

/-- 'dayshiftlaw10.BookNext', WHERE WHAT IT READS IS OF BULK AT MOST 1048576: true; the input reads as it did. -/
def bookNextUptoRow : OpenClaim := { program := "ytkpgfhapffijkaagreatdoor", sum := "8e866d08609f6b2f9425a190e997954a0b38c544393cc7a6963f67237fadafc8", func := "dayshift/dayshiftlaw10.BookNext", spec := "bookNext", inPlace := ["internal/bytealg.IndexByteString", "internal/abi.NoEscape", "internal/bytealg.MakeNoZero"], unfollowed := true, recurses := true, named := ["dayshift/date.lengths", "dayshift/cal.shapes", "math/bits.deBruijn32tab", "dayshift/week.digits", "internal/strconv.uint64pow10", "math/bits.deBruijn64tab"], plainKeys := false, apart := false, laid := [("dayshift/date.lengths", laid_dayshift_date_lengths), ("dayshift/week.digits", laid_dayshift_week_digits), ("math/bits.deBruijn32tab", laid_math_bits_deBruijn32tab), ("math/bits.deBruijn64tab", laid_math_bits_deBruijn64tab), ("internal/strconv.uint64pow10", laid_internal_strconv_uint64pow10), ("dayshift/cal.shapes", laid_dayshift_cal_shapes)], narrowed := true }
def BookNextUptoSaid : Prop := bookNextUptoRow.holds Tryz.pinned (OpenSpec.upto bookNextSpec)

/-- 'dayshiftlaw10.BookNil', WHERE WHAT IT READS IS OF BULK AT MOST 1048576: true; the input reads as it did. -/
def bookNilUptoRow : OpenClaim := { program := "ytkpgfhapffijkaagreatdoor", sum := "8e866d08609f6b2f9425a190e997954a0b38c544393cc7a6963f67237fadafc8", func := "dayshift/dayshiftlaw10.BookNil", spec := "bookNil", inPlace := ["internal/abi.NoEscape", "internal/bytealg.MakeNoZero", "internal/bytealg.IndexByteString"], unfollowed := true, recurses := true, named := ["dayshift/cal.shapes", "dayshift/date.lengths", "math/bits.deBruijn32tab", "dayshift/week.digits", "internal/strconv.uint64pow10", "math/bits.deBruijn64tab"], plainKeys := false, apart := false, laid := [("dayshift/date.lengths", laid_dayshift_date_lengths), ("dayshift/week.digits", laid_dayshift_week_digits), ("math/bits.deBruijn32tab", laid_math_bits_deBruijn32tab), ("math/bits.deBruijn64tab", laid_math_bits_deBruijn64tab), ("internal/strconv.uint64pow10", laid_internal_strconv_uint64pow10), ("dayshift/cal.shapes", laid_dayshift_cal_shapes)], narrowed := true }
def BookNilUptoSaid : Prop := bookNilUptoRow.holds Tryz.pinned (OpenSpec.upto bookNilSpec)

end Rows
end Go.Proofs.YtkpgfhapffijkaaGreatDoor
