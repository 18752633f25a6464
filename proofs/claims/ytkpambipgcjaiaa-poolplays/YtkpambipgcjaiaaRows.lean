/-
  No cell of these rows narrows 'for every input' (looked for: loops, veiled, ifaces, maps, wideKeys, modest, calm, conditions, laid).
  DERIVED. THE GIVEN ROWS OF THIS SEAT. 11 by the template 'for every input the law returns true; each argument reads behind the call as it read before'; 0 by the template 'total and deterministic' (their statements: YtkpambipgcjaiaaTotals.lean).
  GIVEN WITH THE SEED: the statements are not yours to turn. If you find one false, say at which input.
  Laid BY PROGRAM, IN A SANDBOX (cutbox-rows.mjs): the forced cells as the released guide's own fill.sh prints them over the translation ee1def587189c825… (all of the seat's roots in one cut). By AI agents, Wed Nov 11 2026. No macro, syntax, notation, axiom, sorry.
-/
import Derived.Test.YtkpambipgcjaiaaChecked
import GoSem.Claim
import GoSem.ClaimJoined
import GoSem.ClaimMapViews
import Derived.JoinedTies
import Derived.KernelRfl
namespace Go.Proofs.Ytkpambipgcjaiaa
/- THE CELL 'sum', in the pinned program and in every row, IS THE sha256 OF THE DUMP (.gsa) THAT YtkpambipgcjaiaaProg.lean LOADS. Nothing in Lean hashes anything: it is a label: what it is worth is what the hold of that sum in a sandbox is worth. -/
noncomputable def Try.pinned : Pinned := { name := "ytkpambipgcjaiaa", sum := "ee1def587189c82578da83b0a784b8615eee57f3d3aa8c227dc1930dcccd7cf6", checked := Try.checked }
namespace Rows
def none {H : Type} : Left H := { results := [], args := [] }

/-- 'dayshiftlaw13.PoolPlays': WHATEVER THE INPUT: true; the input reads as it did. -/
def poolPlaysSpec : ChangeSpec := { name := "poolPlays", fn := fun _ => fun
  | [d1, d2] => { results := [.lit (.bool true)], args := [d1, d2] }
  | _ => none }
def poolPlaysRow : OpenClaim := { program := "ytkpambipgcjaiaa", sum := "ee1def587189c82578da83b0a784b8615eee57f3d3aa8c227dc1930dcccd7cf6", func := "dayshift/dayshiftlaw13.PoolPlays", spec := "poolPlays", unfollowed := true, recurses := true, plainKeys := false, apart := false }
def PoolPlaysSaid : Prop := poolPlaysRow.holds Try.pinned (OpenSpec.ofChange poolPlaysSpec)

/-- ITS FALSE NEIGHBOUR: 'it returns false'. Refute it at one input. -/
def poolPlaysWrong : ChangeSpec := { name := "poolPlays", fn := fun _ => fun
  | [d1, d2] => { results := [.lit (.bool false)], args := [d1, d2] }
  | _ => none }
def PoolPlaysWrongFalsely : Prop := poolPlaysRow.holds Try.pinned (OpenSpec.ofChange poolPlaysWrong)

/-- 'dayshiftlaw13.PoolBack': WHATEVER THE INPUT: true; the input reads as it did. -/
def poolBackSpec : ChangeSpec := { name := "poolBack", fn := fun _ => fun
  | [d1, d2, d3] => { results := [.lit (.bool true)], args := [d1, d2, d3] }
  | _ => none }
def poolBackRow : OpenClaim := { program := "ytkpambipgcjaiaa", sum := "ee1def587189c82578da83b0a784b8615eee57f3d3aa8c227dc1930dcccd7cf6", func := "dayshift/dayshiftlaw13.PoolBack", spec := "poolBack", unfollowed := true, recurses := true, plainKeys := false, apart := false }
def PoolBackSaid : Prop := poolBackRow.holds Try.pinned (OpenSpec.ofChange poolBackSpec)

/-- ITS FALSE NEIGHBOUR: 'it returns false'. Refute it at one input. -/
def poolBackWrong : ChangeSpec := { name := "poolBack", fn := fun _ => fun
  | [d1, d2, d3] => { results := [.lit (.bool false)], args := [d1, d2, d3] }
  | _ => none }
def PoolBackWrongFalsely : Prop := poolBackRow.holds Try.pinned (OpenSpec.ofChange poolBackWrong)

/-- 'dayshiftlaw14.NeedFits': WHATEVER THE INPUT: true; the input reads as it did. -/
def needFitsSpec : ChangeSpec := { name := "needFits", fn := fun _ => fun
  | [d1, d2, d3, d4] => { results := [.lit (.bool true)], args := [d1, d2, d3, d4] }
  | _ => none }
def needFitsRow : OpenClaim := { program := "ytkpambipgcjaiaa", sum := "ee1def587189c82578da83b0a784b8615eee57f3d3aa8c227dc1930dcccd7cf6", func := "dayshift/dayshiftlaw14.NeedFits", spec := "needFits", inPlace := ["internal/abi.NoEscape", "internal/bytealg.MakeNoZero"], unfollowed := true, recurses := true, plainKeys := false, apart := false }
def NeedFitsSaid : Prop := needFitsRow.holds Try.pinned (OpenSpec.ofChange needFitsSpec)

/-- ITS FALSE NEIGHBOUR: 'it returns false'. Refute it at one input. -/
def needFitsWrong : ChangeSpec := { name := "needFits", fn := fun _ => fun
  | [d1, d2, d3, d4] => { results := [.lit (.bool false)], args := [d1, d2, d3, d4] }
  | _ => none }
def NeedFitsWrongFalsely : Prop := needFitsRow.holds Try.pinned (OpenSpec.ofChange needFitsWrong)

/-- 'dayshiftlaw14.NeedBoth': WHATEVER THE INPUT: true; the input reads as it did. -/
def needBothSpec : ChangeSpec := { name := "needBoth", fn := fun _ => fun
  | [d1, d2, d3] => { results := [.lit (.bool true)], args := [d1, d2, d3] }
  | _ => none }
def needBothRow : OpenClaim := { program := "ytkpambipgcjaiaa", sum := "ee1def587189c82578da83b0a784b8615eee57f3d3aa8c227dc1930dcccd7cf6", func := "dayshift/dayshiftlaw14.NeedBoth", spec := "needBoth", inPlace := ["internal/abi.NoEscape", "internal/bytealg.MakeNoZero"], unfollowed := true, recurses := true, plainKeys := false, apart := false }
def NeedBothSaid : Prop := needBothRow.holds Try.pinned (OpenSpec.ofChange needBothSpec)

/-- ITS FALSE NEIGHBOUR: 'it returns false'. Refute it at one input. -/
def needBothWrong : ChangeSpec := { name := "needBoth", fn := fun _ => fun
  | [d1, d2, d3] => { results := [.lit (.bool false)], args := [d1, d2, d3] }
  | _ => none }
def NeedBothWrongFalsely : Prop := needBothRow.holds Try.pinned (OpenSpec.ofChange needBothWrong)

/-- 'dayshiftlaw14.NeedSorted': WHATEVER THE INPUT: true; the input reads as it did. -/
def needSortedSpec : ChangeSpec := { name := "needSorted", fn := fun _ => fun
  | [d1, d2] => { results := [.lit (.bool true)], args := [d1, d2] }
  | _ => none }
def needSortedRow : OpenClaim := { program := "ytkpambipgcjaiaa", sum := "ee1def587189c82578da83b0a784b8615eee57f3d3aa8c227dc1930dcccd7cf6", func := "dayshift/dayshiftlaw14.NeedSorted", spec := "needSorted", inPlace := ["internal/abi.NoEscape", "internal/bytealg.MakeNoZero"], unfollowed := true, recurses := true, plainKeys := false, apart := false }
def NeedSortedSaid : Prop := needSortedRow.holds Try.pinned (OpenSpec.ofChange needSortedSpec)

/-- ITS FALSE NEIGHBOUR: 'it returns false'. Refute it at one input. -/
def needSortedWrong : ChangeSpec := { name := "needSorted", fn := fun _ => fun
  | [d1, d2] => { results := [.lit (.bool false)], args := [d1, d2] }
  | _ => none }
def NeedSortedWrongFalsely : Prop := needSortedRow.holds Try.pinned (OpenSpec.ofChange needSortedWrong)

/-- 'dayshiftlaw14.NeedHeld': WHATEVER THE INPUT: true; the input reads as it did. -/
def needHeldSpec : ChangeSpec := { name := "needHeld", fn := fun _ => fun
  | [d1, d2, d3] => { results := [.lit (.bool true)], args := [d1, d2, d3] }
  | _ => none }
def needHeldRow : OpenClaim := { program := "ytkpambipgcjaiaa", sum := "ee1def587189c82578da83b0a784b8615eee57f3d3aa8c227dc1930dcccd7cf6", func := "dayshift/dayshiftlaw14.NeedHeld", spec := "needHeld", inPlace := ["internal/abi.NoEscape", "internal/bytealg.MakeNoZero"], unfollowed := true, recurses := true, plainKeys := false, apart := false }
def NeedHeldSaid : Prop := needHeldRow.holds Try.pinned (OpenSpec.ofChange needHeldSpec)

/-- ITS FALSE NEIGHBOUR: 'it returns false'. Refute it at one input. -/
def needHeldWrong : ChangeSpec := { name := "needHeld", fn := fun _ => fun
  | [d1, d2, d3] => { results := [.lit (.bool false)], args := [d1, d2, d3] }
  | _ => none }
def NeedHeldWrongFalsely : Prop := needHeldRow.holds Try.pinned (OpenSpec.ofChange needHeldWrong)

/-- 'dayshiftlaw15.WhenOpens': WHATEVER THE INPUT: true; the input reads as it did. -/
def whenOpensSpec : ChangeSpec := { name := "whenOpens", fn := fun _ => fun
  | [d1, d2, d3] => { results := [.lit (.bool true)], args := [d1, d2, d3] }
  | _ => none }
def whenOpensRow : OpenClaim := { program := "ytkpambipgcjaiaa", sum := "ee1def587189c82578da83b0a784b8615eee57f3d3aa8c227dc1930dcccd7cf6", func := "dayshift/dayshiftlaw15.WhenOpens", spec := "whenOpens", plainKeys := false, apart := false }
def WhenOpensSaid : Prop := whenOpensRow.holds Try.pinned (OpenSpec.ofChange whenOpensSpec)

/-- ITS FALSE NEIGHBOUR: 'it returns false'. Refute it at one input. -/
def whenOpensWrong : ChangeSpec := { name := "whenOpens", fn := fun _ => fun
  | [d1, d2, d3] => { results := [.lit (.bool false)], args := [d1, d2, d3] }
  | _ => none }
def WhenOpensWrongFalsely : Prop := whenOpensRow.holds Try.pinned (OpenSpec.ofChange whenOpensWrong)

/-- 'dayshiftlaw15.WhenNexts': WHATEVER THE INPUT: true; the input reads as it did. -/
def whenNextsSpec : ChangeSpec := { name := "whenNexts", fn := fun _ => fun
  | [d1, d2, d3] => { results := [.lit (.bool true)], args := [d1, d2, d3] }
  | _ => none }
def whenNextsRow : OpenClaim := { program := "ytkpambipgcjaiaa", sum := "ee1def587189c82578da83b0a784b8615eee57f3d3aa8c227dc1930dcccd7cf6", func := "dayshift/dayshiftlaw15.WhenNexts", spec := "whenNexts", plainKeys := false, apart := false }
def WhenNextsSaid : Prop := whenNextsRow.holds Try.pinned (OpenSpec.ofChange whenNextsSpec)

/-- ITS FALSE NEIGHBOUR: 'it returns false'. Refute it at one input. -/
def whenNextsWrong : ChangeSpec := { name := "whenNexts", fn := fun _ => fun
  | [d1, d2, d3] => { results := [.lit (.bool false)], args := [d1, d2, d3] }
  | _ => none }
def WhenNextsWrongFalsely : Prop := whenNextsRow.holds Try.pinned (OpenSpec.ofChange whenNextsWrong)

/-- 'dayshiftlaw15.WhenOther': WHATEVER THE INPUT: true; the input reads as it did. -/
def whenOtherSpec : ChangeSpec := { name := "whenOther", fn := fun _ => fun
  | [d1, d2, d3] => { results := [.lit (.bool true)], args := [d1, d2, d3] }
  | _ => none }
def whenOtherRow : OpenClaim := { program := "ytkpambipgcjaiaa", sum := "ee1def587189c82578da83b0a784b8615eee57f3d3aa8c227dc1930dcccd7cf6", func := "dayshift/dayshiftlaw15.WhenOther", spec := "whenOther", plainKeys := false, apart := false }
def WhenOtherSaid : Prop := whenOtherRow.holds Try.pinned (OpenSpec.ofChange whenOtherSpec)

/-- ITS FALSE NEIGHBOUR: 'it returns false'. Refute it at one input. -/
def whenOtherWrong : ChangeSpec := { name := "whenOther", fn := fun _ => fun
  | [d1, d2, d3] => { results := [.lit (.bool false)], args := [d1, d2, d3] }
  | _ => none }
def WhenOtherWrongFalsely : Prop := whenOtherRow.holds Try.pinned (OpenSpec.ofChange whenOtherWrong)

/-- 'dayshiftlaw15.WhenFirst': WHATEVER THE INPUT: true; the input reads as it did. -/
def whenFirstSpec : ChangeSpec := { name := "whenFirst", fn := fun _ => fun
  | [d1, d2, d3, d4] => { results := [.lit (.bool true)], args := [d1, d2, d3, d4] }
  | _ => none }
def whenFirstRow : OpenClaim := { program := "ytkpambipgcjaiaa", sum := "ee1def587189c82578da83b0a784b8615eee57f3d3aa8c227dc1930dcccd7cf6", func := "dayshift/dayshiftlaw15.WhenFirst", spec := "whenFirst", plainKeys := false, apart := false }
def WhenFirstSaid : Prop := whenFirstRow.holds Try.pinned (OpenSpec.ofChange whenFirstSpec)

/-- ITS FALSE NEIGHBOUR: 'it returns false'. Refute it at one input. -/
def whenFirstWrong : ChangeSpec := { name := "whenFirst", fn := fun _ => fun
  | [d1, d2, d3, d4] => { results := [.lit (.bool false)], args := [d1, d2, d3, d4] }
  | _ => none }
def WhenFirstWrongFalsely : Prop := whenFirstRow.holds Try.pinned (OpenSpec.ofChange whenFirstWrong)

/-- 'dayshiftlaw15.WhenLeft': WHATEVER THE INPUT: true; the input reads as it did. -/
def whenLeftSpec : ChangeSpec := { name := "whenLeft", fn := fun _ => fun
  | [d1, d2, d3] => { results := [.lit (.bool true)], args := [d1, d2, d3] }
  | _ => none }
def whenLeftRow : OpenClaim := { program := "ytkpambipgcjaiaa", sum := "ee1def587189c82578da83b0a784b8615eee57f3d3aa8c227dc1930dcccd7cf6", func := "dayshift/dayshiftlaw15.WhenLeft", spec := "whenLeft", plainKeys := false, apart := false }
def WhenLeftSaid : Prop := whenLeftRow.holds Try.pinned (OpenSpec.ofChange whenLeftSpec)

/-- ITS FALSE NEIGHBOUR: 'it returns false'. Refute it at one input. -/
def whenLeftWrong : ChangeSpec := { name := "whenLeft", fn := fun _ => fun
  | [d1, d2, d3] => { results := [.lit (.bool false)], args := [d1, d2, d3] }
  | _ => none }
def WhenLeftWrongFalsely : Prop := whenLeftRow.holds Try.pinned (OpenSpec.ofChange whenLeftWrong)

/- THE SECOND FORM. 'bulk': how many values and letters a reading holds, each counted each time it is reached (what is shared counts as often as it is met; a slice's spare places count too). A statement '..UptoSaid' is the law's where the arguments, and the package variables that the reading takes, are together of bulk at most 1048576: NARROWER than '..Said'. Prove '..Said' where nothing that the law and all that it calls make is longer than what came in: it says more and counts as full. Else prove '..UptoSaid'. A law counts once. -/
mutual
def uptoBulk {H : Type} : DataW H → Nat
  | .lit (.string bytes) => bytes.length + 1
  | .lit _ => 1
  | .nil => 1
  | .ptr d => uptoBulk d + 1
  | .slice elems spare => uptoBulkAll elems + uptoBulkAll spare + 1
  | .agg parts => uptoBulkAll parts + 1
  | .iface _ d => uptoBulk d + 1
  | .map entries => uptoBulkEntries entries + 1
  | .held _ => 1
def uptoBulkAll {H : Type} : List (DataW H) → Nat
  | [] => 0
  | d :: r => uptoBulk d + uptoBulkAll r
def uptoBulkEntries {H : Type} : List (Lit × DataW H) → Nat
  | [] => 0
  | x :: r => uptoBulkEntry x + uptoBulkEntries r
def uptoBulkEntry {H : Type} : Lit × DataW H → Nat
  | (.string bytes, d) => bytes.length + uptoBulk d + 1
  | (_, d) => uptoBulk d + 1
 end
def uptoSmall : (H : Type) → List (DataW H) → Bool := fun _ ds => decide (uptoBulkAll ds ≤ 1048576)
def OpenSpec.upto (s : _root_.Go.ChangeSpec) : _root_.Go.OpenSpec := { _root_.Go.OpenSpec.ofChange s with cond := some uptoSmall }

/-- 'dayshiftlaw13.PoolPlays', WHERE WHAT IT READS IS OF BULK AT MOST 1048576: true; the input reads as it did. -/
def poolPlaysUptoRow : OpenClaim := { program := "ytkpambipgcjaiaa", sum := "ee1def587189c82578da83b0a784b8615eee57f3d3aa8c227dc1930dcccd7cf6", func := "dayshift/dayshiftlaw13.PoolPlays", spec := "poolPlays", unfollowed := true, recurses := true, plainKeys := false, apart := false, narrowed := true }
def PoolPlaysUptoSaid : Prop := poolPlaysUptoRow.holds Try.pinned (OpenSpec.upto poolPlaysSpec)

/-- 'dayshiftlaw13.PoolBack', WHERE WHAT IT READS IS OF BULK AT MOST 1048576: true; the input reads as it did. -/
def poolBackUptoRow : OpenClaim := { program := "ytkpambipgcjaiaa", sum := "ee1def587189c82578da83b0a784b8615eee57f3d3aa8c227dc1930dcccd7cf6", func := "dayshift/dayshiftlaw13.PoolBack", spec := "poolBack", unfollowed := true, recurses := true, plainKeys := false, apart := false, narrowed := true }
def PoolBackUptoSaid : Prop := poolBackUptoRow.holds Try.pinned (OpenSpec.upto poolBackSpec)

/-- 'dayshiftlaw14.NeedFits', WHERE WHAT IT READS IS OF BULK AT MOST 1048576: true; the input reads as it did. -/
def needFitsUptoRow : OpenClaim := { program := "ytkpambipgcjaiaa", sum := "ee1def587189c82578da83b0a784b8615eee57f3d3aa8c227dc1930dcccd7cf6", func := "dayshift/dayshiftlaw14.NeedFits", spec := "needFits", inPlace := ["internal/abi.NoEscape", "internal/bytealg.MakeNoZero"], unfollowed := true, recurses := true, plainKeys := false, apart := false, narrowed := true }
def NeedFitsUptoSaid : Prop := needFitsUptoRow.holds Try.pinned (OpenSpec.upto needFitsSpec)

/-- 'dayshiftlaw14.NeedBoth', WHERE WHAT IT READS IS OF BULK AT MOST 1048576: true; the input reads as it did. -/
def needBothUptoRow : OpenClaim := { program := "ytkpambipgcjaiaa", sum := "ee1def587189c82578da83b0a784b8615eee57f3d3aa8c227dc1930dcccd7cf6", func := "dayshift/dayshiftlaw14.NeedBoth", spec := "needBoth", inPlace := ["internal/abi.NoEscape", "internal/bytealg.MakeNoZero"], unfollowed := true, recurses := true, plainKeys := false, apart := false, narrowed := true }
def NeedBothUptoSaid : Prop := needBothUptoRow.holds Try.pinned (OpenSpec.upto needBothSpec)

/-- 'dayshiftlaw14.NeedSorted', WHERE WHAT IT READS IS OF BULK AT MOST 1048576: true; the input reads as it did. -/
def needSortedUptoRow : OpenClaim := { program := "ytkpambipgcjaiaa", sum := "ee1def587189c82578da83b0a784b8615eee57f3d3aa8c227dc1930dcccd7cf6", func := "dayshift/dayshiftlaw14.NeedSorted", spec := "needSorted", inPlace := ["internal/abi.NoEscape", "internal/bytealg.MakeNoZero"], unfollowed := true, recurses := true, plainKeys := false, apart := false, narrowed := true }
def NeedSortedUptoSaid : Prop := needSortedUptoRow.holds Try.pinned (OpenSpec.upto needSortedSpec)

/-- 'dayshiftlaw14.NeedHeld', WHERE WHAT IT READS IS OF BULK AT MOST 1048576: true; the input reads as it did. -/
def needHeldUptoRow : OpenClaim := { program := "ytkpambipgcjaiaa", sum := "ee1def587189c82578da83b0a784b8615eee57f3d3aa8c227dc1930dcccd7cf6", func := "dayshift/dayshiftlaw14.NeedHeld", spec := "needHeld", inPlace := ["internal/abi.NoEscape", "internal/bytealg.MakeNoZero"], unfollowed := true, recurses := true, plainKeys := false, apart := false, narrowed := true }
def NeedHeldUptoSaid : Prop := needHeldUptoRow.holds Try.pinned (OpenSpec.upto needHeldSpec)

/-- 'dayshiftlaw15.WhenOpens', WHERE WHAT IT READS IS OF BULK AT MOST 1048576: true; the input reads as it did. -/
def whenOpensUptoRow : OpenClaim := { program := "ytkpambipgcjaiaa", sum := "ee1def587189c82578da83b0a784b8615eee57f3d3aa8c227dc1930dcccd7cf6", func := "dayshift/dayshiftlaw15.WhenOpens", spec := "whenOpens", plainKeys := false, apart := false, narrowed := true }
def WhenOpensUptoSaid : Prop := whenOpensUptoRow.holds Try.pinned (OpenSpec.upto whenOpensSpec)

/-- 'dayshiftlaw15.WhenNexts', WHERE WHAT IT READS IS OF BULK AT MOST 1048576: true; the input reads as it did. -/
def whenNextsUptoRow : OpenClaim := { program := "ytkpambipgcjaiaa", sum := "ee1def587189c82578da83b0a784b8615eee57f3d3aa8c227dc1930dcccd7cf6", func := "dayshift/dayshiftlaw15.WhenNexts", spec := "whenNexts", plainKeys := false, apart := false, narrowed := true }
def WhenNextsUptoSaid : Prop := whenNextsUptoRow.holds Try.pinned (OpenSpec.upto whenNextsSpec)

/-- 'dayshiftlaw15.WhenOther', WHERE WHAT IT READS IS OF BULK AT MOST 1048576: true; the input reads as it did. -/
def whenOtherUptoRow : OpenClaim := { program := "ytkpambipgcjaiaa", sum := "ee1def587189c82578da83b0a784b8615eee57f3d3aa8c227dc1930dcccd7cf6", func := "dayshift/dayshiftlaw15.WhenOther", spec := "whenOther", plainKeys := false, apart := false, narrowed := true }
def WhenOtherUptoSaid : Prop := whenOtherUptoRow.holds Try.pinned (OpenSpec.upto whenOtherSpec)

/-- 'dayshiftlaw15.WhenFirst', WHERE WHAT IT READS IS OF BULK AT MOST 1048576: true; the input reads as it did. -/
def whenFirstUptoRow : OpenClaim := { program := "ytkpambipgcjaiaa", sum := "ee1def587189c82578da83b0a784b8615eee57f3d3aa8c227dc1930dcccd7cf6", func := "dayshift/dayshiftlaw15.WhenFirst", spec := "whenFirst", plainKeys := false, apart := false, narrowed := true }
def WhenFirstUptoSaid : Prop := whenFirstUptoRow.holds Try.pinned (OpenSpec.upto whenFirstSpec)

/-- 'dayshiftlaw15.WhenLeft', WHERE WHAT IT READS IS OF BULK AT MOST 1048576: true; the input reads as it did. -/
def whenLeftUptoRow : OpenClaim := { program := "ytkpambipgcjaiaa", sum := "ee1def587189c82578da83b0a784b8615eee57f3d3aa8c227dc1930dcccd7cf6", func := "dayshift/dayshiftlaw15.WhenLeft", spec := "whenLeft", plainKeys := false, apart := false, narrowed := true }
def WhenLeftUptoSaid : Prop := whenLeftUptoRow.holds Try.pinned (OpenSpec.upto whenLeftSpec)

end Rows
end Go.Proofs.Ytkpambipgcjaiaa
