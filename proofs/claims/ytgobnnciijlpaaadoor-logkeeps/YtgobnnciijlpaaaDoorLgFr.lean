/- What each law's row gives its walk: the table that it lists, cell by cell; and a world that meets the list. -/
import Derived.Test.YtgobnnciijlpaaaDoorLgA
import Derived.Test.YtgobnnciijlpaaaDoorRows
import Derived.WalkKit
import Derived.ProofKit
import Derived.OpenShut
import Derived.ShutString
import Derived.ChangeOld
import Derived.Below
import Derived.SizedLaws
import Derived.Deep.DeepHandedRow
import Derived.Lib.LaidTab
namespace Go.Proofs.YtgobnnciijlpaaaDoor
open Go.ChangeShapes Go.WideShapes Go.ChangeAt Go.RowKit Go.DsMem Go.DsLg

theorem own : ownKnob Tryd.prog.godebug = none := by kernel_rfl
theorem laidOut : laidOutB Tryd.prog = true := by kernel_rfl
theorem gTab : Tryd.prog.globalNamed (Rows.logNilRow.laid.headD ("", .nil)).1 = some 0 := by kernel_rfl
theorem gTabType : (Tryd.prog.globals[0]?).map (·.type) = some 101 := by kernel_rfl
theorem cellsTab : Tryd.prog.cellsOf 101 = 16 := by kernel_rfl
theorem cellsU32 : Tryd.prog.cellsOf 59 = 1 := by kernel_rfl

theorem table {W : World} (h : laidMetH Tryd.prog Rows.logNilRow.laid W) : Lib.TabIs Tryd.prog W (Rows.logNilRow.laid.headD ("", .nil)).1 .u32 [0, 498536548, 997073096, 651767980, 1994146192, 1802195444, 1303535960, 1342533948, 3988292384, 4027552580, 3604390888, 3412177804, 2607071920, 2262029012, 2685067896, 3183342108] :=
  Lib.tabIs_of_head (rest := []) gTab gTabType Tryd.underlying101 Tryd.underlying59 cellsU32 cellsTab h

theorem tab_of {W : World} (h : laidMetH Tryd.prog Rows.logNilRow.laid W) : Tab W := by
  have h := table h
  intro k hk
  match k, hk with
  | 0, _ => exact h.cell gTab 0 (by decide)
  | 1, _ => exact h.cell gTab 1 (by decide)
  | 2, _ => exact h.cell gTab 2 (by decide)
  | 3, _ => exact h.cell gTab 3 (by decide)
  | 4, _ => exact h.cell gTab 4 (by decide)
  | 5, _ => exact h.cell gTab 5 (by decide)
  | 6, _ => exact h.cell gTab 6 (by decide)
  | 7, _ => exact h.cell gTab 7 (by decide)
  | 8, _ => exact h.cell gTab 8 (by decide)
  | 9, _ => exact h.cell gTab 9 (by decide)
  | 10, _ => exact h.cell gTab 10 (by decide)
  | 11, _ => exact h.cell gTab 11 (by decide)
  | 12, _ => exact h.cell gTab 12 (by decide)
  | 13, _ => exact h.cell gTab 13 (by decide)
  | 14, _ => exact h.cell gTab 14 (by decide)
  | 15, _ => exact h.cell gTab 15 (by decide)
  | k + 16, hk => omega

/-- A world for the witness: the settled one, the table (block 0) holding what its initialiser lays. -/
def laidWorld1 (P : Program) (os : Os) : World :=
  { World.holding P os ⟨#[], #[], []⟩ with heap := (World.holding P os ⟨#[], #[], []⟩).heap.modify 0 fun
      | .cells _ t frozen => .cells #[.int .u32 0, .int .u32 498536548, .int .u32 997073096, .int .u32 651767980, .int .u32 1994146192, .int .u32 1802195444, .int .u32 1303535960, .int .u32 1342533948, .int .u32 3988292384, .int .u32 4027552580, .int .u32 3604390888, .int .u32 3412177804, .int .u32 2607071920, .int .u32 2262029012, .int .u32 2685067896, .int .u32 3183342108] t frozen
      | o => o }
end Go.Proofs.YtgobnnciijlpaaaDoor
