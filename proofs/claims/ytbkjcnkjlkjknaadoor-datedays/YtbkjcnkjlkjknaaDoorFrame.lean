/- What each law's row gives its walk: the tables that it lists, cell by cell; and a world that meets the list. -/
import Derived.Test.YtbkjcnkjlkjknaaDoorLeaf
import Derived.WalkKit
import Derived.ProofKit
import Derived.OpenShut
import Derived.ShutString
import Derived.ChangeOld
import Derived.Below
import Derived.Deep.DeepHandedRow
import Derived.Lib.LaidTab
namespace Go.Proofs.YtbkjcnkjlkjknaaDoor
open Go.ChangeShapes Go.WideShapes Go.ChangeAt Go.RowKit

theorem own : ownKnob Tryd.prog.godebug = none := by kernel_rfl
theorem gTab : Tryd.prog.globalNamed (Rows.dateYearsRow.laid.headD ("", .nil)).1 = some 0 := by kernel_rfl
theorem gTabType : (Tryd.prog.globals[0]?).map (·.type) = some 43 := by kernel_rfl
theorem cells43 : Tryd.prog.cellsOf 43 = 12 := by kernel_rfl
theorem cells2 : Tryd.prog.cellsOf 2 = 1 := by kernel_rfl

theorem table {W : World} (h : laidMetH Tryd.prog Rows.dateYearsRow.laid W) : Lib.TabIs Tryd.prog W (Rows.dateYearsRow.laid.headD ("", .nil)).1 .i64 [31, 28, 31, 30, 31, 30, 31, 31, 30, 31, 30, 31] :=
  Lib.tabIs_of_head (rest := []) gTab gTabType Tryd.underlying43 Tryd.underlying2 cells2 cells43 h

theorem tab_of_table {W : World} (h : Lib.TabIs Tryd.prog W (Rows.dateYearsRow.laid.headD ("", .nil)).1 .i64 [31, 28, 31, 30, 31, 30, 31, 31, 30, 31, 30, 31]) : Tab W := by
  refine ⟨World.block_lt_of_cell? W _ (h.cell gTab 0 (by decide)), fun m m1 m2 => ?_⟩
  rcases DsCal.months m1 m2 with rfl | rfl | rfl | rfl | rfl | rfl | rfl | rfl | rfl | rfl | rfl | rfl
  · exact h.cell gTab 0 (by decide)
  · exact h.cell gTab 1 (by decide)
  · exact h.cell gTab 2 (by decide)
  · exact h.cell gTab 3 (by decide)
  · exact h.cell gTab 4 (by decide)
  · exact h.cell gTab 5 (by decide)
  · exact h.cell gTab 6 (by decide)
  · exact h.cell gTab 7 (by decide)
  · exact h.cell gTab 8 (by decide)
  · exact h.cell gTab 9 (by decide)
  · exact h.cell gTab 10 (by decide)
  · exact h.cell gTab 11 (by decide)
theorem tab_of {W : World} (h : laidMetH Tryd.prog Rows.dateYearsRow.laid W) : Tab W := tab_of_table (table h)

/-- A world for the witness: the settled one, the table (block 0) holding what its initialiser lays. -/
def laidWorld1 (P : Program) (os : Os) : World :=
  { World.holding P os ⟨#[], #[], []⟩ with heap := (World.holding P os ⟨#[], #[], []⟩).heap.modify 0 fun
      | .cells _ t frozen => .cells #[.int .i64 31, .int .i64 28, .int .i64 31, .int .i64 30, .int .i64 31, .int .i64 30, .int .i64 31, .int .i64 31, .int .i64 30, .int .i64 31, .int .i64 30, .int .i64 31] t frozen
      | o => o }
end Go.Proofs.YtbkjcnkjlkjknaaDoor
