/- What the row of WeekTimes gives its walk: the two tables that it lists; and a world that meets the list. -/
import Derived.Test.YtbkjcnkjlkjknaaDoorFrame
import Derived.Test.YtbkjcnkjlkjknaaDoorWeekT
import Derived.Stop.LaidErr
namespace Go.Proofs.YtbkjcnkjlkjknaaDoor
open Go.ChangeShapes Go.WideShapes Go.ChangeAt Go.RowKit

theorem gDig : Tryd.prog.globalNamed (Rows.weekTimesRow.laid.tail.headD ("", .nil)).1 = some 1 := by kernel_rfl
theorem gDigType : (Tryd.prog.globals[1]?).map (·.type) = some 53 := by kernel_rfl
theorem cells53 : Tryd.prog.cellsOf 53 = 10 := by kernel_rfl
theorem cells5 : Tryd.prog.cellsOf 5 = 1 := by kernel_rfl

theorem lens2 {W : World} (h : laidMetH Tryd.prog Rows.weekTimesRow.laid W) : Lib.TabIs Tryd.prog W (Rows.dateYearsRow.laid.headD ("", .nil)).1 .i64 [31, 28, 31, 30, 31, 30, 31, 31, 30, 31, 30, 31] :=
  Lib.tabIs_of_head (rest := Rows.weekTimesRow.laid.tail) gTab gTabType Tryd.underlying43 Tryd.underlying2 cells2 cells43 h
theorem digs2 {W : World} (h : laidMetH Tryd.prog Rows.weekTimesRow.laid W) : Lib.TabIs Tryd.prog W (Rows.weekTimesRow.laid.tail.headD ("", .nil)).1 .u8 [48, 49, 50, 51, 52, 53, 54, 55, 56, 57] :=
  Lib.tabIs_of_head (rest := []) gDig gDigType Tryd.underlying53 Tryd.underlying5 cells5 cells53 (laidMet.tail (show laidMet Tryd.prog Rows.weekTimesRow.laid W from h))

theorem tab2_of {W : World} (h : Lib.TabIs Tryd.prog W (Rows.weekTimesRow.laid.tail.headD ("", .nil)).1 .u8 [48, 49, 50, 51, 52, 53, 54, 55, 56, 57]) : Tab2 W := by
  refine ⟨World.block_lt_of_cell? W _ (h.cell gDig 0 (by decide)), fun i i0 i9 => ?_⟩
  have hi : i = 0 ∨ i = 1 ∨ i = 2 ∨ i = 3 ∨ i = 4 ∨ i = 5 ∨ i = 6 ∨ i = 7 ∨ i = 8 ∨ i = 9 := by omega
  rcases hi with rfl | rfl | rfl | rfl | rfl | rfl | rfl | rfl | rfl | rfl
  · exact h.cell gDig 0 (by decide)
  · exact h.cell gDig 1 (by decide)
  · exact h.cell gDig 2 (by decide)
  · exact h.cell gDig 3 (by decide)
  · exact h.cell gDig 4 (by decide)
  · exact h.cell gDig 5 (by decide)
  · exact h.cell gDig 6 (by decide)
  · exact h.cell gDig 7 (by decide)
  · exact h.cell gDig 8 (by decide)
  · exact h.cell gDig 9 (by decide)
theorem tabs_of {W : World} (h : laidMetH Tryd.prog Rows.weekTimesRow.laid W) : Tab W ∧ Tab2 W := ⟨tab_of_table (lens2 h), tab2_of (digs2 h)⟩

/-- A world for the witness: the tables (blocks 0 and 1) holding what their initialisers lay. -/
def laidWorld2 (P : Program) (os : Os) : World :=
  { laidWorld1 P os with heap := (laidWorld1 P os).heap.modify 1 fun
      | .cells _ t frozen => .cells #[.int .u8 48, .int .u8 49, .int .u8 50, .int .u8 51, .int .u8 52, .int .u8 53, .int .u8 54, .int .u8 55, .int .u8 56, .int .u8 57] t frozen
      | o => o }
end Go.Proofs.YtbkjcnkjlkjknaaDoor
