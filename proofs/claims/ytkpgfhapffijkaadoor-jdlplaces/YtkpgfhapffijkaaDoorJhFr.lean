/- What each law's row of package cal gives its walk: the three tables that it lists, cell by cell; and a world that meets the list. -/
import Derived.Test.YtkpgfhapffijkaaDoorJ14
import Derived.Test.YtkpgfhapffijkaaDoorMem
import Derived.Test.YtkpgfhapffijkaaDoorRows
import Derived.WalkKit
import Derived.ProofKit
import Derived.OpenShut
import Derived.ShutString
import Derived.ChangeOld
import Derived.Below
import Derived.SizedLaws
import Derived.Deep.Slices
import Derived.Deep.DeepHandedRow
import Derived.Lib.LaidTab
import Derived.Stop.LaidErr
namespace Go.Proofs.YtkpgfhapffijkaaDoor
open Go.ChangeShapes Go.WideShapes Go.ChangeAt Go.RowKit Go.DsMem

theorem own : ownKnob Tryd.prog.godebug = none := by kernel_rfl
theorem laidOut : laidOutB Tryd.prog = true := by kernel_rfl
theorem gLen : Tryd.prog.globalNamed (Rows.jdlPlacesRow.laid.headD ("", .nil)).1 = some 1 := by kernel_rfl
theorem gLenType : (Tryd.prog.globals[1]?).map (·.type) = some 141 := by kernel_rfl
theorem cellsLen : Tryd.prog.cellsOf 141 = 12 := by kernel_rfl
theorem cells_i64 : Tryd.prog.cellsOf 2 = 1 := by kernel_rfl
theorem bytes_i64 : Tryd.prog.bytesOf 2 = 8 := by kernel_rfl
theorem cells_bool : Tryd.prog.cellsOf 4 = 1 := by kernel_rfl

theorem lens {W : World} (h : laidMetH Tryd.prog Rows.jdlPlacesRow.laid W) : Lib.TabIs Tryd.prog W (Rows.jdlPlacesRow.laid.headD ("", .nil)).1 .i64 [31, 28, 31, 30, 31, 30, 31, 31, 30, 31, 30, 31] :=
  Lib.tabIs_of_head (rest := []) gLen gLenType Tryd.underlying141 Tryd.underlying2 cells_i64 cellsLen h
theorem len_of {W : World} (h : laidMetH Tryd.prog Rows.jdlPlacesRow.laid W) : Dt.Tab W := by
  have h := lens h
  refine ⟨World.block_lt_of_cell? W _ (h.cell gLen 0 (by decide)), fun m m1 m2 => ?_⟩
  rcases DsCal.months m1 m2 with rfl | rfl | rfl | rfl | rfl | rfl | rfl | rfl | rfl | rfl | rfl | rfl
  · exact h.cell gLen 0 (by decide)
  · exact h.cell gLen 1 (by decide)
  · exact h.cell gLen 2 (by decide)
  · exact h.cell gLen 3 (by decide)
  · exact h.cell gLen 4 (by decide)
  · exact h.cell gLen 5 (by decide)
  · exact h.cell gLen 6 (by decide)
  · exact h.cell gLen 7 (by decide)
  · exact h.cell gLen 8 (by decide)
  · exact h.cell gLen 9 (by decide)
  · exact h.cell gLen 10 (by decide)
  · exact h.cell gLen 11 (by decide)
theorem len_lt {W : World} (h : laidMetH Tryd.prog Rows.jdlPlacesRow.laid W) : 1 < W.heap.size := (len_of h).1
/-- A world for the witness. -/
def laidBlock (cs : Array Value) : Obj → Obj
  | .cells _ t frozen => .cells cs t frozen
  | o => o
def laidWorld1 (P : Program) (os : Os) : World :=
  { World.holding P os ⟨#[], #[], []⟩ with heap := ((World.holding P os ⟨#[], #[], []⟩).heap.modify 1 (laidBlock #[.int .i64 31, .int .i64 28, .int .i64 31, .int .i64 30, .int .i64 31, .int .i64 30, .int .i64 31, .int .i64 31, .int .i64 30, .int .i64 31, .int .i64 30, .int .i64 31])) }
theorem weights_at {H : Type} {ts : List TypeId} {ds : List (DataW H)} (h : (DataW.weightsEach Tryd.prog ts ds).all (· ≤ reachBytes) = true) {j : Nat} {t : TypeId} {d : DataW H} (ht : ts[j]? = some t) (hd : ds[j]? = some d) :
    (d.weights Tryd.prog t).all (· ≤ reachBytes) = true := by
  rw [List.all_eq_true]
  intro x hx
  exact List.all_eq_true.1 h _ (DataW.weights_mem_each ht hd x hx)
end Go.Proofs.YtkpgfhapffijkaaDoor
