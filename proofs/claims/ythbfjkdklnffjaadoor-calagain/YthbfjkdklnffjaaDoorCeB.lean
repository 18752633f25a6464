/- Package cal: the map of what was asked. -/
import Derived.Test.YthbfjkdklnffjaaDoorCeA
import Derived.Maps.OwnSet
import Derived.Maps.Views
import Derived.DeepKeys4
namespace Go.Proofs.YthbfjkdklnffjaaDoor
open Go.ChangeShapes Go.WideShapes Go.ChangeAt Go.RowKit Go.DsMem Go.DsMk
set_option linter.unusedVariables false

theorem laidOutK : laidOutB Tryd.prog = true := by kernel_rfl
theorem askedRow : 91 < Tryd.prog.types.size := of_decide_eq_true (by kernel_rfl)
theorem askedLaw : Maps.Keyed Tryd.prog 91 := Maps.Keyed.of_law (deep_law_laid laidOutK (m := 4) (by decide) askedRow (by kernel_rfl) (by kernel_rfl))
theorem askedType : Tryd.prog.keyType 91 = true := by kernel_rfl
theorem askedCells : Tryd.prog.cellsOf 91 = 2 := by kernel_rfl
theorem int1 : Tryd.prog.cellsOf 3 = 1 := by kernel_rfl
theorem int641 : Tryd.prog.cellsOf 2 = 1 := by kernel_rfl
def askV (c : Nat) (f : Int) : Value := .agg #[.int .i64 c, .int .i64 f]
theorem wf64 {n : Int} (h1 : -9223372036854775808 ≤ n) (h2 : n ≤ 9223372036854775807) : (Lit.int .i64 n).wf = true := WalkArith.wf_i64 ⟨h1, h2⟩
theorem asked_key (c : Nat) (f : Int) (hc : c ≤ 1000000) (h1 : 1 ≤ f) (h2 : f ≤ 3652059) : ∃ kl, keyOf Tryd.prog 91 (askV c f) = some kl := by
  have w1 : (Lit.int .i64 (c : Int)).wf = true := wf64 (by omega) (by omega)
  have w2 : (Lit.int .i64 f).wf = true := wf64 (by omega) (by omega)
  unfold keyOf askV
  rw [Tryd.underlying91]
  simp only
  rw [if_pos (by rw [askedType]; simp [Value.formed, Tryd.underlying91, askedCells])]
  have hsz : ∃ m, Tryd.prog.types.size = m + 1 := ⟨Tryd.prog.types.size - 1, by have := askedRow; omega⟩
  obtain ⟨m, hm⟩ := hsz
  rw [hm]
  unfold Program.keyLits
  rw [Tryd.underlying91]
  simp [Value.cells, askedCells, Program.keyLits, Tryd.underlying3, Tryd.underlying2, int1, int641, w1, w2]
end Go.Proofs.YthbfjkdklnffjaaDoor
