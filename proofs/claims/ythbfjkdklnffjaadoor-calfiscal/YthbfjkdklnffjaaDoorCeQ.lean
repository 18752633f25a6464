/- Layer 6's law: what known asks, plain. -/
import Derived.Test.YthbfjkdklnffjaaDoorCeP
namespace Go.Proofs.YthbfjkdklnffjaaDoor
open Go.ChangeShapes Go.WideShapes Go.ChangeAt Go.RowKit Go.DsMem Go.DsMk
set_option linter.unusedVariables false

def wkN : Nd := .mk 1 [31] [] ⟨#[]⟩
def wkB : ByteArray := ⟨#[119, 111, 114, 107]⟩
def wkC : List (ByteArray × Nd) := [(wkB, wkN)]
def workN : Nd := .mk 5 [-1] [] wkB
def fisA : Nd := .mk 6 [445, 1] [] ⟨#[]⟩
def mar24 : Mo := ⟨2024, 3, DsCal.num 2024 3 1, 31⟩
def apr24 : Mo := ⟨2024, 4, DsCal.num 2024 4 1, 30⟩
theorem mar24_ok : mar24.ok := ⟨by unfold mar24 DsCal.vld; decide +kernel, rfl, by decide +kernel⟩
theorem apr24_ok : apr24.ok := ⟨by unfold apr24 DsCal.vld; decide +kernel, rfl, by decide +kernel⟩
theorem num_days : DsCal.num 2024 3 29 = 738974 ∧ DsCal.num 2024 3 30 = 738975 ∧ DsCal.num 2024 4 1 = 738977 ∧ DsCal.num 2024 3 25 = 738970 := by decide +kernel
theorem known_a : inF wkC workN 738974 = (true, 0) := by
  have h : refF wkC workN 738974 = 0 := by decide +kernel
  unfold inF
  rw [if_pos h, ← inB_eq mar24_ok (by decide +kernel) (by decide +kernel)]
  decide +kernel
theorem known_b : inF wkC fisA 738977 = (true, 0) := by
  have h : refF wkC fisA 738977 = 0 := by decide +kernel
  unfold inF
  rw [if_pos h, ← inB_eq apr24_ok (by decide +kernel) (by decide +kernel)]
  decide +kernel
theorem known_d : inF wkC fisA 738970 = (false, 0) := by
  have h : refF wkC fisA 738970 = 0 := by decide +kernel
  unfold inF
  rw [if_pos h, ← inB_eq mar24_ok (by decide +kernel) (by decide +kernel)]
  decide +kernel
theorem known_c : shiftF wkC wkN 1 738975 = (738977, 0) := by
  have h : refF wkC wkN 738975 = 0 := by decide +kernel
  have i0 : inB wkC 257 wkN 738975 = false := by rw [← inB_eq mar24_ok (by decide +kernel) (by decide +kernel)]; decide +kernel
  have i1 : inB wkC 257 wkN 738976 = false := by rw [← inB_eq mar24_ok (by decide +kernel) (by decide +kernel)]; decide +kernel
  have i2 : inB wkC 257 wkN 738977 = true := by rw [← inB_eq apr24_ok (by decide +kernel) (by decide +kernel)]; decide +kernel
  have e : awayF 738975 1 = [738976, 738977, 738978, 738979, 738980, 738981, 738982, 738983, 738984, 738985] := by decide +kernel
  unfold shiftF
  rw [if_neg (by rw [h]; decide), if_neg (by decide), if_neg (by rw [i0]; decide), e]
  simp [List.find?_cons, i1, i2]
end Go.Proofs.YthbfjkdklnffjaaDoor
