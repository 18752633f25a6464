/- The walk of math/bits.Len32. -/
import Derived.Test.YthbfjkdklnffjaaDoorMkA
namespace Go.Proofs.YthbfjkdklnffjaaDoor
open Go.ChangeShapes Go.WideShapes Go.ChangeAt Go.RowKit Go.DsMem Go.DsMk
set_option linter.unusedVariables false

theorem len8_of (y : Nat) (h : y < 256) : Lib.len8 (y : Int) = (Lib.bitLen y : Int) ∧ Lib.bitLen y ≤ 8 := ⟨Lib.len8_eq ⟨y, h⟩, Lib.bitLen_le8 ⟨y, h⟩⟩

theorem bitLenAux_fuel : ∀ (f g x : Nat), x < 2 ^ f → x < 2 ^ g → Lib.bitLenAux f x = Lib.bitLenAux g x
  | 0, 0, _, _, _ => rfl
  | 0, g + 1, x, h, _ => by obtain rfl : x = 0 := by simp at h; omega
                            simp [Lib.bitLenAux]
  | f + 1, 0, x, _, h => by obtain rfl : x = 0 := by simp at h; omega
                            simp [Lib.bitLenAux]
  | f + 1, g + 1, x, hf, hg => by
    unfold Lib.bitLenAux
    rw [Nat.pow_succ] at hf hg
    rw [bitLenAux_fuel f g (x / 2) (by omega) (by omega)]
theorem bitLen_half (x : Nat) (hx : x < 4294967296) (h : x ≠ 0) : Lib.bitLen x = 1 + Lib.bitLen (x / 2) := by
  unfold Lib.bitLen
  rw [show Lib.bitLenAux 64 x = 1 + Lib.bitLenAux 63 (x / 2) by rw [Lib.bitLenAux, if_neg h]]
  rw [bitLenAux_fuel 63 64 (x / 2) (by omega) (by omega)]
theorem bitLen_byte (x : Nat) (hx : x < 4294967296) (h : 256 ≤ x) : Lib.bitLen x = 8 + Lib.bitLen (x / 256) := by
  rw [bitLen_half x hx (by omega), bitLen_half (x / 2) (by omega) (by omega), bitLen_half (x / 2 / 2) (by omega) (by omega), bitLen_half (x / 2 / 2 / 2) (by omega) (by omega), bitLen_half (x / 2 / 2 / 2 / 2) (by omega) (by omega), bitLen_half (x / 2 / 2 / 2 / 2 / 2) (by omega) (by omega), bitLen_half (x / 2 / 2 / 2 / 2 / 2 / 2) (by omega) (by omega), bitLen_half (x / 2 / 2 / 2 / 2 / 2 / 2 / 2) (by omega) (by omega)]
  rw [show x / 2 / 2 / 2 / 2 / 2 / 2 / 2 / 2 = x / 256 by omega]
  omega
end Go.Proofs.YthbfjkdklnffjaaDoor
