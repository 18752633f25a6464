/- The walk of math/bits.Len32. -/
import Derived.Test.YtjalachjmmojhaaDoorMkA
namespace Go.Proofs.YtjalachjmmojhaaDoor
open Go.ChangeShapes Go.WideShapes Go.ChangeAt Go.RowKit Go.DsMem Go.DsMk
set_option linter.unusedVariables false

theorem len8_of (y : Nat) (h : y < 256) : Lib.len8 (y : Int) = (Lib.bitLen y : Int) ∧ Lib.bitLen y ≤ 8 := ⟨Lib.len8_eq ⟨y, h⟩, Lib.bitLen_le8 ⟨y, h⟩⟩

theorem bitLenAux_fuel : ∀ (f g x : Nat), x < 2 ^ f → x < 2 ^ g → Lib.bitLenAux f x = Lib.bitLenAux g x
  | 0, 0, _, _, _ => rfl
  | 0, g + 1, x, h, _ => by obtain rfl : x = 0 := by simp at h; omega
                            simp [Lib.bitLenAux]
  | f + 1, 0, x, _, h => by obtain rfl : x = 0 := by simp at h; omega
                            simp [Lib.bitLenAux]
  | f + 1, g + 1, x, hf, hg => by
    unfold Lib.bitLenAux
    rw [Nat.pow_succ] at hf hg
    rw [bitLenAux_fuel f g (x / 2) (by omega) (by omega)]
theorem bitLen_half (x : Nat) (hx : x < 4294967296) (h : x ≠ 0) : Lib.bitLen x = 1 + Lib.bitLen (x / 2) := by
  unfold Lib.bitLen
  rw [show Lib.bitLenAux 64 x = 1 + Lib.bitLenAux 63 (x / 2) by rw [Lib.bitLenAux, if_neg h]]
  rw [bitLenAux_fuel 63 64 (x / 2) (by omega) (by omega)]
theorem bitLen_byte (x : Nat) (hx : x < 4294967296) (h : 256 ≤ x) : Lib.bitLen x = 8 + Lib.bitLen (x / 256) := by
  rw [bitLen_half x hx (by omega), bitLen_half (x / 2) (by omega) (by omega), bitLen_half (x / 2 / 2) (by omega) (by omega), bitLen_half (x / 2 / 2 / 2) (by omega) (by omega), bitLen_half (x / 2 / 2 / 2 / 2) (by omega) (by omega), bitLen_half (x / 2 / 2 / 2 / 2 / 2) (by omega) (by omega), bitLen_half (x / 2 / 2 / 2 / 2 / 2 / 2) (by omega) (by omega), bitLen_half (x / 2 / 2 / 2 / 2 / 2 / 2 / 2) (by omega) (by omega)]
  rw [show x / 2 / 2 / 2 / 2 / 2 / 2 / 2 / 2 = x / 256 by omega]
  omega
set_option maxRecDepth 1000000 in
theorem len_core0 (x y b : Nat) (w : World) (h0 : (0 : Int) ≤ y) (h1 : (y : Int) ≤ 255) (hb : Lib.len8 (y : Int) = (b : Int)) (hb8 : (b : Int) ≤ 8) (e : x = y) (t1 : ¬ (65536 ≤ (x : Int))) (t2 : ¬ (256 ≤ (x : Int))) :
    Calls Tryd.prog 50 #[.int .u32 x] w fun e w' => e = .returned (.int .i64 ((0 + b : Nat) : Int)) ∧ w' = w := by
  have hm : IntKind.u8.wrap (y : Int) = (y : Int) := by rw [IntKind.wrap_u8]; omega
  subst e
  go_enter Tryd.func50, Tryd.ntmps50
  go_wp2
  go_ret
  exact ⟨ret_int (by omega), rfl⟩
set_option maxRecDepth 1000000 in
theorem len_core1 (x y b : Nat) (w : World) (h0 : (0 : Int) ≤ y) (h1 : (y : Int) ≤ 255) (hb : Lib.len8 (y : Int) = (b : Int)) (hb8 : (b : Int) ≤ 8) (e : (x : Int) / 256 = (y : Int)) (t1 : ¬ (65536 ≤ (x : Int))) (t2 : 256 ≤ (x : Int)) :
    Calls Tryd.prog 50 #[.int .u32 x] w fun e w' => e = .returned (.int .i64 ((8 + b : Nat) : Int)) ∧ w' = w := by
  have hm : IntKind.u8.wrap (y : Int) = (y : Int) := by rw [IntKind.wrap_u8]; omega
  go_enter Tryd.func50, Tryd.ntmps50
  go_wp2
  go_ret
  exact ⟨ret_int (by omega), rfl⟩
set_option maxRecDepth 1000000 in
theorem len_core2 (x y b : Nat) (w : World) (h0 : (0 : Int) ≤ y) (h1 : (y : Int) ≤ 255) (hb : Lib.len8 (y : Int) = (b : Int)) (hb8 : (b : Int) ≤ 8) (e : (x : Int) / 65536 = (y : Int)) (t1 : 65536 ≤ (x : Int)) (t2 : ¬ (256 ≤ (y : Int))) :
    Calls Tryd.prog 50 #[.int .u32 x] w fun e w' => e = .returned (.int .i64 ((16 + b : Nat) : Int)) ∧ w' = w := by
  have hm : IntKind.u8.wrap (y : Int) = (y : Int) := by rw [IntKind.wrap_u8]; omega
  go_enter Tryd.func50, Tryd.ntmps50
  go_wp2
  go_ret
  exact ⟨ret_int (by omega), rfl⟩
set_option maxRecDepth 1000000 in
theorem len_core3 (x y b : Nat) (w : World) (h0 : (0 : Int) ≤ y) (h1 : (y : Int) ≤ 255) (hb : Lib.len8 (y : Int) = (b : Int)) (hb8 : (b : Int) ≤ 8) (z : Nat) (ez : (x : Int) / 65536 = (z : Int)) (e : (z : Int) / 256 = (y : Int)) (t1 : 65536 ≤ (x : Int)) (t2 : 256 ≤ (z : Int)) :
    Calls Tryd.prog 50 #[.int .u32 x] w fun e w' => e = .returned (.int .i64 ((24 + b : Nat) : Int)) ∧ w' = w := by
  have hm : IntKind.u8.wrap (y : Int) = (y : Int) := by rw [IntKind.wrap_u8]; omega
  go_enter Tryd.func50, Tryd.ntmps50
  go_wp2
  go_ret
  exact ⟨ret_int (by omega), rfl⟩
/-- math/bits.Len32 -/
theorem len_any (x : Nat) (w : World) (hx : x < 4294967296) :
    Calls Tryd.prog 50 #[.int .u32 x] w fun e w' => e = .returned (.int .i64 (Lib.bitLen x : Nat)) ∧ w' = w := by
  by_cases h1 : x < 65536
  · by_cases h2 : x < 256
    · obtain ⟨p, q⟩ := len8_of x h2
      have := len_core0 x x _ w (by omega) (by omega) p (by omega) rfl (by omega) (by omega)
      rwa [Nat.zero_add] at this
    · obtain ⟨p, q⟩ := len8_of (x / 256) (by omega)
      rw [bitLen_byte x hx (by omega)]
      exact len_core1 x _ _ w (by omega) (by omega) p (by omega) (by omega) (by omega) (by omega)
  · by_cases h2 : x < 16777216
    · obtain ⟨p, q⟩ := len8_of (x / 65536) (by omega)
      rw [bitLen_byte x hx (by omega), bitLen_byte (x / 256) (by omega) (by omega), ← Nat.add_assoc, show x / 256 / 256 = x / 65536 by omega]
      exact len_core2 x _ _ w (by omega) (by omega) p (by omega) (by omega) (by omega) (by omega)
    · obtain ⟨p, q⟩ := len8_of (x / 16777216) (by omega)
      rw [bitLen_byte x hx (by omega), bitLen_byte (x / 256) (by omega) (by omega), bitLen_byte (x / 256 / 256) (by omega) (by omega), ← Nat.add_assoc, ← Nat.add_assoc, show x / 256 / 256 / 256 = x / 16777216 by omega]
      exact len_core3 x _ _ w (by omega) (by omega) p (by omega) (x / 65536) (by omega) (by omega) (by omega) (by omega)
end Go.Proofs.YtjalachjmmojhaaDoor
