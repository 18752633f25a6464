/- More of sums of bytes: bit by bit, and as they add up. -/
import Derived.Test.YtgobnnciijlpaaaDoorLgM
namespace Go.DsLg
open Go.DsDk

/-- a bit of a sum -/
def bitS (s : Nat) : Nat := if s &&& 1 = 1 then (s >>> 1) ^^^ 3988292384 else s >>> 1
theorem and_one (s : Nat) : s &&& 1 = s % 2 := Nat.and_one_is_mod s
theorem xor_mod2 (a b : Nat) : (a ^^^ b) % 2 = (a % 2 + b % 2) % 2 := by
  have h : (a ^^^ b) % 2 ^ 1 = (a % 2 ^ 1) ^^^ (b % 2 ^ 1) := Nat.xor_mod_two_pow
  simp only [Nat.pow_one] at h
  rw [h]
  have ha : a % 2 = 0 ∨ a % 2 = 1 := by omega
  have hb : b % 2 = 0 ∨ b % 2 = 1 := by omega
  rcases ha with ha | ha <;> rcases hb with hb | hb <;> rw [ha, hb] <;> rfl
theorem bitS_xor (a b : Nat) : bitS (a ^^^ b) = bitS a ^^^ bitS b := by
  unfold bitS
  rw [and_one, and_one, and_one, xor_mod2, Nat.shiftRight_xor_distrib]
  have ha : a % 2 = 0 ∨ a % 2 = 1 := by omega
  have hb : b % 2 = 0 ∨ b % 2 = 1 := by omega
  rcases ha with ha | ha <;> rcases hb with hb | hb <;> rw [ha, hb] <;> simp only [Nat.reduceAdd, Nat.reduceMod, if_true, if_false, Nat.zero_ne_one]
  · rw [Nat.xor_assoc]
  · rw [Nat.xor_assoc, Nat.xor_assoc, Nat.xor_comm 3988292384 (b >>> 1)]
  · rw [Nat.xor_assoc, Nat.xor_comm 3988292384, Nat.xor_assoc, Nat.xor_self, Nat.xor_zero]
theorem bitS_two (x : Nat) : bitS (2 * x) = x := by
  unfold bitS
  rw [and_one, if_neg (by omega), Nat.shiftRight_eq_div_pow]
  omega
theorem xor_low (q r : Nat) (h : r < 16) : 16 * q + r = (16 * q) ^^^ r := by
  apply Nat.eq_of_testBit_eq
  intro i
  rw [Nat.testBit_xor, show 16 * q = 2 ^ 4 * q by omega, Nat.testBit_two_pow_mul_add q (by omega : r < 2 ^ 4), Nat.testBit_two_pow_mul]
  by_cases hi : i < 4
  · rw [if_pos hi, show decide (i ≥ 4) = false by simpa using hi]; simp
  · have : r.testBit i = false := Nat.testBit_lt_two_pow (Nat.lt_of_lt_of_le h (by have := Nat.pow_le_pow_right (n := 2) (by decide) (show 4 ≤ i by omega); omega))
    rw [if_neg hi, this, show decide (i ≥ 4) = true by simpa using Nat.le_of_not_lt hi]; simp
theorem bit4 (s : Nat) : bitS (bitS (bitS (bitS s))) = nib s := by
  obtain ⟨q, r, hr, rfl⟩ : ∃ q r, r < 16 ∧ s = (16 * q) ^^^ r := ⟨s / 16, s % 16, Nat.mod_lt _ (by decide), by rw [← xor_low _ _ (Nat.mod_lt _ (by decide))]; omega⟩
  have h1 : bitS (bitS (bitS (bitS (16 * q)))) = q := by
    rw [show 16 * q = 2 * (2 * (2 * (2 * q))) by omega, bitS_two, bitS_two, bitS_two, bitS_two]
  have h2 : bitS (bitS (bitS (bitS r))) = tbl r := by
    have : ∀ r, r < 16 → bitS (bitS (bitS (bitS r))) = tbl r := by decide
    exact this r hr
  rw [bitS_xor, bitS_xor, bitS_xor, bitS_xor, h1, h2]
  unfold nib
  rw [← xor_low q r hr]
  rw [show (16 * q + r) >>> 4 = q by rw [Nat.shiftRight_eq_div_pow]; omega, show (16 * q + r) &&& 15 = r by rw [show (15 : Nat) = 2 ^ 4 - 1 from rfl, Nat.and_two_pow_sub_one_eq_mod]; omega]
end Go.DsLg
