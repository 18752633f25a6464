/- The walk of mask.Week. -/
import Derived.Test.YthbfjkdklnffjaaDoorMkD
namespace Go.DsMk
/-- so many weeks, one behind the other -/
def rowN (b : Nat) : Nat → Nat
  | 0 => 0
  | j + 1 => rowN b j * 128 + b
theorem rowN_lt {b : Nat} (hb : b < 128) : ∀ j, rowN b j < 128 ^ j
  | 0 => by simp [rowN]
  | j + 1 => by have := rowN_lt hb j; unfold rowN; rw [Nat.pow_succ]; omega
theorem rowN_bit {b : Nat} (hb : b < 128) : ∀ (j p : Nat), (rowN b j).testBit p = (decide (p < 7 * j) && b.testBit (p % 7))
  | 0, p => by simp [rowN]
  | j + 1, p => by
    unfold rowN
    rw [show rowN b j * 128 + b = 2 ^ 7 * rowN b j + b by omega, Nat.testBit_two_pow_mul_add _ hb]
    split
    · rename_i h
      rw [Nat.mod_eq_of_lt h, decide_eq_true (by omega), Bool.true_and]
    · rename_i h
      rw [rowN_bit hb j (p - 7), show (p - 7) % 7 = p % 7 by omega, show decide (p - 7 < 7 * j) = decide (p < 7 * (j + 1)) by rw [decide_eq_decide]; omega]
/-- the days of weekdays -/
def weekN (bits : Nat) (first n : Int) : Nat := rowN (bits % 128) 6 / 2 ^ (first % 7).toNat % 4294967296 &&& allN n
theorem weekN_bit (bits : Nat) (first n : Int) (i : Nat) : (weekN bits first n).testBit i = (decide ((i : Int) < n ∧ i < 31) && bits.testBit ((first + i) % 7).toNat) := by
  unfold weekN
  have hb : bits % 128 < 128 := by omega
  rw [Nat.testBit_and, allN_bit, show (4294967296 : Nat) = 2 ^ 32 by decide, Nat.testBit_mod_two_pow, ← Nat.shiftRight_eq_div_pow, Nat.testBit_shiftRight, rowN_bit hb]
  by_cases hi : (i : Int) < n ∧ i < 31
  · have h7 : (first % 7).toNat < 7 := by omega
    rw [decide_eq_true hi, decide_eq_true (show i < 32 by omega), decide_eq_true (show (first % 7).toNat + i < 7 * 6 by omega)]
    rw [show ((first % 7).toNat + i) % 7 = ((first + i) % 7).toNat by omega]
    rw [show (128 : Nat) = 2 ^ 7 by decide, Nat.testBit_mod_two_pow, decide_eq_true (show ((first + i) % 7).toNat < 7 by omega)]
    simp
  · rw [decide_eq_false hi]; simp
theorem weekN_lt (bits : Nat) (first n : Int) : weekN bits first n < 2147483648 := Nat.lt_of_le_of_lt Nat.and_le_right (allN_lt n)
end Go.DsMk
namespace Go.Proofs.YthbfjkdklnffjaaDoor
open Go.ChangeShapes Go.WideShapes Go.ChangeAt Go.RowKit Go.DsMem Go.DsMk
set_option linter.unusedVariables false

theorem or64 (a b : Nat) (ha : a < 18446744073709551616) (hb : b < 18446744073709551616) : bits .or .u64 (a : Int) (b : Int) = ((a ||| b : Nat) : Int) := by
  have hx : a ||| b < 2 ^ 64 := Nat.or_lt_two_pow (by omega) (by omega)
  have h1 : (BitVec.ofInt 64 (a : Int)).toNat = a := by rw [BitVec.ofInt_natCast, BitVec.toNat_ofNat]; exact Nat.mod_eq_of_lt (by omega)
  have h2 : (BitVec.ofInt 64 (b : Int)).toNat = b := by rw [BitVec.ofInt_natCast, BitVec.toNat_ofNat]; exact Nat.mod_eq_of_lt (by omega)
  show IntKind.u64.wrap ((BitVec.ofInt 64 (a : Int) ||| BitVec.ofInt 64 (b : Int)).toNat : Int) = _
  rw [BitVec.toNat_or, h1, h2, IntKind.wrap_u64]
  omega
theorem and8 (a b : Nat) (ha : a < 256) (hb : b < 256) : bits .and .u8 (a : Int) (b : Int) = ((a &&& b : Nat) : Int) := by
  have hx : a &&& b < 2 ^ 8 := Nat.and_lt_two_pow _ (by omega)
  have h1 : (BitVec.ofInt 8 (a : Int)).toNat = a := by rw [BitVec.ofInt_natCast, BitVec.toNat_ofNat]; exact Nat.mod_eq_of_lt (by omega)
  have h2 : (BitVec.ofInt 8 (b : Int)).toNat = b := by rw [BitVec.ofInt_natCast, BitVec.toNat_ofNat]; exact Nat.mod_eq_of_lt (by omega)
  show IntKind.u8.wrap ((BitVec.ofInt 8 (a : Int) &&& BitVec.ofInt 8 (b : Int)).toNat : Int) = _
  rw [BitVec.toNat_and, h1, h2, IntKind.wrap_u8]
  omega
theorem or_add (p b : Nat) (hb : b < 128) : p * 128 ||| b = p * 128 + b := by
  rw [show p * 128 = 2 ^ 7 * p by omega, Nat.two_pow_add_eq_or_of_lt hb]

theorem cast_div (r a : Nat) : (r : Int) / 2 ^ a % 4294967296 = ((r / 2 ^ a % 4294967296 : Nat) : Int) := by
  rw [pow_cast]; omega
set_option maxHeartbeats 1000000 in
/-- mask.Week -/
theorem week_any (bits : Nat) (first n : Int) (w : World) (hbits : bits < 256) (hf1 : -9223372036854775808 ≤ first) (hf2 : first ≤ 9223372036854775807) :
    Calls Tryd.prog 53 #[.int .u8 bits, .int .i64 first, .int .i64 n] w fun e w' => e = .returned (.int .u32 (weekN bits first n)) ∧ w' = w := by
  obtain ⟨b, hbe⟩ : ∃ b, b = bits % 128 := ⟨_, rfl⟩
  have hb : b < 128 := by omega
  have e8 : Go.bits .and .u8 (bits : Int) 127 = (b : Int) := by
    have := and8 bits 127 hbits (by decide)
    rw [show (127 : Nat) = 2 ^ 7 - 1 by decide, Nat.and_two_pow_sub_one_eq_mod] at this
    rw [hbe]; simpa using this
  obtain ⟨t, ht⟩ : ∃ t, first.tmod 7 = t := ⟨_, rfl⟩
  have htm := Int.tmod_eq_emod (a := first) (b := 7)
  have t1 : -7 < t ∧ t < 7 ∧ (t + 7) % 7 = first % 7 := by
    rw [ht] at htm
    split at htm
    · omega
    · have : ((7 : Int).natAbs : Int) = 7 := by decide
      omega
  obtain ⟨t1, t2, t3⟩ := t1
  obtain ⟨a, ha⟩ : ∃ a : Nat, a = (first % 7).toNat := ⟨_, rfl⟩
  have ha7 : a < 7 := by omega
  have t4 : (t + 7) % 7 = (a : Int) := by omega
  have HA := hide ha
  have HB := hide hbe
  have hall := allN_lt n
  have LT := hide (rowN_lt hb)
  clear htm t3 ha hbe
  go_enter Tryd.func53, Tryd.ntmps53
  go_wp2
  go_loop [8, 13] (fun r i => ∃ j : Nat, j ≤ 6 ∧ i = .int .i64 j ∧ r = .int .u64 (rowN b j)) (fun _ i => 6 - (intOf i).toNat)
  case atStart => exact ⟨0, by omega, rfl, rfl⟩
  case round =>
    obtain ⟨j, hj, rfl, rfl⟩ := hrel
    have hl := LT.out j
    have hl2 : rowN b j < 4398046511104 := Nat.lt_of_lt_of_le hl (by have := Nat.pow_le_pow_right (show 0 < 128 by decide) hj; simpa using this)
    by_cases hlt : j < 6
    · have HR : Hid (rowN b (j + 1) = rowN b j * 128 + b) := rfl
      have eo := or64 (rowN b j * 128) b (by omega) (by omega)
      rw [or_add _ _ hb] at eo
      clear hl
      generalize rowN b j = r at *
      push_cast at eo
      go_wp2
      go_round
      case rel => exact ⟨j + 1, by omega, by go_num, by rw [HR.out]; push_cast; rfl⟩
      case measure => simp [intOf]; omega
    · obtain rfl : j = 6 := by omega
      go_wp2_with (go_at_call 54; refine (all_any _ _).mono ?_; rintro e w' ⟨rfl, rfl⟩)
      go_ret
      refine ⟨ret_int ?_, rfl⟩
      rw [cast_div, and32 _ _ (by omega) (by omega), HB.out, HA.out]; rfl
end Go.Proofs.YthbfjkdklnffjaaDoor
