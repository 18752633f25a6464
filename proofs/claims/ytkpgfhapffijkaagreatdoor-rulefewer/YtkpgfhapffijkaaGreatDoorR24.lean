/- The walks of the functions of package mask, and of those of math/bits that it calls. -/
import Derived.Test.YtkpgfhapffijkaaGreatDoorR04
import Derived.Test.YtkpgfhapffijkaaGreatDoorRows
import Derived.Test.YtkpgfhapffijkaaGreatDoorR23
import Derived.Test.YtkpgfhapffijkaaGreatDoorR01
import Derived.Lib.MinMax
import Derived.Lib.Tables
namespace Go.Proofs.YtkpgfhapffijkaaGreatDoor
open Go.ChangeShapes Go.WideShapes Go.ChangeAt Go.RowKit Go.DsMem Go.DsMk
set_option linter.unusedVariables false
theorem and32 (a b : Nat) (ha : a < 4294967296) (hb : b < 4294967296) : bits .and .u32 (a : Int) (b : Int) = ((a &&& b : Nat) : Int) := by
  have hx : a &&& b < 2 ^ 32 := Nat.and_lt_two_pow _ (by omega)
  have h1 : (BitVec.ofInt 32 (a : Int)).toNat = a := by rw [BitVec.ofInt_natCast, BitVec.toNat_ofNat]; exact Nat.mod_eq_of_lt (by omega)
  have h2 : (BitVec.ofInt 32 (b : Int)).toNat = b := by rw [BitVec.ofInt_natCast, BitVec.toNat_ofNat]; exact Nat.mod_eq_of_lt (by omega)
  show IntKind.u32.wrap ((BitVec.ofInt 32 (a : Int) &&& BitVec.ofInt 32 (b : Int)).toNat : Int) = _
  rw [BitVec.toNat_and, h1, h2, IntKind.wrap_u32]
  omega
theorem or32 (a b : Nat) (ha : a < 4294967296) (hb : b < 4294967296) : bits .or .u32 (a : Int) (b : Int) = ((a ||| b : Nat) : Int) := by
  have hx : a ||| b < 2 ^ 32 := Nat.or_lt_two_pow (by omega) (by omega)
  have h1 : (BitVec.ofInt 32 (a : Int)).toNat = a := by rw [BitVec.ofInt_natCast, BitVec.toNat_ofNat]; exact Nat.mod_eq_of_lt (by omega)
  have h2 : (BitVec.ofInt 32 (b : Int)).toNat = b := by rw [BitVec.ofInt_natCast, BitVec.toNat_ofNat]; exact Nat.mod_eq_of_lt (by omega)
  show IntKind.u32.wrap ((BitVec.ofInt 32 (a : Int) ||| BitVec.ofInt 32 (b : Int)).toNat : Int) = _
  rw [BitVec.toNat_or, h1, h2, IntKind.wrap_u32]
  omega
theorem dif32 (a b : Nat) (ha : a < 4294967296) (hb : b < 4294967296) : bits .andNot .u32 (a : Int) (b : Int) = ((difN a b : Nat) : Int) := by
  have hx : difN a b < 4294967296 := difN_lt a b ha
  have h1 : (BitVec.ofInt 32 (a : Int)).toNat = a := by rw [BitVec.ofInt_natCast, BitVec.toNat_ofNat]; exact Nat.mod_eq_of_lt (by omega)
  have h2 : (BitVec.ofInt 32 (b : Int)).toNat = b := by rw [BitVec.ofInt_natCast, BitVec.toNat_ofNat]; exact Nat.mod_eq_of_lt (by omega)
  show IntKind.u32.wrap ((BitVec.ofInt 32 (a : Int) &&& ~~~ BitVec.ofInt 32 (b : Int)).toNat : Int) = _
  rw [BitVec.toNat_and, BitVec.toNat_not, h1, h2, IntKind.wrap_u32]
  show ((a &&& (2 ^ 32 - 1 - b) : Nat) : Int) % 4294967296 = _
  rw [show 2 ^ 32 - 1 - b = 4294967295 - b by omega]
  show ((difN a b : Nat) : Int) % 4294967296 = _
  omega
theorem pow_cast (k : Nat) : (2 : Int) ^ k = ((2 ^ k : Nat) : Int) := by simp
theorem all_val (n : Int) : ((2 : Int) ^ (min (max n 0) 31).toNat % 4294967296 - 1) % 4294967296 = (allN n : Int) := by
  rw [pow_cast]
  have h := allN_lt n
  unfold allN at *
  have : 2 ^ (min (max n 0) 31).toNat ≤ 2 ^ 31 := Nat.pow_le_pow_right (by decide) (by omega)
  have := Nat.two_pow_pos (min (max n 0) 31).toNat
  omega
/-- mask.All -/
theorem all_any (n : Int) (w : World) :
    Calls Tryz.prog 184 #[.int .i64 n] w fun e w' => e = .returned (.int .u32 (allN n)) ∧ w' = w := by
  go_enter Tryz.func184, Tryz.ntmps184
  go_wp2
  go_ret
  exact ⟨ret_int (all_val n), rfl⟩
/-- mask.one -/
theorem one_any (n : Int) (w : World) :
    Calls Tryz.prog 159 #[.int .i64 n] w fun e w' => e = .returned (.int .u32 (oneN n)) ∧ w' = w := by
  go_enter Tryz.func159, Tryz.ntmps159
  go_wp2
  · go_ret
    exact ⟨ret_int (by unfold oneN; rw [if_neg (by omega)]; rfl), rfl⟩
  · go_ret
    refine ⟨ret_int ?_, rfl⟩
    have := oneN_lt n
    unfold oneN at *
    rw [if_pos ‹_›] at *
    rw [pow_cast]
    generalize 2 ^ (n.toNat - 1) = p at *
    omega
  · go_ret
    exact ⟨ret_int (by unfold oneN; rw [if_neg (by omega)]; rfl), rfl⟩
/-- mask.Month.days -/
theorem mdays_any (x : Nat) (w : World) (hx : x < 4294967296) :
    Calls Tryz.prog 212 #[.int .u32 x] w fun e w' => e = .returned (.int .u32 ((x &&& 2147483647 : Nat) : Int)) ∧ w' = w := by
  have e := and32 x 2147483647 hx (by decide)
  have e31 := allN_31
  go_enter Tryz.func212, Tryz.ntmps212
  go_wp2_with (go_at_call 184; refine (all_any _ _).mono ?_; rintro e w' ⟨rfl, rfl⟩)
  go_ret
  exact ⟨ret_int (by simpa [e31] using e), rfl⟩
/-- mask.Month.Has -/
theorem has_any (x : Nat) (d : Int) (w : World) (hx : x < 4294967296) :
    Calls Tryz.prog 128 #[.int .u32 x, .int .i64 d] w fun e w' => e = .returned (.bool (hasB x d)) ∧ w' = w := by
  have e := and32 x (oneN d) hx (by have := oneN_lt d; omega)
  have h1 := and_one_has x d
  obtain ⟨o, ho⟩ : ∃ o, o = oneN d := ⟨_, rfl⟩
  obtain ⟨r, hr⟩ : ∃ r, r = x &&& o := ⟨_, rfl⟩
  rw [← ho, ← hr] at e h1
  have HO := hide ho
  have HR := hide hr
  have H1 := hide h1
  clear ho hr h1
  go_enter Tryz.func128, Tryz.ntmps128
  go_wp2_with (go_at_call 159; refine (one_any _ _).mono ?_; rw [← HO.out]; rintro e w' ⟨rfl, rfl⟩)
  go_ret
  refine ⟨ret_bool ?_, rfl⟩
  rw [← H1.out]
  by_cases h : r = 0 <;> simp [h]
/-- mask.Month.Not -/
theorem not_any (x : Nat) (n : Int) (w : World) (hx : x < 4294967296) :
    Calls Tryz.prog 158 #[.int .u32 x, .int .i64 n] w fun e w' => e = .returned (.int .u32 (difN (allN n) x)) ∧ w' = w := by
  have e := dif32 (allN n) x (by have := allN_lt n; omega) hx
  go_enter Tryz.func158, Tryz.ntmps158
  go_wp2_with (go_at_call 184; refine (all_any _ _).mono ?_; rintro e w' ⟨rfl, rfl⟩)
  go_ret
  exact ⟨ret_int (by simp), rfl⟩
end Go.Proofs.YtkpgfhapffijkaaGreatDoor
