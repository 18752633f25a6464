/- The walks of math/bits' functions, and of mask.Month's Count, Next, Prev, Nth. -/
import Derived.Test.YtkpgfhapffijkaaGreatDoorR24
import Derived.Deep.QuietTactic
import Derived.BigQuiet
namespace Go.Proofs.YtkpgfhapffijkaaGreatDoor
open Go.ChangeShapes Go.WideShapes Go.ChangeAt Go.RowKit Go.DsMem Go.DsMk
set_option linter.unusedVariables false
/-- math/bits' table, in its variable -/
def TabT (w : World) : Prop := ∀ j : Nat, j < 32 → w.cell? ⟨5, j, none⟩ = some (.int .u8 (Lib.deBruijn32tab.getD j 0))
theorem tz_key (x a : Nat) (hx : x < 4294967296) (hlow : x &&& (4294967296 - x) = a) (hx0 : x ≠ 0) :
    bits .and .u32 (x : Int) (-(x : Int) % 4294967296) * 125613361 % 4294967296 / 134217728 = ((a * 125613361 % 4294967296 / 134217728 : Nat) : Int) := by
  have e1 : -(x : Int) % 4294967296 = ((4294967296 - x : Nat) : Int) := by omega
  rw [e1, and32 x _ hx (by omega), hlow]
  omega
set_option maxHeartbeats 1000000 in
theorem tz_core (x k idx : Nat) (w : World) (hx0 : ((x : Int) == 0) = false)
    (key : bits .and .u32 (x : Int) (-(x : Int) % 4294967296) * 125613361 % 4294967296 / 134217728 = (idx : Int))
    (hi : idx < 32) (hk : k < 32) (hcell : w.cell? ⟨5, idx, none⟩ = some (.int .u8 k)) :
    Calls Tryz.prog 213 #[.int .u32 x] w fun e w' => e = .returned (.int .i64 k) ∧ w' = w := by
  go_enter Tryz.func213, Tryz.ntmps213
  go_wp2_with (simp only [key])
  go_ret
  exact ⟨rfl, rfl⟩
/-- math/bits.TrailingZeros32, of what is not 0 -/
theorem tz_any (x : Nat) (w : World) (hx : x < 4294967296) (hx0 : x ≠ 0) (ht : TabT w) :
    Calls Tryz.prog 213 #[.int .u32 x] w fun e w' => e = .returned (.int .i64 (Lib.ctz 32 x)) ∧ w' = w := by
  obtain ⟨hlow, hk⟩ := Lib.lowest_bit 32 x hx0 hx
  obtain ⟨hi, htab⟩ := Lib.deBruijn32_at _ hk
  have hcell := ht _ hi
  rw [htab] at hcell
  exact tz_core x _ _ w (by simp; omega) (tz_key x _ hx hlow hx0) hi hk hcell
set_option maxHeartbeats 1000000 in
theorem ones_core (x a b c d pa pb pc pd : Nat) (w : World) (hx : x < 4294967296)
    (ha : (x : Int) / 16777216 = (a : Int)) (ha8 : (a : Int) ≤ 255)
    (hb : bits .and .u32 ((x : Int) / 65536) 255 = (b : Int)) (hb8 : (b : Int) ≤ 255)
    (hc : bits .and .u32 ((x : Int) / 256) 255 = (c : Int)) (hc8 : (c : Int) ≤ 255)
    (hd : bits .and .u32 (x : Int) 255 = (d : Int)) (hd8 : (d : Int) ≤ 255)
    (qa : Lib.pop8 (a : Int) = (pa : Int)) (qa8 : (pa : Int) ≤ 8) (qb : Lib.pop8 (b : Int) = (pb : Int)) (qb8 : (pb : Int) ≤ 8)
    (qc : Lib.pop8 (c : Int) = (pc : Int)) (qc8 : (pc : Int) ≤ 8) (qd : Lib.pop8 (d : Int) = (pd : Int)) (qd8 : (pd : Int) ≤ 8) :
    Calls Tryz.prog 211 #[.int .u32 x] w fun e w' => e = .returned (.int .i64 ((pa + pb + pc + pd : Nat) : Int)) ∧ ∃ n, w' = w.drewN n := by
  have a0 : (0 : Int) ≤ a := by omega
  have b0 : (0 : Int) ≤ b := by omega
  have c0 : (0 : Int) ≤ c := by omega
  have d0 : (0 : Int) ≤ d := by omega
  go_enter Tryz.func211, Tryz.ntmps211
  go_wp2
  go_quiet (fail)
  go_wp2
  go_ret
  exact ⟨ret_int (by omega), _, rfl⟩
theorem pop8_of (b : Nat) (h : b < 256) : Lib.pop8 (b : Int) = (Lib.onesCount b : Int) ∧ Lib.onesCount b ≤ 8 := ⟨Lib.pop8_eq ⟨b, h⟩, Lib.onesCount_le8 ⟨b, h⟩⟩
theorem and255 (a : Nat) (ha : a < 4294967296) : bits .and .u32 (a : Int) 255 = ((a % 256 : Nat) : Int) := by
  rw [show (255 : Int) = ((255 : Nat) : Int) by rfl, and32 a 255 ha (by decide), show (255 : Nat) = 2 ^ 8 - 1 by decide, Nat.and_two_pow_sub_one_eq_mod]
/-- math/bits.OnesCount32 -/
theorem ones_any (x : Nat) (w : World) (hx : x < 4294967296) :
    Calls Tryz.prog 211 #[.int .u32 x] w fun e w' => e = .returned (.int .i64 (Lib.popAux 32 x : Nat)) ∧ ∃ n, w' = w.drewN n := by
  have h := pop_bytes x hx
  obtain ⟨p1, q1⟩ := pop8_of (x / 16777216) (by omega)
  obtain ⟨p2, q2⟩ := pop8_of (x / 65536 % 256) (by omega)
  obtain ⟨p3, q3⟩ := pop8_of (x / 256 % 256) (by omega)
  obtain ⟨p4, q4⟩ := pop8_of (x % 256) (by omega)
  rw [← h]
  exact ones_core x _ _ _ _ _ _ _ _ w hx (by omega) (by omega) (by have := and255 (x / 65536) (by omega); simpa using this) (by omega) (by have := and255 (x / 256) (by omega); simpa using this) (by omega) (and255 x hx) (by omega)
    p1 (by omega) p2 (by omega) p3 (by omega) p4 (by omega)
/-- mask.Month.Count -/
theorem count_any (x : Nat) (w : World) (hx : x < 4294967296) :
    Calls Tryz.prog 186 #[.int .u32 x] w fun e w' => e = .returned (.int .i64 ((dl x).length : Nat)) ∧ ∃ n, w' = w.drewN n := by
  have h := count_eq x
  have hl : x &&& 2147483647 < 4294967296 := Nat.lt_of_le_of_lt Nat.and_le_left hx
  have H := hide h
  clear h
  go_enter Tryz.func186, Tryz.ntmps186
  go_wp2_with (first | (go_at_call 212; refine (mdays_any _ _ (by omega)).mono ?_; rintro e w' ⟨rfl, rfl⟩) | (go_at_call 211; refine (ones_any _ _ (by omega)).mono ?_; rintro e w' ⟨rfl, n, rfl⟩))
  go_ret
  exact ⟨ret_int (by rw [H.out]), _, rfl⟩
/-- mask.Month.Next -/
theorem next_any (x : Nat) (d : Int) (w : World) (hx : x < 4294967296) (ht : TabT w) :
    Calls Tryz.prog 187 #[.int .u32 x, .int .i64 d] w fun e w' => e = .returned (.int .i64 (nextL (dl x) d)) ∧ w' = w := by
  have hl : x &&& 2147483647 < 4294967296 := Nat.lt_of_le_of_lt Nat.and_le_left hx
  have hz := next_zero x d hx
  have hs := next_some x d hx
  have e := dif32 (x &&& 2147483647) (allN d) hl (by have := allN_lt d; omega)
  have hr := difN_lt (x &&& 2147483647) (allN d) hl
  generalize difN (x &&& 2147483647) (allN d) = r at *
  by_cases h0 : r = 0
  · have H := hide (hz h0)
    subst h0
    clear hz hs
    go_enter Tryz.func187, Tryz.ntmps187
    go_wp2_with (first | (go_at_call 212; refine (mdays_any _ _ (by omega)).mono ?_; rintro e w' ⟨rfl, rfl⟩) | (go_at_call 184; refine (all_any _ _).mono ?_; rintro e w' ⟨rfl, rfl⟩))
    go_ret
    exact ⟨ret_int (by rw [H.out]; rfl), rfl⟩
  · have H := hide (hs h0)
    have h0' : ((r : Int) == 0) = false := by simp; omega
    have hc : Lib.ctz 32 r < 32 := (Lib.lowest_bit 32 r h0 hr).2
    clear hz hs
    go_enter Tryz.func187, Tryz.ntmps187
    go_wp2_with (first | (go_at_call 212; refine (mdays_any _ _ (by omega)).mono ?_; rintro e w' ⟨rfl, rfl⟩) | (go_at_call 184; refine (all_any _ _).mono ?_; rintro e w' ⟨rfl, rfl⟩) | (go_at_call 213; refine (tz_any _ _ (by omega) h0 ht).mono ?_; rintro e w' ⟨rfl, rfl⟩))
    go_ret
    exact ⟨ret_int (by rw [← H.out]; omega), rfl⟩
end Go.Proofs.YtkpgfhapffijkaaGreatDoor
