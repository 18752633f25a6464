/- The walks of dayshiftref04: Sum, put, get. -/
import Derived.Test.YtgobnnciijlpaaaDoorLgA
import Derived.Test.YtgobnnciijlpaaaDoorLgN
namespace Go.Proofs.YtgobnnciijlpaaaDoor
open Go.ChangeShapes Go.WideShapes Go.ChangeAt Go.RowKit Go.DsMem Go.DsDk Go.DsLg
set_option linter.unusedVariables false

def bitN : Nat → Nat → Nat
  | 0, x => x
  | k + 1, x => bitS (bitN k x)
theorem bitS_lt {s : Nat} (h : s < 4294967296) : bitS s < 4294967296 := by
  unfold bitS
  have := Nat.shiftRight_le s 1
  split
  · exact Nat.xor_lt_two_pow (n := 32) (by omega) (by decide)
  · omega
theorem bitN_lt {x : Nat} (h : x < 4294967296) : ∀ k, bitN k x < 4294967296
  | 0 => h
  | k + 1 => bitS_lt (bitN_lt h k)
theorem bitN8 (x : Nat) : bitN 8 x = nib (nib x) := by
  show bitS (bitS (bitS (bitS (bitS (bitS (bitS (bitS x))))))) = _
  rw [bit4, bit4]
theorem and1_32 (a : Nat) (ha : a < 4294967296) : bits .and .u32 (a : Int) 1 = ((a &&& 1 : Nat) : Int) := by
  have hx : a &&& 1 < 2 ^ 32 := Nat.and_lt_two_pow _ (by omega)
  have h1 : (BitVec.ofInt 32 (a : Int)).toNat = a := by rw [BitVec.ofInt_natCast, BitVec.toNat_ofNat]; exact Nat.mod_eq_of_lt (by omega)
  have h2 : (BitVec.ofInt 32 (1 : Int)).toNat = 1 := by decide
  show IntKind.u32.wrap ((BitVec.ofInt 32 (a : Int) &&& BitVec.ofInt 32 (1 : Int)).toNat : Int) = _
  rw [BitVec.toNat_and, h1, h2, IntKind.wrap_u32]
  omega
theorem half_int (x : Nat) : (x : Int) / (2 : Int) = ((x >>> 1 : Nat) : Int) := by rw [Nat.shiftRight_eq_div_pow]; omega

set_option maxHeartbeats 1000000 in
/-- dayshiftref04.Sum -/
theorem rsum_any (l : List UInt8) (sl : Value) (w : World) (h : Rd w sl l) (hl : l.length ≤ 140737488355328) :
    Calls Tryd.prog 37 #[sl] w fun e w' => e = .returned (.int .u32 (sum32 l)) ∧ w' = w := by
  obtain ⟨ao, cap, rfl, hlc, hnil, hrd⟩ := h
  go_enter Tryd.func37, Tryd.ntmps37
  go_wp2
  go_loop [3, 4] (fun s i => ∃ k : Nat, k ≤ l.length ∧ i = .int .i64 k ∧ s = .int .u32 (crcL 4294967295 (l.take k))) (fun _ i => l.length - (intOf i).toNat)
  case atStart => exact ⟨0, Nat.zero_le _, rfl, rfl⟩
  case round =>
    obtain ⟨k, hk, rfl, rfl⟩ := hrel
    by_cases hlt : k < l.length
    · obtain ⟨a, rfl⟩ : ∃ a, ao = some a := by
        cases ao with
        | none => have := hnil rfl; omega
        | some a => exact ⟨a, rfl⟩
      have hc := hrd a rfl k l[k] (List.getElem?_eq_getElem hlt)
      unfold bv at hc
      clear hrd hnil
      have hs : crcL 4294967295 (l.take k) < 4294967296 := crcL_lt (by decide) _
      generalize hse : crcL 4294967295 (l.take k) = s at *
      generalize hce : l[k] = c at *
      have HS := hide hse
      have HC := hide hce
      clear hse hce
      have hcb := c.toNat_lt
      obtain ⟨x1, hx1⟩ : ∃ x1, x1 = s ^^^ c.toNat := ⟨_, rfl⟩
      have l1 : x1 < 4294967296 := by rw [hx1]; exact Nat.xor_lt_two_pow (n := 32) hs (by omega)
      have e1 : bits .xor .u32 (s : Int) (c.toNat : Int) = (x1 : Int) := by rw [hx1]; exact xor32 _ _ hs (by omega)
      have HX1 := hide hx1
      clear hx1
      go_wp2
      go_loop [3, 5] (fun t j => ∃ m : Nat, m ≤ 8 ∧ j = .int .i64 m ∧ t = .int .u32 (bitN m x1)) (fun _ j => 8 - (intOf j).toNat)
      case atStart => exact ⟨0, Nat.zero_le _, rfl, rfl⟩
      case round =>
        obtain ⟨m, hm, rfl, rfl⟩ := hrel
        by_cases hm8 : m < 8
        · obtain ⟨y, hy⟩ : ∃ y, y = bitN m x1 := ⟨_, rfl⟩
          have ly : y < 4294967296 := by rw [hy]; exact bitN_lt l1 m
          rw [← hy]
          have HY := hide hy
          clear hy
          have eh := half_int y
          have lh := Nat.shiftRight_le y 1
          have ex := xor32 (y >>> 1) 3988292384 (by omega) (by decide)
          by_cases hb : y &&& 1 = 1
          · have ea : bits .and .u32 (y : Int) 1 = 1 := by rw [and1_32 y ly, hb]; rfl
            obtain ⟨z, hz⟩ : ∃ z, z = bitS y := ⟨_, rfl⟩
            have ez : bits .xor .u32 ((y : Int) / (2 : Int)) 3988292384 = (z : Int) := by rw [hz, eh]; unfold bitS; rw [if_pos hb]; exact ex
            have HZ := hide hz
            clear hz ex hb eh lh
            go_wp2
            go_round
            case rel => exact ⟨m + 1, by omega, by go_num, by rw [HZ.out, HY.out]; rfl⟩
            case measure => simp [intOf]; omega
          · have hb0 : y &&& 1 = 0 := by rw [and_one] at hb ⊢; omega
            have ea : bits .and .u32 (y : Int) 1 = 0 := by rw [and1_32 y ly, hb0]; rfl
            obtain ⟨z, hz⟩ : ∃ z, z = bitS y := ⟨_, rfl⟩
            have ez : (y : Int) / (2 : Int) = (z : Int) := by rw [hz, eh]; unfold bitS; rw [if_neg hb]
            have HZ := hide hz
            clear hz ex hb eh lh hb0
            go_wp2
            go_round
            case rel => exact ⟨m + 1, by omega, by go_num, by rw [HZ.out, HY.out]; rfl⟩
            case measure => simp [intOf]; omega
        · obtain rfl : m = 8 := by omega
          go_wp2
          go_round
          case rel =>
            refine ⟨k + 1, by omega, by go_num, ?_⟩
            rw [List.take_succ_eq_append_getElem hlt, crcL_snoc, HC.out, HS.out, bitN8, HX1.out]
            rfl
          case measure => simp [intOf]; omega
    · have e0 := hide (List.take_of_length_le (l := l) (i := k) (by omega))
      have hs : crcL 4294967295 (l.take k) < 4294967296 := crcL_lt (by decide) _
      obtain ⟨s, hse⟩ : ∃ s, s = crcL 4294967295 (l.take k) := ⟨_, rfl⟩
      rw [← hse] at hs ⊢
      have HEF : Hid (bits .xor .u32 (s : Int) 4294967295 = ((s ^^^ 4294967295 : Nat) : Int)) := xor32 s 4294967295 hs (by decide)
      have HS := hide hse
      clear hse
      go_wp2
      go_ret
      refine ⟨ret_int ?_, rfl⟩
      rw [HEF.out, Nat.xor_comm, HS.out, e0.out]
      rfl
set_option maxHeartbeats 1000000 in
/-- dayshiftref04.get -/
theorem rget_any (l : List UInt8) (sl : Value) (w : World) (h : Rd w sl l) (h8 : l.length ≤ 8) :
    Calls Tryd.prog 70 #[sl] w fun e w' => e = .returned (.int .u64 (getN l)) ∧ w' = w := by
  obtain ⟨ao, cap, rfl, hlc, hnil, hrd⟩ := h
  go_enter Tryd.func70, Tryd.ntmps70
  go_wp2
  go_loop [3, 4] (fun s i => ∃ k : Nat, k ≤ l.length ∧ i = .int .i64 k ∧ s = .int .u64 (getN (l.take k))) (fun _ i => l.length - (intOf i).toNat)
  case atStart => exact ⟨0, Nat.zero_le _, rfl, rfl⟩
  case round =>
    obtain ⟨k, hk, rfl, rfl⟩ := hrel
    by_cases hlt : k < l.length
    · obtain ⟨a, rfl⟩ : ∃ a, ao = some a := by
        cases ao with
        | none => have := hnil rfl; omega
        | some a => exact ⟨a, rfl⟩
      have hc := hrd a rfl k l[k] (List.getElem?_eq_getElem hlt)
      unfold bv at hc
      clear hrd hnil
      have hs : getN (l.take k) < 72057594037927936 := by
        refine Nat.lt_of_lt_of_le (getN_lt _) ?_
        rw [List.length_take, Nat.min_eq_left hk]
        exact Nat.le_trans (Nat.pow_le_pow_right (by decide) (show k ≤ 7 by omega)) (by decide)
      generalize hse : getN (l.take k) = s at *
      generalize hce : l[k] = c at *
      have HS := hide hse
      have HC := hide hce
      clear hse hce
      have hcb := c.toNat_lt
      have e1 := or_byte s c hs
      generalize hy : s * 256 + c.toNat = y at e1
      have HY := hide hy
      clear hy
      go_wp2
      refine ⟨⟨k + 1, by omega, by go_num, ?_⟩, by simp [intOf]; omega⟩
      rw [List.take_succ_eq_append_getElem hlt, getN_snoc, HS.out, HC.out, HY.out]
    · have e0 := hide (List.take_of_length_le (l := l) (i := k) (by omega))
      go_wp2
      go_ret
      exact ⟨ret_int (by rw [e0.out]), rfl⟩
end Go.Proofs.YtgobnnciijlpaaaDoor
