/- The walk of MaskWeeks. -/
import Derived.Test.YtjalachjmmojhaaDoorMkG
namespace Go.DsMk
theorem not8_bit (bits q : Nat) (hb : bits < 256) (hq : q < 8) : (255 - bits).testBit q = !bits.testBit q := by
  rw [show 255 - bits = 2 ^ 8 - (bits + 1) by omega, Nat.testBit_two_pow_sub_succ (by omega), decide_eq_true hq, Bool.true_and]
theorem weeks_cnt (bits : Nat) (first n : Int) (hb : bits < 256) : (dl (weekN bits first n)).length + (dl (weekN (255 - bits) first n)).length = (dl (allN n)).length := by
  have h := cnt_four (weekN bits first n) (weekN (255 - bits) first n) (allN n) 0 (fun i _ => by
    rw [weekN_bit, weekN_bit, allN_bit, not8_bit _ _ hb (by omega), Nat.zero_testBit]
    cases decide ((i : Int) < n ∧ i < 31) <;> cases bits.testBit ((first + i) % 7).toNat <;> rfl)
  have h0 : (dl 0).length = 0 := by decide
  omega
theorem weeks_not (bits : Nat) (first n d : Int) (hb : bits < 256) (h : hasB (weekN bits first n) d = true) : hasB (weekN (255 - bits) first n) d = false := by
  unfold hasB at *
  rw [Bool.and_eq_true, weekN_bit, Bool.and_eq_true] at h
  rw [weekN_bit, not8_bit _ _ hb (by omega), h.2.2]
  simp
theorem weeks_again (bits : Nat) (first n d : Int) (h1 : 1 ≤ d) (h : hasB (allN n) (d + 7) = true) : hasB (weekN bits first n) d = hasB (weekN bits first n) (d + 7) := by
  unfold hasB at *
  rw [Bool.and_eq_true, decide_eq_true_eq, allN_bit, decide_eq_true_eq] at h
  rw [weekN_bit, weekN_bit, decide_eq_true (show 1 ≤ d ∧ d ≤ 31 by omega), decide_eq_true (show 1 ≤ d + 7 ∧ d + 7 ≤ 31 by omega)]
  rw [decide_eq_true (show ((d.toNat - 1 : Nat) : Int) < n ∧ d.toNat - 1 < 31 by omega), decide_eq_true (show (((d + 7).toNat - 1 : Nat) : Int) < n ∧ (d + 7).toNat - 1 < 31 by omega)]
  rw [show (first + (((d + 7).toNat - 1 : Nat) : Int)) % 7 = (first + ((d.toNat - 1 : Nat) : Int)) % 7 by omega]
end Go.DsMk
namespace Go.Proofs.YtjalachjmmojhaaDoor
open Go.ChangeShapes Go.WideShapes Go.ChangeAt Go.RowKit Go.DsMem Go.DsMk
set_option linter.unusedVariables false

theorem xor8 (a : Nat) (ha : a < 256) : Go.bits .xor .u8 IntKind.u8.max (a : Int) = ((255 - a : Nat) : Int) := by
  have h1 : (BitVec.ofInt 8 (255 : Int)).toNat = 255 := by decide
  have h2 : (BitVec.ofInt 8 (a : Int)).toNat = a := by rw [BitVec.ofInt_natCast, BitVec.toNat_ofNat]; exact Nat.mod_eq_of_lt (by omega)
  show IntKind.u8.wrap ((BitVec.ofInt 8 (255 : Int) ^^^ BitVec.ofInt 8 (a : Int)).toNat : Int) = _
  have e : 255 ^^^ a = 255 - a := by
    apply Nat.eq_of_testBit_eq
    intro i
    rw [Nat.testBit_xor, show 255 - a = 2 ^ 8 - (a + 1) by omega, Nat.testBit_two_pow_sub_succ (by omega), show (255 : Nat) = 2 ^ 8 - 1 by decide, Nat.testBit_two_pow_sub_one]
    by_cases hi : i < 8
    · simp [hi]
    · have : a.testBit i = false := Nat.testBit_lt_two_pow (Nat.lt_of_lt_of_le ha (by have := Nat.pow_le_pow_right (n := 2) (by decide) (show 8 ≤ i by omega); omega))
      simp [hi, this]
  rw [BitVec.toNat_xor, h1, h2, e, IntKind.wrap_u8]
  omega
set_option maxHeartbeats 1000000 in
theorem maskWeeks_core (bits nb a b al ca cb cl : Nat) (first n : Int) {W : World} (h : Gd W W) (hbits : bits < 256) (hnb : Go.bits .xor .u8 IntKind.u8.max (bits : Int) = (nb : Int)) (hnb2 : nb < 256) (hf1 : -9223372036854775808 ≤ first) (hf2 : first ≤ 9223372036854775807)
    (ha : a < 4294967296) (hb : b < 4294967296) (hal : al < 4294967296) (Ha : Hid (weekN bits first n = a)) (Hb : Hid (weekN nb first n = b)) (Hl : Hid (allN n = al))
    (HCa : Hid ((dl a).length = ca)) (HCb : Hid ((dl b).length = cb)) (HCl : Hid ((dl al).length = cl)) (la : ca ≤ 31) (lb : cb ≤ 31) (ll : cl ≤ 31) (hsum : (ca : Int) + (cb : Int) = (cl : Int))
    (HN : Hid (∀ d, hasB a d = true → hasB b d = false)) (HA : Hid (∀ d, 1 ≤ d → hasB al (d + 7) = true → hasB a d = hasB a (d + 7))) :
    Calls Tryd.prog 7 #[.int .u8 bits, .int .i64 first, .int .i64 n] W fun e w' => e = .returned (.bool true) ∧ Gd W w' := by
  go_enter Tryd.func7, Tryd.ntmps7
  go_wp2_with fail
  refine (h.week _ _ _ hbits hf1 hf2 Ha.out).mono ?_; rintro e w1 ⟨rfl, h1⟩
  go_wp2_with fail
  refine (h1.week nb _ _ hnb2 hf1 hf2 Hb.out).mono ?_; rintro e w2 ⟨rfl, h2⟩
  go_wp2_with fail
  refine (h2.count _ ha HCa.out).mono ?_; rintro e w3 ⟨rfl, h3⟩
  go_wp2_with fail
  refine (h3.count _ hb HCb.out).mono ?_; rintro e w4 ⟨rfl, h4⟩
  go_wp2_with fail
  refine (h4.all _).mono ?_; rw [Hl.out]; rintro e w5 ⟨rfl, h5⟩
  go_wp2_with fail
  refine (h5.count _ hal HCl.out).mono ?_; rintro e w6 ⟨rfl, h6⟩
  go_wp2
  clear h h1 h2 h3 h4 h5
  go_loopw [9] (fun i wr => ∃ k : Nat, 1 ≤ k ∧ k ≤ 25 ∧ i = .int .i64 k ∧ Gd W wr) (fun i _ => 25 - (intOf i).toNat)
  case atStart => exact ⟨1, by omega, by omega, rfl, h6⟩
  case round =>
    obtain ⟨k, hk1, hk2, rfl, hg⟩ := hrel
    by_cases hlt : k ≤ 24
    · obtain ⟨ba, hba⟩ : ∃ v, hasB a (k : Int) = v := ⟨_, rfl⟩
      obtain ⟨bl, hbl⟩ : ∃ v, hasB al ((k : Int) + 7) = v := ⟨_, rfl⟩
      have Hba := hide hba
      have Hbl := hide hbl
      clear hba hbl
      go_wp2_with fail
      refine (hg.has _ _ ha Hba.out).mono ?_; rintro e w7 ⟨rfl, h7⟩
      cases ba
      · go_wp2_with fail
        refine (h7.all _).mono ?_; rw [Hl.out]; rintro e w8 ⟨rfl, h8⟩
        go_wp2_with fail
        refine (h8.has _ _ hal Hbl.out).mono ?_; rintro e w9 ⟨rfl, h9⟩
        cases bl
        · go_wp2
          go_roundw
          case rel => exact ⟨k + 1, by omega, by omega, by go_num, h9⟩
          case measure => simp [intOf]; omega
        · have Hag : Hid (hasB a ((k : Int) + 7) = false) := (HA.out k (by omega) Hbl.out).symm.trans Hba.out
          go_wp2_with fail
          refine (h9.has _ _ ha Hba.out).mono ?_; rintro e w10 ⟨rfl, h10⟩
          go_wp2_with fail
          refine (h10.has _ _ ha Hag.out).mono ?_; rintro e w11 ⟨rfl, h11⟩
          go_wp2
          go_roundw
          case rel => exact ⟨k + 1, by omega, by omega, by go_num, h11⟩
          case measure => simp [intOf]; omega
      · have Hnb : Hid (hasB b (k : Int) = false) := HN.out _ Hba.out
        go_wp2_with fail
        refine (h7.has _ _ hb Hnb.out).mono ?_; rintro e w8 ⟨rfl, h8⟩
        go_wp2_with fail
        refine (h8.all _).mono ?_; rw [Hl.out]; rintro e w9 ⟨rfl, h9⟩
        go_wp2_with fail
        refine (h9.has _ _ hal Hbl.out).mono ?_; rintro e w10 ⟨rfl, h10⟩
        cases bl
        · go_wp2
          go_roundw
          case rel => exact ⟨k + 1, by omega, by omega, by go_num, h10⟩
          case measure => simp [intOf]; omega
        · have Hag : Hid (hasB a ((k : Int) + 7) = true) := (HA.out k (by omega) Hbl.out).symm.trans Hba.out
          go_wp2_with fail
          refine (h10.has _ _ ha Hba.out).mono ?_; rintro e w11 ⟨rfl, h11⟩
          go_wp2_with fail
          refine (h11.has _ _ ha Hag.out).mono ?_; rintro e w12 ⟨rfl, h12⟩
          go_wp2
          go_roundw
          case rel => exact ⟨k + 1, by omega, by omega, by go_num, h12⟩
          case measure => simp [intOf]; omega
    · go_wp2_with fail
      refine hg.known.mono ?_; rintro e w7 ⟨rfl, h7⟩
      go_wp2
      go_ret
      exact ⟨rfl, h7⟩
theorem weeks_walk (a0 a1 a2 : Int) (W : World) (ht : TabT W) (h0 : 0 ≤ a0 ∧ a0 ≤ 255) (h1 : -9223372036854775808 ≤ a1 ∧ a1 ≤ 9223372036854775807) :
    Calls Tryd.prog 7 #[.int .u8 a0, .int .i64 a1, .int .i64 a2] W fun e w' => e = .returned (.bool true) ∧ Below W.heap.size W w' := by
  obtain ⟨x, rfl⟩ := Int.eq_ofNat_of_zero_le h0.1
  have hx : x < 256 := by omega
  exact (maskWeeks_core x (255 - x) _ _ _ _ _ _ a1 a2 (Gd.here ht) hx (xor8 x hx) (by omega) h1.1 h1.2 (by have := weekN_lt x a1 a2; omega) (by have := weekN_lt (255 - x) a1 a2; omega) (by have := allN_lt a2; omega)
    rfl rfl rfl rfl rfl rfl (dl_le _) (dl_le _) (dl_le _) (by have := weeks_cnt x a1 a2 hx; omega) (fun d => weeks_not x a1 a2 d hx) (fun d => weeks_again x a1 a2 d)).mono fun _ _ ⟨he, hg⟩ => ⟨he, hg.below⟩
end Go.Proofs.YtjalachjmmojhaaDoor
