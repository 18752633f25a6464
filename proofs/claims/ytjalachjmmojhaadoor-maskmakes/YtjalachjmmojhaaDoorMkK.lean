/- The walk of MaskNots. -/
import Derived.Test.YtjalachjmmojhaaDoorRmE
namespace Go.DsMk
theorem bit_high (x i : Nat) (hx : x < 2147483648) (hi : 31 ≤ i) : x.testBit i = false := Nat.testBit_lt_two_pow (Nat.lt_of_lt_of_le hx (by have := Nat.pow_le_pow_right (n := 2) (by decide) hi; omega))
theorem not_not (x : Nat) (n : Int) (hx : x < 4294967296) : difN (allN n) (difN (allN n) x) = x % 2147483648 &&& allN n % 2147483648 := by
  have hall := allN_lt n
  have h1 := difN_lt31 (allN n) x hall
  apply Nat.eq_of_testBit_eq
  intro i
  rw [difN_bit _ _ (by omega) (by omega), difN_bit _ _ (by omega) hx, Nat.testBit_and, show (2147483648 : Nat) = 2 ^ 31 by decide, Nat.testBit_mod_two_pow, Nat.testBit_mod_two_pow]
  by_cases hi : i < 31
  · rw [decide_eq_true hi]; cases (allN n).testBit i <;> cases x.testBit i <;> rfl
  · rw [bit_high _ i hall (by omega)]; simp
theorem not_cnt (x : Nat) (n : Int) (hx : x < 4294967296) : (dl (difN (allN n) x)).length + (dl (difN (allN n) (difN (allN n) x))).length = (dl (allN n)).length := by
  have hall := allN_lt n
  have h1 := difN_lt31 (allN n) x hall
  have h := cnt_four (difN (allN n) x) (difN (allN n) (difN (allN n) x)) (allN n) 0 (fun i _ => by
    rw [difN_bit (allN n) (difN (allN n) x) (by omega) (by omega), difN_bit (allN n) x (by omega) hx, Nat.zero_testBit]
    cases (allN n).testBit i <;> cases x.testBit i <;> rfl)
  have h0 : (dl 0).length = 0 := by decide
  omega
end Go.DsMk
namespace Go.Proofs.YtjalachjmmojhaaDoor
open Go.ChangeShapes Go.WideShapes Go.ChangeAt Go.RowKit Go.DsMem Go.DsMk
set_option linter.unusedVariables false

/-- dayshiftlaw05.days -/
theorem Gd.days {W w : World} (h : Gd W w) (x : Nat) (hx : x < 4294967296) {y : Nat} (hy : x % 2147483648 = y) :
    Calls Tryd.prog 16 #[.int .u32 x] w fun e w' => e = .returned (.int .u32 y) ∧ Gd W w' := by
  go_enter Tryd.func16, Tryd.ntmps16
  go_wp2
  go_ret
  exact ⟨ret_int (by omega), h⟩
theorem Gd.rbits {W w : World} (h : Gd W w) (x : Nat) (v : Value) (hr : RMonth w v x) {y : Nat} (hy : x % 2147483648 = y) :
    Calls Tryd.prog 17 #[v] w fun e w' => e = .returned (.int .u32 y) ∧ Gd W w' :=
  (rbits_any x v w hr).mono fun _ _ ⟨he, hb⟩ => ⟨by rw [he, hy], h.more hb⟩
theorem RMonth.struct {w : World} {v : Value} {x : Nat} (h : RMonth w v x) : ∃ g, v = .agg #[.slice (some ⟨g, 0, none⟩) 32 32] := let ⟨g, hg⟩ := h; ⟨g, hg.val⟩

set_option maxHeartbeats 1000000 in
theorem nots_walk0 (x a b l cc ca cb cl : Nat) (n : Int) (W : World) (ht : TabT W) (hx : x < 4294967296) (Ha : Hid (difN (allN n) x = a)) (Hb : Hid (difN (allN n) a = b)) (Hl : Hid (allN n = l)) (ha : a < 2147483648) (hb : b < 2147483648) (hl : l < 2147483648)
    (Hcc : Hid (x % 2147483648 = cc)) (hcc : cc < 2147483648) (eb : bits .and .u32 (cc : Int) (l : Int) = (b : Int)) (HCa : Hid ((dl a).length = ca)) (HCb : Hid ((dl b).length = cb)) (HCl : Hid ((dl l).length = cl)) (la : ca ≤ 31) (lb : cb ≤ 31) (ll : cl ≤ 31) (hsum : (ca : Int) + (cb : Int) = (cl : Int)) :
    Calls Tryd.prog 5 #[.int .u32 x, .int .i64 n] W fun e w' => e = .returned (.bool true) ∧ Gd W w' := by
  have h := Gd.here ht
  have Hda : Hid (a % 2147483648 = a) := Nat.mod_eq_of_lt ha
  have Hdb : Hid (b % 2147483648 = b) := Nat.mod_eq_of_lt hb
  have Hdl : Hid (l % 2147483648 = l) := Nat.mod_eq_of_lt hl
  clear ht
  go_enter Tryd.func5, Tryd.ntmps5
  go_wp2_with fail
  refine (h.not _ _ hx Ha.out).mono ?_; rintro e w1 ⟨rfl, h1⟩
  go_wp2_with fail
  refine (h1.not _ _ (by omega) Hb.out).mono ?_; rintro e w2 ⟨rfl, h2⟩
  go_wp2_with fail
  refine (h2.days _ (by omega) Hda.out).mono ?_; rintro e w3 ⟨rfl, h3⟩
  go_wp2_with fail
  refine (rof_any _ _ hx).mono ?_; rintro e w4 ⟨v, g, rfl, -, hr, hbel⟩
  have h4 := h3.more hbel
  obtain rfl := hr.val
  have HR : Hid (RMonth w4 (.agg #[.slice (some ⟨g, 0, none⟩) 32 32]) x) := ⟨g, hr⟩
  clear hr hbel h h1 h2 h3
  go_wp2_with fail
  refine (rnot_any x _ _ _ hx HR.out).mono ?_; rintro e w5 ⟨v, g2, rfl, -, hr, hbel⟩
  have h5 := h4.more hbel
  obtain rfl := hr.val
  have HR2 : Hid (RMonth w5 (.agg #[.slice (some ⟨g2, 0, none⟩) 32 32]) a) := by rw [← Ha.out]; exact ⟨g2, hr⟩
  clear hr hbel h4 HR
  go_wp2_with fail
  refine (h5.rbits _ _ HR2.out Hda.out).mono ?_; rintro e w6 ⟨rfl, h6⟩
  go_wp2_with fail
  refine (h6.days _ (by omega) Hdb.out).mono ?_; rintro e w7 ⟨rfl, h7⟩
  go_wp2_with fail
  refine (h7.days _ hx Hcc.out).mono ?_; rintro e w8 ⟨rfl, h8⟩
  go_wp2_with fail
  refine (h8.all _).mono ?_; rw [Hl.out]; rintro e w9 ⟨rfl, h9⟩
  go_wp2_with fail
  refine (h9.days _ (by omega) Hdl.out).mono ?_; rintro e w10 ⟨rfl, h10⟩
  go_wp2_with fail
  refine (h10.count _ (by omega) HCa.out).mono ?_; rintro e w11 ⟨rfl, h11⟩
  go_wp2_with fail
  refine (h11.count _ (by omega) HCb.out).mono ?_; rintro e w12 ⟨rfl, h12⟩
  go_wp2_with fail
  refine (h12.all _).mono ?_; rw [Hl.out]; rintro e w13 ⟨rfl, h13⟩
  go_wp2_with fail
  refine (h13.count _ (by omega) HCl.out).mono ?_; rintro e w14 ⟨rfl, h14⟩
  go_wp2_with fail
  refine h14.known.mono ?_; rintro e w15 ⟨rfl, h15⟩
  go_wp2
  go_ret
  exact ⟨rfl, h15⟩
theorem nots_walk (a0 a1 : Int) (W : World) (ht : TabT W) (h0 : 0 ≤ a0 ∧ a0 ≤ 4294967295) :
    Calls Tryd.prog 5 #[.int .u32 a0, .int .i64 a1] W fun e w' => e = .returned (.bool true) ∧ Below W.heap.size W w' := by
  obtain ⟨x, rfl⟩ := Int.eq_ofNat_of_zero_le h0.1
  have hx : x < 4294967296 := by omega
  have hall := allN_lt a1
  have h1 := difN_lt31 (allN a1) x hall
  refine (nots_walk0 x _ _ _ _ _ _ _ a1 W ht hx rfl rfl rfl h1 (difN_lt31 _ _ hall) hall rfl (by omega) ?_ rfl rfl rfl (dl_le _) (dl_le _) (dl_le _) (by have := not_cnt x a1 hx; omega)).mono fun _ _ ⟨he, hg⟩ => ⟨he, hg.below⟩
  rw [and32 _ _ (by omega) (by omega), not_not x a1 hx, Nat.mod_eq_of_lt (b := 2147483648) hall]
end Go.Proofs.YtjalachjmmojhaaDoor
