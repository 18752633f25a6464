/- The walk of MaskBoth. -/
import Derived.Test.YtjalachjmmojhaaDoorMkG
namespace Go.DsMk
theorem hasB_and (x y : Nat) (d : Int) : hasB (x &&& y) d = (hasB x d && hasB y d) := by
  unfold hasB; rw [Nat.testBit_and]; cases decide (1 ≤ d ∧ d ≤ 31) <;> simp
theorem hasB_or (x y : Nat) (d : Int) : hasB (x ||| y) d = (hasB x d || hasB y d) := by
  unfold hasB; rw [Nat.testBit_or]; cases decide (1 ≤ d ∧ d ≤ 31) <;> simp
theorem cnt_or_and (x y : Nat) : (dl (x ||| y)).length + (dl (x &&& y)).length = (dl x).length + (dl y).length :=
  cnt_four _ _ _ _ fun i _ => by
    rw [Nat.testBit_or, Nat.testBit_and]
    cases x.testBit i <;> cases y.testBit i <;> rfl
end Go.DsMk
namespace Go.Proofs.YtjalachjmmojhaaDoor
open Go.ChangeShapes Go.WideShapes Go.ChangeAt Go.RowKit Go.DsMem Go.DsMk
set_option linter.unusedVariables false

set_option maxHeartbeats 1000000 in
theorem maskBoth_core (x y o n co cn cx cy : Nat) (d : Int) (bx bz : Bool) {W : World} (h : Gd W W) (hx : x < 4294967296) (hy : y < 4294967296) (ho : o < 4294967296) (hn : n < 4294967296)
    (eo : bits .or .u32 (x : Int) (y : Int) = (o : Int)) (en : bits .and .u32 (x : Int) (y : Int) = (n : Int))
    (HCo : Hid ((dl o).length = co)) (HCn : Hid ((dl n).length = cn)) (HCx : Hid ((dl x).length = cx)) (HCy : Hid ((dl y).length = cy)) (lo : co ≤ 31) (ln : cn ≤ 31) (lx : cx ≤ 31) (ly : cy ≤ 31)
    (hsum : (co : Int) + (cn : Int) = (cx : Int) + (cy : Int)) (Hbx : Hid (hasB x d = bx)) (Hbz : Hid (hasB y d = bz)) (Hand : Hid (hasB n d = (bx && bz))) (Hor : Hid (hasB o d = (bx || bz))) :
    Calls Tryd.prog 8 #[.int .u32 x, .int .u32 y, .int .i64 d] W fun e w' => e = .returned (.bool true) ∧ Gd W w' := by
  go_enter Tryd.func8, Tryd.ntmps8
  go_wp2_with fail
  refine (h.count _ ho HCo.out).mono ?_; rintro e w1 ⟨rfl, h1⟩
  go_wp2_with fail
  refine (h1.count _ hn HCn.out).mono ?_; rintro e w2 ⟨rfl, h2⟩
  go_wp2_with fail
  refine (h2.count _ hx HCx.out).mono ?_; rintro e w3 ⟨rfl, h3⟩
  go_wp2_with fail
  refine (h3.count _ hy HCy.out).mono ?_; rintro e w4 ⟨rfl, h4⟩
  go_wp2_with fail
  refine (h4.has _ _ hn Hand.out).mono ?_; rintro e w5 ⟨rfl, h5⟩
  go_wp2_with fail
  refine (h5.has _ _ hx Hbx.out).mono ?_; rintro e w6 ⟨rfl, h6⟩
  cases bx
  · go_wp2_with fail
    refine (h6.has _ _ ho Hor.out).mono ?_; rintro e w8 ⟨rfl, h8⟩
    go_wp2_with fail
    refine (h8.has _ _ hx Hbx.out).mono ?_; rintro e w9 ⟨rfl, h9⟩
    go_wp2_with fail
    refine (h9.has _ _ hy Hbz.out).mono ?_; rintro e w10 ⟨rfl, h10⟩
    cases bz
    all_goals
      go_wp2_with fail
      refine h10.known.mono ?_; rintro e w11 ⟨rfl, h11⟩
      go_wp2
      go_ret
      exact ⟨rfl, h11⟩
  · go_wp2_with fail
    refine (h6.has _ _ hy Hbz.out).mono ?_; rintro e w7 ⟨rfl, h7⟩
    cases bz
    all_goals
      go_wp2_with fail
      refine (h7.has _ _ ho Hor.out).mono ?_; rintro e w8 ⟨rfl, h8⟩
      go_wp2_with fail
      refine (h8.has _ _ hx Hbx.out).mono ?_; rintro e w9 ⟨rfl, h9⟩
      go_wp2_with fail
      refine h9.known.mono ?_; rintro e w11 ⟨rfl, h11⟩
      go_wp2
      go_ret
      exact ⟨rfl, h11⟩
theorem maskBoth_any (x y : Nat) (d : Int) {W : World} (ht : TabT W) (hx : x < 4294967296) (hy : y < 4294967296) :
    Calls Tryd.prog 8 #[.int .u32 x, .int .u32 y, .int .i64 d] W fun e w' => e = .returned (.bool true) ∧ Below W.heap.size W w' :=
  (maskBoth_core x y (x ||| y) (x &&& y) _ _ _ _ d _ _ (Gd.here ht) hx hy (Nat.or_lt_two_pow (n := 32) hx hy) (Nat.lt_of_le_of_lt Nat.and_le_left hx) (or32 x y hx hy) (and32 x y hx hy)
    rfl rfl rfl rfl (dl_le _) (dl_le _) (dl_le _) (dl_le _) (by have := cnt_or_and x y; omega) rfl rfl (hasB_and x y d) (hasB_or x y d)).mono fun _ _ ⟨he, hg⟩ => ⟨he, hg.below⟩
theorem both_walk (a0 a1 a2 : Int) (W : World) (ht : TabT W) (h0 : 0 ≤ a0 ∧ a0 ≤ 4294967295) (h1 : 0 ≤ a1 ∧ a1 ≤ 4294967295) :
    Calls Tryd.prog 8 #[.int .u32 a0, .int .u32 a1, .int .i64 a2] W fun e w' => e = .returned (.bool true) ∧ Below W.heap.size W w' := by
  obtain ⟨x, rfl⟩ := Int.eq_ofNat_of_zero_le h0.1
  obtain ⟨y, rfl⟩ := Int.eq_ofNat_of_zero_le h1.1
  exact maskBoth_any x y a2 ht (by omega) (by omega)
end Go.Proofs.YtjalachjmmojhaaDoor
