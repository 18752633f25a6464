/- The walks of mask.Month's Prev and Nth. -/
import Derived.Test.YthbfjkdklnffjaaDoorMkB
import Derived.Test.YthbfjkdklnffjaaDoorMkC
namespace Go.Proofs.YthbfjkdklnffjaaDoor
open Go.ChangeShapes Go.WideShapes Go.ChangeAt Go.RowKit Go.DsMem Go.DsMk
set_option linter.unusedVariables false

theorem TabT.below {w w' : World} (h : TabT w) (hb : Below w.heap.size w w') : TabT w' := fun j hj => Below.keeps hb (Nat.le_refl _) (h j hj)
theorem TabT.drewN {w : World} (h : TabT w) (n : Nat) : TabT (w.drewN n) := h
theorem below_drewN (w : World) (n : Nat) : Below w.heap.size w (w.drewN n) := ⟨rfl, rfl, rfl, Nat.le_refl _, fun _ _ => rfl⟩

theorem drop_ne {x r j : Nat} (h : dl r = (dl x).drop j) (hj : j < (dl x).length) : r ≠ 0 := by
  rintro rfl
  have : (dl 0).length = 0 := by decide
  rw [h, List.length_drop] at this
  omega
theorem drop_next {x r j : Nat} (h : dl r = (dl x).drop j) : dl (r &&& (r - 1)) = (dl x).drop (j + 1) := by
  rw [dl_tail, h, List.tail_drop]

set_option maxHeartbeats 1000000 in
/-- mask.Month.Nth -/
theorem nth_any (x : Nat) (k : Int) (w : World) (hx : x < 4294967296) (ht : TabT w) (hk1 : -9223372036854775808 ≤ k) (hk2 : k ≤ 9223372036854775807) :
    Calls Tryd.prog 40 #[.int .u32 x, .int .i64 k] w fun e w' => e = .returned (.int .i64 (nthL (dl x) k)) ∧ ∃ n, w' = w.drewN n := by
  have hc := dl_le x
  obtain ⟨c, hce⟩ : ∃ c, c = (dl x).length := ⟨_, rfl⟩
  have HC := hide hce
  have HT := hide ht
  rw [← hce] at hc
  -- the place asked for, from the beginning
  have main : ∀ K : Nat, K < c → ∀ nn : Nat, ∀ (t : Nat), True := fun _ _ _ _ => trivial
  clear main ht hce
  by_cases hneg : k < 0
  · by_cases hin : 1 ≤ k + (c + 1)
    · have HE : Hid (nthL (dl x) k = (dl x)[(k + (c + 1) - 1).toNat]?.getD 0) := by show _ = _; rw [HC.out]; exact nthL_down _ _ hneg (by rw [← HC.out]; exact hin)
      have hle : k + (c + 1) ≤ c := by omega
      go_enter Tryd.func40, Tryd.ntmps40
      go_wp2_with (go_at_call 56; refine (count_any _ _ (by omega)).mono ?_; rw [← HC.out]; rintro e w' ⟨rfl, n1, rfl⟩)
      go_loop [6, 25] (fun r i => ∃ j rr : Nat, (j : Int) ≤ k + (c + 1) - 1 ∧ i = .int .i64 j ∧ r = .int .u32 rr ∧ rr < 4294967296 ∧ Hid (dl rr = (dl x).drop j)) (fun _ i => (k + (c + 1) - 1).toNat - (intOf i).toNat)
      case atStart => exact ⟨0, x, by omega, rfl, rfl, hx, by show _ = _; simp⟩
      case round =>
        obtain ⟨j, rr, hj, rfl, rfl, hr, HD⟩ := hrel
        by_cases hlt : (j : Int) < k + (c + 1) - 1
        · have h0 : rr ≠ 0 := drop_ne HD.out (by rw [← HC.out]; omega)
          have HD2 := hide (drop_next HD.out)
          have e := and32 rr (rr - 1) hr (by omega)
          rw [show ((rr - 1 : Nat) : Int) = (rr : Int) - 1 by omega] at e
          have hr2 : rr &&& (rr - 1) < 4294967296 := Nat.lt_of_le_of_lt Nat.and_le_left hr
          generalize rr &&& (rr - 1) = r2 at *
          go_wp2
          go_round
          case rel => exact ⟨j + 1, r2, by omega, by go_num, rfl, hr2, HD2⟩
          case measure => simp [intOf]; omega
        · go_wp2_with (go_at_call 57; refine (next_any _ _ _ (by omega) (HT.out.drewN _)).mono ?_; rintro e w' ⟨rfl, rfl⟩)
          go_ret
          exact ⟨ret_int (by rw [HE.out, nth_at x rr j HD.out]; congr 4; omega), _, rfl⟩
    · have HE : Hid (nthL (dl x) k = 0) := nthL_no _ _ (by rw [← HC.out]; omega)
      go_enter Tryd.func40, Tryd.ntmps40
      go_wp2_with (go_at_call 56; refine (count_any _ _ (by omega)).mono ?_; rw [← HC.out]; rintro e w' ⟨rfl, n1, rfl⟩)
      go_ret
      exact ⟨ret_int (by rw [HE.out]; rfl), _, rfl⟩
  · by_cases hin : 1 ≤ k ∧ k ≤ c
    · obtain ⟨hin1, hin2⟩ := hin
      have HE : Hid (nthL (dl x) k = (dl x)[(k - 1).toNat]?.getD 0) := nthL_up _ _ hin1
      go_enter Tryd.func40, Tryd.ntmps40
      go_wp2_with (go_at_call 56; refine (count_any _ _ (by omega)).mono ?_; rw [← HC.out]; rintro e w' ⟨rfl, n1, rfl⟩)
      go_loop [6, 25] (fun r i => ∃ j rr : Nat, (j : Int) ≤ k - 1 ∧ i = .int .i64 j ∧ r = .int .u32 rr ∧ rr < 4294967296 ∧ Hid (dl rr = (dl x).drop j)) (fun _ i => (k - 1).toNat - (intOf i).toNat)
      case atStart => exact ⟨0, x, by omega, rfl, rfl, hx, by show _ = _; simp⟩
      case round =>
        obtain ⟨j, rr, hj, rfl, rfl, hr, HD⟩ := hrel
        by_cases hlt : (j : Int) < k - 1
        · have h0 : rr ≠ 0 := drop_ne HD.out (by rw [← HC.out]; omega)
          have HD2 := hide (drop_next HD.out)
          have e := and32 rr (rr - 1) hr (by omega)
          rw [show ((rr - 1 : Nat) : Int) = (rr : Int) - 1 by omega] at e
          have hr2 : rr &&& (rr - 1) < 4294967296 := Nat.lt_of_le_of_lt Nat.and_le_left hr
          generalize rr &&& (rr - 1) = r2 at *
          go_wp2
          go_round
          case rel => exact ⟨j + 1, r2, by omega, by go_num, rfl, hr2, HD2⟩
          case measure => simp [intOf]; omega
        · go_wp2_with (go_at_call 57; refine (next_any _ _ _ (by omega) (HT.out.drewN _)).mono ?_; rintro e w' ⟨rfl, rfl⟩)
          go_ret
          exact ⟨ret_int (by rw [HE.out, nth_at x rr j HD.out]; congr 4; omega), _, rfl⟩
    · have HE : Hid (nthL (dl x) k = 0) := nthL_no _ _ (by rw [← HC.out]; omega)
      by_cases h1 : k < 1
      all_goals
        have h2 : k < 1 ∨ (c : Int) < k := by omega
        go_enter Tryd.func40, Tryd.ntmps40
        go_wp2_with (go_at_call 56; refine (count_any _ _ (by omega)).mono ?_; rw [← HC.out]; rintro e w' ⟨rfl, n1, rfl⟩)
        go_ret
        exact ⟨ret_int (by rw [HE.out]; rfl), _, rfl⟩
end Go.Proofs.YthbfjkdklnffjaaDoor
