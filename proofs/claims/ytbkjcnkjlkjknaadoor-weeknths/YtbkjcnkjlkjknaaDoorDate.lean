/- The walks of date.yearOf, date.Date and dayshiftref01.Date: the date of a day. -/
import Derived.Test.YtbkjcnkjlkjknaaDoorLeaf
namespace Go.Proofs.YtbkjcnkjlkjknaaDoor
open Go.ChangeShapes Go.WideShapes Go.ChangeAt Go.RowKit

theorem hide {p : Prop} (h : p) : Hid p := h
theorem val_int {k : IntKind} {a b : Int} (h : a = b) : Value.int k a = .int k b := by rw [h]
theorem ret_int2 {k l : IntKind} {a b c d : Int} (h : a = b) (g : c = d) : Ending.returned (.tuple #[.int k a, .int l c]) = .returned (.tuple #[.int k b, .int l d]) := by rw [h, g]

set_option maxHeartbeats 1000000 in
theorem yearOf_any (n : Int) (w : World) (h1 : 1 ≤ n) (h2 : n ≤ 3652059) :
    Calls Tryd.prog 54 #[.int .i64 n] w fun e w' => ∃ y l : Int, e = .returned (.tuple #[.int .i64 y, .int .i64 l]) ∧ DsCal.ahead y + l = n - 1 ∧ 1 ≤ y ∧ 0 ≤ l ∧ l < 365 + DsCal.lp y ∧ w' = w := by
  go_enter Tryd.func54, Tryd.ntmps54
  go_wp2
  all_goals
    go_loop [4, 5, 34] (fun l y i => ∃ k : Nat, k ≤ 3 ∧ i = .int .i64 k ∧ y = .int .i64 (DsCal.y0 n + k) ∧ l = .int .i64 (DsCal.r0 n - 365 * k) ∧ 0 ≤ DsCal.r0 n - 365 * k) (fun _ _ i => 3 - (intOf i).toNat)
    case atStart => exact ⟨0, by omega, rfl, val_int (by unfold DsCal.y0; omega), val_int (by unfold DsCal.r0; omega), by unfold DsCal.r0; omega⟩
    case round =>
      obtain ⟨k, hk, rfl, rfl, rfl, h0⟩ := hrel
      have hy := DsCal.y0_bd h1 h2
      have hr := DsCal.r0_bd n
      have fin := fun h => DsCal.yearOf_end (n := n) (k := k) h1 hk h h0
      have FIN : Hid ((k = 3 ∨ DsCal.r0 n - 365 * k < 365) → DsCal.ahead (DsCal.y0 n + k) + (DsCal.r0 n - 365 * k) = n - 1 ∧ 1 ≤ DsCal.y0 n + k ∧ DsCal.r0 n - 365 * k < 365 + DsCal.lp (DsCal.y0 n + k)) := fin
      clear fin
      by_cases hlt : k < 3
      · have hl := DsCal.lp_y0 (n := n) h1 hlt
        by_cases hb : DsCal.r0 n - 365 * k < 365
        · go_wp2_with (go_at_call 62; refine (yearLen_any _ _).mono ?_; rintro e w' ⟨rfl, rfl⟩)
          go_ret2
          have f := FIN.out (.inr hb)
          exact ⟨_, _, rfl, f.1, f.2.1, h0, f.2.2, rfl⟩
        · go_wp2_with (go_at_call 62; refine (yearLen_any _ _).mono ?_; rintro e w' ⟨rfl, rfl⟩)
          go_round
          case rel => exact ⟨k + 1, by omega, by go_num, val_int (by omega), val_int (by omega), by omega⟩
          case measure => simp [intOf]; omega
      · go_wp2
        go_ret2
        have f := FIN.out (.inl (by omega))
        exact ⟨_, _, rfl, f.1, f.2.1, h0, f.2.2, rfl⟩

theorem date_no (n : Int) (w : World) (h : n < 1 ∨ 3652059 < n) :
    Calls Tryd.prog 22 #[.int .i64 n] w fun e w' => e = .returned (.tuple #[.int .i64 0, .int .i64 0, .int .i64 0, .int .i64 6]) ∧ w' = w := by
  go_enter Tryd.func22, Tryd.ntmps22
  go_wp2_with (go_at_call 26; refine (right_no _ _ (by omega)).mono ?_; rintro e w' ⟨rfl, rfl⟩)
  go_returns
  exact ⟨rfl, rfl⟩
theorem refDate_no (n : Int) (w : World) (h : n < 1 ∨ 3652059 < n) :
    Calls Tryd.prog 23 #[.int .i64 n] w fun e w' => e = .returned (.tuple #[.int .i64 0, .int .i64 0, .int .i64 0, .int .i64 6]) ∧ w' = w := by
  go_enter Tryd.func23, Tryd.ntmps23
  go_wp2_with (go_at_call 27; refine (refRight_no _ _ (by omega)).mono ?_; rintro e w' ⟨rfl, rfl⟩)
  go_returns
  exact ⟨rfl, rfl⟩

set_option maxHeartbeats 1000000 in
theorem date_yes (n : Int) (w : World) (ht : Tab w) (h1 : 1 ≤ n) (h2 : n ≤ 3652059) :
    Calls Tryd.prog 22 #[.int .i64 n] w fun e w' => ∃ y m d : Int, e = .returned (.tuple #[.int .i64 y, .int .i64 m, .int .i64 d, .int .i64 0]) ∧ DsCal.vld y m d ∧ DsCal.num y m d = n ∧ w' = w := by
  go_enter Tryd.func22, Tryd.ntmps22
  go_wp2_with (first | (go_at_call 26; refine (right_yes _ _ (by omega) (by omega)).mono ?_; rintro e w' ⟨rfl, rfl⟩) | (go_at_call 54; refine (yearOf_any _ _ (by omega) (by omega)).mono ?_; rintro e w' ⟨y, l, rfl, he, hy, hl0, hl1, rfl⟩; have HE := hide he; clear he))
  go_loop [7, 8, 18] (fun l' m i => ∃ k : Nat, k ≤ 11 ∧ i = .int .i64 k ∧ m = .int .i64 (k + 1) ∧ l' = .int .i64 (l - DsCal.cum y (k + 1)) ∧ 0 ≤ l - DsCal.cum y (k + 1)) (fun _ _ i => 11 - (intOf i).toNat)
  case atStart => exact ⟨0, by omega, rfl, rfl, val_int (by simp [DsCal.cum_one]), by simp [DsCal.cum_one]; omega⟩
  case round =>
    obtain ⟨k, hk, rfl, rfl, rfl, h0⟩ := hrel
    have hlp := DsCal.lp01 y
    have hcb := DsCal.cum_bd (y := y) (m := k + 1) (by omega) (by omega)
    have hdb := DsCal.dlen_any y (k + 1)
    have hcs := DsCal.cum_succ (y := y) (m := k + 1) (by omega) (by omega)
    have HCS := hide hcs
    clear hcs
    by_cases hlt : k < 11
    · by_cases hb : l - DsCal.cum y (k + 1) < DsCal.dlen y (k + 1)
      · have f := DsCal.month_end (m := k + 1) h2 hy HE.out hl0 hl1 (by omega) (by omega) h0 (.inr hb)
        have F := hide f
        clear f
        go_wp2_with (go_at_call 19; refine (len_any _ _ _ ht).mono ?_; rintro e w' ⟨rfl, rfl⟩)
        go_returns
        exact ⟨_, _, _, rfl, F.out.1, F.out.2, rfl⟩
      · go_wp2_with (go_at_call 19; refine (len_any _ _ _ ht).mono ?_; rintro e w' ⟨rfl, rfl⟩)
        go_round
        case rel => exact ⟨k + 1, by omega, by go_num, by go_num, val_int (by have := HCS.out; rw [show ((k + 1 : Nat) : Int) + 1 = (k : Int) + 1 + 1 by omega]; omega), by have := HCS.out; rw [show ((k + 1 : Nat) : Int) + 1 = (k : Int) + 1 + 1 by omega]; omega⟩
        case measure => simp [intOf]; omega
    · have f := DsCal.month_end (m := k + 1) h2 hy HE.out hl0 hl1 (by omega) (by omega) h0 (.inl (by omega))
      have F := hide f
      clear f
      go_wp2
      go_returns
      exact ⟨_, _, _, rfl, F.out.1, F.out.2, rfl⟩

set_option maxHeartbeats 1000000 in
theorem refDate_yes (n : Int) (w : World) (h1 : 1 ≤ n) (h2 : n ≤ 3652059) :
    Calls Tryd.prog 23 #[.int .i64 n] w fun e w' => ∃ y m d : Int, e = .returned (.tuple #[.int .i64 y, .int .i64 m, .int .i64 d, .int .i64 0]) ∧ DsCal.vld y m d ∧ DsCal.num y m d = n ∧ w' = w := by
  go_enter Tryd.func23, Tryd.ntmps23
  go_wp2_with (go_at_call 27; refine (refRight_yes _ _ (by omega) (by omega)).mono ?_; rintro e w' ⟨rfl, rfl⟩)
  go_loop [6] (fun t => ∃ y : Int, 1 ≤ y ∧ DsCal.ahead y < n ∧ t = .int .i64 y) (fun t => (9999 - intOf t).toNat)
  case atStart => exact ⟨_, (DsCal.ref_start h1).1, (DsCal.ref_start h1).2, rfl⟩
  case round =>
    obtain ⟨y, hy, ha, rfl⟩ := hrel
    have hy9 := DsCal.ref_year h2 ha
    have hab := DsCal.ahead_bd y hy (by omega)
    have hab' := DsCal.ahead_bd (y + 1) (by omega) (by omega)
    by_cases hlt : DsCal.ahead (y + 1) < n
    · have hy10 := DsCal.ref_year h2 hlt
      go_wp2_with (go_at_call 52; refine (ahead_any _ _ (by omega) (by omega)).mono ?_; rintro e w' ⟨rfl, rfl⟩)
      go_round
      case rel => exact ⟨y + 1, by omega, hlt, rfl⟩
      case measure => simp [intOf]; omega
    · go_wp2_with (go_at_call 52; refine (ahead_any _ _ (by omega) (by omega)).mono ?_; rintro e w' ⟨rfl, rfl⟩)
      go_loop [7, 8] (fun l t => ∃ m : Int, 1 ≤ m ∧ m ≤ 12 ∧ t = .int .i64 m ∧ l = .int .i64 (n - DsCal.ahead y - DsCal.cum y m) ∧ 1 ≤ n - DsCal.ahead y - DsCal.cum y m) (fun _ t => (12 - intOf t).toNat)
      case atStart => exact ⟨1, by omega, by omega, rfl, val_int (by simp [DsCal.cum_one]), by simp [DsCal.cum_one]; omega⟩
      case round =>
        obtain ⟨m, m1, m2, rfl, rfl, hc⟩ := hrel
        have hcb := DsCal.cum_bd (y := y) (m := m) (by omega) (by omega)
        have hdb := DsCal.dlen_any y m
        have hcs := DsCal.cum_succ (y := y) (m := m) (by omega) (by omega)
        have HCS := hide hcs
        clear hcs
        by_cases hb : DsCal.dlen y m < n - DsCal.ahead y - DsCal.cum y m
        · have hm12 : m < 12 := DsCal.ref_month h2 hy ha (by omega) m1 m2 hc hb
          go_wp2_with (go_at_call 20; refine (refLen_any _ _ _).mono ?_; rintro e w' ⟨rfl, rfl⟩)
          go_round
          case rel => exact ⟨m + 1, by omega, by omega, rfl, val_int (by have := HCS.out; omega), by have := HCS.out; omega⟩
          case measure => simp [intOf]; omega
        · have f := DsCal.ref_end (m := m) h2 hy ha (by omega) m1 m2 hc (.inr (by omega))
          have F := hide f
          clear f
          go_wp2_with (go_at_call 20; refine (refLen_any _ _ _).mono ?_; rintro e w' ⟨rfl, rfl⟩)
          go_returns
          exact ⟨_, _, _, rfl, F.out.1, F.out.2, rfl⟩
end Go.Proofs.YtbkjcnkjlkjknaaDoor
