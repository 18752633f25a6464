/- The walks of date.yearOf, date.Date and dayshiftref01.Date: the date of a day. -/
import Derived.Test.YtkpgfhapffijkaaGreatDoorR10
namespace Go.Proofs.YtkpgfhapffijkaaGreatDoor.Dt
open Go.ChangeShapes Go.WideShapes Go.ChangeAt Go.RowKit
theorem hide {p : Prop} (h : p) : Hid p := h
theorem val_int {k : IntKind} {a b : Int} (h : a = b) : Value.int k a = .int k b := by rw [h]
theorem ret_int2 {k l : IntKind} {a b c d : Int} (h : a = b) (g : c = d) : Ending.returned (.tuple #[.int k a, .int l c]) = .returned (.tuple #[.int k b, .int l d]) := by rw [h, g]
set_option maxHeartbeats 1000000 in
theorem yearOf_any (n : Int) (w : World) (h1 : 1 ≤ n) (h2 : n ≤ 3652059) :
    Calls Tryz.prog 180 #[.int .i64 n] w fun e w' => ∃ y l : Int, e = .returned (.tuple #[.int .i64 y, .int .i64 l]) ∧ DsCal.ahead y + l = n - 1 ∧ 1 ≤ y ∧ 0 ≤ l ∧ l < 365 + DsCal.lp y ∧ w' = w := by
  go_enter Tryz.func180, Tryz.ntmps180
  go_wp2
  all_goals
    go_loop [4, 5, 34] (fun l y i => ∃ k : Nat, k ≤ 3 ∧ i = .int .i64 k ∧ y = .int .i64 (DsCal.y0 n + k) ∧ l = .int .i64 (DsCal.r0 n - 365 * k) ∧ 0 ≤ DsCal.r0 n - 365 * k) (fun _ _ i => 3 - (intOf i).toNat)
    case atStart => exact ⟨0, by omega, rfl, val_int (by unfold DsCal.y0; omega), val_int (by unfold DsCal.r0; omega), by unfold DsCal.r0; omega⟩
    case round =>
      obtain ⟨k, hk, rfl, rfl, rfl, h0⟩ := hrel
      have hy := DsCal.y0_bd h1 h2
      have hr := DsCal.r0_bd n
      have fin := fun h => DsCal.yearOf_end (n := n) (k := k) h1 hk h h0
      have FIN : Hid ((k = 3 ∨ DsCal.r0 n - 365 * k < 365) → DsCal.ahead (DsCal.y0 n + k) + (DsCal.r0 n - 365 * k) = n - 1 ∧ 1 ≤ DsCal.y0 n + k ∧ DsCal.r0 n - 365 * k < 365 + DsCal.lp (DsCal.y0 n + k)) := fin
      clear fin
      by_cases hlt : k < 3
      · have hl := DsCal.lp_y0 (n := n) h1 hlt
        by_cases hb : DsCal.r0 n - 365 * k < 365
        · go_wp2_with (go_at_call 209; refine (yearLen_any _ _).mono ?_; rintro e w' ⟨rfl, rfl⟩)
          go_ret2
          have f := FIN.out (.inr hb)
          exact ⟨_, _, rfl, f.1, f.2.1, h0, f.2.2, rfl⟩
        · go_wp2_with (go_at_call 209; refine (yearLen_any _ _).mono ?_; rintro e w' ⟨rfl, rfl⟩)
          go_round
          case rel => exact ⟨k + 1, by omega, by go_num, val_int (by omega), val_int (by omega), by omega⟩
          case measure => simp [intOf]; omega
      · go_wp2
        go_ret2
        have f := FIN.out (.inl (by omega))
        exact ⟨_, _, rfl, f.1, f.2.1, h0, f.2.2, rfl⟩
set_option maxHeartbeats 1000000 in
theorem date_yes (n : Int) (w : World) (ht : Tab w) (h1 : 1 ≤ n) (h2 : n ≤ 3652059) :
    Calls Tryz.prog 148 #[.int .i64 n] w fun e w' => ∃ y m d : Int, e = .returned (.tuple #[.int .i64 y, .int .i64 m, .int .i64 d, .int .i64 0]) ∧ DsCal.vld y m d ∧ DsCal.num y m d = n ∧ w' = w := by
  go_enter Tryz.func148, Tryz.ntmps148
  go_wp2_with (first | (go_at_call 42; refine (right_yes _ _ (by omega) (by omega)).mono ?_; rintro e w' ⟨rfl, rfl⟩) | (go_at_call 180; refine (yearOf_any _ _ (by omega) (by omega)).mono ?_; rintro e w' ⟨y, l, rfl, he, hy, hl0, hl1, rfl⟩; have HE := hide he; clear he))
  go_loop [7, 8, 18] (fun l' m i => ∃ k : Nat, k ≤ 11 ∧ i = .int .i64 k ∧ m = .int .i64 (k + 1) ∧ l' = .int .i64 (l - DsCal.cum y (k + 1)) ∧ 0 ≤ l - DsCal.cum y (k + 1)) (fun _ _ i => 11 - (intOf i).toNat)
  case atStart => exact ⟨0, by omega, rfl, rfl, val_int (by simp [DsCal.cum_one]), by simp [DsCal.cum_one]; omega⟩
  case round =>
    obtain ⟨k, hk, rfl, rfl, rfl, h0⟩ := hrel
    have hlp := DsCal.lp01 y
    have hcb := DsCal.cum_bd (y := y) (m := k + 1) (by omega) (by omega)
    have hdb := DsCal.dlen_any y (k + 1)
    have hcs := DsCal.cum_succ (y := y) (m := k + 1) (by omega) (by omega)
    have HCS := hide hcs
    clear hcs
    by_cases hlt : k < 11
    · by_cases hb : l - DsCal.cum y (k + 1) < DsCal.dlen y (k + 1)
      · have f := DsCal.month_end (m := k + 1) h2 hy HE.out hl0 hl1 (by omega) (by omega) h0 (.inr hb)
        have F := hide f
        clear f
        go_wp2_with (go_at_call 149; refine (len_any _ _ _ ht).mono ?_; rintro e w' ⟨rfl, rfl⟩)
        go_returns
        exact ⟨_, _, _, rfl, F.out.1, F.out.2, rfl⟩
      · go_wp2_with (go_at_call 149; refine (len_any _ _ _ ht).mono ?_; rintro e w' ⟨rfl, rfl⟩)
        go_round
        case rel => exact ⟨k + 1, by omega, by go_num, by go_num, val_int (by have := HCS.out; rw [show ((k + 1 : Nat) : Int) + 1 = (k : Int) + 1 + 1 by omega]; omega), by have := HCS.out; rw [show ((k + 1 : Nat) : Int) + 1 = (k : Int) + 1 + 1 by omega]; omega⟩
        case measure => simp [intOf]; omega
    · have f := DsCal.month_end (m := k + 1) h2 hy HE.out hl0 hl1 (by omega) (by omega) h0 (.inl (by omega))
      have F := hide f
      clear f
      go_wp2
      go_returns
      exact ⟨_, _, _, rfl, F.out.1, F.out.2, rfl⟩
end Go.Proofs.YtkpgfhapffijkaaGreatDoor.Dt

/- The walks of date.Days and dayshiftref01.Days: the day of a date. -/
namespace Go.Proofs.YtkpgfhapffijkaaGreatDoor.Dt
open Go.ChangeShapes Go.WideShapes Go.ChangeAt Go.RowKit
theorem days_no (y m d : Int) (w : World) (ht : Tab w) (h : ¬ DsCal.vld y m d) :
    Calls Tryz.prog 210 #[.int .i64 y, .int .i64 m, .int .i64 d] w fun e w' => e = .returned (.tuple #[.int .i64 0, .int .i64 6]) ∧ w' = w := by
  unfold DsCal.vld at h
  by_cases c1 : y < 1
  · clear h
    go_enter Tryz.func210, Tryz.ntmps210
    go_wp2
    go_ret2; exact ⟨rfl, rfl⟩
  by_cases c2 : 9999 < y
  · clear h
    go_enter Tryz.func210, Tryz.ntmps210
    go_wp2
    go_ret2; exact ⟨rfl, rfl⟩
  by_cases c3 : d < 1
  · clear h
    go_enter Tryz.func210, Tryz.ntmps210
    go_wp2
    go_ret2; exact ⟨rfl, rfl⟩
  have c4 : DsCal.dlen y m < d := by omega
  clear h
  go_enter Tryz.func210, Tryz.ntmps210
  go_wp2_with (go_at_call 149; refine (len_any _ _ _ ht).mono ?_; rintro e w' ⟨rfl, rfl⟩)
  go_ret2; exact ⟨rfl, rfl⟩
set_option maxHeartbeats 1000000 in
theorem days_yes (y m d : Int) (w : World) (ht : Tab w) (h : DsCal.vld y m d) :
    Calls Tryz.prog 210 #[.int .i64 y, .int .i64 m, .int .i64 d] w fun e w' => e = .returned (.tuple #[.int .i64 (DsCal.num y m d), .int .i64 0]) ∧ w' = w := by
  obtain ⟨y1, y2, d1, d2⟩ := h
  have hm := DsCal.dlen_range (y := y) (m := m) (by omega)
  obtain ⟨m1, m2⟩ := hm
  have hdb := DsCal.dlen_any y m
  have hab := DsCal.ahead_bd y y1 (by omega)
  go_enter Tryz.func210, Tryz.ntmps210
  go_wp2_with (first | (go_at_call 149; refine (len_any _ _ _ ht).mono ?_; rintro e w' ⟨rfl, rfl⟩) | (go_at_call 226; refine (aheadOf_any _ _ (by omega) (by omega)).mono ?_; rintro e w' ⟨rfl, rfl⟩))
  go_loop [8, 33] (fun t i => ∃ k : Nat, k ≤ m - 1 ∧ i = .int .i64 k ∧ t = .int .i64 (DsCal.ahead y + d + DsCal.cum y (k + 1))) (fun _ i => (m - 1).toNat - (intOf i).toNat)
  case atStart => exact ⟨0, by omega, rfl, val_int (by simp [DsCal.cum_one])⟩
  case round =>
    obtain ⟨k, hk, rfl, rfl⟩ := hrel
    have hcb := DsCal.cum_bd (y := y) (m := k + 1) (by omega) (by omega)
    have hdk := DsCal.dlen_any y (k + 1)
    have hcs := DsCal.cum_succ (y := y) (m := k + 1) (by omega) (by omega)
    have HCS := hide hcs
    clear hcs
    by_cases hlt : k < m - 1
    · go_wp2_with (go_at_call 149; refine (len_any _ _ _ ht).mono ?_; rintro e w' ⟨rfl, rfl⟩)
      go_round
      case rel => exact ⟨k + 1, by omega, by go_num, val_int (by have := HCS.out; rw [show ((k + 1 : Nat) : Int) + 1 = (k : Int) + 1 + 1 by omega]; omega)⟩
      case measure => simp [intOf]; omega
    · go_wp2
      go_ret2
      exact ⟨ret_int2 (by unfold DsCal.num; rw [show (k : Int) + 1 = m by omega]; omega) rfl, rfl⟩
end Go.Proofs.YtkpgfhapffijkaaGreatDoor.Dt
