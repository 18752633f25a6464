/- The walks of date.Days and dayshiftref01.Days: the day of a date. -/
import Derived.Test.YtbkjcnkjlkjknaaDoorDate
namespace Go.Proofs.YtbkjcnkjlkjknaaDoor
open Go.ChangeShapes Go.WideShapes Go.ChangeAt Go.RowKit

theorem days_no (y m d : Int) (w : World) (ht : Tab w) (h : ¬ DsCal.vld y m d) :
    Calls Tryd.prog 15 #[.int .i64 y, .int .i64 m, .int .i64 d] w fun e w' => e = .returned (.tuple #[.int .i64 0, .int .i64 6]) ∧ w' = w := by
  unfold DsCal.vld at h
  by_cases c1 : y < 1
  · clear h
    go_enter Tryd.func15, Tryd.ntmps15
    go_wp2
    go_ret2; exact ⟨rfl, rfl⟩
  by_cases c2 : 9999 < y
  · clear h
    go_enter Tryd.func15, Tryd.ntmps15
    go_wp2
    go_ret2; exact ⟨rfl, rfl⟩
  by_cases c3 : d < 1
  · clear h
    go_enter Tryd.func15, Tryd.ntmps15
    go_wp2
    go_ret2; exact ⟨rfl, rfl⟩
  have c4 : DsCal.dlen y m < d := by omega
  clear h
  go_enter Tryd.func15, Tryd.ntmps15
  go_wp2_with (go_at_call 19; refine (len_any _ _ _ ht).mono ?_; rintro e w' ⟨rfl, rfl⟩)
  go_ret2; exact ⟨rfl, rfl⟩

set_option maxHeartbeats 1000000 in
theorem days_yes (y m d : Int) (w : World) (ht : Tab w) (h : DsCal.vld y m d) :
    Calls Tryd.prog 15 #[.int .i64 y, .int .i64 m, .int .i64 d] w fun e w' => e = .returned (.tuple #[.int .i64 (DsCal.num y m d), .int .i64 0]) ∧ w' = w := by
  obtain ⟨y1, y2, d1, d2⟩ := h
  have hm := DsCal.dlen_range (y := y) (m := m) (by omega)
  obtain ⟨m1, m2⟩ := hm
  have hdb := DsCal.dlen_any y m
  have hab := DsCal.ahead_bd y y1 (by omega)
  go_enter Tryd.func15, Tryd.ntmps15
  go_wp2_with (first | (go_at_call 19; refine (len_any _ _ _ ht).mono ?_; rintro e w' ⟨rfl, rfl⟩) | (go_at_call 51; refine (aheadOf_any _ _ (by omega) (by omega)).mono ?_; rintro e w' ⟨rfl, rfl⟩))
  go_loop [8, 33] (fun t i => ∃ k : Nat, k ≤ m - 1 ∧ i = .int .i64 k ∧ t = .int .i64 (DsCal.ahead y + d + DsCal.cum y (k + 1))) (fun _ i => (m - 1).toNat - (intOf i).toNat)
  case atStart => exact ⟨0, by omega, rfl, val_int (by simp [DsCal.cum_one])⟩
  case round =>
    obtain ⟨k, hk, rfl, rfl⟩ := hrel
    have hcb := DsCal.cum_bd (y := y) (m := k + 1) (by omega) (by omega)
    have hdk := DsCal.dlen_any y (k + 1)
    have hcs := DsCal.cum_succ (y := y) (m := k + 1) (by omega) (by omega)
    have HCS := hide hcs
    clear hcs
    by_cases hlt : k < m - 1
    · go_wp2_with (go_at_call 19; refine (len_any _ _ _ ht).mono ?_; rintro e w' ⟨rfl, rfl⟩)
      go_round
      case rel => exact ⟨k + 1, by omega, by go_num, val_int (by have := HCS.out; rw [show ((k + 1 : Nat) : Int) + 1 = (k : Int) + 1 + 1 by omega]; omega)⟩
      case measure => simp [intOf]; omega
    · go_wp2
      go_ret2
      exact ⟨ret_int2 (by unfold DsCal.num; rw [show (k : Int) + 1 = m by omega]; omega) rfl, rfl⟩

theorem refDays_no (y m d : Int) (w : World) (h : ¬ DsCal.vld y m d) :
    Calls Tryd.prog 16 #[.int .i64 y, .int .i64 m, .int .i64 d] w fun e w' => e = .returned (.tuple #[.int .i64 0, .int .i64 6]) ∧ w' = w := by
  unfold DsCal.vld at h
  by_cases c1 : y < 1
  · clear h
    go_enter Tryd.func16, Tryd.ntmps16
    go_wp2
    go_ret2; exact ⟨rfl, rfl⟩
  by_cases c2 : 9999 < y
  · clear h
    go_enter Tryd.func16, Tryd.ntmps16
    go_wp2
    go_ret2; exact ⟨rfl, rfl⟩
  by_cases c3 : d < 1
  · clear h
    go_enter Tryd.func16, Tryd.ntmps16
    go_wp2
    go_ret2; exact ⟨rfl, rfl⟩
  have c4 : DsCal.dlen y m < d := by omega
  clear h
  go_enter Tryd.func16, Tryd.ntmps16
  go_wp2_with (go_at_call 20; refine (refLen_any _ _ _).mono ?_; rintro e w' ⟨rfl, rfl⟩)
  go_ret2; exact ⟨rfl, rfl⟩

set_option maxHeartbeats 1000000 in
theorem refDays_yes (y m d : Int) (w : World) (h : DsCal.vld y m d) :
    Calls Tryd.prog 16 #[.int .i64 y, .int .i64 m, .int .i64 d] w fun e w' => e = .returned (.tuple #[.int .i64 (DsCal.num y m d), .int .i64 0]) ∧ w' = w := by
  obtain ⟨y1, y2, d1, d2⟩ := h
  have hm := DsCal.dlen_range (y := y) (m := m) (by omega)
  obtain ⟨m1, m2⟩ := hm
  have hdb := DsCal.dlen_any y m
  have hab := DsCal.ahead_bd y y1 (by omega)
  go_enter Tryd.func16, Tryd.ntmps16
  go_wp2_with (first | (go_at_call 20; refine (refLen_any _ _ _).mono ?_; rintro e w' ⟨rfl, rfl⟩) | (go_at_call 52; refine (ahead_any _ _ (by omega) (by omega)).mono ?_; rintro e w' ⟨rfl, rfl⟩))
  go_loop [8, 9] (fun t i => ∃ k : Int, 1 ≤ k ∧ k ≤ m ∧ i = .int .i64 k ∧ t = .int .i64 (DsCal.ahead y + d + DsCal.cum y k)) (fun _ i => (m - intOf i).toNat)
  case atStart => exact ⟨1, by omega, by omega, rfl, val_int (by simp [DsCal.cum_one])⟩
  case round =>
    obtain ⟨k, k1, k2, rfl, rfl⟩ := hrel
    have hcb := DsCal.cum_bd (y := y) (m := k) (by omega) (by omega)
    have hdk := DsCal.dlen_any y k
    have hcs := DsCal.cum_succ (y := y) (m := k) (by omega) (by omega)
    have HCS := hide hcs
    clear hcs
    by_cases hlt : k < m
    · go_wp2_with (go_at_call 20; refine (refLen_any _ _ _).mono ?_; rintro e w' ⟨rfl, rfl⟩)
      go_round
      case rel => exact ⟨k + 1, by omega, by omega, rfl, val_int (by have := HCS.out; omega)⟩
      case measure => simp [intOf]; omega
    · go_wp2
      go_ret2
      exact ⟨ret_int2 (by unfold DsCal.num; rw [show k = m by omega]; omega) rfl, rfl⟩
end Go.Proofs.YtbkjcnkjlkjknaaDoor
