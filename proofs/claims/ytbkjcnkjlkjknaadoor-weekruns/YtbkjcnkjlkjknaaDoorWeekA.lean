/- The walks of week.thursdays, week.Week, week.First, week.Last and of dayshiftref02's. -/
import Derived.Test.YtbkjcnkjlkjknaaDoorKnownA
namespace Go.Proofs.YtbkjcnkjlkjknaaDoor
open Go.ChangeShapes Go.WideShapes Go.ChangeAt Go.RowKit

theorem ret_int3 {k l o : IntKind} {a b c d x y : Int} (h : a = b) (g : c = d) (i : x = y) : Ending.returned (.tuple #[.int k a, .int l c, .int o x]) = .returned (.tuple #[.int k b, .int l d, .int o y]) := by rw [h, g, i]

set_option maxHeartbeats 1000000 in
theorem thursdays_any (b t : Int) (w : World) (h1 : 1 ≤ b) (h2 : b ≤ t) (h3 : t ≤ b + 365) (h4 : t ≤ 3652059) :
    Calls Tryd.prog 57 #[.int .i64 b, .int .i64 t] w fun e w' => e = .returned (.int .i64 ((t - b) / 7 + 1)) ∧ w' = w := by
  go_enter Tryd.func57, Tryd.ntmps57
  go_wp2
  go_loop [1, 5, 6] (fun u c i => ∃ k : Nat, k ≤ 53 ∧ i = .int .i64 k ∧ c = .int .i64 k ∧ u = .int .i64 (t - 7 * k) ∧ 7 * (k : Int) ≤ t - b + 7) (fun _ _ i => 53 - (intOf i).toNat)
  case atStart => exact ⟨0, by omega, rfl, rfl, val_int (by omega), by omega⟩
  case round =>
    obtain ⟨k, hk, rfl, rfl, rfl, hc⟩ := hrel
    by_cases hlt : k < 53
    · by_cases hb : t - 7 * k < b
      · go_wp2
        go_ret
        exact ⟨ret_int (by omega), rfl⟩
      · go_wp2
        go_round
        case rel => exact ⟨k + 1, by omega, by go_num, by go_num, val_int (by omega), by omega⟩
        case measure => simp [intOf]; omega
    · go_wp2
      go_ret
      exact ⟨ret_int (by omega), rfl⟩

theorem week_no (n : Int) (w : World) (h : n < 1 ∨ 3652059 < n) :
    Calls Tryd.prog 32 #[.int .i64 n] w fun e w' => e = .returned (.tuple #[.int .i64 0, .int .i64 0, .int .i64 6]) ∧ w' = w := by
  go_enter Tryd.func32, Tryd.ntmps32
  go_wp2_with (go_at_call 24; refine (weekday_no _ _ (by omega)).mono ?_; rintro e w' ⟨rfl, rfl⟩)
  go_ret3; exact ⟨rfl, rfl⟩
theorem refWeek_no (n : Int) (w : World) (h : n < 1 ∨ 3652059 < n) :
    Calls Tryd.prog 33 #[.int .i64 n] w fun e w' => e = .returned (.tuple #[.int .i64 0, .int .i64 0, .int .i64 6]) ∧ w' = w := by
  go_enter Tryd.func33, Tryd.ntmps33
  go_wp2_with (go_at_call 25; refine (refWeekday_no _ _ (by omega)).mono ?_; rintro e w' ⟨rfl, rfl⟩)
  go_ret3; exact ⟨rfl, rfl⟩

/-- the Thursday of a day's week -/
def thOf (n : Int) : Int := n - (n - 1) % 7 + 3
/-- the year and the number of a day's week -/
def IsWeek (n y k : Int) : Prop := ∃ m d, DsCal.vld y m d ∧ DsCal.num y m d = thOf n ∧ k = (thOf n - (DsCal.ahead y + 1)) / 7 + 1
theorem IsWeek.one {n y k z l : Int} (h : IsWeek n y k) (g : IsWeek n z l) : y = z ∧ k = l := by
  obtain ⟨m, d, h1, h2, rfl⟩ := h
  obtain ⟨m', d', g1, g2, rfl⟩ := g
  obtain ⟨rfl, _, _⟩ := DsCal.num_inj h1 g1 (h2.trans g2.symm)
  exact ⟨rfl, rfl⟩
theorem thOf_bd {n : Int} (h1 : 1 ≤ n) (h2 : n ≤ 3652059) : 1 ≤ thOf n ∧ thOf n ≤ 3652059 := by unfold thOf; omega
theorem jan1 {y : Int} (h1 : 1 ≤ y) (h2 : y ≤ 9999) : DsCal.vld y 1 1 := ⟨h1, h2, by omega, by have := DsCal.dlen_bd (y := y) (m := 1) (by omega) (by omega); omega⟩
theorem num_jan1 (y : Int) : DsCal.num y 1 1 = DsCal.ahead y + 1 := by unfold DsCal.num; rw [DsCal.cum_one]; omega
theorem in_year {y m d : Int} (h : DsCal.vld y m d) : DsCal.ahead y + 1 ≤ DsCal.num y m d ∧ DsCal.num y m d ≤ DsCal.ahead y + 1 + 365 := by
  have a := DsCal.doy_bd h
  have b := DsCal.lp01 y
  unfold DsCal.num; omega

set_option maxHeartbeats 1000000 in
theorem week_yes (n : Int) (w : World) (ht : Tab w) (h1 : 1 ≤ n) (h2 : n ≤ 3652059) :
    Calls Tryd.prog 32 #[.int .i64 n] w fun e w' => ∃ y k : Int, e = .returned (.tuple #[.int .i64 y, .int .i64 k, .int .i64 0]) ∧ IsWeek n y k ∧ w' = w := by
  obtain ⟨t1, t2⟩ := thOf_bd h1 h2
  have HT : Hid (n - (n - 1) % 7 + 3 = thOf n) := rfl
  go_enter Tryd.func32, Tryd.ntmps32
  go_wp2_with fail
  refine (weekday_yes _ _ h1 h2).mono ?_
  rintro e w1 ⟨rfl, rfl⟩
  go_wp2_with fail
  rw [HT.out]
  refine (date_yes _ _ ht t1 t2).mono ?_
  rintro e w1 ⟨y, m, d, rfl, hv, hn, rfl⟩
  have HV := hide hv
  have HN := hide hn
  have hy := in_year hv
  rw [hn] at hy
  have hb := DsCal.vld_bd hv
  have ha := DsCal.ahead_bd y hb.1 (by omega)
  clear hv hn
  go_wp2_with fail
  refine (days_yes _ _ _ _ ht (jan1 (by omega) (by omega))).mono ?_
  rw [num_jan1]
  rintro e w1 ⟨rfl, rfl⟩
  go_wp2_with fail
  refine (thursdays_any _ _ _ (by omega) (by omega) (by omega) (by omega)).mono ?_
  rintro e w1 ⟨rfl, rfl⟩
  go_wp2
  go_ret3
  exact ⟨_, _, rfl, ⟨m, d, HV.out, HN.out, rfl⟩, rfl⟩

set_option maxHeartbeats 1000000 in
theorem refWeek_yes (n : Int) (w : World) (h1 : 1 ≤ n) (h2 : n ≤ 3652059) :
    Calls Tryd.prog 33 #[.int .i64 n] w fun e w' => ∃ y k : Int, e = .returned (.tuple #[.int .i64 y, .int .i64 k, .int .i64 0]) ∧ IsWeek n y k ∧ w' = w := by
  obtain ⟨t1, t2⟩ := thOf_bd h1 h2
  have HT : Hid (n - (n - 1) % 7 + 3 = thOf n) := rfl
  go_enter Tryd.func33, Tryd.ntmps33
  go_wp2_with fail
  refine (refWeekday_yes _ _ h1 h2).mono ?_
  rintro e w1 ⟨rfl, rfl⟩
  have t3 : n - (n - 1) % 7 + 3 ≤ 3652059 := t2
  go_wp2_with fail
  rw [HT.out]
  refine (refDate_yes _ _ t1 t2).mono ?_
  rintro e w1 ⟨y, m, d, rfl, hv, hn, rfl⟩
  have HV := hide hv
  have HN := hide hn
  have hy := in_year hv
  rw [hn] at hy
  have hb := DsCal.vld_bd hv
  have ha := DsCal.ahead_bd y hb.1 (by omega)
  clear hv hn
  go_wp2_with fail
  refine (refDays_yes _ _ _ _ (jan1 (by omega) (by omega))).mono ?_
  rw [num_jan1]
  rintro e w1 ⟨rfl, rfl⟩
  generalize htn : thOf n = t at HN hy t1 t2 ⊢
  have HTN := hide htn
  clear htn HT
  go_wp2_with fail
  go_loop [11, 12] (fun c u => ∃ k : Nat, c = .int .i64 k ∧ u = .int .i64 (t - 7 * k) ∧ 7 * (k : Int) ≤ t - (DsCal.ahead y + 1) + 7) (fun _ u => (intOf u - (DsCal.ahead y + 1) + 7).toNat)
  case atStart => exact ⟨0, rfl, val_int (by omega), by omega⟩
  case round =>
    obtain ⟨k, rfl, rfl, hc⟩ := hrel
    by_cases hlt : DsCal.ahead y + 1 ≤ t - 7 * k
    · go_wp2
      go_round
      case rel => exact ⟨k + 1, by go_num, val_int (by omega), by omega⟩
      case measure => simp [intOf]; omega
    · go_wp2
      go_ret3
      exact ⟨_, _, rfl, ⟨m, d, HV.out, by rw [HTN.out]; exact HN.out, by rw [HTN.out]; omega⟩, rfl⟩

theorem first_no (n : Int) (w : World) (h : n < 1 ∨ 3652059 < n) :
    Calls Tryd.prog 34 #[.int .i64 n] w fun e w' => e = .returned (.tuple #[.int .i64 0, .int .i64 6]) ∧ w' = w := by
  go_enter Tryd.func34, Tryd.ntmps34
  go_wp2_with (go_at_call 22; refine (date_no _ _ (by omega)).mono ?_; rintro e w' ⟨rfl, rfl⟩)
  go_ret2; exact ⟨rfl, rfl⟩
theorem first_yes (n : Int) (w : World) (ht : Tab w) (h1 : 1 ≤ n) (h2 : n ≤ 3652059) :
    Calls Tryd.prog 34 #[.int .i64 n] w fun e w' => ∃ y m d : Int, e = .returned (.tuple #[.int .i64 (n - d + 1), .int .i64 0]) ∧ DsCal.vld y m d ∧ DsCal.num y m d = n ∧ w' = w := by
  go_enter Tryd.func34, Tryd.ntmps34
  go_wp2_with fail
  refine (date_yes _ _ ht h1 h2).mono ?_
  rintro e w1 ⟨y, m, d, rfl, hv, hn, rfl⟩
  have HV := hide hv
  have HN := hide hn
  obtain ⟨b1, b2, b3, b4, b5, b6⟩ := DsCal.vld_bd hv
  have b7 := DsCal.dlen_any y m
  clear hv hn
  go_wp2_with (go_at_call 19; refine (len_any _ _ _ ht).mono ?_; rintro e w' ⟨rfl, rfl⟩)
  go_ret2
  exact ⟨y, m, d, rfl, HV.out, HN.out, rfl⟩

theorem refFirst_no (n : Int) (w : World) (h : n < 1 ∨ 3652059 < n) :
    Calls Tryd.prog 35 #[.int .i64 n] w fun e w' => e = .returned (.tuple #[.int .i64 0, .int .i64 6]) ∧ w' = w := by
  go_enter Tryd.func35, Tryd.ntmps35
  go_wp2_with (go_at_call 23; refine (refDate_no _ _ (by omega)).mono ?_; rintro e w' ⟨rfl, rfl⟩)
  go_ret2; exact ⟨rfl, rfl⟩
theorem refFirst_yes (n : Int) (w : World) (h1 : 1 ≤ n) (h2 : n ≤ 3652059) :
    Calls Tryd.prog 35 #[.int .i64 n] w fun e w' => ∃ y m d : Int, e = .returned (.tuple #[.int .i64 (n - d + 1), .int .i64 0]) ∧ DsCal.vld y m d ∧ DsCal.num y m d = n ∧ w' = w := by
  go_enter Tryd.func35, Tryd.ntmps35
  go_wp2_with fail
  refine (refDate_yes _ _ h1 h2).mono ?_
  rintro e w1 ⟨y, m, d, rfl, hv, hn, rfl⟩
  have HV := hide hv
  have HN := hide hn
  obtain ⟨b1, b2, b3, b4, b5, b6⟩ := DsCal.vld_bd hv
  have b7 := DsCal.dlen_any y m
  clear hv hn
  go_wp2_with (go_at_call 20; refine (refLen_any _ _ _).mono ?_; rintro e w' ⟨rfl, rfl⟩)
  go_ret2
  exact ⟨y, m, d, rfl, HV.out, HN.out, rfl⟩

theorem last_no (n : Int) (w : World) (h : n < 1 ∨ 3652059 < n) :
    Calls Tryd.prog 36 #[.int .i64 n] w fun e w' => e = .returned (.tuple #[.int .i64 0, .int .i64 6]) ∧ w' = w := by
  go_enter Tryd.func36, Tryd.ntmps36
  go_wp2_with (go_at_call 22; refine (date_no _ _ (by omega)).mono ?_; rintro e w' ⟨rfl, rfl⟩)
  go_ret2; exact ⟨rfl, rfl⟩
theorem last_yes (n : Int) (w : World) (ht : Tab w) (h1 : 1 ≤ n) (h2 : n ≤ 3652059) :
    Calls Tryd.prog 36 #[.int .i64 n] w fun e w' => ∃ y m d : Int, e = .returned (.tuple #[.int .i64 (n - d + DsCal.dlen y m), .int .i64 0]) ∧ DsCal.vld y m d ∧ DsCal.num y m d = n ∧ w' = w := by
  go_enter Tryd.func36, Tryd.ntmps36
  go_wp2_with fail
  refine (date_yes _ _ ht h1 h2).mono ?_
  rintro e w1 ⟨y, m, d, rfl, hv, hn, rfl⟩
  have HV := hide hv
  have HN := hide hn
  obtain ⟨b1, b2, b3, b4, b5, b6⟩ := DsCal.vld_bd hv
  have b7 := DsCal.dlen_any y m
  clear hv hn
  go_wp2_with (go_at_call 19; refine (len_any _ _ _ ht).mono ?_; rintro e w' ⟨rfl, rfl⟩)
  go_ret2
  exact ⟨y, m, d, rfl, HV.out, HN.out, rfl⟩

theorem refLast_no (n : Int) (w : World) (h : n < 1 ∨ 3652059 < n) :
    Calls Tryd.prog 37 #[.int .i64 n] w fun e w' => e = .returned (.tuple #[.int .i64 0, .int .i64 6]) ∧ w' = w := by
  go_enter Tryd.func37, Tryd.ntmps37
  go_wp2_with (go_at_call 23; refine (refDate_no _ _ (by omega)).mono ?_; rintro e w' ⟨rfl, rfl⟩)
  go_ret2; exact ⟨rfl, rfl⟩
theorem refLast_yes (n : Int) (w : World) (h1 : 1 ≤ n) (h2 : n ≤ 3652059) :
    Calls Tryd.prog 37 #[.int .i64 n] w fun e w' => ∃ y m d : Int, e = .returned (.tuple #[.int .i64 (n - d + DsCal.dlen y m), .int .i64 0]) ∧ DsCal.vld y m d ∧ DsCal.num y m d = n ∧ w' = w := by
  go_enter Tryd.func37, Tryd.ntmps37
  go_wp2_with fail
  refine (refDate_yes _ _ h1 h2).mono ?_
  rintro e w1 ⟨y, m, d, rfl, hv, hn, rfl⟩
  have HV := hide hv
  have HN := hide hn
  obtain ⟨b1, b2, b3, b4, b5, b6⟩ := DsCal.vld_bd hv
  have b7 := DsCal.dlen_any y m
  clear hv hn
  go_wp2_with (go_at_call 20; refine (refLen_any _ _ _).mono ?_; rintro e w' ⟨rfl, rfl⟩)
  go_ret2
  exact ⟨y, m, d, rfl, HV.out, HN.out, rfl⟩

theorem day_yes (y m d : Int) (w : World) (h : DsCal.vld y m d) :
    Calls Tryd.prog 58 #[.int .i64 y, .int .i64 m, .int .i64 d] w fun e w' => e = .returned (.int .i64 (DsCal.num y m d)) ∧ w' = w := by
  go_enter Tryd.func58, Tryd.ntmps58
  go_wp2_with (go_at_call 16; refine (refDays_yes _ _ _ _ h).mono ?_; rintro e w' ⟨rfl, rfl⟩)
  go_ret; exact ⟨rfl, rfl⟩
end Go.Proofs.YtbkjcnkjlkjknaaDoor
