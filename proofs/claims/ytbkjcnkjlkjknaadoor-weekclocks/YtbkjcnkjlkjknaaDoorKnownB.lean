/- The walk of dayshiftlaw02.known: what comes of fixed calls. -/
import Derived.Test.YtbkjcnkjlkjknaaDoorWeekB
import Derived.Test.YtbkjcnkjlkjknaaDoorWeekC
import Derived.Test.YtbkjcnkjlkjknaaDoorWeekE
namespace Go.Proofs.YtbkjcnkjlkjknaaDoor
open Go.ChangeShapes Go.WideShapes Go.ChangeAt Go.RowKit

theorem day_2018 (w : World) : Calls Tryd.prog 58 #[.int .i64 2018, .int .i64 12, .int .i64 31] w fun e w' => e = .returned (.int .i64 737059) ∧ w' = w :=
  day_yes 2018 12 31 w ((DsCal.vldB_iff _ _ _).1 (by decide))
theorem day_2024 (w : World) : Calls Tryd.prog 58 #[.int .i64 2024, .int .i64 2, .int .i64 29] w fun e w' => e = .returned (.int .i64 738945) ∧ w' = w :=
  day_yes 2024 2 29 w ((DsCal.vldB_iff _ _ _).1 (by decide))
theorem week_2018 (w : World) (ht : Tab w) : Calls Tryd.prog 32 #[.int .i64 737059] w fun e w' => e = .returned (.tuple #[.int .i64 2019, .int .i64 1, .int .i64 0]) ∧ w' = w := by
  refine (week_yes 737059 w ht (by omega) (by omega)).mono ?_
  rintro e w' ⟨y, k, rfl, hw, rfl⟩
  obtain ⟨rfl, rfl⟩ := hw.one (show IsWeek 737059 2019 1 from ⟨1, 3, (DsCal.vldB_iff _ _ _).1 (by decide), by decide, by decide⟩)
  exact ⟨rfl, rfl⟩
theorem nth_2024 (w : World) (ht : Tab w) : Calls Tryd.prog 39 #[.int .i64 2024, .int .i64 2, .int .i64 3, .int .i64 (-1)] w fun e w' => e = .returned (.tuple #[.int .i64 738945, .int .i64 0]) ∧ w' = w := by
  refine (nth_yes 2024 2 3 (-1) w ht ((DsCal.vldB_iff _ _ _).1 (by decide)) ⟨by omega, by omega, by omega, by omega, by omega⟩).mono ?_
  rintro e w' ⟨rfl, rfl⟩
  have h : DsCal.nres (DsCal.num 2024 2 1) (DsCal.dlen 2024 2) 3 (-1) = (738945, 0) := by decide
  rw [h]
  exact ⟨rfl, rfl⟩
theorem order_239 (w : World) : Calls Tryd.prog 43 #[.int .i64 7439, .int .i64 240] w fun e w' => e = .returned (.tuple #[.int .i64 4, .int .i64 0]) ∧ w' = w :=
  order_yes 7439 240 w ⟨⟨by omega, by omega⟩, ⟨by omega, by omega⟩, by decide⟩
theorem order_240 (w : World) : Calls Tryd.prog 43 #[.int .i64 7440, .int .i64 240] w fun e w' => e = .returned (.tuple #[.int .i64 5, .int .i64 0]) ∧ w' = w :=
  order_yes 7440 240 w ⟨⟨by omega, by omega⟩, ⟨by omega, by omega⟩, by decide⟩
theorem read_2359 (w : World) : Calls Tryd.prog 49 #[.string ⟨#[50, 51, 58, 53, 57]⟩] w fun e w' => e = .returned (.tuple #[.int .i64 1439, .int .i64 0]) ∧ w' = w := by
  have h := wRead_any ⟨#[50, 51, 58, 53, 57]⟩ w
  have e : DsCal.tmres ⟨#[50, 51, 58, 53, 57]⟩ = (1439, 0) := by decide +kernel
  rw [e] at h
  exact h

set_option maxHeartbeats 1000000 in
theorem known2_any (w : World) (ht : Tab w) :
    Calls Tryd.prog 38 #[] w fun e w' => e = .returned (.bool true) ∧ w' = w := by
  go_enter Tryd.func38, Tryd.ntmps38
  go_wp2_with fail
  refine (day_2018 _).mono ?_; rintro e w1 ⟨rfl, rfl⟩
  go_wp2_with fail
  refine (week_2018 _ ht).mono ?_; rintro e w1 ⟨rfl, rfl⟩
  go_wp2_with fail
  refine (nth_2024 _ ht).mono ?_; rintro e w1 ⟨rfl, rfl⟩
  go_wp2_with fail
  refine (order_239 _).mono ?_; rintro e w1 ⟨rfl, rfl⟩
  go_wp2_with fail
  refine (order_240 _).mono ?_; rintro e w1 ⟨rfl, rfl⟩
  go_wp2_with fail
  refine (read_2359 _).mono ?_; rintro e w1 ⟨rfl, rfl⟩
  go_wp2_with fail
  refine (day_2024 _).mono ?_; rintro e w1 ⟨rfl, rfl⟩
  go_wp2
  go_ret
  exact ⟨rfl, rfl⟩
end Go.Proofs.YtbkjcnkjlkjknaaDoor
