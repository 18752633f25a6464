/- The walks of the smallest functions of packages date and dayshiftref01 (leap years, lengths of months, days ahead of a year). -/
import Derived.Test.YtbkjcnkjlkjknaaDoorRows
import Derived.Test.YtbkjcnkjlkjknaaDoorMath
import Derived.WalkKit
import Derived.ProofKit
import Derived.OpenShut
import Derived.Handy
import Derived.WalkSpells
namespace Go.Proofs.YtbkjcnkjlkjknaaDoor
open Go.ChangeShapes Go.WideShapes Go.ChangeAt Go.RowKit

theorem ret_int {k : IntKind} {a b : Int} (h : a = b) : Ending.returned (.int k a) = .returned (.int k b) := by rw [h]
theorem ret_bool {a b : Bool} (h : a = b) : Ending.returned (.bool a) = .returned (.bool b) := by rw [h]

/-- date.Leap -/
theorem leap_any (y : Int) (w : World) :
    Calls Tryd.prog 17 #[.int .i64 y] w fun e w' => e = .returned (.bool (DsCal.leapB y)) ∧ w' = w := by
  go_enter Tryd.func17, Tryd.ntmps17
  go_wp2
  · go_ret; exact ⟨ret_bool (DsCal.leapB_a y ‹_› ‹_›), rfl⟩
  · go_ret; exact ⟨ret_bool (DsCal.leapB_b y ‹_› ‹_›), rfl⟩
  · go_ret; exact ⟨ret_bool (DsCal.leapB_c y ‹_›), rfl⟩

/-- dayshiftref01.mod -/
theorem mod4 (a : Int) (w : World) :
    Calls Tryd.prog 53 #[.int .i64 a, .int .i64 4] w fun e w' => e = .returned (.int .i64 (a % 4)) ∧ w' = w := by
  go_enter Tryd.func53, Tryd.ntmps53
  go_wp2
  · go_ret; exact ⟨ret_int (by have h := DsCal.tmneg a 4 (by omega) ‹_›; rw [IntWalk.wrap64_in _ (by omega)]; exact h), rfl⟩
  · go_ret; exact ⟨ret_int (DsCal.tmpos a 4 (by omega) ‹_›), rfl⟩
theorem mod100 (a : Int) (w : World) :
    Calls Tryd.prog 53 #[.int .i64 a, .int .i64 100] w fun e w' => e = .returned (.int .i64 (a % 100)) ∧ w' = w := by
  go_enter Tryd.func53, Tryd.ntmps53
  go_wp2
  · go_ret; exact ⟨ret_int (by have h := DsCal.tmneg a 100 (by omega) ‹_›; rw [IntWalk.wrap64_in _ (by omega)]; exact h), rfl⟩
  · go_ret; exact ⟨ret_int (DsCal.tmpos a 100 (by omega) ‹_›), rfl⟩
theorem mod400 (a : Int) (w : World) :
    Calls Tryd.prog 53 #[.int .i64 a, .int .i64 400] w fun e w' => e = .returned (.int .i64 (a % 400)) ∧ w' = w := by
  go_enter Tryd.func53, Tryd.ntmps53
  go_wp2
  · go_ret; exact ⟨ret_int (by have h := DsCal.tmneg a 400 (by omega) ‹_›; rw [IntWalk.wrap64_in _ (by omega)]; exact h), rfl⟩
  · go_ret; exact ⟨ret_int (DsCal.tmpos a 400 (by omega) ‹_›), rfl⟩
theorem mod_any (a b : Int) (w : World) (hb : b = 4 ∨ b = 100 ∨ b = 400) :
    Calls Tryd.prog 53 #[.int .i64 a, .int .i64 b] w fun e w' => e = .returned (.int .i64 (a % b)) ∧ w' = w := by
  rcases hb with rfl | rfl | rfl
  · exact mod4 a w
  · exact mod100 a w
  · exact mod400 a w
theorem aheadOf_any (y : Int) (w : World) (h1 : 1 ≤ y) (h2 : y ≤ 10000) :
    Calls Tryd.prog 51 #[.int .i64 y] w fun e w' => e = .returned (.int .i64 (DsCal.ahead y)) ∧ w' = w := by
  go_enter Tryd.func51, Tryd.ntmps51
  go_wp2
  go_ret
  exact ⟨ret_int (by unfold DsCal.ahead; omega), rfl⟩
theorem ahead_any (y : Int) (w : World) (h1 : 1 ≤ y) (h2 : y ≤ 10000) :
    Calls Tryd.prog 52 #[.int .i64 y] w fun e w' => e = .returned (.int .i64 (DsCal.ahead y)) ∧ w' = w := by
  go_enter Tryd.func52, Tryd.ntmps52
  go_wp2
  go_ret
  exact ⟨ret_int (by unfold DsCal.ahead; omega), rfl⟩

/-- date.yearLen -/
theorem yearLen_any (y : Int) (w : World) :
    Calls Tryd.prog 62 #[.int .i64 y] w fun e w' => e = .returned (.int .i64 (365 + DsCal.lp y)) ∧ w' = w := by
  go_enter Tryd.func62, Tryd.ntmps62
  go_wp2_with (go_at_call 17; refine (leap_any _ _).mono ?_; rintro e w' ⟨rfl, rfl⟩)
  · go_ret; exact ⟨ret_int (by rw [DsCal.lp_yes ‹_›]; rfl), rfl⟩
  · go_ret; exact ⟨ret_int (by rw [DsCal.lp_no ‹_›]; rfl), rfl⟩

/-- dayshiftref01.Leap -/
theorem refLeap_any (y : Int) (w : World) :
    Calls Tryd.prog 18 #[.int .i64 y] w fun e w' => e = .returned (.bool (DsCal.leapB y)) ∧ w' = w := by
  go_enter Tryd.func18, Tryd.ntmps18
  go_wp2_with (go_at_call 53; refine (mod_any _ _ _ (by omega)).mono ?_; rintro e w' ⟨rfl, rfl⟩)
  · go_ret; exact ⟨ret_bool (DsCal.leapE_a y ‹_› ‹_›), rfl⟩
  · go_ret; exact ⟨ret_bool (DsCal.leapE_b y ‹_› ‹_›), rfl⟩
  · go_ret; exact ⟨ret_bool (DsCal.leapE_c y ‹_›), rfl⟩

/-- WHAT IS KNOWN OF THE TABLE date.lengths: its twelve cells, in block 0. -/
def Tab (w : World) : Prop := 0 < w.heap.size ∧ ∀ m : Int, 1 ≤ m → m ≤ 12 → w.cell? ⟨0, m.toNat - 1, none⟩ = some (.int .i64 (DsCal.plen m))

/-- date.Len -/
theorem len_no (y m : Int) (w : World) (h : m < 1 ∨ 12 < m) :
    Calls Tryd.prog 19 #[.int .i64 y, .int .i64 m] w fun e w' => e = .returned (.int .i64 0) ∧ w' = w := by
  rcases h with h | h
  · go_enter Tryd.func19, Tryd.ntmps19
    go_wp2
    go_ret; exact ⟨rfl, rfl⟩
  · have h' : ¬ m < 1 := by omega
    go_enter Tryd.func19, Tryd.ntmps19
    go_wp2
    go_ret; exact ⟨rfl, rfl⟩
theorem len_two (y : Int) (w : World) (hc : w.cell? ⟨0, 1, none⟩ = some (.int .i64 28)) :
    Calls Tryd.prog 19 #[.int .i64 y, .int .i64 2] w fun e w' => e = .returned (.int .i64 (28 + DsCal.lp y)) ∧ w' = w := by
  go_enter Tryd.func19, Tryd.ntmps19
  go_wp2_with (go_at_call 17; refine (leap_any _ _).mono ?_; rintro e w' ⟨rfl, rfl⟩)
  · go_ret; exact ⟨ret_int (by rw [DsCal.lp_yes ‹_›]; rfl), rfl⟩
  · go_ret; exact ⟨ret_int (by rw [DsCal.lp_no ‹_›]; rfl), rfl⟩
theorem len_else (y m l : Int) (w : World) (h1 : 1 ≤ m) (h2 : m ≤ 12) (h3 : (m == 2) = false) (hc : w.cell? ⟨0, m.toNat - 1, none⟩ = some (.int .i64 l)) :
    Calls Tryd.prog 19 #[.int .i64 y, .int .i64 m] w fun e w' => e = .returned (.int .i64 l) ∧ w' = w := by
  go_enter Tryd.func19, Tryd.ntmps19
  go_wp2
  go_ret; exact ⟨rfl, rfl⟩
theorem len_any (y m : Int) (w : World) (ht : Tab w) :
    Calls Tryd.prog 19 #[.int .i64 y, .int .i64 m] w fun e w' => e = .returned (.int .i64 (DsCal.dlen y m)) ∧ w' = w := by
  by_cases h : m < 1 ∨ 12 < m
  · rw [DsCal.dlen_no h]; exact len_no y m w h
  · by_cases h2 : m = 2
    · subst h2; rw [DsCal.dlen_two]; exact len_two y w (ht.2 2 (by omega) (by omega))
    · rw [DsCal.dlen_else (by omega) (by omega) h2]
      exact len_else y m _ w (by omega) (by omega) (by simpa using h2) (ht.2 m (by omega) (by omega))

/-- dayshiftref01.Len -/
theorem refLen_no (y m : Int) (w : World) (h : m < 1 ∨ 12 < m) :
    Calls Tryd.prog 20 #[.int .i64 y, .int .i64 m] w fun e w' => e = .returned (.int .i64 0) ∧ w' = w := by
  rcases h with h | h
  · go_enter Tryd.func20, Tryd.ntmps20
    go_wp2
    go_ret; exact ⟨rfl, rfl⟩
  · go_enter Tryd.func20, Tryd.ntmps20
    go_wp2
    go_ret; exact ⟨rfl, rfl⟩
theorem refLen_two (y : Int) (w : World) :
    Calls Tryd.prog 20 #[.int .i64 y, .int .i64 2] w fun e w' => e = .returned (.int .i64 (28 + DsCal.lp y)) ∧ w' = w := by
  go_enter Tryd.func20, Tryd.ntmps20
  go_wp2_with (go_at_call 18; refine (refLeap_any _ _).mono ?_; rintro e w' ⟨rfl, rfl⟩)
  · go_ret; exact ⟨ret_int (by rw [DsCal.lp_yes ‹_›]; rfl), rfl⟩
  · go_ret; exact ⟨ret_int (by rw [DsCal.lp_no ‹_›]; rfl), rfl⟩
theorem refLen_else (y m : Int) (w : World) (h1 : 1 ≤ m) (h2 : m ≤ 12) (h3 : m ≠ 2) :
    Calls Tryd.prog 20 #[.int .i64 y, .int .i64 m] w fun e w' => e = .returned (.int .i64 (DsCal.plen m)) ∧ w' = w := by
  rcases DsCal.months h1 h2 with h | h | h | h | h | h | h | h | h | h | h | h
  all_goals
    subst h
    first
    | exact absurd rfl h3
    | (clear h1 h2 h3
       go_enter Tryd.func20, Tryd.ntmps20
       go_wp2
       go_ret; exact ⟨ret_int (by simp [DsCal.plen]), rfl⟩)
theorem refLen_any (y m : Int) (w : World) :
    Calls Tryd.prog 20 #[.int .i64 y, .int .i64 m] w fun e w' => e = .returned (.int .i64 (DsCal.dlen y m)) ∧ w' = w := by
  by_cases h : m < 1 ∨ 12 < m
  · rw [DsCal.dlen_no h]; exact refLen_no y m w h
  · by_cases h2 : m = 2
    · subst h2; rw [DsCal.dlen_two]; exact refLen_two y w
    · rw [DsCal.dlen_else (by omega) (by omega) h2]
      exact refLen_else y m w (by omega) (by omega) h2

/-- Right -/
theorem right_any (n : Int) (w : World) :
    Calls Tryd.prog 26 #[.int .i64 n] w fun e w' => e = .returned (.bool (DsCal.rightB n)) ∧ w' = w := by
  go_enter Tryd.func26, Tryd.ntmps26
  go_wp2
  · go_ret; exact ⟨ret_bool (DsCal.rightB_a ‹_›), rfl⟩
  · go_ret; exact ⟨ret_bool (DsCal.rightB_no (by omega)).symm, rfl⟩
theorem refRight_any (n : Int) (w : World) :
    Calls Tryd.prog 27 #[.int .i64 n] w fun e w' => e = .returned (.bool (DsCal.rightB n)) ∧ w' = w := by
  go_enter Tryd.func27, Tryd.ntmps27
  go_wp2
  · go_ret; exact ⟨ret_bool (DsCal.rightB_a ‹_›), rfl⟩
  · go_ret; exact ⟨ret_bool (DsCal.rightB_no (by omega)).symm, rfl⟩
theorem right_yes (n : Int) (w : World) (h1 : 1 ≤ n) (h2 : n ≤ 3652059) :
    Calls Tryd.prog 26 #[.int .i64 n] w fun e w' => e = .returned (.bool true) ∧ w' = w := by
  have h := right_any n w; rw [DsCal.rightB_yes h1 h2] at h; exact h
theorem right_no (n : Int) (w : World) (h : n < 1 ∨ 3652059 < n) :
    Calls Tryd.prog 26 #[.int .i64 n] w fun e w' => e = .returned (.bool false) ∧ w' = w := by
  have k := right_any n w; rw [DsCal.rightB_no h] at k; exact k
theorem refRight_yes (n : Int) (w : World) (h1 : 1 ≤ n) (h2 : n ≤ 3652059) :
    Calls Tryd.prog 27 #[.int .i64 n] w fun e w' => e = .returned (.bool true) ∧ w' = w := by
  have h := refRight_any n w; rw [DsCal.rightB_yes h1 h2] at h; exact h
theorem refRight_no (n : Int) (w : World) (h : n < 1 ∨ 3652059 < n) :
    Calls Tryd.prog 27 #[.int .i64 n] w fun e w' => e = .returned (.bool false) ∧ w' = w := by
  have k := refRight_any n w; rw [DsCal.rightB_no h] at k; exact k

/-- Weekday -/
theorem weekday_yes (n : Int) (w : World) (h1 : 1 ≤ n) (h2 : n ≤ 3652059) :
    Calls Tryd.prog 24 #[.int .i64 n] w fun e w' => e = .returned (.tuple #[.int .i64 ((n - 1) % 7), .int .i64 0]) ∧ w' = w := by
  go_enter Tryd.func24, Tryd.ntmps24
  go_wp2_with (go_at_call 26; refine (right_yes _ _ (by omega) (by omega)).mono ?_; rintro e w' ⟨rfl, rfl⟩)
  go_ret2; exact ⟨rfl, rfl⟩
theorem weekday_no (n : Int) (w : World) (h : n < 1 ∨ 3652059 < n) :
    Calls Tryd.prog 24 #[.int .i64 n] w fun e w' => e = .returned (.tuple #[.int .i64 0, .int .i64 6]) ∧ w' = w := by
  go_enter Tryd.func24, Tryd.ntmps24
  go_wp2_with (go_at_call 26; refine (right_no _ _ (by omega)).mono ?_; rintro e w' ⟨rfl, rfl⟩)
  go_ret2; exact ⟨rfl, rfl⟩
theorem refWeekday_yes (n : Int) (w : World) (h1 : 1 ≤ n) (h2 : n ≤ 3652059) :
    Calls Tryd.prog 25 #[.int .i64 n] w fun e w' => e = .returned (.tuple #[.int .i64 ((n - 1) % 7), .int .i64 0]) ∧ w' = w := by
  go_enter Tryd.func25, Tryd.ntmps25
  go_wp2_with (go_at_call 27; refine (refRight_yes _ _ (by omega) (by omega)).mono ?_; rintro e w' ⟨rfl, rfl⟩)
  go_ret2; exact ⟨rfl, rfl⟩
theorem refWeekday_no (n : Int) (w : World) (h : n < 1 ∨ 3652059 < n) :
    Calls Tryd.prog 25 #[.int .i64 n] w fun e w' => e = .returned (.tuple #[.int .i64 0, .int .i64 6]) ∧ w' = w := by
  go_enter Tryd.func25, Tryd.ntmps25
  go_wp2_with (go_at_call 27; refine (refRight_no _ _ (by omega)).mono ?_; rintro e w' ⟨rfl, rfl⟩)
  go_ret2; exact ⟨rfl, rfl⟩
end Go.Proofs.YtbkjcnkjlkjknaaDoor
