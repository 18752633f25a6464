/- The walks of the smallest functions of packages date and dayshiftref01 (leap years, lengths of months, days ahead of a year). -/
import Derived.Test.YtkpgfhapffijkaaGreatDoorRows
import Derived.Test.YtkpgfhapffijkaaGreatDoorR06
import Derived.WalkKit
import Derived.ProofKit
import Derived.OpenShut
import Derived.Handy
import Derived.WalkSpells
namespace Go.Proofs.YtkpgfhapffijkaaGreatDoor.Dt
open Go.ChangeShapes Go.WideShapes Go.ChangeAt Go.RowKit
theorem ret_int {k : IntKind} {a b : Int} (h : a = b) : Ending.returned (.int k a) = .returned (.int k b) := by rw [h]
theorem ret_bool {a b : Bool} (h : a = b) : Ending.returned (.bool a) = .returned (.bool b) := by rw [h]
/-- date.Leap -/
theorem leap_any (y : Int) (w : World) :
    Calls Tryz.prog 181 #[.int .i64 y] w fun e w' => e = .returned (.bool (DsCal.leapB y)) ∧ w' = w := by
  go_enter Tryz.func181, Tryz.ntmps181
  go_wp2
  · go_ret; exact ⟨ret_bool (DsCal.leapB_a y ‹_› ‹_›), rfl⟩
  · go_ret; exact ⟨ret_bool (DsCal.leapB_b y ‹_› ‹_›), rfl⟩
  · go_ret; exact ⟨ret_bool (DsCal.leapB_c y ‹_›), rfl⟩
theorem aheadOf_any (y : Int) (w : World) (h1 : 1 ≤ y) (h2 : y ≤ 10000) :
    Calls Tryz.prog 226 #[.int .i64 y] w fun e w' => e = .returned (.int .i64 (DsCal.ahead y)) ∧ w' = w := by
  go_enter Tryz.func226, Tryz.ntmps226
  go_wp2
  go_ret
  exact ⟨ret_int (by unfold DsCal.ahead; omega), rfl⟩
/-- date.yearLen -/
theorem yearLen_any (y : Int) (w : World) :
    Calls Tryz.prog 209 #[.int .i64 y] w fun e w' => e = .returned (.int .i64 (365 + DsCal.lp y)) ∧ w' = w := by
  go_enter Tryz.func209, Tryz.ntmps209
  go_wp2_with (go_at_call 181; refine (leap_any _ _).mono ?_; rintro e w' ⟨rfl, rfl⟩)
  · go_ret; exact ⟨ret_int (by rw [DsCal.lp_yes ‹_›]; rfl), rfl⟩
  · go_ret; exact ⟨ret_int (by rw [DsCal.lp_no ‹_›]; rfl), rfl⟩
/-- WHAT IS KNOWN OF THE TABLE date.lengths: its twelve cells, in block 0. -/
def Tab (w : World) : Prop := 2 < w.heap.size ∧ ∀ m : Int, 1 ≤ m → m ≤ 12 → w.cell? ⟨2, m.toNat - 1, none⟩ = some (.int .i64 (DsCal.plen m))
/-- date.Len -/
theorem len_no (y m : Int) (w : World) (h : m < 1 ∨ 12 < m) :
    Calls Tryz.prog 149 #[.int .i64 y, .int .i64 m] w fun e w' => e = .returned (.int .i64 0) ∧ w' = w := by
  rcases h with h | h
  · go_enter Tryz.func149, Tryz.ntmps149
    go_wp2
    go_ret; exact ⟨rfl, rfl⟩
  · have h' : ¬ m < 1 := by omega
    go_enter Tryz.func149, Tryz.ntmps149
    go_wp2
    go_ret; exact ⟨rfl, rfl⟩
theorem len_two (y : Int) (w : World) (hc : w.cell? ⟨2, 1, none⟩ = some (.int .i64 28)) :
    Calls Tryz.prog 149 #[.int .i64 y, .int .i64 2] w fun e w' => e = .returned (.int .i64 (28 + DsCal.lp y)) ∧ w' = w := by
  go_enter Tryz.func149, Tryz.ntmps149
  go_wp2_with (go_at_call 181; refine (leap_any _ _).mono ?_; rintro e w' ⟨rfl, rfl⟩)
  · go_ret; exact ⟨ret_int (by rw [DsCal.lp_yes ‹_›]; rfl), rfl⟩
  · go_ret; exact ⟨ret_int (by rw [DsCal.lp_no ‹_›]; rfl), rfl⟩
theorem len_else (y m l : Int) (w : World) (h1 : 1 ≤ m) (h2 : m ≤ 12) (h3 : (m == 2) = false) (hc : w.cell? ⟨2, m.toNat - 1, none⟩ = some (.int .i64 l)) :
    Calls Tryz.prog 149 #[.int .i64 y, .int .i64 m] w fun e w' => e = .returned (.int .i64 l) ∧ w' = w := by
  go_enter Tryz.func149, Tryz.ntmps149
  go_wp2
  go_ret; exact ⟨rfl, rfl⟩
theorem len_any (y m : Int) (w : World) (ht : Tab w) :
    Calls Tryz.prog 149 #[.int .i64 y, .int .i64 m] w fun e w' => e = .returned (.int .i64 (DsCal.dlen y m)) ∧ w' = w := by
  by_cases h : m < 1 ∨ 12 < m
  · rw [DsCal.dlen_no h]; exact len_no y m w h
  · by_cases h2 : m = 2
    · subst h2; rw [DsCal.dlen_two]; exact len_two y w (ht.2 2 (by omega) (by omega))
    · rw [DsCal.dlen_else (by omega) (by omega) h2]
      exact len_else y m _ w (by omega) (by omega) (by simpa using h2) (ht.2 m (by omega) (by omega))
/-- Right -/
theorem right_any (n : Int) (w : World) :
    Calls Tryz.prog 42 #[.int .i64 n] w fun e w' => e = .returned (.bool (DsCal.rightB n)) ∧ w' = w := by
  go_enter Tryz.func42, Tryz.ntmps42
  go_wp2
  · go_ret; exact ⟨ret_bool (DsCal.rightB_a ‹_›), rfl⟩
  · go_ret; exact ⟨ret_bool (DsCal.rightB_no (by omega)).symm, rfl⟩
theorem right_yes (n : Int) (w : World) (h1 : 1 ≤ n) (h2 : n ≤ 3652059) :
    Calls Tryz.prog 42 #[.int .i64 n] w fun e w' => e = .returned (.bool true) ∧ w' = w := by
  have h := right_any n w; rw [DsCal.rightB_yes h1 h2] at h; exact h
/-- Weekday -/
theorem weekday_yes (n : Int) (w : World) (h1 : 1 ≤ n) (h2 : n ≤ 3652059) :
    Calls Tryz.prog 182 #[.int .i64 n] w fun e w' => e = .returned (.tuple #[.int .i64 ((n - 1) % 7), .int .i64 0]) ∧ w' = w := by
  go_enter Tryz.func182, Tryz.ntmps182
  go_wp2_with (go_at_call 42; refine (right_yes _ _ (by omega) (by omega)).mono ?_; rintro e w' ⟨rfl, rfl⟩)
  go_ret2; exact ⟨rfl, rfl⟩
end Go.Proofs.YtkpgfhapffijkaaGreatDoor.Dt
