/- Some parts of the proof, one behind the other. -/
import Derived.Test.YthbfjkdklnffjaaDoorRows
import Derived.Test.YthbfjkdklnffjaaDoorDaA
import Derived.WalkKit
import Derived.ProofKit
import Derived.OpenShut
import Derived.Handy
import Derived.WalkSpells
/- The walks of the smallest functions of packages date and dayshiftref01 (leap years, lengths of months, days ahead of a year). -/
namespace Go.Proofs.YthbfjkdklnffjaaDoor.Dt
open Go.ChangeShapes Go.WideShapes Go.ChangeAt Go.RowKit

theorem ret_int {k : IntKind} {a b : Int} (h : a = b) : Ending.returned (.int k a) = .returned (.int k b) := by rw [h]
theorem ret_bool {a b : Bool} (h : a = b) : Ending.returned (.bool a) = .returned (.bool b) := by rw [h]

/-- date.Leap -/
theorem leap_any (y : Int) (w : World) :
    Calls Tryd.prog 51 #[.int .i64 y] w fun e w' => e = .returned (.bool (DsCal.leapB y)) ∧ w' = w := by
  go_enter Tryd.func51, Tryd.ntmps51
  go_wp2
  · go_ret; exact ⟨ret_bool (DsCal.leapB_a y ‹_› ‹_›), rfl⟩
  · go_ret; exact ⟨ret_bool (DsCal.leapB_b y ‹_› ‹_›), rfl⟩
  · go_ret; exact ⟨ret_bool (DsCal.leapB_c y ‹_›), rfl⟩

/-- dayshiftref01.mod -/
theorem mod4 (a : Int) (w : World) :
    Calls Tryd.prog 69 #[.int .i64 a, .int .i64 4] w fun e w' => e = .returned (.int .i64 (a % 4)) ∧ w' = w := by
  go_enter Tryd.func69, Tryd.ntmps69
  go_wp2
  · go_ret; exact ⟨ret_int (by have h := DsCal.tmneg a 4 (by omega) ‹_›; rw [IntWalk.wrap64_in _ (by omega)]; exact h), rfl⟩
  · go_ret; exact ⟨ret_int (DsCal.tmpos a 4 (by omega) ‹_›), rfl⟩
theorem mod100 (a : Int) (w : World) :
    Calls Tryd.prog 69 #[.int .i64 a, .int .i64 100] w fun e w' => e = .returned (.int .i64 (a % 100)) ∧ w' = w := by
  go_enter Tryd.func69, Tryd.ntmps69
  go_wp2
  · go_ret; exact ⟨ret_int (by have h := DsCal.tmneg a 100 (by omega) ‹_›; rw [IntWalk.wrap64_in _ (by omega)]; exact h), rfl⟩
  · go_ret; exact ⟨ret_int (DsCal.tmpos a 100 (by omega) ‹_›), rfl⟩
theorem mod400 (a : Int) (w : World) :
    Calls Tryd.prog 69 #[.int .i64 a, .int .i64 400] w fun e w' => e = .returned (.int .i64 (a % 400)) ∧ w' = w := by
  go_enter Tryd.func69, Tryd.ntmps69
  go_wp2
  · go_ret; exact ⟨ret_int (by have h := DsCal.tmneg a 400 (by omega) ‹_›; rw [IntWalk.wrap64_in _ (by omega)]; exact h), rfl⟩
  · go_ret; exact ⟨ret_int (DsCal.tmpos a 400 (by omega) ‹_›), rfl⟩
theorem mod_any (a b : Int) (w : World) (hb : b = 4 ∨ b = 100 ∨ b = 400) :
    Calls Tryd.prog 69 #[.int .i64 a, .int .i64 b] w fun e w' => e = .returned (.int .i64 (a % b)) ∧ w' = w := by
  rcases hb with rfl | rfl | rfl
  · exact mod4 a w
  · exact mod100 a w
  · exact mod400 a w
theorem aheadOf_any (y : Int) (w : World) (h1 : 1 ≤ y) (h2 : y ≤ 10000) :
    Calls Tryd.prog 74 #[.int .i64 y] w fun e w' => e = .returned (.int .i64 (DsCal.ahead y)) ∧ w' = w := by
  go_enter Tryd.func74, Tryd.ntmps74
  go_wp2
  go_ret
  exact ⟨ret_int (by unfold DsCal.ahead; omega), rfl⟩
theorem ahead_any (y : Int) (w : World) (h1 : 1 ≤ y) (h2 : y ≤ 10000) :
    Calls Tryd.prog 46 #[.int .i64 y] w fun e w' => e = .returned (.int .i64 (DsCal.ahead y)) ∧ w' = w := by
  go_enter Tryd.func46, Tryd.ntmps46
  go_wp2
  go_ret
  exact ⟨ret_int (by unfold DsCal.ahead; omega), rfl⟩

/-- date.yearLen -/
theorem yearLen_any (y : Int) (w : World) :
    Calls Tryd.prog 64 #[.int .i64 y] w fun e w' => e = .returned (.int .i64 (365 + DsCal.lp y)) ∧ w' = w := by
  go_enter Tryd.func64, Tryd.ntmps64
  go_wp2_with (go_at_call 51; refine (leap_any _ _).mono ?_; rintro e w' ⟨rfl, rfl⟩)
  · go_ret; exact ⟨ret_int (by rw [DsCal.lp_yes ‹_›]; rfl), rfl⟩
  · go_ret; exact ⟨ret_int (by rw [DsCal.lp_no ‹_›]; rfl), rfl⟩

/-- dayshiftref01.Leap -/
theorem refLeap_any (y : Int) (w : World) :
    Calls Tryd.prog 58 #[.int .i64 y] w fun e w' => e = .returned (.bool (DsCal.leapB y)) ∧ w' = w := by
  go_enter Tryd.func58, Tryd.ntmps58
  go_wp2_with (go_at_call 69; refine (mod_any _ _ _ (by omega)).mono ?_; rintro e w' ⟨rfl, rfl⟩)
  · go_ret; exact ⟨ret_bool (DsCal.leapE_a y ‹_› ‹_›), rfl⟩
  · go_ret; exact ⟨ret_bool (DsCal.leapE_b y ‹_› ‹_›), rfl⟩
  · go_ret; exact ⟨ret_bool (DsCal.leapE_c y ‹_›), rfl⟩

/-- WHAT IS KNOWN OF THE TABLE date.lengths: its twelve cells, in block 0. -/
def Tab (w : World) : Prop := 0 < w.heap.size ∧ ∀ m : Int, 1 ≤ m → m ≤ 12 → w.cell? ⟨0, m.toNat - 1, none⟩ = some (.int .i64 (DsCal.plen m))

/-- date.Len -/
theorem len_no (y m : Int) (w : World) (h : m < 1 ∨ 12 < m) :
    Calls Tryd.prog 34 #[.int .i64 y, .int .i64 m] w fun e w' => e = .returned (.int .i64 0) ∧ w' = w := by
  rcases h with h | h
  · go_enter Tryd.func34, Tryd.ntmps34
    go_wp2
    go_ret; exact ⟨rfl, rfl⟩
  · have h' : ¬ m < 1 := by omega
    go_enter Tryd.func34, Tryd.ntmps34
    go_wp2
    go_ret; exact ⟨rfl, rfl⟩
theorem len_two (y : Int) (w : World) (hc : w.cell? ⟨0, 1, none⟩ = some (.int .i64 28)) :
    Calls Tryd.prog 34 #[.int .i64 y, .int .i64 2] w fun e w' => e = .returned (.int .i64 (28 + DsCal.lp y)) ∧ w' = w := by
  go_enter Tryd.func34, Tryd.ntmps34
  go_wp2_with (go_at_call 51; refine (leap_any _ _).mono ?_; rintro e w' ⟨rfl, rfl⟩)
  · go_ret; exact ⟨ret_int (by rw [DsCal.lp_yes ‹_›]; rfl), rfl⟩
  · go_ret; exact ⟨ret_int (by rw [DsCal.lp_no ‹_›]; rfl), rfl⟩
theorem len_else (y m l : Int) (w : World) (h1 : 1 ≤ m) (h2 : m ≤ 12) (h3 : (m == 2) = false) (hc : w.cell? ⟨0, m.toNat - 1, none⟩ = some (.int .i64 l)) :
    Calls Tryd.prog 34 #[.int .i64 y, .int .i64 m] w fun e w' => e = .returned (.int .i64 l) ∧ w' = w := by
  go_enter Tryd.func34, Tryd.ntmps34
  go_wp2
  go_ret; exact ⟨rfl, rfl⟩
theorem len_any (y m : Int) (w : World) (ht : Tab w) :
    Calls Tryd.prog 34 #[.int .i64 y, .int .i64 m] w fun e w' => e = .returned (.int .i64 (DsCal.dlen y m)) ∧ w' = w := by
  by_cases h : m < 1 ∨ 12 < m
  · rw [DsCal.dlen_no h]; exact len_no y m w h
  · by_cases h2 : m = 2
    · subst h2; rw [DsCal.dlen_two]; exact len_two y w (ht.2 2 (by omega) (by omega))
    · rw [DsCal.dlen_else (by omega) (by omega) h2]
      exact len_else y m _ w (by omega) (by omega) (by simpa using h2) (ht.2 m (by omega) (by omega))

/-- dayshiftref01.Len -/
theorem refLen_no (y m : Int) (w : World) (h : m < 1 ∨ 12 < m) :
    Calls Tryd.prog 45 #[.int .i64 y, .int .i64 m] w fun e w' => e = .returned (.int .i64 0) ∧ w' = w := by
  rcases h with h | h
  · go_enter Tryd.func45, Tryd.ntmps45
    go_wp2
    go_ret; exact ⟨rfl, rfl⟩
  · go_enter Tryd.func45, Tryd.ntmps45
    go_wp2
    go_ret; exact ⟨rfl, rfl⟩
theorem refLen_two (y : Int) (w : World) :
    Calls Tryd.prog 45 #[.int .i64 y, .int .i64 2] w fun e w' => e = .returned (.int .i64 (28 + DsCal.lp y)) ∧ w' = w := by
  go_enter Tryd.func45, Tryd.ntmps45
  go_wp2_with (go_at_call 58; refine (refLeap_any _ _).mono ?_; rintro e w' ⟨rfl, rfl⟩)
  · go_ret; exact ⟨ret_int (by rw [DsCal.lp_yes ‹_›]; rfl), rfl⟩
  · go_ret; exact ⟨ret_int (by rw [DsCal.lp_no ‹_›]; rfl), rfl⟩
theorem refLen_else (y m : Int) (w : World) (h1 : 1 ≤ m) (h2 : m ≤ 12) (h3 : m ≠ 2) :
    Calls Tryd.prog 45 #[.int .i64 y, .int .i64 m] w fun e w' => e = .returned (.int .i64 (DsCal.plen m)) ∧ w' = w := by
  rcases DsCal.months h1 h2 with h | h | h | h | h | h | h | h | h | h | h | h
  all_goals
    subst h
    first
    | exact absurd rfl h3
    | (clear h1 h2 h3
       go_enter Tryd.func45, Tryd.ntmps45
       go_wp2
       go_ret; exact ⟨ret_int (by simp [DsCal.plen]), rfl⟩)
theorem refLen_any (y m : Int) (w : World) :
    Calls Tryd.prog 45 #[.int .i64 y, .int .i64 m] w fun e w' => e = .returned (.int .i64 (DsCal.dlen y m)) ∧ w' = w := by
  by_cases h : m < 1 ∨ 12 < m
  · rw [DsCal.dlen_no h]; exact refLen_no y m w h
  · by_cases h2 : m = 2
    · subst h2; rw [DsCal.dlen_two]; exact refLen_two y w
    · rw [DsCal.dlen_else (by omega) (by omega) h2]
      exact refLen_else y m w (by omega) (by omega) h2

/-- Right -/
theorem right_any (n : Int) (w : World) :
    Calls Tryd.prog 23 #[.int .i64 n] w fun e w' => e = .returned (.bool (DsCal.rightB n)) ∧ w' = w := by
  go_enter Tryd.func23, Tryd.ntmps23
  go_wp2
  · go_ret; exact ⟨ret_bool (DsCal.rightB_a ‹_›), rfl⟩
  · go_ret; exact ⟨ret_bool (DsCal.rightB_no (by omega)).symm, rfl⟩
theorem refRight_any (n : Int) (w : World) :
    Calls Tryd.prog 21 #[.int .i64 n] w fun e w' => e = .returned (.bool (DsCal.rightB n)) ∧ w' = w := by
  go_enter Tryd.func21, Tryd.ntmps21
  go_wp2
  · go_ret; exact ⟨ret_bool (DsCal.rightB_a ‹_›), rfl⟩
  · go_ret; exact ⟨ret_bool (DsCal.rightB_no (by omega)).symm, rfl⟩
theorem right_yes (n : Int) (w : World) (h1 : 1 ≤ n) (h2 : n ≤ 3652059) :
    Calls Tryd.prog 23 #[.int .i64 n] w fun e w' => e = .returned (.bool true) ∧ w' = w := by
  have h := right_any n w; rw [DsCal.rightB_yes h1 h2] at h; exact h
theorem right_no (n : Int) (w : World) (h : n < 1 ∨ 3652059 < n) :
    Calls Tryd.prog 23 #[.int .i64 n] w fun e w' => e = .returned (.bool false) ∧ w' = w := by
  have k := right_any n w; rw [DsCal.rightB_no h] at k; exact k
theorem refRight_yes (n : Int) (w : World) (h1 : 1 ≤ n) (h2 : n ≤ 3652059) :
    Calls Tryd.prog 21 #[.int .i64 n] w fun e w' => e = .returned (.bool true) ∧ w' = w := by
  have h := refRight_any n w; rw [DsCal.rightB_yes h1 h2] at h; exact h
theorem refRight_no (n : Int) (w : World) (h : n < 1 ∨ 3652059 < n) :
    Calls Tryd.prog 21 #[.int .i64 n] w fun e w' => e = .returned (.bool false) ∧ w' = w := by
  have k := refRight_any n w; rw [DsCal.rightB_no h] at k; exact k

/-- Weekday -/
theorem weekday_yes (n : Int) (w : World) (h1 : 1 ≤ n) (h2 : n ≤ 3652059) :
    Calls Tryd.prog 52 #[.int .i64 n] w fun e w' => e = .returned (.tuple #[.int .i64 ((n - 1) % 7), .int .i64 0]) ∧ w' = w := by
  go_enter Tryd.func52, Tryd.ntmps52
  go_wp2_with (go_at_call 23; refine (right_yes _ _ (by omega) (by omega)).mono ?_; rintro e w' ⟨rfl, rfl⟩)
  go_ret2; exact ⟨rfl, rfl⟩
theorem weekday_no (n : Int) (w : World) (h : n < 1 ∨ 3652059 < n) :
    Calls Tryd.prog 52 #[.int .i64 n] w fun e w' => e = .returned (.tuple #[.int .i64 0, .int .i64 6]) ∧ w' = w := by
  go_enter Tryd.func52, Tryd.ntmps52
  go_wp2_with (go_at_call 23; refine (right_no _ _ (by omega)).mono ?_; rintro e w' ⟨rfl, rfl⟩)
  go_ret2; exact ⟨rfl, rfl⟩
theorem refWeekday_yes (n : Int) (w : World) (h1 : 1 ≤ n) (h2 : n ≤ 3652059) :
    Calls Tryd.prog 13 #[.int .i64 n] w fun e w' => e = .returned (.tuple #[.int .i64 ((n - 1) % 7), .int .i64 0]) ∧ w' = w := by
  go_enter Tryd.func13, Tryd.ntmps13
  go_wp2_with (go_at_call 21; refine (refRight_yes _ _ (by omega) (by omega)).mono ?_; rintro e w' ⟨rfl, rfl⟩)
  go_ret2; exact ⟨rfl, rfl⟩
theorem refWeekday_no (n : Int) (w : World) (h : n < 1 ∨ 3652059 < n) :
    Calls Tryd.prog 13 #[.int .i64 n] w fun e w' => e = .returned (.tuple #[.int .i64 0, .int .i64 6]) ∧ w' = w := by
  go_enter Tryd.func13, Tryd.ntmps13
  go_wp2_with (go_at_call 21; refine (refRight_no _ _ (by omega)).mono ?_; rintro e w' ⟨rfl, rfl⟩)
  go_ret2; exact ⟨rfl, rfl⟩
end Go.Proofs.YthbfjkdklnffjaaDoor.Dt

/- The walks of date.yearOf, date.Date and dayshiftref01.Date: the date of a day. -/
namespace Go.Proofs.YthbfjkdklnffjaaDoor.Dt
open Go.ChangeShapes Go.WideShapes Go.ChangeAt Go.RowKit

theorem hide {p : Prop} (h : p) : Hid p := h
theorem val_int {k : IntKind} {a b : Int} (h : a = b) : Value.int k a = .int k b := by rw [h]
theorem ret_int2 {k l : IntKind} {a b c d : Int} (h : a = b) (g : c = d) : Ending.returned (.tuple #[.int k a, .int l c]) = .returned (.tuple #[.int k b, .int l d]) := by rw [h, g]

set_option maxHeartbeats 1000000 in
theorem yearOf_any (n : Int) (w : World) (h1 : 1 ≤ n) (h2 : n ≤ 3652059) :
    Calls Tryd.prog 50 #[.int .i64 n] w fun e w' => ∃ y l : Int, e = .returned (.tuple #[.int .i64 y, .int .i64 l]) ∧ DsCal.ahead y + l = n - 1 ∧ 1 ≤ y ∧ 0 ≤ l ∧ l < 365 + DsCal.lp y ∧ w' = w := by
  go_enter Tryd.func50, Tryd.ntmps50
  go_wp2
  all_goals
    go_loop [4, 5, 34] (fun l y i => ∃ k : Nat, k ≤ 3 ∧ i = .int .i64 k ∧ y = .int .i64 (DsCal.y0 n + k) ∧ l = .int .i64 (DsCal.r0 n - 365 * k) ∧ 0 ≤ DsCal.r0 n - 365 * k) (fun _ _ i => 3 - (intOf i).toNat)
    case atStart => exact ⟨0, by omega, rfl, val_int (by unfold DsCal.y0; omega), val_int (by unfold DsCal.r0; omega), by unfold DsCal.r0; omega⟩
    case round =>
      obtain ⟨k, hk, rfl, rfl, rfl, h0⟩ := hrel
      have hy := DsCal.y0_bd h1 h2
      have hr := DsCal.r0_bd n
      have fin := fun h => DsCal.yearOf_end (n := n) (k := k) h1 hk h h0
      have FIN : Hid ((k = 3 ∨ DsCal.r0 n - 365 * k < 365) → DsCal.ahead (DsCal.y0 n + k) + (DsCal.r0 n - 365 * k) = n - 1 ∧ 1 ≤ DsCal.y0 n + k ∧ DsCal.r0 n - 365 * k < 365 + DsCal.lp (DsCal.y0 n + k)) := fin
      clear fin
      by_cases hlt : k < 3
      · have hl := DsCal.lp_y0 (n := n) h1 hlt
        by_cases hb : DsCal.r0 n - 365 * k < 365
        · go_wp2_with (go_at_call 64; refine (yearLen_any _ _).mono ?_; rintro e w' ⟨rfl, rfl⟩)
          go_ret2
          have f := FIN.out (.inr hb)
          exact ⟨_, _, rfl, f.1, f.2.1, h0, f.2.2, rfl⟩
        · go_wp2_with (go_at_call 64; refine (yearLen_any _ _).mono ?_; rintro e w' ⟨rfl, rfl⟩)
          go_round
          case rel => exact ⟨k + 1, by omega, by go_num, val_int (by omega), val_int (by omega), by omega⟩
          case measure => simp [intOf]; omega
      · go_wp2
        go_ret2
        have f := FIN.out (.inl (by omega))
        exact ⟨_, _, rfl, f.1, f.2.1, h0, f.2.2, rfl⟩

theorem date_no (n : Int) (w : World) (h : n < 1 ∨ 3652059 < n) :
    Calls Tryd.prog 33 #[.int .i64 n] w fun e w' => e = .returned (.tuple #[.int .i64 0, .int .i64 0, .int .i64 0, .int .i64 6]) ∧ w' = w := by
  go_enter Tryd.func33, Tryd.ntmps33
  go_wp2_with (go_at_call 23; refine (right_no _ _ (by omega)).mono ?_; rintro e w' ⟨rfl, rfl⟩)
  go_returns
  exact ⟨rfl, rfl⟩
set_option maxHeartbeats 1000000 in
theorem date_yes (n : Int) (w : World) (ht : Tab w) (h1 : 1 ≤ n) (h2 : n ≤ 3652059) :
    Calls Tryd.prog 33 #[.int .i64 n] w fun e w' => ∃ y m d : Int, e = .returned (.tuple #[.int .i64 y, .int .i64 m, .int .i64 d, .int .i64 0]) ∧ DsCal.vld y m d ∧ DsCal.num y m d = n ∧ w' = w := by
  go_enter Tryd.func33, Tryd.ntmps33
  go_wp2_with (first | (go_at_call 23; refine (right_yes _ _ (by omega) (by omega)).mono ?_; rintro e w' ⟨rfl, rfl⟩) | (go_at_call 50; refine (yearOf_any _ _ (by omega) (by omega)).mono ?_; rintro e w' ⟨y, l, rfl, he, hy, hl0, hl1, rfl⟩; have HE := hide he; clear he))
  go_loop [7, 8, 18] (fun l' m i => ∃ k : Nat, k ≤ 11 ∧ i = .int .i64 k ∧ m = .int .i64 (k + 1) ∧ l' = .int .i64 (l - DsCal.cum y (k + 1)) ∧ 0 ≤ l - DsCal.cum y (k + 1)) (fun _ _ i => 11 - (intOf i).toNat)
  case atStart => exact ⟨0, by omega, rfl, rfl, val_int (by simp [DsCal.cum_one]), by simp [DsCal.cum_one]; omega⟩
  case round =>
    obtain ⟨k, hk, rfl, rfl, rfl, h0⟩ := hrel
    have hlp := DsCal.lp01 y
    have hcb := DsCal.cum_bd (y := y) (m := k + 1) (by omega) (by omega)
    have hdb := DsCal.dlen_any y (k + 1)
    have hcs := DsCal.cum_succ (y := y) (m := k + 1) (by omega) (by omega)
    have HCS := hide hcs
    clear hcs
    by_cases hlt : k < 11
    · by_cases hb : l - DsCal.cum y (k + 1) < DsCal.dlen y (k + 1)
      · have f := DsCal.month_end (m := k + 1) h2 hy HE.out hl0 hl1 (by omega) (by omega) h0 (.inr hb)
        have F := hide f
        clear f
        go_wp2_with (go_at_call 34; refine (len_any _ _ _ ht).mono ?_; rintro e w' ⟨rfl, rfl⟩)
        go_returns
        exact ⟨_, _, _, rfl, F.out.1, F.out.2, rfl⟩
      · go_wp2_with (go_at_call 34; refine (len_any _ _ _ ht).mono ?_; rintro e w' ⟨rfl, rfl⟩)
        go_round
        case rel => exact ⟨k + 1, by omega, by go_num, by go_num, val_int (by have := HCS.out; rw [show ((k + 1 : Nat) : Int) + 1 = (k : Int) + 1 + 1 by omega]; omega), by have := HCS.out; rw [show ((k + 1 : Nat) : Int) + 1 = (k : Int) + 1 + 1 by omega]; omega⟩
        case measure => simp [intOf]; omega
    · have f := DsCal.month_end (m := k + 1) h2 hy HE.out hl0 hl1 (by omega) (by omega) h0 (.inl (by omega))
      have F := hide f
      clear f
      go_wp2
      go_returns
      exact ⟨_, _, _, rfl, F.out.1, F.out.2, rfl⟩

end Go.Proofs.YthbfjkdklnffjaaDoor.Dt

/- The walks of date.Days and dayshiftref01.Days: the day of a date. -/
namespace Go.Proofs.YthbfjkdklnffjaaDoor.Dt
open Go.ChangeShapes Go.WideShapes Go.ChangeAt Go.RowKit

theorem days_no (y m d : Int) (w : World) (ht : Tab w) (h : ¬ DsCal.vld y m d) :
    Calls Tryd.prog 65 #[.int .i64 y, .int .i64 m, .int .i64 d] w fun e w' => e = .returned (.tuple #[.int .i64 0, .int .i64 6]) ∧ w' = w := by
  unfold DsCal.vld at h
  by_cases c1 : y < 1
  · clear h
    go_enter Tryd.func65, Tryd.ntmps65
    go_wp2
    go_ret2; exact ⟨rfl, rfl⟩
  by_cases c2 : 9999 < y
  · clear h
    go_enter Tryd.func65, Tryd.ntmps65
    go_wp2
    go_ret2; exact ⟨rfl, rfl⟩
  by_cases c3 : d < 1
  · clear h
    go_enter Tryd.func65, Tryd.ntmps65
    go_wp2
    go_ret2; exact ⟨rfl, rfl⟩
  have c4 : DsCal.dlen y m < d := by omega
  clear h
  go_enter Tryd.func65, Tryd.ntmps65
  go_wp2_with (go_at_call 34; refine (len_any _ _ _ ht).mono ?_; rintro e w' ⟨rfl, rfl⟩)
  go_ret2; exact ⟨rfl, rfl⟩

set_option maxHeartbeats 1000000 in
theorem days_yes (y m d : Int) (w : World) (ht : Tab w) (h : DsCal.vld y m d) :
    Calls Tryd.prog 65 #[.int .i64 y, .int .i64 m, .int .i64 d] w fun e w' => e = .returned (.tuple #[.int .i64 (DsCal.num y m d), .int .i64 0]) ∧ w' = w := by
  obtain ⟨y1, y2, d1, d2⟩ := h
  have hm := DsCal.dlen_range (y := y) (m := m) (by omega)
  obtain ⟨m1, m2⟩ := hm
  have hdb := DsCal.dlen_any y m
  have hab := DsCal.ahead_bd y y1 (by omega)
  go_enter Tryd.func65, Tryd.ntmps65
  go_wp2_with (first | (go_at_call 34; refine (len_any _ _ _ ht).mono ?_; rintro e w' ⟨rfl, rfl⟩) | (go_at_call 74; refine (aheadOf_any _ _ (by omega) (by omega)).mono ?_; rintro e w' ⟨rfl, rfl⟩))
  go_loop [8, 33] (fun t i => ∃ k : Nat, k ≤ m - 1 ∧ i = .int .i64 k ∧ t = .int .i64 (DsCal.ahead y + d + DsCal.cum y (k + 1))) (fun _ i => (m - 1).toNat - (intOf i).toNat)
  case atStart => exact ⟨0, by omega, rfl, val_int (by simp [DsCal.cum_one])⟩
  case round =>
    obtain ⟨k, hk, rfl, rfl⟩ := hrel
    have hcb := DsCal.cum_bd (y := y) (m := k + 1) (by omega) (by omega)
    have hdk := DsCal.dlen_any y (k + 1)
    have hcs := DsCal.cum_succ (y := y) (m := k + 1) (by omega) (by omega)
    have HCS := hide hcs
    clear hcs
    by_cases hlt : k < m - 1
    · go_wp2_with (go_at_call 34; refine (len_any _ _ _ ht).mono ?_; rintro e w' ⟨rfl, rfl⟩)
      go_round
      case rel => exact ⟨k + 1, by omega, by go_num, val_int (by have := HCS.out; rw [show ((k + 1 : Nat) : Int) + 1 = (k : Int) + 1 + 1 by omega]; omega)⟩
      case measure => simp [intOf]; omega
    · go_wp2
      go_ret2
      exact ⟨ret_int2 (by unfold DsCal.num; rw [show (k : Int) + 1 = m by omega]; omega) rfl, rfl⟩

theorem refDays_no (y m d : Int) (w : World) (h : ¬ DsCal.vld y m d) :
    Calls Tryd.prog 30 #[.int .i64 y, .int .i64 m, .int .i64 d] w fun e w' => e = .returned (.tuple #[.int .i64 0, .int .i64 6]) ∧ w' = w := by
  unfold DsCal.vld at h
  by_cases c1 : y < 1
  · clear h
    go_enter Tryd.func30, Tryd.ntmps30
    go_wp2
    go_ret2; exact ⟨rfl, rfl⟩
  by_cases c2 : 9999 < y
  · clear h
    go_enter Tryd.func30, Tryd.ntmps30
    go_wp2
    go_ret2; exact ⟨rfl, rfl⟩
  by_cases c3 : d < 1
  · clear h
    go_enter Tryd.func30, Tryd.ntmps30
    go_wp2
    go_ret2; exact ⟨rfl, rfl⟩
  have c4 : DsCal.dlen y m < d := by omega
  clear h
  go_enter Tryd.func30, Tryd.ntmps30
  go_wp2_with (go_at_call 45; refine (refLen_any _ _ _).mono ?_; rintro e w' ⟨rfl, rfl⟩)
  go_ret2; exact ⟨rfl, rfl⟩

set_option maxHeartbeats 1000000 in
theorem refDays_yes (y m d : Int) (w : World) (h : DsCal.vld y m d) :
    Calls Tryd.prog 30 #[.int .i64 y, .int .i64 m, .int .i64 d] w fun e w' => e = .returned (.tuple #[.int .i64 (DsCal.num y m d), .int .i64 0]) ∧ w' = w := by
  obtain ⟨y1, y2, d1, d2⟩ := h
  have hm := DsCal.dlen_range (y := y) (m := m) (by omega)
  obtain ⟨m1, m2⟩ := hm
  have hdb := DsCal.dlen_any y m
  have hab := DsCal.ahead_bd y y1 (by omega)
  go_enter Tryd.func30, Tryd.ntmps30
  go_wp2_with (first | (go_at_call 45; refine (refLen_any _ _ _).mono ?_; rintro e w' ⟨rfl, rfl⟩) | (go_at_call 46; refine (ahead_any _ _ (by omega) (by omega)).mono ?_; rintro e w' ⟨rfl, rfl⟩))
  go_loop [8, 9] (fun t i => ∃ k : Int, 1 ≤ k ∧ k ≤ m ∧ i = .int .i64 k ∧ t = .int .i64 (DsCal.ahead y + d + DsCal.cum y k)) (fun _ i => (m - intOf i).toNat)
  case atStart => exact ⟨1, by omega, by omega, rfl, val_int (by simp [DsCal.cum_one])⟩
  case round =>
    obtain ⟨k, k1, k2, rfl, rfl⟩ := hrel
    have hcb := DsCal.cum_bd (y := y) (m := k) (by omega) (by omega)
    have hdk := DsCal.dlen_any y k
    have hcs := DsCal.cum_succ (y := y) (m := k) (by omega) (by omega)
    have HCS := hide hcs
    clear hcs
    by_cases hlt : k < m
    · go_wp2_with (go_at_call 45; refine (refLen_any _ _ _).mono ?_; rintro e w' ⟨rfl, rfl⟩)
      go_round
      case rel => exact ⟨k + 1, by omega, by omega, rfl, val_int (by have := HCS.out; omega)⟩
      case measure => simp [intOf]; omega
    · go_wp2
      go_ret2
      exact ⟨ret_int2 (by unfold DsCal.num; rw [show k = m by omega]; omega) rfl, rfl⟩
end Go.Proofs.YthbfjkdklnffjaaDoor.Dt

