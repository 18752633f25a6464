/- The walk of the law WeekRuns. -/
import Derived.Test.YtbkjcnkjlkjknaaDoorKnownB
namespace Go.Proofs.YtbkjcnkjlkjknaaDoor
open Go.ChangeShapes Go.WideShapes Go.ChangeAt Go.RowKit

theorem IsWeek.same {n r y k z l : Int} (h : IsWeek n y k) (g : IsWeek r z l) (e : thOf r = thOf n) : z = y ∧ l = k := by
  obtain ⟨m, d, h1, h2, rfl⟩ := h
  obtain ⟨m', d', g1, g2, rfl⟩ := g
  rw [e] at g2 ⊢
  obtain ⟨rfl, _, _⟩ := DsCal.num_inj g1 h1 (g2.trans h2.symm)
  exact ⟨rfl, rfl⟩
theorem IsWeek.next {n r y k z l : Int} (h : IsWeek n y k) (g : IsWeek r z l) (e : thOf r = thOf n + 7) : (z = y ∧ l = k + 1) ∨ (z = y + 1 ∧ l = 1 ∧ 52 ≤ k) := by
  obtain ⟨m, d, h1, h2, rfl⟩ := h
  obtain ⟨m', d', g1, g2, rfl⟩ := g
  have a := DsCal.doy_bd h1
  have b := DsCal.doy_bd g1
  have sy := DsCal.ahead_succ y
  have sz := DsCal.ahead_succ z
  have ly := DsCal.lp01 y
  unfold DsCal.num at h2 g2
  by_cases c1 : z < y
  · have := DsCal.ahead_mono (show z + 1 ≤ y by omega); omega
  · by_cases c2 : y + 1 < z
    · have := DsCal.ahead_mono (show y + 1 ≤ z by omega); omega
    · by_cases c3 : z = y
      · subst c3; left; refine ⟨rfl, ?_⟩; omega
      · have e1 : z = y + 1 := by omega
        subst e1; right; refine ⟨rfl, ?_, ?_⟩ <;> omega
theorem th_same {n i : Int} (h0 : 0 ≤ i) (h6 : i ≤ 6) : thOf (n - (n - 1) % 7 + i) = thOf (n - (n - 1) % 7) := by unfold thOf; omega
theorem th_next (n : Int) : thOf (n - (n - 1) % 7 + 7) = thOf (n - (n - 1) % 7) + 7 := by unfold thOf; omega
theorem week_nums {n y k : Int} (h : IsWeek n y k) : 1 ≤ y ∧ y ≤ 9999 ∧ 1 ≤ k ∧ k ≤ 53 := by
  obtain ⟨m, d, h1, h2, rfl⟩ := h
  have a := in_year h1
  have b := DsCal.vld_bd h1
  omega

set_option maxHeartbeats 2000000 in
theorem weekRuns_no (n : Int) (w : World) (ht : Tab w) (h : n < 1 ∨ 3652059 < n) :
    Calls Tryd.prog 13 #[.int .i64 n] w fun e w' => e = .returned (.bool true) ∧ Below w.heap.size w w' := by
  have H := hide h
  clear h
  go_enter Tryd.func13, Tryd.ntmps13
  go_wp2_with (first
    | (go_at_call 25; refine (refWeekday_no _ _ H.out).mono ?_; rintro e w' ⟨rfl, rfl⟩)
    | (go_at_call 38; refine (known2_any _ ht).mono ?_; rintro e w' ⟨rfl, rfl⟩))
  go_ret
  exact ⟨rfl, Below.refl _ _⟩
set_option maxHeartbeats 2000000 in
theorem weekRuns_late (n : Int) (w : World) (ht : Tab w) (h1 : 1 ≤ n) (h2 : n ≤ 3652059) (h3 : 3652046 < n - (n - 1) % 7) :
    Calls Tryd.prog 13 #[.int .i64 n] w fun e w' => e = .returned (.bool true) ∧ Below w.heap.size w w' := by
  go_enter Tryd.func13, Tryd.ntmps13
  go_wp2_with (first
    | (go_at_call 25; refine (refWeekday_yes _ _ h1 h2).mono ?_; rintro e w' ⟨rfl, rfl⟩)
    | (go_at_call 38; refine (known2_any _ ht).mono ?_; rintro e w' ⟨rfl, rfl⟩))
  go_ret
  exact ⟨rfl, Below.refl _ _⟩
set_option maxHeartbeats 2000000 in
theorem weekRuns_yes (n : Int) (w : World) (ht : Tab w) (h1 : 1 ≤ n) (h2 : n ≤ 3652059) (h3 : n - (n - 1) % 7 ≤ 3652046) :
    Calls Tryd.prog 13 #[.int .i64 n] w fun e w' => e = .returned (.bool true) ∧ Below w.heap.size w w' := by
  have h4 : 1 ≤ n - (n - 1) % 7 := by omega
  go_enter Tryd.func13, Tryd.ntmps13
  go_wp2_with (go_at_call 25; refine (refWeekday_yes _ _ h1 h2).mono ?_; rintro e w' ⟨rfl, rfl⟩)
  refine (week_yes _ _ ht (by omega) (by omega)).mono ?_
  rintro e w1 ⟨y, k, rfl, hw, rfl⟩
  have HW := hide hw
  obtain ⟨y1, y2, k1, k2⟩ := week_nums hw
  clear hw
  go_wp2_with fail
  go_loop [8] (fun t => ∃ i : Int, 1 ≤ i ∧ i ≤ 7 ∧ t = .int .i64 i) (fun t => (7 - intOf t).toNat)
  case atStart => exact ⟨1, by omega, by omega, rfl⟩
  case round =>
    obtain ⟨i, i1, i7, rfl⟩ := hrel
    by_cases hlt : i < 7
    · go_wp2_with fail
      refine (week_yes _ _ ht (by omega) (by omega)).mono ?_
      rintro e w1 ⟨z, l, rfl, hw, rfl⟩
      obtain ⟨rfl, rfl⟩ := HW.out.same hw (th_same (by omega) (by omega))
      clear hw
      go_wp2
      go_round
      case rel => exact ⟨i + 1, by omega, by omega, rfl⟩
      case measure => simp [intOf]; omega
    · go_wp2_with fail
      refine (week_yes _ _ ht (by omega) (by omega)).mono ?_
      rintro e w1 ⟨z, l, rfl, hw, rfl⟩
      obtain ⟨z1, z2, l1, l2⟩ := week_nums hw
      have nx := HW.out.next hw (th_next n)
      clear hw
      rcases nx with ⟨rfl, rfl⟩ | ⟨rfl, rfl, q⟩
      all_goals
        go_wp2_with (go_at_call 38; refine (known2_any _ ht).mono ?_; rintro e w' ⟨rfl, rfl⟩)
        go_ret
        exact ⟨rfl, Below.refl _ _⟩
theorem weekRuns_walk (n : Int) (w : World) (ht : Tab w) (_ : (Lit.int .i64 n).wf = true) :
    Calls Tryd.prog 13 #[.int .i64 n] w fun e w' => e = .returned (.bool true) ∧ Below w.heap.size w w' := by
  by_cases h : n < 1 ∨ 3652059 < n
  · exact weekRuns_no n w ht h
  · by_cases k : 3652046 < n - (n - 1) % 7
    · exact weekRuns_late n w ht (by omega) (by omega) k
    · exact weekRuns_yes n w ht (by omega) (by omega) (by omega)
end Go.Proofs.YtbkjcnkjlkjknaaDoor
