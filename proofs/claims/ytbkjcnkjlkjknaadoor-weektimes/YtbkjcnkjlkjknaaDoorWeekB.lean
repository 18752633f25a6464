/- The walks of week.Split, week.Join, week.Order and of dayshiftref02's: clocks. -/
import Derived.Test.YtbkjcnkjlkjknaaDoorWeekA
namespace Go.Proofs.YtbkjcnkjlkjknaaDoor
open Go.ChangeShapes Go.WideShapes Go.ChangeAt Go.RowKit

theorem tdiv_neg (c : Int) (h : c < 0) (h0 : -9223372036854775808 ≤ c) : -9223372036854775808 ≤ c.tdiv 1440 ∧ c.tdiv 1440 ≤ 0 := by
  rw [Int.tdiv_eq_ediv]
  split
  · omega
  · have : (1440 : Int).sign = 1 := rfl
    rw [this]; omega

def okC (c : Int) : Prop := 1440 ≤ c ∧ c ≤ 5258966399
def okM (b : Int) : Prop := 0 ≤ b ∧ b < 1440

theorem split_yes (c : Int) (w : World) (h : okC c) :
    Calls Tryd.prog 41 #[.int .i64 c] w fun e w' => e = .returned (.tuple #[.int .i64 (c / 1440), .int .i64 (c % 1440), .int .i64 0]) ∧ w' = w := by
  obtain ⟨h1, h2⟩ := h
  go_enter Tryd.func41, Tryd.ntmps41
  go_wp2_with (go_at_call 26; refine (right_yes _ _ (by omega) (by omega)).mono ?_; rintro e w' ⟨rfl, rfl⟩)
  go_ret3; exact ⟨rfl, rfl⟩
theorem split_no (c : Int) (w : World) (h : ¬ okC c) (c0 : -9223372036854775808 ≤ c) (c9 : c ≤ 9223372036854775807) :
    Calls Tryd.prog 41 #[.int .i64 c] w fun e w' => e = .returned (.tuple #[.int .i64 0, .int .i64 0, .int .i64 6]) ∧ w' = w := by
  unfold okC at h
  by_cases hn : c < 0
  · obtain ⟨t0, t1⟩ := tdiv_neg c hn c0
    clear h
    go_enter Tryd.func41, Tryd.ntmps41
    go_wp2_with (go_at_call 26; refine (right_no _ _ (by first | omega | (rw [IntWalk.wrap64_in _ (by omega)]; omega))).mono ?_; rintro e w' ⟨rfl, rfl⟩)
    go_ret3; exact ⟨rfl, rfl⟩
  · have hc : c < 1440 ∨ 5258966399 < c := by omega
    clear h
    go_enter Tryd.func41, Tryd.ntmps41
    go_wp2_with (go_at_call 26; refine (right_no _ _ (by omega)).mono ?_; rintro e w' ⟨rfl, rfl⟩)
    go_ret3; exact ⟨rfl, rfl⟩
theorem refSplit_yes (c : Int) (w : World) (h : okC c) :
    Calls Tryd.prog 42 #[.int .i64 c] w fun e w' => e = .returned (.tuple #[.int .i64 (c / 1440), .int .i64 (c % 1440), .int .i64 0]) ∧ w' = w := by
  obtain ⟨h1, h2⟩ := h
  go_enter Tryd.func42, Tryd.ntmps42
  go_wp2
  go_ret3; exact ⟨rfl, rfl⟩
theorem refSplit_no (c : Int) (w : World) (h : ¬ okC c) :
    Calls Tryd.prog 42 #[.int .i64 c] w fun e w' => e = .returned (.tuple #[.int .i64 0, .int .i64 0, .int .i64 6]) ∧ w' = w := by
  unfold okC at h
  by_cases hn : c < 1440
  · clear h
    go_enter Tryd.func42, Tryd.ntmps42
    go_wp2
    go_ret3; exact ⟨rfl, rfl⟩
  · have hc : 5258966399 < c := by omega
    clear h
    go_enter Tryd.func42, Tryd.ntmps42
    go_wp2
    go_ret3; exact ⟨rfl, rfl⟩

theorem isMin_yes (b : Int) (w : World) (h : okM b) :
    Calls Tryd.prog 59 #[.int .i64 b] w fun e w' => e = .returned (.bool true) ∧ w' = w := by
  obtain ⟨h1, h2⟩ := h
  go_enter Tryd.func59, Tryd.ntmps59
  go_wp2
  go_ret; exact ⟨rfl, rfl⟩
theorem isMin_no (b : Int) (w : World) (h : ¬ okM b) :
    Calls Tryd.prog 59 #[.int .i64 b] w fun e w' => e = .returned (.bool false) ∧ w' = w := by
  unfold okM at h
  by_cases hn : b < 0
  · clear h
    go_enter Tryd.func59, Tryd.ntmps59
    go_wp2
    go_ret; exact ⟨rfl, rfl⟩
  · have hc : 1440 ≤ b := by omega
    clear h
    go_enter Tryd.func59, Tryd.ntmps59
    go_wp2
    go_ret; exact ⟨ret_bool (decide_eq_false (by omega)), rfl⟩

theorem refMin_yes (b : Int) (w : World) (h : okM b) :
    Calls Tryd.prog 60 #[.int .i64 b] w fun e w' => e = .returned (.bool true) ∧ w' = w := by
  obtain ⟨h1, h2⟩ := h
  go_enter Tryd.func60, Tryd.ntmps60
  go_wp2
  go_ret; exact ⟨rfl, rfl⟩
theorem refMin_no (b : Int) (w : World) (h : ¬ okM b) :
    Calls Tryd.prog 60 #[.int .i64 b] w fun e w' => e = .returned (.bool false) ∧ w' = w := by
  unfold okM at h
  by_cases hn : b < 0
  · clear h
    go_enter Tryd.func60, Tryd.ntmps60
    go_wp2
    go_ret; exact ⟨rfl, rfl⟩
  · have hc : 1440 ≤ b := by omega
    clear h
    go_enter Tryd.func60, Tryd.ntmps60
    go_wp2
    go_ret; exact ⟨ret_bool (decide_eq_false (by omega)), rfl⟩

theorem join_yes (d b : Int) (w : World) (h1 : 1 ≤ d) (h2 : d ≤ 3652059) (h : okM b) :
    Calls Tryd.prog 45 #[.int .i64 d, .int .i64 b] w fun e w' => e = .returned (.tuple #[.int .i64 (d * 1440 + b), .int .i64 0]) ∧ w' = w := by
  have H := hide h
  obtain ⟨h3, h4⟩ := h
  go_enter Tryd.func45, Tryd.ntmps45
  go_wp2_with (first
    | (go_at_call 26; refine (right_yes _ _ (by omega) (by omega)).mono ?_; rintro e w' ⟨rfl, rfl⟩)
    | (go_at_call 59; refine (isMin_yes _ _ H.out).mono ?_; rintro e w' ⟨rfl, rfl⟩))
  go_ret2; exact ⟨rfl, rfl⟩
theorem join_no (d b : Int) (w : World) (h : ¬ (1 ≤ d ∧ d ≤ 3652059 ∧ okM b)) :
    Calls Tryd.prog 45 #[.int .i64 d, .int .i64 b] w fun e w' => e = .returned (.tuple #[.int .i64 0, .int .i64 6]) ∧ w' = w := by
  by_cases hd : d < 1 ∨ 3652059 < d
  · have H := hide hd
    clear h hd
    go_enter Tryd.func45, Tryd.ntmps45
    go_wp2_with (go_at_call 26; refine (right_no _ _ H.out).mono ?_; rintro e w' ⟨rfl, rfl⟩)
    go_ret2; exact ⟨rfl, rfl⟩
  · have hm : ¬ okM b := fun k => h ⟨by omega, by omega, k⟩
    have H := hide hm
    have d1 : 1 ≤ d := by omega
    have d2 : d ≤ 3652059 := by omega
    clear h hd hm
    go_enter Tryd.func45, Tryd.ntmps45
    go_wp2_with (first
      | (go_at_call 26; refine (right_yes _ _ d1 d2).mono ?_; rintro e w' ⟨rfl, rfl⟩)
      | (go_at_call 59; refine (isMin_no _ _ H.out).mono ?_; rintro e w' ⟨rfl, rfl⟩))
    go_ret2; exact ⟨rfl, rfl⟩

theorem refJoin_yes (d b : Int) (w : World) (h1 : 1 ≤ d) (h2 : d ≤ 3652059) (h : okM b) :
    Calls Tryd.prog 46 #[.int .i64 d, .int .i64 b] w fun e w' => e = .returned (.tuple #[.int .i64 (d * 1440 + b), .int .i64 0]) ∧ w' = w := by
  have H := hide h
  obtain ⟨h3, h4⟩ := h
  go_enter Tryd.func46, Tryd.ntmps46
  go_wp2_with (first
    | (go_at_call 27; refine (refRight_yes _ _ (by omega) (by omega)).mono ?_; rintro e w' ⟨rfl, rfl⟩)
    | (go_at_call 60; refine (refMin_yes _ _ H.out).mono ?_; rintro e w' ⟨rfl, rfl⟩))
  go_ret2; exact ⟨rfl, rfl⟩
theorem refJoin_no (d b : Int) (w : World) (h : ¬ (1 ≤ d ∧ d ≤ 3652059 ∧ okM b)) :
    Calls Tryd.prog 46 #[.int .i64 d, .int .i64 b] w fun e w' => e = .returned (.tuple #[.int .i64 0, .int .i64 6]) ∧ w' = w := by
  by_cases hd : d < 1 ∨ 3652059 < d
  · have H := hide hd
    clear h hd
    go_enter Tryd.func46, Tryd.ntmps46
    go_wp2_with (go_at_call 27; refine (refRight_no _ _ H.out).mono ?_; rintro e w' ⟨rfl, rfl⟩)
    go_ret2; exact ⟨rfl, rfl⟩
  · have hm : ¬ okM b := fun k => h ⟨by omega, by omega, k⟩
    have H := hide hm
    have d1 : 1 ≤ d := by omega
    have d2 : d ≤ 3652059 := by omega
    clear h hd hm
    go_enter Tryd.func46, Tryd.ntmps46
    go_wp2_with (first
      | (go_at_call 27; refine (refRight_yes _ _ d1 d2).mono ?_; rintro e w' ⟨rfl, rfl⟩)
      | (go_at_call 60; refine (refMin_no _ _ H.out).mono ?_; rintro e w' ⟨rfl, rfl⟩))
    go_ret2; exact ⟨rfl, rfl⟩

/-- the day that a clock counts to -/
def ordV (c b : Int) : Int := if c % 1440 < b then c / 1440 - 1 else c / 1440
theorem ordV_lt {c b : Int} (h : c % 1440 < b) : ordV c b = c / 1440 - 1 := by unfold ordV; rw [if_pos h]
theorem ordV_ge {c b : Int} (h : ¬ c % 1440 < b) : ordV c b = c / 1440 := by unfold ordV; rw [if_neg h]
def okO (c b : Int) : Prop := okC c ∧ okM b ∧ 1 ≤ ordV c b

set_option maxHeartbeats 1000000 in
theorem order_yes (c b : Int) (w : World) (h : okO c b) :
    Calls Tryd.prog 43 #[.int .i64 c, .int .i64 b] w fun e w' => e = .returned (.tuple #[.int .i64 (ordV c b), .int .i64 0]) ∧ w' = w := by
  obtain ⟨hc, hm, hv⟩ := h
  have HC := hide hc
  have HM := hide hm
  obtain ⟨c1, c2⟩ := hc
  obtain ⟨m1, m2⟩ := hm
  by_cases hl : c % 1440 < b
  · rw [ordV_lt hl] at hv ⊢
    go_enter Tryd.func43, Tryd.ntmps43
    go_wp2_with (first
      | (go_at_call 41; refine (split_yes _ _ HC.out).mono ?_; rintro e w' ⟨rfl, rfl⟩)
      | (go_at_call 59; refine (isMin_yes _ _ HM.out).mono ?_; rintro e w' ⟨rfl, rfl⟩)
      | (go_at_call 26; refine (right_yes _ _ (by omega) (by omega)).mono ?_; rintro e w' ⟨rfl, rfl⟩))
    go_ret2; exact ⟨rfl, rfl⟩
  · rw [ordV_ge hl] at hv ⊢
    go_enter Tryd.func43, Tryd.ntmps43
    go_wp2_with (first
      | (go_at_call 41; refine (split_yes _ _ HC.out).mono ?_; rintro e w' ⟨rfl, rfl⟩)
      | (go_at_call 59; refine (isMin_yes _ _ HM.out).mono ?_; rintro e w' ⟨rfl, rfl⟩)
      | (go_at_call 26; refine (right_yes _ _ (by omega) (by omega)).mono ?_; rintro e w' ⟨rfl, rfl⟩))
    go_ret2; exact ⟨rfl, rfl⟩
set_option maxHeartbeats 1000000 in
theorem order_no (c b : Int) (w : World) (h : ¬ okO c b) (c0 : -9223372036854775808 ≤ c) (c9 : c ≤ 9223372036854775807) :
    Calls Tryd.prog 43 #[.int .i64 c, .int .i64 b] w fun e w' => e = .returned (.tuple #[.int .i64 0, .int .i64 6]) ∧ w' = w := by
  by_cases hc : okC c
  · by_cases hm : okM b
    · have hv : ordV c b < 1 := by have : ¬ 1 ≤ ordV c b := fun k => h ⟨hc, hm, k⟩
                                   omega
      have HC := hide hc
      have HM := hide hm
      obtain ⟨c1, c2⟩ := hc
      obtain ⟨m1, m2⟩ := hm
      have hl : c % 1440 < b := by
        by_cases g : c % 1440 < b
        · exact g
        · rw [ordV_ge g] at hv; omega
      rw [ordV_lt hl] at hv
      clear h
      go_enter Tryd.func43, Tryd.ntmps43
      go_wp2_with (first
        | (go_at_call 41; refine (split_yes _ _ HC.out).mono ?_; rintro e w' ⟨rfl, rfl⟩)
        | (go_at_call 59; refine (isMin_yes _ _ HM.out).mono ?_; rintro e w' ⟨rfl, rfl⟩)
        | (go_at_call 26; refine (right_no _ _ (by omega)).mono ?_; rintro e w' ⟨rfl, rfl⟩))
      go_ret2; exact ⟨rfl, rfl⟩
    · have HC := hide hc
      have HM := hide hm
      clear hc hm h
      go_enter Tryd.func43, Tryd.ntmps43
      go_wp2_with (first
        | (go_at_call 41; refine (split_yes _ _ HC.out).mono ?_; rintro e w' ⟨rfl, rfl⟩)
        | (go_at_call 59; refine (isMin_no _ _ HM.out).mono ?_; rintro e w' ⟨rfl, rfl⟩))
      go_ret2; exact ⟨rfl, rfl⟩
  · have H := hide hc
    clear hc h
    go_enter Tryd.func43, Tryd.ntmps43
    go_wp2_with (go_at_call 41; refine (split_no _ _ H.out c0 c9).mono ?_; rintro e w' ⟨rfl, rfl⟩)
    go_ret2; exact ⟨rfl, rfl⟩

set_option maxHeartbeats 1000000 in
theorem refOrder_yes (c b : Int) (w : World) (h : okO c b) :
    Calls Tryd.prog 44 #[.int .i64 c, .int .i64 b] w fun e w' => e = .returned (.tuple #[.int .i64 (ordV c b), .int .i64 0]) ∧ w' = w := by
  obtain ⟨hc, hm, hv⟩ := h
  have HC := hide hc
  have HM := hide hm
  obtain ⟨c1, c2⟩ := hc
  obtain ⟨m1, m2⟩ := hm
  by_cases hl : c % 1440 < b
  · rw [ordV_lt hl] at hv ⊢
    go_enter Tryd.func44, Tryd.ntmps44
    go_wp2_with (first
      | (go_at_call 42; refine (refSplit_yes _ _ HC.out).mono ?_; rintro e w' ⟨rfl, rfl⟩)
      | (go_at_call 60; refine (refMin_yes _ _ HM.out).mono ?_; rintro e w' ⟨rfl, rfl⟩)
      | (go_at_call 27; refine (refRight_yes _ _ (by omega) (by omega)).mono ?_; rintro e w' ⟨rfl, rfl⟩))
    go_ret2; exact ⟨rfl, rfl⟩
  · rw [ordV_ge hl] at hv ⊢
    go_enter Tryd.func44, Tryd.ntmps44
    go_wp2_with (first
      | (go_at_call 42; refine (refSplit_yes _ _ HC.out).mono ?_; rintro e w' ⟨rfl, rfl⟩)
      | (go_at_call 60; refine (refMin_yes _ _ HM.out).mono ?_; rintro e w' ⟨rfl, rfl⟩)
      | (go_at_call 27; refine (refRight_yes _ _ (by omega) (by omega)).mono ?_; rintro e w' ⟨rfl, rfl⟩))
    go_ret2; exact ⟨rfl, rfl⟩
set_option maxHeartbeats 1000000 in
theorem refOrder_no (c b : Int) (w : World) (h : ¬ okO c b) :
    Calls Tryd.prog 44 #[.int .i64 c, .int .i64 b] w fun e w' => e = .returned (.tuple #[.int .i64 0, .int .i64 6]) ∧ w' = w := by
  by_cases hc : okC c
  · by_cases hm : okM b
    · have hv : ordV c b < 1 := by have : ¬ 1 ≤ ordV c b := fun k => h ⟨hc, hm, k⟩
                                   omega
      have HC := hide hc
      have HM := hide hm
      obtain ⟨c1, c2⟩ := hc
      obtain ⟨m1, m2⟩ := hm
      have hl : c % 1440 < b := by
        by_cases g : c % 1440 < b
        · exact g
        · rw [ordV_ge g] at hv; omega
      rw [ordV_lt hl] at hv
      clear h
      go_enter Tryd.func44, Tryd.ntmps44
      go_wp2_with (first
        | (go_at_call 42; refine (refSplit_yes _ _ HC.out).mono ?_; rintro e w' ⟨rfl, rfl⟩)
        | (go_at_call 60; refine (refMin_yes _ _ HM.out).mono ?_; rintro e w' ⟨rfl, rfl⟩)
        | (go_at_call 27; refine (refRight_no _ _ (by omega)).mono ?_; rintro e w' ⟨rfl, rfl⟩))
      go_ret2; exact ⟨rfl, rfl⟩
    · have HC := hide hc
      have HM := hide hm
      clear hc hm h
      go_enter Tryd.func44, Tryd.ntmps44
      go_wp2_with (first
        | (go_at_call 42; refine (refSplit_yes _ _ HC.out).mono ?_; rintro e w' ⟨rfl, rfl⟩)
        | (go_at_call 60; refine (refMin_no _ _ HM.out).mono ?_; rintro e w' ⟨rfl, rfl⟩))
      go_ret2; exact ⟨rfl, rfl⟩
  · have H := hide hc
    clear hc h
    go_enter Tryd.func44, Tryd.ntmps44
    go_wp2_with (go_at_call 42; refine (refSplit_no _ _ H.out).mono ?_; rintro e w' ⟨rfl, rfl⟩)
    go_ret2; exact ⟨rfl, rfl⟩
end Go.Proofs.YtbkjcnkjlkjknaaDoor
