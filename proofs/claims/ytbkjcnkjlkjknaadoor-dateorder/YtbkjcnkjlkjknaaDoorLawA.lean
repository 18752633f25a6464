/- The walks of the laws DateYears, DateDays and DateOrder. -/
import Derived.Test.YtbkjcnkjlkjknaaDoorKnownA
namespace Go.Proofs.YtbkjcnkjlkjknaaDoor
open Go.ChangeShapes Go.WideShapes Go.ChangeAt Go.RowKit

set_option maxHeartbeats 1000000 in
theorem dateYears_yes (y m d : Int) (w : World) (ht : Tab w) (h : DsCal.vld y m d) :
    Calls Tryd.prog 3 #[.int .i64 y, .int .i64 m, .int .i64 d] w fun e w' => e = .returned (.bool true) ∧ Below w.heap.size w w' := by
  go_enter Tryd.func3, Tryd.ntmps3
  go_wp2_with (first
    | (go_at_call 15; refine (days_yes _ _ _ _ ht h).mono ?_; rintro e w' ⟨rfl, rfl⟩)
    | (go_at_call 16; refine (refDays_yes _ _ _ _ h).mono ?_; rintro e w' ⟨rfl, rfl⟩)
    | (go_at_call 17; refine (leap_any _ _).mono ?_; rintro e w' ⟨rfl, rfl⟩)
    | (go_at_call 18; refine (refLeap_any _ _).mono ?_; rintro e w' ⟨rfl, rfl⟩)
    | (go_at_call 19; refine (len_any _ _ _ ht).mono ?_; rintro e w' ⟨rfl, rfl⟩)
    | (go_at_call 20; refine (refLen_any _ _ _).mono ?_; rintro e w' ⟨rfl, rfl⟩)
    | (go_at_call 21; refine (known1_any _ ht).mono ?_; rintro e w' ⟨rfl, hb⟩))
  go_ret
  exact ⟨rfl, hb⟩
set_option maxHeartbeats 1000000 in
theorem dateYears_no (y m d : Int) (w : World) (ht : Tab w) (h : ¬ DsCal.vld y m d) :
    Calls Tryd.prog 3 #[.int .i64 y, .int .i64 m, .int .i64 d] w fun e w' => e = .returned (.bool true) ∧ Below w.heap.size w w' := by
  have H := hide h
  clear h
  go_enter Tryd.func3, Tryd.ntmps3
  go_wp2_with (first
    | (go_at_call 15; refine (days_no _ _ _ _ ht H.out).mono ?_; rintro e w' ⟨rfl, rfl⟩)
    | (go_at_call 16; refine (refDays_no _ _ _ _ H.out).mono ?_; rintro e w' ⟨rfl, rfl⟩)
    | (go_at_call 17; refine (leap_any _ _).mono ?_; rintro e w' ⟨rfl, rfl⟩)
    | (go_at_call 18; refine (refLeap_any _ _).mono ?_; rintro e w' ⟨rfl, rfl⟩)
    | (go_at_call 19; refine (len_any _ _ _ ht).mono ?_; rintro e w' ⟨rfl, rfl⟩)
    | (go_at_call 20; refine (refLen_any _ _ _).mono ?_; rintro e w' ⟨rfl, rfl⟩)
    | (go_at_call 21; refine (known1_any _ ht).mono ?_; rintro e w' ⟨rfl, hb⟩))
  go_ret
  exact ⟨rfl, hb⟩
theorem dateYears_walk (y m d : Int) (w : World) (ht : Tab w) (_ : (Lit.int .i64 y).wf = true) (_ : (Lit.int .i64 m).wf = true) (_ : (Lit.int .i64 d).wf = true) :
    Calls Tryd.prog 3 #[.int .i64 y, .int .i64 m, .int .i64 d] w fun e w' => e = .returned (.bool true) ∧ Below w.heap.size w w' := by
  by_cases h : DsCal.vld y m d
  · exact dateYears_yes y m d w ht h
  · exact dateYears_no y m d w ht h

set_option maxHeartbeats 1000000 in
theorem dateDays_yes (n : Int) (w : World) (ht : Tab w) (h1 : 1 ≤ n) (h2 : n ≤ 3652059) :
    Calls Tryd.prog 4 #[.int .i64 n] w fun e w' => e = .returned (.bool true) ∧ Below w.heap.size w w' := by
  go_enter Tryd.func4, Tryd.ntmps4
  go_wp2_with fail
  refine (date_yes _ _ ht h1 h2).mono ?_
  rintro e w' ⟨y, m, d, rfl, hv, hn, rfl⟩
  have HV := hide hv
  have HN := hide hn
  clear hv hn
  go_wp2_with fail
  refine (refDate_yes _ _ h1 h2).mono ?_
  rintro e w' ⟨y', m', d', rfl, hv, hn, rfl⟩
  obtain ⟨rfl, rfl, rfl⟩ := DsCal.num_inj hv HV.out (hn.trans HN.out.symm)
  clear hv hn HV HN
  go_wp2_with (first
    | (go_at_call 24; refine (weekday_yes _ _ h1 h2).mono ?_; rintro e w' ⟨rfl, rfl⟩)
    | (go_at_call 25; refine (refWeekday_yes _ _ h1 h2).mono ?_; rintro e w' ⟨rfl, rfl⟩)
    | (go_at_call 26; refine (right_yes _ _ h1 h2).mono ?_; rintro e w' ⟨rfl, rfl⟩)
    | (go_at_call 27; refine (refRight_yes _ _ h1 h2).mono ?_; rintro e w' ⟨rfl, rfl⟩)
    | (go_at_call 21; refine (known1_any _ ht).mono ?_; rintro e w' ⟨rfl, hb⟩))
  go_ret
  exact ⟨rfl, hb⟩
set_option maxHeartbeats 1000000 in
theorem dateDays_no (n : Int) (w : World) (ht : Tab w) (h : n < 1 ∨ 3652059 < n) :
    Calls Tryd.prog 4 #[.int .i64 n] w fun e w' => e = .returned (.bool true) ∧ Below w.heap.size w w' := by
  have H := hide h
  clear h
  go_enter Tryd.func4, Tryd.ntmps4
  go_wp2_with (first
    | (go_at_call 22; refine (date_no _ _ H.out).mono ?_; rintro e w' ⟨rfl, rfl⟩)
    | (go_at_call 23; refine (refDate_no _ _ H.out).mono ?_; rintro e w' ⟨rfl, rfl⟩)
    | (go_at_call 24; refine (weekday_no _ _ H.out).mono ?_; rintro e w' ⟨rfl, rfl⟩)
    | (go_at_call 25; refine (refWeekday_no _ _ H.out).mono ?_; rintro e w' ⟨rfl, rfl⟩)
    | (go_at_call 26; refine (right_no _ _ H.out).mono ?_; rintro e w' ⟨rfl, rfl⟩)
    | (go_at_call 27; refine (refRight_no _ _ H.out).mono ?_; rintro e w' ⟨rfl, rfl⟩)
    | (go_at_call 21; refine (known1_any _ ht).mono ?_; rintro e w' ⟨rfl, hb⟩))
  go_ret
  exact ⟨rfl, hb⟩
theorem dateDays_walk (n : Int) (w : World) (ht : Tab w) (_ : (Lit.int .i64 n).wf = true) :
    Calls Tryd.prog 4 #[.int .i64 n] w fun e w' => e = .returned (.bool true) ∧ Below w.heap.size w w' := by
  by_cases h : n < 1 ∨ 3652059 < n
  · exact dateDays_no n w ht h
  · exact dateDays_yes n w ht (by omega) (by omega)

set_option maxHeartbeats 1000000 in
theorem dateOrder_no (y m d z n e : Int) (w : World) (ht : Tab w) (h : ¬ DsCal.vld y m d) :
    Calls Tryd.prog 7 #[.int .i64 y, .int .i64 m, .int .i64 d, .int .i64 z, .int .i64 n, .int .i64 e] w fun r w' => r = .returned (.bool true) ∧ Below w.heap.size w w' := by
  have H := hide h
  clear h
  by_cases k : DsCal.vld z n e
  all_goals
    have K := hide k
    clear k
    go_enter Tryd.func7, Tryd.ntmps7
    go_wp2_with fail
    refine (days_no _ _ _ _ ht H.out).mono ?_
    rintro r w' ⟨rfl, rfl⟩
    go_wp2_with fail
    first
    | (refine (days_yes _ _ _ _ ht K.out).mono ?_; rintro r w' ⟨rfl, rfl⟩)
    | (refine (days_no _ _ _ _ ht K.out).mono ?_; rintro r w' ⟨rfl, rfl⟩)
    go_wp2_with (go_at_call 21; refine (known1_any _ ht).mono ?_; rintro r w' ⟨rfl, hb⟩)
    go_ret
    exact ⟨rfl, hb⟩
set_option maxHeartbeats 1000000 in
theorem dateOrder_half (y m d z n e : Int) (w : World) (ht : Tab w) (h : DsCal.vld y m d) (k : ¬ DsCal.vld z n e) :
    Calls Tryd.prog 7 #[.int .i64 y, .int .i64 m, .int .i64 d, .int .i64 z, .int .i64 n, .int .i64 e] w fun r w' => r = .returned (.bool true) ∧ Below w.heap.size w w' := by
  have H := hide h
  have K := hide k
  clear h k
  go_enter Tryd.func7, Tryd.ntmps7
  go_wp2_with fail
  refine (days_yes _ _ _ _ ht H.out).mono ?_
  rintro r w' ⟨rfl, rfl⟩
  go_wp2_with fail
  refine (days_no _ _ _ _ ht K.out).mono ?_
  rintro r w' ⟨rfl, rfl⟩
  go_wp2_with (go_at_call 21; refine (known1_any _ ht).mono ?_; rintro r w' ⟨rfl, hb⟩)
  go_ret
  exact ⟨rfl, hb⟩
set_option maxHeartbeats 2000000 in
theorem dateOrder_yes (y m d z n e : Int) (w : World) (ht : Tab w) (h : DsCal.vld y m d) (k : DsCal.vld z n e) :
    Calls Tryd.prog 7 #[.int .i64 y, .int .i64 m, .int .i64 d, .int .i64 z, .int .i64 n, .int .i64 e] w fun r w' => r = .returned (.bool true) ∧ Below w.heap.size w w' := by
  have L := hide (DsCal.num_lt_iff h k)
  have H := hide h
  have K := hide k
  clear h k
  go_enter Tryd.func7, Tryd.ntmps7
  go_wp2_with fail
  refine (days_yes _ _ _ _ ht H.out).mono ?_
  rintro r w' ⟨rfl, rfl⟩
  go_wp2_with fail
  refine (days_yes _ _ _ _ ht K.out).mono ?_
  rintro r w' ⟨rfl, rfl⟩
  have cs : (DsCal.num y m d < DsCal.num z n e ∧ (y < z ∨ (y = z ∧ m < n) ∨ (y = z ∧ m = n ∧ d < e))) ∨ (¬ DsCal.num y m d < DsCal.num z n e ∧ (z < y ∨ (y = z ∧ n < m) ∨ (y = z ∧ m = n ∧ ¬ d < e))) := by
    by_cases c : DsCal.num y m d < DsCal.num z n e
    · exact .inl ⟨c, L.out.1 c⟩
    · refine .inr ⟨c, ?_⟩
      have l : ¬ DsCal.earlier y m d z n e := fun q => c (L.out.2 q)
      unfold DsCal.earlier at l
      omega
  clear L H K
  rcases cs with ⟨c, cs⟩ | ⟨c, cs⟩
  all_goals
    rcases cs with q | ⟨rfl, q⟩ | ⟨rfl, rfl, q⟩
    all_goals
      go_wp2_with (go_at_call 21; refine (known1_any _ ht).mono ?_; rintro r w' ⟨rfl, hb⟩)
      go_ret
      exact ⟨rfl, hb⟩
theorem dateOrder_walk (y m d z n e : Int) (w : World) (ht : Tab w) (_ : (Lit.int .i64 y).wf = true) (_ : (Lit.int .i64 m).wf = true) (_ : (Lit.int .i64 d).wf = true) (_ : (Lit.int .i64 z).wf = true) (_ : (Lit.int .i64 n).wf = true) (_ : (Lit.int .i64 e).wf = true) :
    Calls Tryd.prog 7 #[.int .i64 y, .int .i64 m, .int .i64 d, .int .i64 z, .int .i64 n, .int .i64 e] w fun r w' => r = .returned (.bool true) ∧ Below w.heap.size w w' := by
  by_cases h : DsCal.vld y m d
  · by_cases k : DsCal.vld z n e
    · exact dateOrder_yes y m d z n e w ht h k
    · exact dateOrder_half y m d z n e w ht h k
  · exact dateOrder_no y m d z n e w ht h
end Go.Proofs.YtbkjcnkjlkjknaaDoor
