/- The walks of the laws WeekDays, WeekNths, WeekClocks and WeekOrder. -/
import Derived.Test.YtbkjcnkjlkjknaaDoorKnownB
namespace Go.Proofs.YtbkjcnkjlkjknaaDoor
open Go.ChangeShapes Go.WideShapes Go.ChangeAt Go.RowKit

set_option maxHeartbeats 2000000 in
theorem weekDays_yes (n : Int) (w : World) (ht : Tab w) (h1 : 1 ≤ n) (h2 : n ≤ 3652059) :
    Calls Tryd.prog 8 #[.int .i64 n] w fun e w' => e = .returned (.bool true) ∧ Below w.heap.size w w' := by
  go_enter Tryd.func8, Tryd.ntmps8
  go_wp2_with fail
  refine (week_yes _ _ ht h1 h2).mono ?_
  rintro e w1 ⟨y, k, rfl, hw, rfl⟩
  have HW := hide hw
  clear hw
  go_wp2_with fail
  refine (refWeek_yes _ _ h1 h2).mono ?_
  rintro e w1 ⟨z, l, rfl, hw, rfl⟩
  obtain ⟨rfl, rfl⟩ := hw.one HW.out
  clear hw HW
  go_wp2_with fail
  refine (first_yes _ _ ht h1 h2).mono ?_
  rintro e w1 ⟨y1, m1, d1, rfl, hv, hn, rfl⟩
  have HV := hide hv
  have HN := hide hn
  clear hv hn
  go_wp2_with fail
  refine (refFirst_yes _ _ h1 h2).mono ?_
  rintro e w1 ⟨y2, m2, d2, rfl, hv, hn, rfl⟩
  obtain ⟨rfl, rfl, rfl⟩ := DsCal.num_inj hv HV.out (hn.trans HN.out.symm)
  clear hv hn
  go_wp2_with fail
  refine (last_yes _ _ ht h1 h2).mono ?_
  rintro e w1 ⟨y3, m3, d3, rfl, hv, hn, rfl⟩
  obtain ⟨rfl, rfl, rfl⟩ := DsCal.num_inj hv HV.out (hn.trans HN.out.symm)
  clear hv hn
  go_wp2_with fail
  refine (refLast_yes _ _ h1 h2).mono ?_
  rintro e w1 ⟨y4, m4, d4, rfl, hv, hn, rfl⟩
  obtain ⟨rfl, rfl, rfl⟩ := DsCal.num_inj hv HV.out (hn.trans HN.out.symm)
  clear hv hn HV HN
  go_wp2_with (go_at_call 38; refine (known2_any _ ht).mono ?_; rintro e w' ⟨rfl, rfl⟩)
  go_ret
  exact ⟨rfl, Below.refl _ _⟩
set_option maxHeartbeats 2000000 in
theorem weekDays_no (n : Int) (w : World) (ht : Tab w) (h : n < 1 ∨ 3652059 < n) :
    Calls Tryd.prog 8 #[.int .i64 n] w fun e w' => e = .returned (.bool true) ∧ Below w.heap.size w w' := by
  have H := hide h
  clear h
  go_enter Tryd.func8, Tryd.ntmps8
  go_wp2_with (first
    | (go_at_call 32; refine (week_no _ _ H.out).mono ?_; rintro e w' ⟨rfl, rfl⟩)
    | (go_at_call 33; refine (refWeek_no _ _ H.out).mono ?_; rintro e w' ⟨rfl, rfl⟩)
    | (go_at_call 34; refine (first_no _ _ H.out).mono ?_; rintro e w' ⟨rfl, rfl⟩)
    | (go_at_call 35; refine (refFirst_no _ _ H.out).mono ?_; rintro e w' ⟨rfl, rfl⟩)
    | (go_at_call 36; refine (last_no _ _ H.out).mono ?_; rintro e w' ⟨rfl, rfl⟩)
    | (go_at_call 37; refine (refLast_no _ _ H.out).mono ?_; rintro e w' ⟨rfl, rfl⟩)
    | (go_at_call 38; refine (known2_any _ ht).mono ?_; rintro e w' ⟨rfl, rfl⟩))
  go_ret
  exact ⟨rfl, Below.refl _ _⟩
theorem weekDays_walk (n : Int) (w : World) (ht : Tab w) (_ : (Lit.int .i64 n).wf = true) :
    Calls Tryd.prog 8 #[.int .i64 n] w fun e w' => e = .returned (.bool true) ∧ Below w.heap.size w w' := by
  by_cases h : n < 1 ∨ 3652059 < n
  · exact weekDays_no n w ht h
  · exact weekDays_yes n w ht (by omega) (by omega)

set_option maxHeartbeats 2000000 in
theorem weekNths_walk (y m wd k : Int) (w : World) (ht : Tab w) (_ : (Lit.int .i64 y).wf = true) (_ : (Lit.int .i64 m).wf = true) (_ : (Lit.int .i64 wd).wf = true) (_ : (Lit.int .i64 k).wf = true) :
    Calls Tryd.prog 9 #[.int .i64 y, .int .i64 m, .int .i64 wd, .int .i64 k] w fun e w' => e = .returned (.bool true) ∧ Below w.heap.size w w' := by
  by_cases h : DsCal.vld y m 1
  · have H := hide h
    clear h
    by_cases a : DsCal.okA wd k
    · have A := hide a
      clear a
      go_enter Tryd.func9, Tryd.ntmps9
      go_wp2_with fail
      refine (nth_yes _ _ _ _ _ ht H.out A.out).mono ?_
      rintro e w1 ⟨rfl, rfl⟩
      go_wp2_with fail
      refine (refNth_yes _ _ _ _ _ H.out A.out).mono ?_
      generalize DsCal.nres (DsCal.num y m 1) (DsCal.dlen y m) wd k = p
      obtain ⟨p1, p2⟩ := p
      rintro e w2 ⟨rfl, hb⟩
      have HB := hide hb
      have ht2 := ht.below hb
      clear hb
      go_wp2_with (go_at_call 38; refine (known2_any _ ht2).mono ?_; rintro e w' ⟨rfl, rfl⟩)
      go_ret
      exact ⟨rfl, HB.out⟩
    · have A := hide a
      clear a
      go_enter Tryd.func9, Tryd.ntmps9
      go_wp2_with (first
        | (go_at_call 39; refine (nth_arg _ _ _ _ _ ht H.out A.out).mono ?_; rintro e w' ⟨rfl, rfl⟩)
        | (go_at_call 40; refine (refNth_arg _ _ _ _ _ H.out A.out).mono ?_; rintro e w' ⟨rfl, rfl⟩)
        | (go_at_call 38; refine (known2_any _ ht).mono ?_; rintro e w' ⟨rfl, rfl⟩))
      go_ret
      exact ⟨rfl, Below.refl _ _⟩
  · have H := hide h
    clear h
    go_enter Tryd.func9, Tryd.ntmps9
    go_wp2_with (first
      | (go_at_call 39; refine (nth_range _ _ _ _ _ ht H.out).mono ?_; rintro e w' ⟨rfl, rfl⟩)
      | (go_at_call 40; refine (refNth_range _ _ _ _ _ H.out).mono ?_; rintro e w' ⟨rfl, rfl⟩)
      | (go_at_call 38; refine (known2_any _ ht).mono ?_; rintro e w' ⟨rfl, rfl⟩))
    go_ret
    exact ⟨rfl, Below.refl _ _⟩
end Go.Proofs.YtbkjcnkjlkjknaaDoor
