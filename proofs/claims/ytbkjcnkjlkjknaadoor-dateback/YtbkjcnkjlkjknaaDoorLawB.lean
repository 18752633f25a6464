/- The walk of the law DateBack. -/
import Derived.Test.YtbkjcnkjlkjknaaDoorRead
namespace Go.Proofs.YtbkjcnkjlkjknaaDoor
open Go.ChangeShapes Go.WideShapes Go.ChangeAt Go.RowKit

set_option maxHeartbeats 1000000 in
theorem dateBack_no (n : Int) (w : World) (ht : Tab w) (h : n < 1 ∨ 3652059 < n) :
    Calls Tryd.prog 6 #[.int .i64 n] w fun e w' => e = .returned (.bool true) ∧ Below w.heap.size w w' := by
  have H := hide h
  clear h
  go_enter Tryd.func6, Tryd.ntmps6
  go_wp2_with (first
    | (go_at_call 22; refine (date_no _ _ H.out).mono ?_; rintro e w' ⟨rfl, rfl⟩)
    | (go_at_call 27; refine (refRight_no _ _ H.out).mono ?_; rintro e w' ⟨rfl, rfl⟩)
    | (go_at_call 21; refine (known1_any _ ht).mono ?_; rintro e w' ⟨rfl, hb⟩))
  go_ret
  exact ⟨rfl, hb⟩

set_option maxHeartbeats 2000000 in
theorem dateBack_yes (n : Int) (w : World) (ht : Tab w) (h1 : 1 ≤ n) (h2 : n ≤ 3652059) :
    Calls Tryd.prog 6 #[.int .i64 n] w fun e w' => e = .returned (.bool true) ∧ Below w.heap.size w w' := by
  go_enter Tryd.func6, Tryd.ntmps6
  go_wp2_with fail
  refine (date_yes _ _ ht h1 h2).mono ?_
  rintro e w' ⟨y, m, d, rfl, hv, hn, rfl⟩
  have HV := hide hv
  have HN := hide hn
  clear hv hn
  obtain ⟨y1, y2, m1, m2, d1, d2⟩ := DsCal.vld_bd HV.out
  go_wp2_with fail
  refine (days_yes _ _ _ _ ht HV.out).mono ?_
  rintro e w' ⟨rfl, rfl⟩
  rw [HN.out]
  go_wp2_with fail
  refine (text_yes _ _ ht h1 h2).mono ?_
  rintro e w2 ⟨y', m', d', rfl, hv, hn, hb⟩
  obtain ⟨rfl, rfl, rfl⟩ := DsCal.num_inj hv HV.out (hn.trans HN.out.symm)
  have HB := hide hb
  have ht2 := ht.below hb
  clear hv hn hb
  have R := hide (DsCal.tx8_rdres HV.out)
  generalize DsCal.bstr (DsCal.tx8 (y' * 10000 + m' * 100 + d')) = t at R ⊢
  go_wp2_with fail
  refine (read_any t _ ht2).mono ?_
  rw [R.out, HN.out]
  rintro e w3 ⟨rfl, rfl⟩
  by_cases c : n = 3652059
  · subst c
    go_wp2_with (first
      | (go_at_call 22; refine (date_no _ _ (by omega)).mono ?_; rintro e w' ⟨rfl, rfl⟩)
      | (go_at_call 21; refine (known1_any _ ht2).mono ?_; rintro e w' ⟨rfl, hb⟩))
    go_ret
    exact ⟨rfl, HB.out.trans (hb.mono HB.out.size)⟩
  · have hlt : n + 1 ≤ 3652059 := by omega
    go_wp2_with fail
    refine (date_yes _ _ ht2 (by omega) (by omega)).mono ?_
    rintro e w4 ⟨p, q, r, rfl, hv, hn, rfl⟩
    have nx := DsCal.next_date HV.out hv (hn.trans (by rw [HN.out]))
    clear hv hn HV HN R
    rcases nx with ⟨rfl, rfl, rfl⟩ | ⟨rfl, rfl, rfl, rfl, q⟩ | ⟨rfl, rfl, rfl, rfl, rfl⟩
    all_goals
      go_wp2_with (first
        | (go_at_call 19; refine (len_any _ _ _ ht2).mono ?_; rintro e w' ⟨rfl, rfl⟩)
        | (go_at_call 21; refine (known1_any _ ht2).mono ?_; rintro e w' ⟨rfl, hb⟩))
      go_ret
      exact ⟨rfl, HB.out.trans (hb.mono HB.out.size)⟩
theorem dateBack_walk (n : Int) (w : World) (ht : Tab w) (_ : (Lit.int .i64 n).wf = true) :
    Calls Tryd.prog 6 #[.int .i64 n] w fun e w' => e = .returned (.bool true) ∧ Below w.heap.size w w' := by
  by_cases h : n < 1 ∨ 3652059 < n
  · exact dateBack_no n w ht h
  · exact dateBack_yes n w ht (by omega) (by omega)
end Go.Proofs.YtbkjcnkjlkjknaaDoor
