/- The walks of the laws WeekClocks and WeekOrder. -/
import Derived.Test.YtbkjcnkjlkjknaaDoorKnownB
namespace Go.Proofs.YtbkjcnkjlkjknaaDoor
open Go.ChangeShapes Go.WideShapes Go.ChangeAt Go.RowKit

set_option maxHeartbeats 2000000 in
theorem clocks_yyy (c g d b : Int) (w : World) (ht : Tab w) (c0 : -9223372036854775808 ≤ c) (c9 : c ≤ 9223372036854775807) (hc : okC c) (o : okO c g) (j : 1 ≤ d ∧ d ≤ 3652059 ∧ okM b) :
    Calls Tryd.prog 10 #[.int .i64 c, .int .i64 g, .int .i64 d, .int .i64 b] w fun e w' => e = .returned (.bool true) ∧ Below w.heap.size w w' := by
  have C := hide hc
  obtain ⟨c1, c2⟩ := hc
  have MD := hide (show okM (c % 1440) from ⟨by omega, by omega⟩)
  have eq : ((c / 1440 * 1440 + c % 1440) == c) = true := by simp; omega
  have O := hide o
  have J := hide j
  clear o j
  go_enter Tryd.func10, Tryd.ntmps10
  go_wp2_with fail
  refine (split_yes _ _ C.out).mono ?_
  rintro e w1 ⟨rfl, rfl⟩
  go_wp2_with fail
  refine (refSplit_yes _ _ C.out).mono ?_
  rintro e w1 ⟨rfl, rfl⟩
  go_wp2_with fail
  refine (order_yes _ _ _ O.out).mono ?_
  rintro e w1 ⟨rfl, rfl⟩
  go_wp2_with fail
  refine (refOrder_yes _ _ _ O.out).mono ?_
  rintro e w1 ⟨rfl, rfl⟩
  go_wp2_with fail
  refine (join_yes _ _ _ J.out.1 J.out.2.1 J.out.2.2).mono ?_
  rintro e w1 ⟨rfl, rfl⟩
  go_wp2_with fail
  refine (refJoin_yes _ _ _ J.out.1 J.out.2.1 J.out.2.2).mono ?_
  rintro e w1 ⟨rfl, rfl⟩
  go_wp2_with (first
    | (go_at_call 45; refine (join_yes _ _ _ (by omega) (by omega) MD.out).mono ?_; rintro e w' ⟨rfl, rfl⟩)
    | (go_at_call 38; refine (known2_any _ ht).mono ?_; rintro e w' ⟨rfl, rfl⟩))
  go_ret
  exact ⟨rfl, Below.refl _ _⟩

set_option maxHeartbeats 2000000 in
theorem clocks_yyn (c g d b : Int) (w : World) (ht : Tab w) (c0 : -9223372036854775808 ≤ c) (c9 : c ≤ 9223372036854775807) (hc : okC c) (o : okO c g) (j : ¬ (1 ≤ d ∧ d ≤ 3652059 ∧ okM b)) :
    Calls Tryd.prog 10 #[.int .i64 c, .int .i64 g, .int .i64 d, .int .i64 b] w fun e w' => e = .returned (.bool true) ∧ Below w.heap.size w w' := by
  have C := hide hc
  obtain ⟨c1, c2⟩ := hc
  have MD := hide (show okM (c % 1440) from ⟨by omega, by omega⟩)
  have eq : ((c / 1440 * 1440 + c % 1440) == c) = true := by simp; omega
  have O := hide o
  have J := hide j
  clear o j
  go_enter Tryd.func10, Tryd.ntmps10
  go_wp2_with fail
  refine (split_yes _ _ C.out).mono ?_
  rintro e w1 ⟨rfl, rfl⟩
  go_wp2_with fail
  refine (refSplit_yes _ _ C.out).mono ?_
  rintro e w1 ⟨rfl, rfl⟩
  go_wp2_with fail
  refine (order_yes _ _ _ O.out).mono ?_
  rintro e w1 ⟨rfl, rfl⟩
  go_wp2_with fail
  refine (refOrder_yes _ _ _ O.out).mono ?_
  rintro e w1 ⟨rfl, rfl⟩
  go_wp2_with fail
  refine (join_no _ _ _ J.out).mono ?_
  rintro e w1 ⟨rfl, rfl⟩
  go_wp2_with fail
  refine (refJoin_no _ _ _ J.out).mono ?_
  rintro e w1 ⟨rfl, rfl⟩
  go_wp2_with (first
    | (go_at_call 45; refine (join_yes _ _ _ (by omega) (by omega) MD.out).mono ?_; rintro e w' ⟨rfl, rfl⟩)
    | (go_at_call 38; refine (known2_any _ ht).mono ?_; rintro e w' ⟨rfl, rfl⟩))
  go_ret
  exact ⟨rfl, Below.refl _ _⟩

set_option maxHeartbeats 2000000 in
theorem clocks_yny (c g d b : Int) (w : World) (ht : Tab w) (c0 : -9223372036854775808 ≤ c) (c9 : c ≤ 9223372036854775807) (hc : okC c) (o : ¬ okO c g) (j : 1 ≤ d ∧ d ≤ 3652059 ∧ okM b) :
    Calls Tryd.prog 10 #[.int .i64 c, .int .i64 g, .int .i64 d, .int .i64 b] w fun e w' => e = .returned (.bool true) ∧ Below w.heap.size w w' := by
  have C := hide hc
  obtain ⟨c1, c2⟩ := hc
  have MD := hide (show okM (c % 1440) from ⟨by omega, by omega⟩)
  have eq : ((c / 1440 * 1440 + c % 1440) == c) = true := by simp; omega
  have O := hide o
  have J := hide j
  clear o j
  go_enter Tryd.func10, Tryd.ntmps10
  go_wp2_with fail
  refine (split_yes _ _ C.out).mono ?_
  rintro e w1 ⟨rfl, rfl⟩
  go_wp2_with fail
  refine (refSplit_yes _ _ C.out).mono ?_
  rintro e w1 ⟨rfl, rfl⟩
  go_wp2_with fail
  refine (order_no _ _ _ O.out c0 c9).mono ?_
  rintro e w1 ⟨rfl, rfl⟩
  go_wp2_with fail
  refine (refOrder_no _ _ _ O.out).mono ?_
  rintro e w1 ⟨rfl, rfl⟩
  go_wp2_with fail
  refine (join_yes _ _ _ J.out.1 J.out.2.1 J.out.2.2).mono ?_
  rintro e w1 ⟨rfl, rfl⟩
  go_wp2_with fail
  refine (refJoin_yes _ _ _ J.out.1 J.out.2.1 J.out.2.2).mono ?_
  rintro e w1 ⟨rfl, rfl⟩
  go_wp2_with (first
    | (go_at_call 45; refine (join_yes _ _ _ (by omega) (by omega) MD.out).mono ?_; rintro e w' ⟨rfl, rfl⟩)
    | (go_at_call 38; refine (known2_any _ ht).mono ?_; rintro e w' ⟨rfl, rfl⟩))
  go_ret
  exact ⟨rfl, Below.refl _ _⟩

set_option maxHeartbeats 2000000 in
theorem clocks_ny (c g d b : Int) (w : World) (ht : Tab w) (c0 : -9223372036854775808 ≤ c) (c9 : c ≤ 9223372036854775807) (hc : ¬ okC c) (j : 1 ≤ d ∧ d ≤ 3652059 ∧ okM b) :
    Calls Tryd.prog 10 #[.int .i64 c, .int .i64 g, .int .i64 d, .int .i64 b] w fun e w' => e = .returned (.bool true) ∧ Below w.heap.size w w' := by
  have C := hide hc
  have J := hide j
  clear hc j
  go_enter Tryd.func10, Tryd.ntmps10
  go_wp2_with fail
  refine (split_no _ _ C.out c0 c9).mono ?_
  rintro e w1 ⟨rfl, rfl⟩
  go_wp2_with fail
  refine (refSplit_no _ _ C.out).mono ?_
  rintro e w1 ⟨rfl, rfl⟩
  go_wp2_with fail
  refine (order_no _ _ _ (fun o => C.out o.1) c0 c9).mono ?_
  rintro e w1 ⟨rfl, rfl⟩
  go_wp2_with fail
  refine (refOrder_no _ _ _ (fun o => C.out o.1)).mono ?_
  rintro e w1 ⟨rfl, rfl⟩
  go_wp2_with fail
  refine (join_yes _ _ _ J.out.1 J.out.2.1 J.out.2.2).mono ?_
  rintro e w1 ⟨rfl, rfl⟩
  go_wp2_with fail
  refine (refJoin_yes _ _ _ J.out.1 J.out.2.1 J.out.2.2).mono ?_
  rintro e w1 ⟨rfl, rfl⟩
  go_wp2_with (go_at_call 38; refine (known2_any _ ht).mono ?_; rintro e w' ⟨rfl, rfl⟩)
  go_ret
  exact ⟨rfl, Below.refl _ _⟩

set_option maxHeartbeats 2000000 in
theorem clocks_ynn (c g d b : Int) (w : World) (ht : Tab w) (c0 : -9223372036854775808 ≤ c) (c9 : c ≤ 9223372036854775807) (hc : okC c) (o : ¬ okO c g) (j : ¬ (1 ≤ d ∧ d ≤ 3652059 ∧ okM b)) :
    Calls Tryd.prog 10 #[.int .i64 c, .int .i64 g, .int .i64 d, .int .i64 b] w fun e w' => e = .returned (.bool true) ∧ Below w.heap.size w w' := by
  have C := hide hc
  obtain ⟨c1, c2⟩ := hc
  have MD := hide (show okM (c % 1440) from ⟨by omega, by omega⟩)
  have eq : ((c / 1440 * 1440 + c % 1440) == c) = true := by simp; omega
  have O := hide o
  have J := hide j
  clear o j
  go_enter Tryd.func10, Tryd.ntmps10
  go_wp2_with fail
  refine (split_yes _ _ C.out).mono ?_
  rintro e w1 ⟨rfl, rfl⟩
  go_wp2_with fail
  refine (refSplit_yes _ _ C.out).mono ?_
  rintro e w1 ⟨rfl, rfl⟩
  go_wp2_with fail
  refine (order_no _ _ _ O.out c0 c9).mono ?_
  rintro e w1 ⟨rfl, rfl⟩
  go_wp2_with fail
  refine (refOrder_no _ _ _ O.out).mono ?_
  rintro e w1 ⟨rfl, rfl⟩
  go_wp2_with fail
  refine (join_no _ _ _ J.out).mono ?_
  rintro e w1 ⟨rfl, rfl⟩
  go_wp2_with fail
  refine (refJoin_no _ _ _ J.out).mono ?_
  rintro e w1 ⟨rfl, rfl⟩
  go_wp2_with (first
    | (go_at_call 45; refine (join_yes _ _ _ (by omega) (by omega) MD.out).mono ?_; rintro e w' ⟨rfl, rfl⟩)
    | (go_at_call 38; refine (known2_any _ ht).mono ?_; rintro e w' ⟨rfl, rfl⟩))
  go_ret
  exact ⟨rfl, Below.refl _ _⟩

set_option maxHeartbeats 2000000 in
theorem clocks_nn (c g d b : Int) (w : World) (ht : Tab w) (c0 : -9223372036854775808 ≤ c) (c9 : c ≤ 9223372036854775807) (hc : ¬ okC c) (j : ¬ (1 ≤ d ∧ d ≤ 3652059 ∧ okM b)) :
    Calls Tryd.prog 10 #[.int .i64 c, .int .i64 g, .int .i64 d, .int .i64 b] w fun e w' => e = .returned (.bool true) ∧ Below w.heap.size w w' := by
  have C := hide hc
  have J := hide j
  clear hc j
  go_enter Tryd.func10, Tryd.ntmps10
  go_wp2_with fail
  refine (split_no _ _ C.out c0 c9).mono ?_
  rintro e w1 ⟨rfl, rfl⟩
  go_wp2_with fail
  refine (refSplit_no _ _ C.out).mono ?_
  rintro e w1 ⟨rfl, rfl⟩
  go_wp2_with fail
  refine (order_no _ _ _ (fun o => C.out o.1) c0 c9).mono ?_
  rintro e w1 ⟨rfl, rfl⟩
  go_wp2_with fail
  refine (refOrder_no _ _ _ (fun o => C.out o.1)).mono ?_
  rintro e w1 ⟨rfl, rfl⟩
  go_wp2_with fail
  refine (join_no _ _ _ J.out).mono ?_
  rintro e w1 ⟨rfl, rfl⟩
  go_wp2_with fail
  refine (refJoin_no _ _ _ J.out).mono ?_
  rintro e w1 ⟨rfl, rfl⟩
  go_wp2_with (go_at_call 38; refine (known2_any _ ht).mono ?_; rintro e w' ⟨rfl, rfl⟩)
  go_ret
  exact ⟨rfl, Below.refl _ _⟩

theorem weekClocks_walk (c g d b : Int) (w : World) (ht : Tab w) (hc : (Lit.int .i64 c).wf = true) (_ : (Lit.int .i64 g).wf = true) (_ : (Lit.int .i64 d).wf = true) (_ : (Lit.int .i64 b).wf = true) :
    Calls Tryd.prog 10 #[.int .i64 c, .int .i64 g, .int .i64 d, .int .i64 b] w fun e w' => e = .returned (.bool true) ∧ Below w.heap.size w w' := by
  obtain ⟨c0, c9⟩ := bounds_i64 hc
  by_cases h : okC c
  · by_cases o : okO c g
    · by_cases j : 1 ≤ d ∧ d ≤ 3652059 ∧ okM b
      · exact clocks_yyy c g d b w ht c0 c9 h o j
      · exact clocks_yyn c g d b w ht c0 c9 h o j
    · by_cases j : 1 ≤ d ∧ d ≤ 3652059 ∧ okM b
      · exact clocks_yny c g d b w ht c0 c9 h o j
      · exact clocks_ynn c g d b w ht c0 c9 h o j
  · by_cases j : 1 ≤ d ∧ d ≤ 3652059 ∧ okM b
    · exact clocks_ny c g d b w ht c0 c9 h j
    · exact clocks_nn c g d b w ht c0 c9 h j
end Go.Proofs.YtbkjcnkjlkjknaaDoor
