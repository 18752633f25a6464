/- The walk of the law WeekTimes. -/
import Derived.Test.YtbkjcnkjlkjknaaDoorKnownB
import Derived.Test.YtbkjcnkjlkjknaaDoorWeekT
namespace Go.Proofs.YtbkjcnkjlkjknaaDoor
open Go.ChangeShapes Go.WideShapes Go.ChangeAt Go.RowKit

theorem Tab2.below {w w' : World} (h : Tab2 w) (hb : Below w.heap.size w w') : Tab2 w' :=
  ⟨Nat.lt_of_lt_of_le h.1 hb.size, fun i i0 i9 => (hb.cell (p := ⟨1, i.toNat, none⟩) h.1).trans (h.2 i i0 i9)⟩

theorem td_two (s : ByteArray) (x y : Int) (hx : 0 ≤ x) (hx9 : x ≤ 9) (hy : 0 ≤ y) (hy9 : y ≤ 9) (h : s.data.toList = DsCal.bytesL [48 + x, 48 + y]) : DsCal.tdres s = (x * 10 + y, true) := by
  have a : DsCal.alld s.data.toList = true := by
    rw [h]; unfold DsCal.alld DsCal.bytesL
    simp only [List.map_cons, List.map_nil, List.all_cons, List.all_nil, Bool.and_true, Bool.and_eq_true]
    exact ⟨DsCal.dgB_of _ (by omega) (by omega), DsCal.dgB_of _ (by omega) (by omega)⟩
  rw [DsCal.tdres_end s a, h]
  unfold DsCal.dval DsCal.bytesL
  simp only [List.map_cons, List.map_nil, List.foldl_cons, List.foldl_nil]
  rw [DsCal.byteOf _ (by omega) (by omega), DsCal.byteOf _ (by omega) (by omega)]
  congr 1
  omega
theorem tm_back {n : Int} (h0 : 0 ≤ n) (h1 : n < 1440) : DsCal.tmres (DsCal.bstr (ttx n)) = (n, 0) := by
  have hs : (DsCal.bstr (ttx n)).size = 5 := rfl
  have e : DsCal.tmres (DsCal.bstr (ttx n)) = DsCal.tmOf (DsCal.tdres ((DsCal.bstr (ttx n)).extract 0 2)) (DsCal.tdres ((DsCal.bstr (ttx n)).extract 3 (DsCal.bstr (ttx n)).size)) :=
    DsCal.tmres_parts _ hs (by rw [hs]; omega) rfl
  rw [e]
  rw [td_two _ (n / 60 / 10) (n / 60 % 10) (by omega) (by omega) (by omega) (by omega) (by simp [DsCal.bstr, DsCal.bytesL, ttx])]
  rw [td_two _ (n % 60 / 10) (n % 60 % 10) (by omega) (by omega) (by omega) (by omega) (by rw [hs]; simp [DsCal.bstr, DsCal.bytesL, ttx])]
  rw [DsCal.tmOf_yes (by omega) (by omega)]
  congr 1
  omega

set_option maxHeartbeats 2000000 in
theorem weekTimes_no (n : Int) (s : ByteArray) (w : World) (ht : Tab w) (h : ¬ okM n) :
    Calls Tryd.prog 11 #[.int .i64 n, .string s] w fun e w' => e = .returned (.bool true) ∧ Below w.heap.size w w' := by
  have H := hide h
  clear h
  go_enter Tryd.func11, Tryd.ntmps11
  go_wp2_with fail
  refine (wText_no _ _ H.out).mono ?_
  rintro e w1 ⟨rfl, rfl⟩
  go_wp2_with fail
  refine (wRefText_no _ _ H.out).mono ?_
  rintro e w1 ⟨rfl, rfl⟩
  go_wp2_with fail
  refine (wRead_any s _).mono ?_
  rintro e w1 ⟨rfl, rfl⟩
  go_wp2_with fail
  refine (wRefRead_any s _).mono ?_
  generalize DsCal.tmres s = p
  obtain ⟨p1, p2⟩ := p
  rintro e w1 ⟨rfl, rfl⟩
  go_wp2_with (go_at_call 38; refine (known2_any _ ht).mono ?_; rintro e w' ⟨rfl, rfl⟩)
  go_ret
  exact ⟨rfl, Below.refl _ _⟩
set_option maxHeartbeats 2000000 in
theorem weekTimes_yes (n : Int) (s : ByteArray) (w : World) (ht : Tab w) (ht2 : Tab2 w) (h : okM n) :
    Calls Tryd.prog 11 #[.int .i64 n, .string s] w fun e w' => e = .returned (.bool true) ∧ Below w.heap.size w w' := by
  have H := hide h
  have TB := hide (tm_back h.1 h.2)
  clear h
  go_enter Tryd.func11, Tryd.ntmps11
  go_wp2_with fail
  refine (wText_yes _ _ ht2 H.out).mono ?_
  rintro e w1 ⟨rfl, hb1⟩
  have ht1 := ht.below hb1
  clear ht ht2
  go_wp2_with fail
  refine (wRefText_yes _ _ H.out).mono ?_
  rintro e w2 ⟨rfl, hb2⟩
  have ht := ht1.below hb2
  have HB := hide (hb1.trans (hb2.mono hb1.size))
  clear ht1 hb1 hb2
  generalize DsCal.bstr (ttx n) = t at TB ⊢
  go_wp2_with fail
  refine (wRead_any s _).mono ?_
  rintro e w3 ⟨rfl, rfl⟩
  go_wp2_with fail
  refine (wRefRead_any s _).mono ?_
  generalize DsCal.tmres s = p
  obtain ⟨p1, p2⟩ := p
  rintro e w3 ⟨rfl, rfl⟩
  go_wp2_with fail
  refine (wRead_any t _).mono ?_
  rw [TB.out]
  rintro e w3 ⟨rfl, rfl⟩
  go_wp2_with (go_at_call 38; refine (known2_any _ ht).mono ?_; rintro e w' ⟨rfl, rfl⟩)
  go_ret
  exact ⟨rfl, HB.out⟩
theorem weekTimes_walk (n : Int) (s : ByteArray) (w : World) (ht : Tab w ∧ Tab2 w) (_ : (Lit.int .i64 n).wf = true) (_ : s.size ≤ maxLen) :
    Calls Tryd.prog 11 #[.int .i64 n, .string s] w fun e w' => e = .returned (.bool true) ∧ Below w.heap.size w w' := by
  by_cases h : okM n
  · exact weekTimes_yes n s w ht.1 ht.2 h
  · exact weekTimes_no n s w ht.1 h
end Go.Proofs.YtbkjcnkjlkjknaaDoor
