/- The walk of the law DateTexts. -/
import Derived.Test.YtbkjcnkjlkjknaaDoorRead
import Derived.Test.YtbkjcnkjlkjknaaDoorRefText
namespace Go.Proofs.YtbkjcnkjlkjknaaDoor
open Go.ChangeShapes Go.WideShapes Go.ChangeAt Go.RowKit

set_option maxHeartbeats 2000000 in
theorem dateTexts_yes (n : Int) (s : ByteArray) (w : World) (ht : Tab w) (hs : s.size ≤ maxLen) (h1 : 1 ≤ n) (h2 : n ≤ 3652059) :
    Calls Tryd.prog 5 #[.int .i64 n, .string s] w fun e w' => e = .returned (.bool true) ∧ Below w.heap.size w w' := by
  have HS := hide hs
  clear hs
  go_enter Tryd.func5, Tryd.ntmps5
  go_wp2_with fail
  refine (text_yes _ _ ht h1 h2).mono ?_
  rintro e w1 ⟨y, m, d, rfl, hv, hn, hb1⟩
  have HV := hide hv
  have HN := hide hn
  have ht1 := ht.below hb1
  clear hv hn
  go_wp2_with fail
  refine (refText_yes _ _ h1 h2).mono ?_
  rintro e w2 ⟨y', m', d', rfl, hv, hn, hb2⟩
  obtain ⟨rfl, rfl, rfl⟩ := DsCal.num_inj hv HV.out (hn.trans HN.out.symm)
  have ht2 := ht1.below hb2
  have HB := hide (hb1.trans (hb2.mono hb1.size))
  clear hv hn HV HN hb1 hb2 ht ht1
  generalize DsCal.bstr (DsCal.tx8 (y' * 10000 + m' * 100 + d')) = t
  go_wp2_with fail
  refine (read_any s _ ht2).mono ?_
  rintro e w3 ⟨rfl, rfl⟩
  go_wp2_with fail
  refine (refRead_any s _ HS.out).mono ?_
  rintro e w4 ⟨rfl, rfl⟩
  generalize DsCal.rdres s = p
  obtain ⟨p1, p2⟩ := p
  go_wp2_with (go_at_call 21; refine (known1_any _ ht2).mono ?_; rintro e w' ⟨rfl, hb⟩)
  go_ret
  exact ⟨rfl, HB.out.trans (hb.mono HB.out.size)⟩
set_option maxHeartbeats 2000000 in
theorem dateTexts_no (n : Int) (s : ByteArray) (w : World) (ht : Tab w) (hs : s.size ≤ maxLen) (h : n < 1 ∨ 3652059 < n) :
    Calls Tryd.prog 5 #[.int .i64 n, .string s] w fun e w' => e = .returned (.bool true) ∧ Below w.heap.size w w' := by
  have HS := hide hs
  have H := hide h
  clear hs h
  go_enter Tryd.func5, Tryd.ntmps5
  go_wp2_with fail
  refine (text_no _ _ H.out).mono ?_
  rintro e w1 ⟨rfl, rfl⟩
  go_wp2_with fail
  refine (refText_no _ _ H.out).mono ?_
  rintro e w2 ⟨rfl, rfl⟩
  go_wp2_with fail
  refine (read_any s _ ht).mono ?_
  rintro e w3 ⟨rfl, rfl⟩
  go_wp2_with fail
  refine (refRead_any s _ HS.out).mono ?_
  rintro e w4 ⟨rfl, rfl⟩
  generalize DsCal.rdres s = p
  obtain ⟨p1, p2⟩ := p
  go_wp2_with (go_at_call 21; refine (known1_any _ ht).mono ?_; rintro e w' ⟨rfl, hb⟩)
  go_ret
  exact ⟨rfl, hb⟩
theorem dateTexts_walk (n : Int) (s : ByteArray) (w : World) (ht : Tab w) (_ : (Lit.int .i64 n).wf = true) (hs : s.size ≤ maxLen) :
    Calls Tryd.prog 5 #[.int .i64 n, .string s] w fun e w' => e = .returned (.bool true) ∧ Below w.heap.size w w' := by
  by_cases h : n < 1 ∨ 3652059 < n
  · exact dateTexts_no n s w ht hs h
  · exact dateTexts_yes n s w ht hs (by omega) (by omega)
end Go.Proofs.YtbkjcnkjlkjknaaDoor
