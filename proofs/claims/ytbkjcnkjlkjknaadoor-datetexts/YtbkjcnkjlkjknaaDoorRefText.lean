/- The walk of dayshiftref01.Text: a day as a text. -/
import Derived.Test.YtbkjcnkjlkjknaaDoorDigits
namespace Go.Proofs.YtbkjcnkjlkjknaaDoor
open Go.ChangeShapes Go.WideShapes Go.ChangeAt Go.RowKit

theorem refText_no (n : Int) (w : World) (h : n < 1 ∨ 3652059 < n) :
    Calls Tryd.prog 29 #[.int .i64 n] w fun e w' => e = .returned (.tuple #[.string ⟨#[]⟩, .int .i64 6]) ∧ w' = w := by
  go_enter Tryd.func29, Tryd.ntmps29
  go_wp2_with (go_at_call 23; refine (refDate_no _ _ (by omega)).mono ?_; rintro e w' ⟨rfl, rfl⟩)
  go_ret2; exact ⟨rfl, rfl⟩

theorem bstr_append (a b : List Int) : DsCal.bstr a ++ DsCal.bstr b = DsCal.bstr (a ++ b) := by
  apply ByteArray.ext
  simp [DsCal.bstr, DsCal.bytesL, ByteArray.data_append]
theorem ret_str {s t : ByteArray} {k : Int} (h : s = t) : Ending.returned (.tuple #[.string s, .int .i64 k]) = .returned (.tuple #[.string t, .int .i64 k]) := by rw [h]

theorem digits4 (n : Int) (w : World) (h0 : 0 ≤ n) (h1 : n ≤ 9999) :
    Calls Tryd.prog 55 #[.int .i64 n, .int .i64 4] w fun e w' => e = .returned (.string (DsCal.bstr (rd 4 n).reverse)) ∧ Below w.heap.size w w' :=
  digits_any n 4 w h0 (by omega) (by omega) (by omega) (by simp only [qd]; omega)
theorem digits2 (n : Int) (w : World) (h0 : 0 ≤ n) (h1 : n ≤ 99) :
    Calls Tryd.prog 55 #[.int .i64 n, .int .i64 2] w fun e w' => e = .returned (.string (DsCal.bstr (rd 2 n).reverse)) ∧ Below w.heap.size w w' :=
  digits_any n 2 w h0 (by omega) (by omega) (by omega) (by simp only [qd]; omega)

theorem tx8_parts {y m d : Int} (hm0 : 0 ≤ m) (hm1 : m ≤ 99) (hd0 : 0 ≤ d) (hd1 : d ≤ 99) :
    (rd 4 y).reverse ++ ((rd 2 m).reverse ++ (rd 2 d).reverse) = DsCal.tx8 (y * 10000 + m * 100 + d) := by
  simp only [rd, qd, DsCal.tx8, List.nil_append, List.cons_append, List.reverse_cons, List.reverse_nil, List.cons.injEq, and_true]
  omega

set_option maxHeartbeats 1000000 in
theorem refText_yes (n : Int) (w : World) (h1 : 1 ≤ n) (h2 : n ≤ 3652059) :
    Calls Tryd.prog 29 #[.int .i64 n] w fun e w' => ∃ y m d : Int, e = .returned (.tuple #[.string (DsCal.bstr (DsCal.tx8 (y * 10000 + m * 100 + d))), .int .i64 0]) ∧ DsCal.vld y m d ∧ DsCal.num y m d = n ∧ Below w.heap.size w w' := by
  go_enter Tryd.func29, Tryd.ntmps29
  go_wp2_with fail
  refine (refDate_yes _ _ h1 h2).mono ?_
  rintro e w' ⟨y, m, d, rfl, hv, hn, rfl⟩
  have HN := hide hn
  have HV := hide hv
  clear hn hv
  obtain ⟨hy1, hy2, hm1, hm2, hd1, hd2⟩ := DsCal.vld_bd HV.out
  have HT := hide (tx8_parts (y := y) (m := m) (d := d) (by omega) (by omega) (by omega) (by omega))
  go_wp2_with fail
  refine (digits4 _ _ (by omega) (by omega)).mono ?_
  rintro e w1 ⟨rfl, hb1⟩
  go_wp2_with fail
  refine (digits2 _ _ (by omega) (by omega)).mono ?_
  rintro e w2 ⟨rfl, hb2⟩
  go_wp2_with fail
  refine (digits2 _ _ (by omega) (by omega)).mono ?_
  rintro e w3 ⟨rfl, hb3⟩
  go_wp2
  go_ret2
  refine ⟨y, m, d, ?_, HV.out, HN.out, ?_⟩
  · exact ret_str (by rw [bstr_append, bstr_append, List.append_assoc, HT.out])
  · exact hb1.trans ((hb2.mono hb1.size).trans (hb3.mono (Nat.le_trans hb1.size hb2.size)))
end Go.Proofs.YtbkjcnkjlkjknaaDoor
