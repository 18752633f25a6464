/- The walk of the law WeekEnds. -/
import Derived.Test.YtbkjcnkjlkjknaaDoorKnownB
namespace Go.Proofs.YtbkjcnkjlkjknaaDoor
open Go.ChangeShapes Go.WideShapes Go.ChangeAt Go.RowKit

theorem nth_val (y m wd k v c : Int) (w : World) (ht : Tab w) (h : DsCal.vld y m 1) (ha : DsCal.okA wd k) (hv : DsCal.nres (DsCal.num y m 1) (DsCal.dlen y m) wd k = (v, c)) :
    Calls Tryd.prog 39 #[.int .i64 y, .int .i64 m, .int .i64 wd, .int .i64 k] w fun e w' => e = .returned (.tuple #[.int .i64 v, .int .i64 c]) ∧ w' = w := by
  have q := nth_yes y m wd k w ht h ha
  rw [hv] at q
  exact q

theorem nres_k {b s wd k : Int} (h : 0 < k) (q : DsCal.a0 b wd + (k - 1) * 7 < s) : DsCal.nres b s wd k = (b + (DsCal.a0 b wd + (k - 1) * 7), 0) := by
  have z := DsCal.a0_bd b wd
  have e := DsCal.nix_pos (b := b) (size := s) (wd := wd) h
  have r := DsCal.nres_yes (b := b) (size := s) (wd := wd) (k := k) (by rw [e]; omega) (by rw [e]; exact q)
  rw [e] at r; exact r
theorem nres_five {b s wd : Int} (q : s ≤ DsCal.a0 b wd + 28) : DsCal.nres b s wd 5 = (0, 30) := by
  have e := DsCal.nix_pos (b := b) (size := s) (wd := wd) (k := 5) (by omega)
  exact DsCal.nres_no (by rw [e]; omega)
theorem nres_back {b s wd k j : Int} (hs : 28 ≤ s) (hs2 : s ≤ 31) (h : 0 < k) (q : DsCal.a0 b wd + (k - 1) * 7 < s) (hj : j = k - 5 - 1 ∧ DsCal.a0 b wd + 28 < s ∨ j = k - 4 - 1 ∧ s ≤ DsCal.a0 b wd + 28) : DsCal.nres b s wd j = (b + (DsCal.a0 b wd + (k - 1) * 7), 0) := by
  have z := DsCal.a0_bd b wd
  have e : DsCal.nix b s wd j = DsCal.a0 b wd + (k - 1) * 7 := by
    rw [DsCal.nix_neg (by omega)]; unfold DsCal.cnt; omega
  have r := DsCal.nres_yes (b := b) (size := s) (wd := wd) (k := j) (by rw [e]; omega) (by rw [e]; exact q)
  rw [e] at r; exact r
theorem a0_wd {b wd k : Int} (h0 : 0 ≤ wd) (h6 : wd ≤ 6) : (b + (DsCal.a0 b wd + (k - 1) * 7) - 1) % 7 = wd := by unfold DsCal.a0; omega
theorem nres_err {b s wd k : Int} (h : 0 < k) (q : ¬ DsCal.a0 b wd + (k - 1) * 7 < s) : DsCal.nres b s wd k = (0, 30) := by
  have e := DsCal.nix_pos (b := b) (size := s) (wd := wd) h
  exact DsCal.nres_no (by rw [e]; omega)

set_option maxHeartbeats 2000000 in
theorem weekEnds_none (y m wd k : Int) (w : World) (ht : Tab w) (h : ¬ (DsCal.vld y m 1 ∧ DsCal.okA wd k ∧ 0 < k)) :
    Calls Tryd.prog 14 #[.int .i64 y, .int .i64 m, .int .i64 wd, .int .i64 k] w fun e w' => e = .returned (.bool true) ∧ Below w.heap.size w w' := by
  by_cases v : DsCal.vld y m 1
  · by_cases a : DsCal.okA wd k
    · have kn : ¬ 0 < k := fun q => h ⟨v, a, q⟩
      have V := hide v
      have A := hide a
      clear v a h
      go_enter Tryd.func14, Tryd.ntmps14
      go_wp2_with fail
      refine (nth_yes _ _ _ _ _ ht V.out A.out).mono ?_
      generalize DsCal.nres (DsCal.num y m 1) (DsCal.dlen y m) wd k = p
      obtain ⟨p1, p2⟩ := p
      rintro e w1 ⟨rfl, rfl⟩
      have k1 : k < 1 := by omega
      by_cases c : p2 = 0
      · subst c
        go_wp2_with (go_at_call 38; refine (known2_any _ ht).mono ?_; rintro e w' ⟨rfl, rfl⟩)
        go_ret
        exact ⟨rfl, Below.refl _ _⟩
      · have cB : (p2 != 0) = true := by simpa using c
        clear c
        go_wp2_with (go_at_call 38; refine (known2_any _ ht).mono ?_; rintro e w' ⟨rfl, rfl⟩)
        go_ret
        exact ⟨rfl, Below.refl _ _⟩
    · have V := hide v
      have A := hide a
      clear v a h
      go_enter Tryd.func14, Tryd.ntmps14
      go_wp2_with (first
        | (go_at_call 39; refine (nth_arg _ _ _ _ _ ht V.out A.out).mono ?_; rintro e w' ⟨rfl, rfl⟩)
        | (go_at_call 38; refine (known2_any _ ht).mono ?_; rintro e w' ⟨rfl, rfl⟩))
      go_ret
      exact ⟨rfl, Below.refl _ _⟩
  · have V := hide v
    clear v h
    go_enter Tryd.func14, Tryd.ntmps14
    go_wp2_with (first
      | (go_at_call 39; refine (nth_range _ _ _ _ _ ht V.out).mono ?_; rintro e w' ⟨rfl, rfl⟩)
      | (go_at_call 38; refine (known2_any _ ht).mono ?_; rintro e w' ⟨rfl, rfl⟩))
    go_ret
    exact ⟨rfl, Below.refl _ _⟩

theorem nres_k4 {b s wd : Int} (q : 28 ≤ s) : DsCal.nres b s wd 4 = (b + (DsCal.a0 b wd + 21), 0) := by
  have z := DsCal.a0_bd b wd
  have r := nres_k (b := b) (s := s) (wd := wd) (k := 4) (by omega) (by omega)
  rw [show ((4 : Int) - 1) * 7 = 21 by omega] at r; exact r
theorem nres_k5 {b s wd : Int} (q : DsCal.a0 b wd + 28 < s) : DsCal.nres b s wd 5 = (b + (DsCal.a0 b wd + 28), 0) := by
  have r := nres_k (b := b) (s := s) (wd := wd) (k := 5) (by omega) (by omega)
  rw [show ((5 : Int) - 1) * 7 = 28 by omega] at r; exact r

set_option maxHeartbeats 2000000 in
theorem weekEnds_some (y m wd k : Int) (w : World) (ht : Tab w) (v : DsCal.vld y m 1) (a : DsCal.okA wd k) (kp : 0 < k) :
    Calls Tryd.prog 14 #[.int .i64 y, .int .i64 m, .int .i64 wd, .int .i64 k] w fun e w' => e = .returned (.bool true) ∧ Below w.heap.size w w' := by
  have V := hide v
  have A := hide a
  have hm := DsCal.vld_bd v
  obtain ⟨hd1, hd2⟩ := DsCal.dlen_bd (y := y) (m := m) (by omega) (by omega)
  obtain ⟨hb1, hb2⟩ := DsCal.num_bd v
  obtain ⟨z1, z2⟩ := DsCal.a0_bd (DsCal.num y m 1) wd
  have IM := fun (i : Int) (h0 : 0 ≤ i) (h1 : i < DsCal.dlen y m) => DsCal.in_month v h0 h1
  obtain ⟨w0, w6, _, _, k5⟩ := a
  have A4 := hide (show DsCal.okA wd 4 from ⟨w0, w6, by omega, by omega, by omega⟩)
  have A5 := hide (show DsCal.okA wd 5 from ⟨w0, w6, by omega, by omega, by omega⟩)
  clear v hm
  by_cases q : DsCal.a0 (DsCal.num y m 1) wd + (k - 1) * 7 < DsCal.dlen y m
  · have R := hide (nres_k kp q)
    have R4 := hide (nres_k4 (b := DsCal.num y m 1) (wd := wd) hd1)
    obtain ⟨g1, g2⟩ := IM (DsCal.a0 (DsCal.num y m 1) wd + (k - 1) * 7) (by omega) q
    have WD := hide (a0_wd (b := DsCal.num y m 1) (wd := wd) (k := k) w0 w6)
    clear IM
    by_cases f : DsCal.a0 (DsCal.num y m 1) wd + 28 < DsCal.dlen y m
    · have R5 := hide (nres_k5 f)
      have RB := hide (nres_back (j := k - 5 - 1) hd1 hd2 kp q (.inl ⟨rfl, f⟩))
      have AB := hide (show DsCal.okA wd (k - 5 - 1) from ⟨w0, w6, by omega, by omega, by omega⟩)
      go_enter Tryd.func14, Tryd.ntmps14
      go_wp2_with fail
      refine (nth_val _ _ _ _ (DsCal.num y m 1 + (DsCal.a0 (DsCal.num y m 1) wd + (k - 1) * 7)) 0 _ ht V.out A.out R.out).mono ?_
      rintro e w1 ⟨rfl, rfl⟩
      go_wp2_with fail
      refine (nth_val _ _ _ _ (DsCal.num y m 1 + (DsCal.a0 (DsCal.num y m 1) wd + 21)) 0 _ ht V.out A4.out R4.out).mono ?_
      rintro e w1 ⟨rfl, rfl⟩
      go_wp2_with fail
      refine (nth_val _ _ _ _ (DsCal.num y m 1 + (DsCal.a0 (DsCal.num y m 1) wd + 28)) 0 _ ht V.out A5.out R5.out).mono ?_
      rintro e w1 ⟨rfl, rfl⟩
      have eq : (DsCal.num y m 1 + (DsCal.a0 (DsCal.num y m 1) wd + 28) != DsCal.num y m 1 + (DsCal.a0 (DsCal.num y m 1) wd + 21) + 7) = false := by simp; omega
      go_wp2_with fail
      refine (nth_val _ _ _ _ (DsCal.num y m 1 + (DsCal.a0 (DsCal.num y m 1) wd + (k - 1) * 7)) 0 _ ht V.out AB.out RB.out).mono ?_
      rintro e w1 ⟨rfl, rfl⟩
      go_wp2_with fail
      refine (refWeekday_yes _ _ g1 g2).mono ?_
      rw [WD.out]
      rintro e w1 ⟨rfl, rfl⟩
      go_wp2_with (go_at_call 38; refine (known2_any _ ht).mono ?_; rintro e w' ⟨rfl, rfl⟩)
      go_ret
      exact ⟨rfl, Below.refl _ _⟩
    · have R5 := hide (nres_five (b := DsCal.num y m 1) (wd := wd) (s := DsCal.dlen y m) (by omega))
      have RB := hide (nres_back (j := k - 4 - 1) hd1 hd2 kp q (.inr ⟨rfl, by omega⟩))
      have AB := hide (show DsCal.okA wd (k - 4 - 1) from ⟨w0, w6, by omega, by omega, by omega⟩)
      go_enter Tryd.func14, Tryd.ntmps14
      go_wp2_with fail
      refine (nth_val _ _ _ _ (DsCal.num y m 1 + (DsCal.a0 (DsCal.num y m 1) wd + (k - 1) * 7)) 0 _ ht V.out A.out R.out).mono ?_
      rintro e w1 ⟨rfl, rfl⟩
      go_wp2_with fail
      refine (nth_val _ _ _ _ (DsCal.num y m 1 + (DsCal.a0 (DsCal.num y m 1) wd + 21)) 0 _ ht V.out A4.out R4.out).mono ?_
      rintro e w1 ⟨rfl, rfl⟩
      go_wp2_with fail
      refine (nth_val _ _ _ _ 0 30 _ ht V.out A5.out R5.out).mono ?_
      rintro e w1 ⟨rfl, rfl⟩
      go_wp2_with fail
      refine (nth_val _ _ _ _ (DsCal.num y m 1 + (DsCal.a0 (DsCal.num y m 1) wd + (k - 1) * 7)) 0 _ ht V.out AB.out RB.out).mono ?_
      rintro e w1 ⟨rfl, rfl⟩
      go_wp2_with fail
      refine (refWeekday_yes _ _ g1 g2).mono ?_
      rw [WD.out]
      rintro e w1 ⟨rfl, rfl⟩
      go_wp2_with (go_at_call 38; refine (known2_any _ ht).mono ?_; rintro e w' ⟨rfl, rfl⟩)
      go_ret
      exact ⟨rfl, Below.refl _ _⟩
  · have R := hide (nres_err kp q)
    clear IM
    go_enter Tryd.func14, Tryd.ntmps14
    go_wp2_with fail
    refine (nth_val _ _ _ _ 0 30 _ ht V.out A.out R.out).mono ?_
    rintro e w1 ⟨rfl, rfl⟩
    go_wp2_with (go_at_call 38; refine (known2_any _ ht).mono ?_; rintro e w' ⟨rfl, rfl⟩)
    go_ret
    exact ⟨rfl, Below.refl _ _⟩
theorem weekEnds_walk (y m wd k : Int) (w : World) (ht : Tab w) (_ : (Lit.int .i64 y).wf = true) (_ : (Lit.int .i64 m).wf = true) (_ : (Lit.int .i64 wd).wf = true) (_ : (Lit.int .i64 k).wf = true) :
    Calls Tryd.prog 14 #[.int .i64 y, .int .i64 m, .int .i64 wd, .int .i64 k] w fun e w' => e = .returned (.bool true) ∧ Below w.heap.size w w' := by
  by_cases h : DsCal.vld y m 1 ∧ DsCal.okA wd k ∧ 0 < k
  · exact weekEnds_some y m wd k w ht h.1 h.2.1 h.2.2
  · exact weekEnds_none y m wd k w ht h
end Go.Proofs.YtbkjcnkjlkjknaaDoor
