/- The walks of week.Nth and dayshiftref02.Nth: the weekdays of a month. -/
import Derived.Test.YtkpgfhapffijkaaGreatDoorR16
import Derived.Test.YtkpgfhapffijkaaGreatDoorR15
import Derived.Test.YtkpgfhapffijkaaGreatDoorR29
namespace Go.Proofs.YtkpgfhapffijkaaGreatDoor.Dt
open Go.ChangeShapes Go.WideShapes Go.ChangeAt Go.RowKit
theorem nth_range (y m wd k : Int) (w : World) (ht : Tab w) (h : ¬ DsCal.vld y m 1) :
    Calls Tryz.prog 185 #[.int .i64 y, .int .i64 m, .int .i64 wd, .int .i64 k] w fun e w' => e = .returned (.tuple #[.int .i64 0, .int .i64 6]) ∧ w' = w := by
  have H := hide h
  clear h
  go_enter Tryz.func185, Tryz.ntmps185
  go_wp2_with (go_at_call 210; refine (days_no _ _ _ _ ht H.out).mono ?_; rintro e w' ⟨rfl, rfl⟩)
  go_ret2; exact ⟨rfl, rfl⟩
set_option maxHeartbeats 1000000 in
set_option maxHeartbeats 2000000 in
theorem nth_yes (y m wd k : Int) (w : World) (ht : Tab w) (h : DsCal.vld y m 1) (ha : DsCal.okA wd k) :
    Calls Tryz.prog 185 #[.int .i64 y, .int .i64 m, .int .i64 wd, .int .i64 k] w fun e w' => e = .returned (.tuple #[.int .i64 (DsCal.nres (DsCal.num y m 1) (DsCal.dlen y m) wd k).1, .int .i64 (DsCal.nres (DsCal.num y m 1) (DsCal.dlen y m) wd k).2]) ∧ w' = w := by
  have H := hide h
  have hb := DsCal.num_bd h
  have hm := DsCal.vld_bd h
  have hd := DsCal.dlen_bd (y := y) (m := m) (by omega) (by omega)
  obtain ⟨hb1, hb2⟩ := hb
  obtain ⟨hd1, hd2⟩ := hd
  obtain ⟨w0, w6, k0, k1, k5⟩ := ha
  have kz : (k == 0) = false := by simpa using k0
  clear h hm
  by_cases kp : 0 < k
  · have e : DsCal.nix (DsCal.num y m 1) (DsCal.dlen y m) wd k = (wd - (DsCal.num y m 1 - 1)) % 7 + (k - 1) * 7 := by rw [DsCal.nix_pos kp]; unfold DsCal.a0; omega
    by_cases c : (wd - (DsCal.num y m 1 - 1)) % 7 + (k - 1) * 7 < DsCal.dlen y m
    · have r := DsCal.nres_yes (b := DsCal.num y m 1) (size := DsCal.dlen y m) (wd := wd) (k := k) (by rw [e]; omega) (by rw [e]; exact c)
      rw [e] at r
      have R := hide r
      clear r e k0
      go_enter Tryz.func185, Tryz.ntmps185
      go_wp2_with (first
        | (go_at_call 210; refine (days_yes _ _ _ _ ht H.out).mono ?_; rintro e w' ⟨rfl, rfl⟩)
        | (go_at_call 182; refine (weekday_yes _ _ hb1 hb2).mono ?_; rintro e w' ⟨rfl, rfl⟩)
        | (go_at_call 149; refine (len_any _ _ _ ht).mono ?_; rintro e w' ⟨rfl, rfl⟩))
      go_ret2
      exact pair_of R.out rfl
    · have R := hide (DsCal.nres_no (b := DsCal.num y m 1) (size := DsCal.dlen y m) (wd := wd) (k := k) (by rw [e]; omega))
      clear e k0
      go_enter Tryz.func185, Tryz.ntmps185
      go_wp2_with (first
        | (go_at_call 210; refine (days_yes _ _ _ _ ht H.out).mono ?_; rintro e w' ⟨rfl, rfl⟩)
        | (go_at_call 182; refine (weekday_yes _ _ hb1 hb2).mono ?_; rintro e w' ⟨rfl, rfl⟩)
        | (go_at_call 149; refine (len_any _ _ _ ht).mono ?_; rintro e w' ⟨rfl, rfl⟩))
      go_ret2
      exact pair_of R.out rfl
  · have e : DsCal.nix (DsCal.num y m 1) (DsCal.dlen y m) wd k = (wd - (DsCal.num y m 1 - 1)) % 7 + ((DsCal.dlen y m - 1 - (wd - (DsCal.num y m 1 - 1)) % 7) / 7 + 1 + k) * 7 := by
      rw [DsCal.nix_neg kp]; unfold DsCal.cnt
      have : DsCal.a0 (DsCal.num y m 1) wd = (wd - (DsCal.num y m 1 - 1)) % 7 := by unfold DsCal.a0; omega
      rw [this]
    by_cases c : (wd - (DsCal.num y m 1 - 1)) % 7 + ((DsCal.dlen y m - 1 - (wd - (DsCal.num y m 1 - 1)) % 7) / 7 + 1 + k) * 7 < 0
    · have R := hide (DsCal.nres_no (b := DsCal.num y m 1) (size := DsCal.dlen y m) (wd := wd) (k := k) (by rw [e]; omega))
      clear e
      go_enter Tryz.func185, Tryz.ntmps185
      go_wp2_with (first
        | (go_at_call 210; refine (days_yes _ _ _ _ ht H.out).mono ?_; rintro e w' ⟨rfl, rfl⟩)
        | (go_at_call 182; refine (weekday_yes _ _ hb1 hb2).mono ?_; rintro e w' ⟨rfl, rfl⟩)
        | (go_at_call 149; refine (len_any _ _ _ ht).mono ?_; rintro e w' ⟨rfl, rfl⟩))
      go_ret2
      exact pair_of R.out rfl
    · have r := DsCal.nres_yes (b := DsCal.num y m 1) (size := DsCal.dlen y m) (wd := wd) (k := k) (by rw [e]; omega) (by rw [e]; omega)
      rw [e] at r
      have R := hide r
      clear r e
      go_enter Tryz.func185, Tryz.ntmps185
      go_wp2_with (first
        | (go_at_call 210; refine (days_yes _ _ _ _ ht H.out).mono ?_; rintro e w' ⟨rfl, rfl⟩)
        | (go_at_call 182; refine (weekday_yes _ _ hb1 hb2).mono ?_; rintro e w' ⟨rfl, rfl⟩)
        | (go_at_call 149; refine (len_any _ _ _ ht).mono ?_; rintro e w' ⟨rfl, rfl⟩))
      go_ret2
      exact pair_of R.out rfl
end Go.Proofs.YtkpgfhapffijkaaGreatDoor.Dt
