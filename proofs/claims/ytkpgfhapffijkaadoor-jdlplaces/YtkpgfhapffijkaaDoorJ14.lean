/- Some parts of the proof, one behind the other. -/
import Derived.Test.YtkpgfhapffijkaaDoorDtA
import Derived.Test.YtkpgfhapffijkaaDoorJ2
import Derived.Test.YtkpgfhapffijkaaDoorMem
/- The walks of date.yearOf, date.Date and dayshiftref01.Date: the date of a day. -/
namespace Go.Proofs.YtkpgfhapffijkaaDoor.Dt
open Go.ChangeShapes Go.WideShapes Go.ChangeAt Go.RowKit

theorem hide {p : Prop} (h : p) : Hid p := h
theorem val_int {k : IntKind} {a b : Int} (h : a = b) : Value.int k a = .int k b := by rw [h]
theorem ret_int2 {k l : IntKind} {a b c d : Int} (h : a = b) (g : c = d) : Ending.returned (.tuple #[.int k a, .int l c]) = .returned (.tuple #[.int k b, .int l d]) := by rw [h, g]

end Go.Proofs.YtkpgfhapffijkaaDoor.Dt

/- The walks of date.Days and dayshiftref01.Days: the day of a date. -/
namespace Go.Proofs.YtkpgfhapffijkaaDoor.Dt
open Go.ChangeShapes Go.WideShapes Go.ChangeAt Go.RowKit

theorem days_no (y m d : Int) (w : World) (ht : Tab w) (h : ¬ DsCal.vld y m d) :
    Calls Tryd.prog 92 #[.int .i64 y, .int .i64 m, .int .i64 d] w fun e w' => e = .returned (.tuple #[.int .i64 0, .int .i64 6]) ∧ w' = w := by
  unfold DsCal.vld at h
  by_cases c1 : y < 1
  · clear h
    go_enter Tryd.func92, Tryd.ntmps92
    go_wp2
    go_ret2; exact ⟨rfl, rfl⟩
  by_cases c2 : 9999 < y
  · clear h
    go_enter Tryd.func92, Tryd.ntmps92
    go_wp2
    go_ret2; exact ⟨rfl, rfl⟩
  by_cases c3 : d < 1
  · clear h
    go_enter Tryd.func92, Tryd.ntmps92
    go_wp2
    go_ret2; exact ⟨rfl, rfl⟩
  have c4 : DsCal.dlen y m < d := by omega
  clear h
  go_enter Tryd.func92, Tryd.ntmps92
  go_wp2_with (go_at_call 93; refine (len_any _ _ _ ht).mono ?_; rintro e w' ⟨rfl, rfl⟩)
  go_ret2; exact ⟨rfl, rfl⟩

set_option maxHeartbeats 1000000 in
theorem days_yes (y m d : Int) (w : World) (ht : Tab w) (h : DsCal.vld y m d) :
    Calls Tryd.prog 92 #[.int .i64 y, .int .i64 m, .int .i64 d] w fun e w' => e = .returned (.tuple #[.int .i64 (DsCal.num y m d), .int .i64 0]) ∧ w' = w := by
  obtain ⟨y1, y2, d1, d2⟩ := h
  have hm := DsCal.dlen_range (y := y) (m := m) (by omega)
  obtain ⟨m1, m2⟩ := hm
  have hdb := DsCal.dlen_any y m
  have hab := DsCal.ahead_bd y y1 (by omega)
  go_enter Tryd.func92, Tryd.ntmps92
  go_wp2_with (first | (go_at_call 93; refine (len_any _ _ _ ht).mono ?_; rintro e w' ⟨rfl, rfl⟩) | (go_at_call 94; refine (aheadOf_any _ _ (by omega) (by omega)).mono ?_; rintro e w' ⟨rfl, rfl⟩))
  go_loop [8, 33] (fun t i => ∃ k : Nat, k ≤ m - 1 ∧ i = .int .i64 k ∧ t = .int .i64 (DsCal.ahead y + d + DsCal.cum y (k + 1))) (fun _ i => (m - 1).toNat - (intOf i).toNat)
  case atStart => exact ⟨0, by omega, rfl, val_int (by simp [DsCal.cum_one])⟩
  case round =>
    obtain ⟨k, hk, rfl, rfl⟩ := hrel
    have hcb := DsCal.cum_bd (y := y) (m := k + 1) (by omega) (by omega)
    have hdk := DsCal.dlen_any y (k + 1)
    have hcs := DsCal.cum_succ (y := y) (m := k + 1) (by omega) (by omega)
    have HCS := hide hcs
    clear hcs
    by_cases hlt : k < m - 1
    · go_wp2_with (go_at_call 93; refine (len_any _ _ _ ht).mono ?_; rintro e w' ⟨rfl, rfl⟩)
      go_round
      case rel => exact ⟨k + 1, by omega, by go_num, val_int (by have := HCS.out; rw [show ((k + 1 : Nat) : Int) + 1 = (k : Int) + 1 + 1 by omega]; omega)⟩
      case measure => simp [intOf]; omega
    · go_wp2
      go_ret2
      exact ⟨ret_int2 (by unfold DsCal.num; rw [show (k : Int) + 1 = m by omega]; omega) rfl, rfl⟩

end Go.Proofs.YtkpgfhapffijkaaDoor.Dt

/- The walk of date.Read: a day of eight digits (out of r1). -/
namespace Go.Proofs.YtkpgfhapffijkaaDoor.Dt
open Go.ChangeShapes Go.WideShapes Go.ChangeAt Go.RowKit Go.DsMem
theorem pair_of {a b : Int} {p : Int × Int} {w w' : World} (h : p = (a, b)) (hw : w' = w) : Ending.returned (.tuple #[.int .i64 a, .int .i64 b]) = .returned (.tuple #[.int .i64 p.1, .int .i64 p.2]) ∧ w' = w := by
  rw [h]; exact ⟨rfl, hw⟩

theorem read_size (s : ByteArray) (w : World) (h : s.size ≠ 8) :
    Calls Tryd.prog 91 #[.string s] w fun e w' => e = .returned (.tuple #[.int .i64 (DsCal.rdres s).1, .int .i64 (DsCal.rdres s).2]) ∧ w' = w := by
  have F := hide (DsCal.rdres_size s h)
  have h8 : ((s.size : Int) == 8) = false := by simp; omega
  clear h
  go_enter Tryd.func91, Tryd.ntmps91
  go_wp2
  go_ret2
  exact pair_of F.out rfl

set_option maxHeartbeats 1000000 in
theorem read_eight (s : ByteArray) (w : World) (ht : Tab w) (h : s.size = 8) :
    Calls Tryd.prog 91 #[.string s] w fun e w' => e = .returned (.tuple #[.int .i64 (DsCal.rdres s).1, .int .i64 (DsCal.rdres s).2]) ∧ w' = w := by
  have h8 : ((s.size : Int) != 8) = false := by simp [h]
  have hs : s.size ≤ 8 := by omega
  have H := hide h
  clear h
  go_enter Tryd.func91, Tryd.ntmps91
  go_wp2
  go_loop [4, 11] (fun t i => ∃ k : Nat, k ≤ s.size ∧ i = .int .i64 k ∧ DsCal.alld (s.data.toList.take k) = true ∧ t = .int .i64 (DsCal.dval (s.data.toList.take k))) (fun _ i => s.size - (intOf i).toNat)
  case atStart => exact ⟨0, by omega, rfl, rfl, rfl⟩
  case round =>
    obtain ⟨k, hk, rfl, ha, rfl⟩ := hrel
    have HA := hide ha
    clear ha
    obtain ⟨b0, b1⟩ := DsCal.dval_take_bd s k 8 (by omega) HA.out
    have b2 : DsCal.dval (s.data.toList.take k) < 100000000 := b1
    clear b1
    by_cases hlt : k < s.size
    · have st := DsCal.dval_step s k hlt
      have ST := hide st
      clear st
      go_wp2
      · go_ret2
        exact pair_of (DsCal.rdres_stop s (DsCal.alld_stop s k hlt (by assumption))) rfl
      · go_round
        case rel => exact ⟨k + 1, by omega, by go_num, DsCal.alld_step s k hlt HA.out (by omega) (by omega), val_int ST.out.symm⟩
        case measure => simp [intOf]; omega
      · go_ret2
        exact pair_of (DsCal.rdres_stop s (DsCal.alld_stop s k hlt (.inl (by assumption)))) rfl
    · have E := hide (DsCal.take_all s k (by omega))
      have R := hide (DsCal.rdres_day s H.out (by rw [← E.out]; exact HA.out))
      by_cases hv : DsCal.vld (DsCal.dval (s.data.toList.take k) / 10000) (DsCal.dval (s.data.toList.take k) / 100 % 100) (DsCal.dval (s.data.toList.take k) % 100)
      · have HV := hide hv
        clear hv
        go_wp2_with (go_at_call 92; refine (days_yes _ _ _ _ ht HV.out).mono ?_; rintro e w' ⟨rfl, rfl⟩)
        go_ret2
        exact pair_of (R.out.trans ((congrArg (fun l => DsCal.dayOf (DsCal.dval l)) E.out.symm).trans (DsCal.dayOf_yes HV.out))) rfl
      · have HV := hide hv
        clear hv
        go_wp2_with (go_at_call 92; refine (days_no _ _ _ _ ht HV.out).mono ?_; rintro e w' ⟨rfl, rfl⟩)
        go_ret2
        exact pair_of (R.out.trans ((congrArg (fun l => DsCal.dayOf (DsCal.dval l)) E.out.symm).trans (DsCal.dayOf_no HV.out))) rfl
theorem read_any (s : ByteArray) (w : World) (ht : Tab w) :
    Calls Tryd.prog 91 #[.string s] w fun e w' => e = .returned (.tuple #[.int .i64 (DsCal.rdres s).1, .int .i64 (DsCal.rdres s).2]) ∧ w' = w := by
  by_cases h : s.size = 8
  · exact read_eight s w ht h
  · exact read_size s w h
end Go.Proofs.YtkpgfhapffijkaaDoor.Dt

