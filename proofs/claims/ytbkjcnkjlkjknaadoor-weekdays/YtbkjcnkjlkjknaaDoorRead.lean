/- The walks of date.Read, dayshiftref01.Number and dayshiftref01.Read: a day of eight digits. -/
import Derived.Test.YtbkjcnkjlkjknaaDoorKnownA
import Derived.Test.YtbkjcnkjlkjknaaDoorMathC
namespace Go.Proofs.YtbkjcnkjlkjknaaDoor
open Go.ChangeShapes Go.WideShapes Go.ChangeAt Go.RowKit

theorem pair_of {a b : Int} {p : Int × Int} {w w' : World} (h : p = (a, b)) (hw : w' = w) : Ending.returned (.tuple #[.int .i64 a, .int .i64 b]) = .returned (.tuple #[.int .i64 p.1, .int .i64 p.2]) ∧ w' = w := by
  rw [h]; exact ⟨rfl, hw⟩

theorem read_size (s : ByteArray) (w : World) (h : s.size ≠ 8) :
    Calls Tryd.prog 30 #[.string s] w fun e w' => e = .returned (.tuple #[.int .i64 (DsCal.rdres s).1, .int .i64 (DsCal.rdres s).2]) ∧ w' = w := by
  have F := hide (DsCal.rdres_size s h)
  have h8 : ((s.size : Int) == 8) = false := by simp; omega
  clear h
  go_enter Tryd.func30, Tryd.ntmps30
  go_wp2
  go_ret2
  exact pair_of F.out rfl

set_option maxHeartbeats 1000000 in
theorem read_eight (s : ByteArray) (w : World) (ht : Tab w) (h : s.size = 8) :
    Calls Tryd.prog 30 #[.string s] w fun e w' => e = .returned (.tuple #[.int .i64 (DsCal.rdres s).1, .int .i64 (DsCal.rdres s).2]) ∧ w' = w := by
  have h8 : ((s.size : Int) != 8) = false := by simp [h]
  have hs : s.size ≤ 8 := by omega
  have H := hide h
  clear h
  go_enter Tryd.func30, Tryd.ntmps30
  go_wp2
  go_loop [4, 11] (fun t i => ∃ k : Nat, k ≤ s.size ∧ i = .int .i64 k ∧ DsCal.alld (s.data.toList.take k) = true ∧ t = .int .i64 (DsCal.dval (s.data.toList.take k))) (fun _ i => s.size - (intOf i).toNat)
  case atStart => exact ⟨0, by omega, rfl, rfl, rfl⟩
  case round =>
    obtain ⟨k, hk, rfl, ha, rfl⟩ := hrel
    have HA := hide ha
    clear ha
    obtain ⟨b0, b1⟩ := DsCal.dval_take_bd s k 8 (by omega) HA.out
    have b2 : DsCal.dval (s.data.toList.take k) < 100000000 := b1
    clear b1
    by_cases hlt : k < s.size
    · have st := DsCal.dval_step s k hlt
      have ST := hide st
      clear st
      go_wp2
      · go_ret2
        exact pair_of (DsCal.rdres_stop s (DsCal.alld_stop s k hlt (by assumption))) rfl
      · go_round
        case rel => exact ⟨k + 1, by omega, by go_num, DsCal.alld_step s k hlt HA.out (by omega) (by omega), val_int ST.out.symm⟩
        case measure => simp [intOf]; omega
      · go_ret2
        exact pair_of (DsCal.rdres_stop s (DsCal.alld_stop s k hlt (.inl (by assumption)))) rfl
    · have E := hide (DsCal.take_all s k (by omega))
      have R := hide (DsCal.rdres_day s H.out (by rw [← E.out]; exact HA.out))
      by_cases hv : DsCal.vld (DsCal.dval (s.data.toList.take k) / 10000) (DsCal.dval (s.data.toList.take k) / 100 % 100) (DsCal.dval (s.data.toList.take k) % 100)
      · have HV := hide hv
        clear hv
        go_wp2_with (go_at_call 15; refine (days_yes _ _ _ _ ht HV.out).mono ?_; rintro e w' ⟨rfl, rfl⟩)
        go_ret2
        exact pair_of (R.out.trans ((congrArg (fun l => DsCal.dayOf (DsCal.dval l)) E.out.symm).trans (DsCal.dayOf_yes HV.out))) rfl
      · have HV := hide hv
        clear hv
        go_wp2_with (go_at_call 15; refine (days_no _ _ _ _ ht HV.out).mono ?_; rintro e w' ⟨rfl, rfl⟩)
        go_ret2
        exact pair_of (R.out.trans ((congrArg (fun l => DsCal.dayOf (DsCal.dval l)) E.out.symm).trans (DsCal.dayOf_no HV.out))) rfl
theorem read_any (s : ByteArray) (w : World) (ht : Tab w) :
    Calls Tryd.prog 30 #[.string s] w fun e w' => e = .returned (.tuple #[.int .i64 (DsCal.rdres s).1, .int .i64 (DsCal.rdres s).2]) ∧ w' = w := by
  by_cases h : s.size = 8
  · exact read_eight s w ht h
  · exact read_size s w h

/-- dayshiftref01.Number -/
theorem pairB_of {a : Int} {b : Bool} {p : Int × Bool} {w w' : World} (h : p = (a, b)) (hw : w' = w) : Ending.returned (.tuple #[.int .i64 a, .bool b]) = .returned (.tuple #[.int .i64 p.1, .bool p.2]) ∧ w' = w := by
  rw [h]; exact ⟨rfl, hw⟩
set_option maxHeartbeats 1000000 in
theorem number_any (s : ByteArray) (w : World) (hs : s.size ≤ maxLen) :
    Calls Tryd.prog 56 #[.string s] w fun e w' => e = .returned (.tuple #[.int .i64 (DsCal.nmres s).1, .bool (DsCal.nmres s).2]) ∧ w' = w := by
  unfold maxLen at hs
  go_enter Tryd.func56, Tryd.ntmps56
  go_wp2
  go_loop [4, 5] (fun t i => ∃ k : Nat, k ≤ s.size ∧ k ≤ 18 ∧ i = .int .i64 k ∧ DsCal.alld (s.data.toList.take k) = true ∧ t = .int .i64 (DsCal.dval (s.data.toList.take k))) (fun _ i => s.size - (intOf i).toNat)
  case atStart => exact ⟨0, by omega, by omega, rfl, rfl, rfl⟩
  case round =>
    obtain ⟨k, hk, hk18, rfl, ha, rfl⟩ := hrel
    have HA := hide ha
    clear ha
    obtain ⟨b0, b1⟩ := DsCal.dval_take_bd s k 18 (by omega) HA.out
    have b2 : DsCal.dval (s.data.toList.take k) < 1000000000000000000 := b1
    clear b1
    by_cases hlt : k < s.size
    · have st := DsCal.dval_step s k hlt
      have ST := hide st
      clear st
      by_cases h18 : k < 18
      · have b3 : DsCal.dval (s.data.toList.take k) < 100000000000000000 ∨ k = 18 := by
          have := (DsCal.dval_take_bd s k 17 (by omega) HA.out).2
          exact .inl this
        replace b3 : DsCal.dval (s.data.toList.take k) < 100000000000000000 := by omega
        go_wp2
        · go_round
          case rel => exact ⟨k + 1, by omega, by omega, by go_num, DsCal.alld_step s k hlt HA.out (by omega) (by omega), val_int (by rw [ST.out]; omega)⟩
          case measure => simp [intOf]; omega
        · go_ret2
          exact pairB_of (DsCal.nmres_stop s (DsCal.alld_stop s k hlt (.inr (by assumption)))) rfl
        · go_ret2
          exact pairB_of (DsCal.nmres_stop s (DsCal.alld_stop s k hlt (.inl (by assumption)))) rfl
      · have L := hide (DsCal.nmres_long s (by omega))
        go_wp2
        all_goals
          go_ret2
          exact pairB_of L.out rfl
    · have E := hide (DsCal.take_all s k (by omega))
      have R := hide (DsCal.nmres_end s (by omega) (by rw [← E.out]; exact HA.out))
      go_wp2
      go_ret2
      exact pairB_of (R.out.trans (congrArg (fun l => (DsCal.dval l, decide (0 < s.size))) E.out.symm)) rfl

set_option maxHeartbeats 1000000 in
theorem refRead_any (s : ByteArray) (w : World) (hs : s.size ≤ maxLen) :
    Calls Tryd.prog 31 #[.string s] w fun e w' => e = .returned (.tuple #[.int .i64 (DsCal.rdres s).1, .int .i64 (DsCal.rdres s).2]) ∧ w' = w := by
  have hm : s.size ≤ 9223372036854775807 := by unfold maxLen at hs; exact hs
  have HS := hide hs
  clear hs
  by_cases a : DsCal.alld s.data.toList = true
  · by_cases h : s.size = 8
    · have N := hide (DsCal.nmres_ok s (by omega) (by omega) a)
      have R := hide (DsCal.rdres_day s h a)
      have h8 : ((s.size : Int) != 8) = false := by simp [h]
      have b1 := (DsCal.dval_bd s.data.toList 8 (by simp; omega) a)
      obtain ⟨b0, b1⟩ := b1
      have b2 : DsCal.dval s.data.toList < 100000000 := b1
      have A := hide a
      clear a h b1
      by_cases hv : DsCal.vld (DsCal.dval s.data.toList / 10000) (DsCal.dval s.data.toList / 100 % 100) (DsCal.dval s.data.toList % 100)
      · have HV := hide hv
        clear hv
        go_enter Tryd.func31, Tryd.ntmps31
        go_wp2_with fail
        refine (number_any s _ HS.out).mono ?_
        rw [N.out]
        rintro e w' ⟨rfl, rfl⟩
        go_wp2_with (go_at_call 16; refine (refDays_yes _ _ _ _ HV.out).mono ?_; rintro e w' ⟨rfl, rfl⟩)
        go_ret2
        exact pair_of (R.out.trans (DsCal.dayOf_yes HV.out)) rfl
      · have HV := hide hv
        clear hv
        go_enter Tryd.func31, Tryd.ntmps31
        go_wp2_with fail
        refine (number_any s _ HS.out).mono ?_
        rw [N.out]
        rintro e w' ⟨rfl, rfl⟩
        go_wp2_with (go_at_call 16; refine (refDays_no _ _ _ _ HV.out).mono ?_; rintro e w' ⟨rfl, rfl⟩)
        go_ret2
        exact pair_of (R.out.trans (DsCal.dayOf_no HV.out)) rfl
    · have R := hide (DsCal.rdres_size s h)
      have h8 : ((s.size : Int) != 8) = true := by simp; omega
      clear a h
      go_enter Tryd.func31, Tryd.ntmps31
      go_wp2_with fail
      refine (number_any s _ HS.out).mono ?_
      generalize DsCal.nmres s = p
      obtain ⟨p1, p2⟩ := p
      rintro e w' ⟨rfl, rfl⟩
      cases p2
      all_goals
        go_wp2
        go_ret2
        exact pair_of R.out rfl
  · have a' : DsCal.alld s.data.toList = false := by simpa using a
    have N := hide (DsCal.nmres_stop s a')
    have R := hide (DsCal.rdres_stop s a')
    clear a a'
    go_enter Tryd.func31, Tryd.ntmps31
    go_wp2_with fail
    refine (number_any s _ HS.out).mono ?_
    rw [N.out]
    rintro e w' ⟨rfl, rfl⟩
    go_wp2
    go_ret2
    exact pair_of R.out rfl
end Go.Proofs.YtbkjcnkjlkjknaaDoor
