/- The walk of date.Read: a day of eight digits (out of r1). -/
import Derived.Test.YtkpgfhapffijkaaGreatDoorR15
import Derived.Test.YtkpgfhapffijkaaGreatDoorR06
import Derived.Test.YtkpgfhapffijkaaGreatDoorR01
namespace Go.Proofs.YtkpgfhapffijkaaGreatDoor.Dt
open Go.ChangeShapes Go.WideShapes Go.ChangeAt Go.RowKit Go.DsMem
theorem pair_of {a b : Int} {p : Int × Int} {w w' : World} (h : p = (a, b)) (hw : w' = w) : Ending.returned (.tuple #[.int .i64 a, .int .i64 b]) = .returned (.tuple #[.int .i64 p.1, .int .i64 p.2]) ∧ w' = w := by
  rw [h]; exact ⟨rfl, hw⟩
theorem read_size (s : ByteArray) (w : World) (h : s.size ≠ 8) :
    Calls Tryz.prog 239 #[.string s] w fun e w' => e = .returned (.tuple #[.int .i64 (DsCal.rdres s).1, .int .i64 (DsCal.rdres s).2]) ∧ w' = w := by
  have F := hide (DsCal.rdres_size s h)
  have h8 : ((s.size : Int) == 8) = false := by simp; omega
  clear h
  go_enter Tryz.func239, Tryz.ntmps239
  go_wp2
  go_ret2
  exact pair_of F.out rfl
set_option maxHeartbeats 1000000 in
theorem read_eight (s : ByteArray) (w : World) (ht : Tab w) (h : s.size = 8) :
    Calls Tryz.prog 239 #[.string s] w fun e w' => e = .returned (.tuple #[.int .i64 (DsCal.rdres s).1, .int .i64 (DsCal.rdres s).2]) ∧ w' = w := by
  have h8 : ((s.size : Int) != 8) = false := by simp [h]
  have hs : s.size ≤ 8 := by omega
  have H := hide h
  clear h
  go_enter Tryz.func239, Tryz.ntmps239
  go_wp2
  go_loop [4, 11] (fun t i => ∃ k : Nat, k ≤ s.size ∧ i = .int .i64 k ∧ DsCal.alld (s.data.toList.take k) = true ∧ t = .int .i64 (DsCal.dval (s.data.toList.take k))) (fun _ i => s.size - (intOf i).toNat)
  case atStart => exact ⟨0, by omega, rfl, rfl, rfl⟩
  case round =>
    obtain ⟨k, hk, rfl, ha, rfl⟩ := hrel
    have HA := hide ha
    clear ha
    obtain ⟨b0, b1⟩ := DsCal.dval_take_bd s k 8 (by omega) HA.out
    have b2 : DsCal.dval (s.data.toList.take k) < 100000000 := b1
    clear b1
    by_cases hlt : k < s.size
    · have st := DsCal.dval_step s k hlt
      have ST := hide st
      clear st
      go_wp2
      · go_ret2
        exact pair_of (DsCal.rdres_stop s (DsCal.alld_stop s k hlt (by assumption))) rfl
      · go_round
        case rel => exact ⟨k + 1, by omega, by go_num, DsCal.alld_step s k hlt HA.out (by omega) (by omega), val_int ST.out.symm⟩
        case measure => simp [intOf]; omega
      · go_ret2
        exact pair_of (DsCal.rdres_stop s (DsCal.alld_stop s k hlt (.inl (by assumption)))) rfl
    · have E := hide (DsCal.take_all s k (by omega))
      have R := hide (DsCal.rdres_day s H.out (by rw [← E.out]; exact HA.out))
      by_cases hv : DsCal.vld (DsCal.dval (s.data.toList.take k) / 10000) (DsCal.dval (s.data.toList.take k) / 100 % 100) (DsCal.dval (s.data.toList.take k) % 100)
      · have HV := hide hv
        clear hv
        go_wp2_with (go_at_call 210; refine (days_yes _ _ _ _ ht HV.out).mono ?_; rintro e w' ⟨rfl, rfl⟩)
        go_ret2
        exact pair_of (R.out.trans ((congrArg (fun l => DsCal.dayOf (DsCal.dval l)) E.out.symm).trans (DsCal.dayOf_yes HV.out))) rfl
      · have HV := hide hv
        clear hv
        go_wp2_with (go_at_call 210; refine (days_no _ _ _ _ ht HV.out).mono ?_; rintro e w' ⟨rfl, rfl⟩)
        go_ret2
        exact pair_of (R.out.trans ((congrArg (fun l => DsCal.dayOf (DsCal.dval l)) E.out.symm).trans (DsCal.dayOf_no HV.out))) rfl
theorem read_any (s : ByteArray) (w : World) (ht : Tab w) :
    Calls Tryz.prog 239 #[.string s] w fun e w' => e = .returned (.tuple #[.int .i64 (DsCal.rdres s).1, .int .i64 (DsCal.rdres s).2]) ∧ w' = w := by
  by_cases h : s.size = 8
  · exact read_eight s w ht h
  · exact read_size s w h
end Go.Proofs.YtkpgfhapffijkaaGreatDoor.Dt
