/- Packages week, lex: twoDigits, Read; Fold. -/
import Derived.Test.YtfbkcipjfjoifaaLxD
import Derived.Test.YtfbkcipjfjoifaaDaD
namespace Go.Proofs.Ytfbkcipjfjoifaa
open Go.ChangeShapes Go.WideShapes Go.ChangeAt Go.RowKit Go.DsMem Go.DsLx
set_option linter.unusedVariables false
theorem val_int {k : IntKind} {a b : Int} (h : a = b) : Value.int k a = .int k b := by rw [h]
theorem pair_of {a b : Int} {p : Int × Int} {w w' : World} (h : p = (a, b)) (hw : w' = w) : Ending.returned (.tuple #[.int .i64 a, .int .i64 b]) = .returned (.tuple #[.int .i64 p.1, .int .i64 p.2]) ∧ w' = w := by
  rw [h]; exact ⟨rfl, hw⟩
theorem pairB_of {a : Int} {b : Bool} {p : Int × Bool} {w w' : World} (h : p = (a, b)) (hw : w' = w) : Ending.returned (.tuple #[.int .i64 a, .bool b]) = .returned (.tuple #[.int .i64 p.1, .bool p.2]) ∧ w' = w := by
  rw [h]; exact ⟨rfl, hw⟩
set_option maxHeartbeats 1000000 in
theorem twoDigits_any (s : ByteArray) (w : World) (hs : s.size ≤ 2) :
    Calls Try.prog 52 #[.string s] w fun e w' => e = .returned (.tuple #[.int .i64 (DsCal.tdres s).1, .bool (DsCal.tdres s).2]) ∧ w' = w := by
  go_enter Try.func52, Try.ntmps52
  go_wp2
  go_loop [4, 8] (fun t i => ∃ k : Nat, k ≤ s.size ∧ i = .int .i64 k ∧ DsCal.alld (s.data.toList.take k) = true ∧ t = .int .i64 (DsCal.dval (s.data.toList.take k))) (fun _ i => s.size - (intOf i).toNat)
  case atStart => exact ⟨0, by omega, rfl, rfl, rfl⟩
  case round =>
    obtain ⟨k, hk, rfl, ha, rfl⟩ := hrel
    have HA := hide ha
    clear ha
    obtain ⟨b0, b1⟩ := DsCal.dval_take_bd s k 2 (by omega) HA.out
    have b2 : DsCal.dval (s.data.toList.take k) < 100 := b1
    clear b1
    by_cases hlt : k < s.size
    · have st := DsCal.dval_step s k hlt
      have ST := hide st
      clear st
      go_wp2
      · go_ret2
        exact pairB_of (DsCal.tdres_stop s (DsCal.alld_stop s k hlt (by assumption))) rfl
      · go_round
        case rel => exact ⟨k + 1, by omega, by go_num, DsCal.alld_step s k hlt HA.out (by omega) (by omega), val_int ST.out.symm⟩
        case measure => simp [intOf]; omega
      · go_ret2
        exact pairB_of (DsCal.tdres_stop s (DsCal.alld_stop s k hlt (.inl (by assumption)))) rfl
    · have E := hide (DsCal.take_all s k (by omega))
      have R := hide (DsCal.tdres_end s (by rw [← E.out]; exact HA.out))
      go_wp2
      go_ret2
      exact pairB_of (R.out.trans (congrArg (fun l => (DsCal.dval l, true)) E.out.symm)) rfl

theorem ex_sizes (s : ByteArray) (h : s.size = 5) : (s.extract 0 2).size = 2 ∧ (s.extract 3 s.size).size = 2 := by
  simp [ByteArray.size_extract, h]

theorem wRead_size (s : ByteArray) (w : World) (h : s.size ≠ 5) :
    Calls Try.prog 45 #[.string s] w fun e w' => e = .returned (.tuple #[.int .i64 (DsCal.tmres s).1, .int .i64 (DsCal.tmres s).2]) ∧ w' = w := by
  have R := hide (DsCal.tmres_size s h)
  have h5 : ((s.size : Int) != 5) = true := by simp; omega
  clear h
  go_enter Try.func45, Try.ntmps45
  go_wp2
  go_ret2
  exact pair_of R.out rfl

set_option maxHeartbeats 2000000 in
theorem wRead_five (s : ByteArray) (w : World) (h : s.size = 5) :
    Calls Try.prog 45 #[.string s] w fun e w' => e = .returned (.tuple #[.int .i64 (DsCal.tmres s).1, .int .i64 (DsCal.tmres s).2]) ∧ w' = w := by
  have h5 : ((s.size : Int) != 5) = false := by simp [h]
  have h4 : 4 < s.size := by omega
  have h6 : s.size < 6 := by omega
  have H := hide h
  have HZ := hide (ex_sizes s h)
  clear h
  go_enter Try.func45, Try.ntmps45
  go_wp2_with fail
  · go_ret2
    exact pair_of (DsCal.tmres_sign s (by omega) (by simpa using ‹((s[2].toNat : Int) != 58) = true›)) rfl
  · have hc : (s[2].toNat : Int) = 58 := by simpa using ‹((s[2].toNat : Int) != 58) = false›
    have R := hide (DsCal.tmres_parts s H.out (by omega) hc)
    clear hc
    refine (twoDigits_any _ _ (by have := HZ.out.1; omega)).mono ?_
    have BA := hide (DsCal.tdres_bd (s.extract 0 2) (by have := HZ.out.1; omega))
    generalize hp : DsCal.tdres (s.extract 0 2) = p at R BA ⊢
    clear hp
    obtain ⟨a1, a2⟩ := p
    rintro e w' ⟨rfl, rfl⟩
    go_wp2_with fail
    refine (twoDigits_any _ _ (by have := HZ.out.2; omega)).mono ?_
    have BB := hide (DsCal.tdres_bd (s.extract 3 s.size) (by have := HZ.out.2; omega))
    generalize hp : DsCal.tdres (s.extract 3 s.size) = p at R BB ⊢
    clear hp
    obtain ⟨b1, b2⟩ := p
    rintro e w' ⟨rfl, rfl⟩
    obtain ⟨x1, x2⟩ := BA.out
    obtain ⟨y1, y2⟩ := BB.out
    simp only [] at x1 x2 y1 y2
    clear BA BB
    cases a2
    · go_wp2
      go_ret2
      exact pair_of (R.out.trans (DsCal.tmOf_no1 _ _)) rfl
    · cases b2
      · go_wp2
        go_ret2
        exact pair_of (R.out.trans (DsCal.tmOf_no2 _ _)) rfl
      · by_cases c1 : 23 < a1
        · go_wp2
          go_ret2
          exact pair_of (R.out.trans (DsCal.tmOf_range (.inl c1))) rfl
        · by_cases c2 : 59 < b1
          · go_wp2
            go_ret2
            exact pair_of (R.out.trans (DsCal.tmOf_range (.inr c2))) rfl
          · go_wp2
            go_ret2
            exact pair_of (R.out.trans (DsCal.tmOf_yes (by omega) (by omega))) rfl
theorem wRead_any (s : ByteArray) (w : World) :
    Calls Try.prog 45 #[.string s] w fun e w' => e = .returned (.tuple #[.int .i64 (DsCal.tmres s).1, .int .i64 (DsCal.tmres s).2]) ∧ w' = w := by
  by_cases h : s.size = 5
  · exact wRead_five s w h
  · exact wRead_size s w h

end Go.Proofs.Ytfbkcipjfjoifaa
