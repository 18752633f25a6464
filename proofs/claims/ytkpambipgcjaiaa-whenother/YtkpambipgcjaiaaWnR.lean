/- Package dayshiftref15: the reference's windows. -/
import Derived.Test.YtkpambipgcjaiaaWnA
namespace Go.Proofs.Ytkpambipgcjaiaa
open Go.ChangeShapes Go.WideShapes Go.ChangeAt Go.RowKit DsWn
set_option linter.unusedVariables false
/-- dayshiftref15.Open -/
theorem ropen_any (f t m : Int) (w : World) : Calls Try.prog 41 #[.int .i64 f, .int .i64 t, .int .i64 m] w fun e w' => e = .returned (.bool (openB f t m)) ∧ w' = w := by
  have HF := whide (fun w => rmin_any f w)
  have HT := whide (fun w => rmin_any t w)
  have HM := whide (fun w => rmin_any m w)
  obtain ⟨P, hP⟩ : ∃ P, openB f t m = P := ⟨_, rfl⟩
  rw [hP]
  unfold openB at hP
  generalize mB f = x at HF hP
  generalize mB t = y at HT hP
  generalize mB m = z at HM hP
  cases x
  · obtain rfl : P = false := by simpa using hP.symm
    clear hP
    go_enter Try.func41, Try.ntmps41
    go_wp2_with fail
    refine (HF.out _).mono ?_
    rintro e w1 ⟨rfl, rfl⟩
    go_wp2
    go_ret
    exact ⟨rfl, rfl⟩
  · cases y
    · obtain rfl : P = false := by simpa using hP.symm
      clear hP
      go_enter Try.func41, Try.ntmps41
      go_wp2_with fail
      refine (HF.out _).mono ?_
      rintro e w1 ⟨rfl, rfl⟩
      go_wp2_with fail
      refine (HT.out _).mono ?_
      rintro e w1 ⟨rfl, rfl⟩
      go_wp2
      go_ret
      exact ⟨rfl, rfl⟩
    · cases z
      · obtain rfl : P = false := by simpa using hP.symm
        clear hP
        go_enter Try.func41, Try.ntmps41
        go_wp2_with fail
        refine (HF.out _).mono ?_
        rintro e w1 ⟨rfl, rfl⟩
        go_wp2_with fail
        refine (HT.out _).mono ?_
        rintro e w1 ⟨rfl, rfl⟩
        go_wp2_with fail
        refine (HM.out _).mono ?_
        rintro e w1 ⟨rfl, rfl⟩
        go_wp2
        go_ret
        exact ⟨rfl, rfl⟩
      · have hP' : hasB f t m = P := by simpa using hP
        have HP : Hid (hasB f t m = P) := hP'
        clear hP hP'
        by_cases h : f ≤ t
        · by_cases h1 : f ≤ m
          · by_cases h2 : m ≤ t
            · obtain rfl : P = true := HP.out.symm.trans ((hasB_iff f t m).2 (.inl ⟨h, h1, h2⟩))
              go_enter Try.func41, Try.ntmps41
              go_wp2_with fail
              refine (HF.out _).mono ?_
              rintro e w1 ⟨rfl, rfl⟩
              go_wp2_with fail
              refine (HT.out _).mono ?_
              rintro e w1 ⟨rfl, rfl⟩
              go_wp2_with fail
              refine (HM.out _).mono ?_
              rintro e w1 ⟨rfl, rfl⟩
              go_wp2
              go_ret
              first | exact ⟨rfl, rfl⟩ | exact ⟨wret_bool (by simp; omega), rfl⟩
            · obtain rfl : P = false := HP.out.symm.trans ((hasB_no f t m).2 (.inl ⟨h, .inr (by omega)⟩))
              go_enter Try.func41, Try.ntmps41
              go_wp2_with fail
              refine (HF.out _).mono ?_
              rintro e w1 ⟨rfl, rfl⟩
              go_wp2_with fail
              refine (HT.out _).mono ?_
              rintro e w1 ⟨rfl, rfl⟩
              go_wp2_with fail
              refine (HM.out _).mono ?_
              rintro e w1 ⟨rfl, rfl⟩
              go_wp2
              go_ret
              first | exact ⟨rfl, rfl⟩ | exact ⟨wret_bool (by simp; omega), rfl⟩
          · obtain rfl : P = false := HP.out.symm.trans ((hasB_no f t m).2 (.inl ⟨h, .inl (by omega)⟩))
            go_enter Try.func41, Try.ntmps41
            go_wp2_with fail
            refine (HF.out _).mono ?_
            rintro e w1 ⟨rfl, rfl⟩
            go_wp2_with fail
            refine (HT.out _).mono ?_
            rintro e w1 ⟨rfl, rfl⟩
            go_wp2_with fail
            refine (HM.out _).mono ?_
            rintro e w1 ⟨rfl, rfl⟩
            go_wp2
            go_ret
            first | exact ⟨rfl, rfl⟩ | exact ⟨wret_bool (by simp; omega), rfl⟩
        · by_cases h1 : f ≤ m
          · obtain rfl : P = true := HP.out.symm.trans ((hasB_iff f t m).2 (.inr ⟨by omega, .inl h1⟩))
            go_enter Try.func41, Try.ntmps41
            go_wp2_with fail
            refine (HF.out _).mono ?_
            rintro e w1 ⟨rfl, rfl⟩
            go_wp2_with fail
            refine (HT.out _).mono ?_
            rintro e w1 ⟨rfl, rfl⟩
            go_wp2_with fail
            refine (HM.out _).mono ?_
            rintro e w1 ⟨rfl, rfl⟩
            go_wp2
            go_ret
            first | exact ⟨rfl, rfl⟩ | exact ⟨wret_bool (by simp; omega), rfl⟩
          · by_cases h2 : m ≤ t
            · obtain rfl : P = true := HP.out.symm.trans ((hasB_iff f t m).2 (.inr ⟨by omega, .inr h2⟩))
              go_enter Try.func41, Try.ntmps41
              go_wp2_with fail
              refine (HF.out _).mono ?_
              rintro e w1 ⟨rfl, rfl⟩
              go_wp2_with fail
              refine (HT.out _).mono ?_
              rintro e w1 ⟨rfl, rfl⟩
              go_wp2_with fail
              refine (HM.out _).mono ?_
              rintro e w1 ⟨rfl, rfl⟩
              go_wp2
              go_ret
              first | exact ⟨rfl, rfl⟩ | exact ⟨wret_bool (by simp; omega), rfl⟩
            · obtain rfl : P = false := HP.out.symm.trans ((hasB_no f t m).2 (.inr ⟨by omega, by omega, by omega⟩))
              go_enter Try.func41, Try.ntmps41
              go_wp2_with fail
              refine (HF.out _).mono ?_
              rintro e w1 ⟨rfl, rfl⟩
              go_wp2_with fail
              refine (HT.out _).mono ?_
              rintro e w1 ⟨rfl, rfl⟩
              go_wp2_with fail
              refine (HM.out _).mono ?_
              rintro e w1 ⟨rfl, rfl⟩
              go_wp2
              go_ret
              first | exact ⟨rfl, rfl⟩ | exact ⟨wret_bool (by simp; omega), rfl⟩
theorem wval_int {k : IntKind} {a b : Int} (h : a = b) : Value.int k a = .int k b := by rw [h]
set_option maxRecDepth 20000 in
/-- dayshiftref15.Long -/
theorem rlong_any (f t : Int) (w : World) : Calls Try.prog 43 #[.int .i64 f, .int .i64 t] w fun e w' => e = .returned (.int .i64 (longF f t)) ∧ w' = w := by
  cases hx : (mB f && mB t)
  · have hL : longF f t = 0 := by unfold longF; rw [hx]; rfl
    have HO : Hid (∀ m w, Calls Try.prog 41 #[.int .i64 f, .int .i64 t, .int .i64 m] w fun e w' => e = .returned (.bool false) ∧ w' = w) := whide (fun m w => by
      have := ropen_any f t m w
      unfold openB at this
      rw [hx] at this
      simpa using this)
    rw [hL]
    clear hx hL
    go_enter Try.func43, Try.ntmps43
    go_wp2
    go_loop [5, 6] (fun n i => ∃ k : Nat, k ≤ 1440 ∧ i = .int .i64 k ∧ n = .int .i64 0) (fun _ i => 1440 - (intOf i).toNat)
    case atStart => exact ⟨0, by omega, rfl, rfl⟩
    case round =>
      obtain ⟨k, hk, rfl, rfl⟩ := hrel
      by_cases hlt : k < 1440
      · go_wp2_with fail
        refine (HO.out _ _).mono ?_
        rintro e w1 ⟨rfl, rfl⟩
        go_wp2
        go_round
        case rel => exact ⟨k + 1, by omega, by go_num, rfl⟩
        case measure => simp [intOf]; omega
      · go_wp2
        go_ret
        exact ⟨rfl, rfl⟩
  · rw [Bool.and_eq_true] at hx
    have HL := whide (long_cnt f t hx.1 hx.2)
    have hf := (mB_iff f).1 hx.1
    have ht := (mB_iff t).1 hx.2
    have HO : Hid (∀ m : Nat, m < 1440 → ∀ w, Calls Try.prog 41 #[.int .i64 f, .int .i64 t, .int .i64 m] w fun e w' => e = .returned (.bool (hasB f t m)) ∧ w' = w) := whide (fun m hm w => by
      have := ropen_any f t m w
      unfold openB at this
      rw [hx.1, hx.2, (mB_iff (m : Int)).2 (by omega)] at this
      simpa using this)
    have HC := whide (fun m : Nat => cnt_succ f t m hf.1 ht.1 (by omega))
    have HCB := whide (fun m : Nat => cnt_bd f t m hf.1 ht.1 (by omega))
    have HC0 := whide (cnt_zero f t hf.1 ht.1)
    rw [HL.out]
    clear hx hf ht HL
    go_enter Try.func43, Try.ntmps43
    go_wp2
    go_loop [5, 6] (fun n i => ∃ k : Nat, k ≤ 1440 ∧ i = .int .i64 k ∧ n = .int .i64 (cntF f t k)) (fun _ i => 1440 - (intOf i).toNat)
    case atStart => exact ⟨0, by omega, rfl, wval_int HC0.out.symm⟩
    case round =>
      obtain ⟨k, hk, rfl, rfl⟩ := hrel
      by_cases hlt : k < 1440
      · have HK := whide (HC.out k)
        have HOK := whide (HO.out k hlt)
        obtain ⟨b0, b1⟩ := HCB.out k
        generalize hasB f t k = h at *
        cases h
        · go_wp2_with fail
          refine (HOK.out _).mono ?_
          rintro e w1 ⟨rfl, rfl⟩
          go_wp2
          go_round
          case rel => exact ⟨k + 1, by omega, by go_num, wval_int (by have := HK.out; simp at this; exact this.symm)⟩
          case measure => simp [intOf]; omega
        · go_wp2_with fail
          refine (HOK.out _).mono ?_
          rintro e w1 ⟨rfl, rfl⟩
          go_wp2
          go_round
          case rel => exact ⟨k + 1, by omega, by go_num, wval_int (by have := HK.out; simp at this; exact this.symm)⟩
          case measure => simp [intOf]; omega
      · obtain rfl : k = 1440 := by omega
        go_wp2
        go_ret
        exact ⟨rfl, rfl⟩
end Go.Proofs.Ytkpambipgcjaiaa
