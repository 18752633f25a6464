/- Package dayshiftref15: asked, Next, Left. -/
import Derived.Test.YtkpambipgcjaiaaWnR
import Derived.Test.YtkpambipgcjaiaaWnC
namespace Go.Proofs.Ytkpambipgcjaiaa
open Go.ChangeShapes Go.WideShapes Go.ChangeAt Go.RowKit DsWn
set_option linter.unusedVariables false
theorem wpair_of {a b : Int} {p : Int × Int} (h : p = (a, b)) : Ending.returned (.tuple #[.int .i64 a, .int .i64 b]) = .returned (.tuple #[.int .i64 p.1, .int .i64 p.2]) := by rw [h]
/-- dayshiftref02.Split -/
theorem rsplit_any (c : Int) (w : World) : Calls Try.prog 94 #[.int .i64 c] w fun e w' => e = .returned (.tuple #[.int .i64 (if okC c then c / 1440 else 0), .int .i64 (if okC c then c % 1440 else 0), .int .i64 (if okC c then 0 else 6)]) ∧ w' = w := by
  by_cases h : okC c = true
  · rw [if_pos h, if_pos h, if_pos h]
    have h' : 1440 ≤ c ∧ c ≤ 5258966399 := by simpa [okC] using h
    obtain ⟨h1, h2⟩ := h'
    clear h
    go_enter Try.func94, Try.ntmps94
    go_wp2
    go_ret3
    exact ⟨rfl, rfl⟩
  · rw [if_neg h, if_neg h, if_neg h]
    have h' : c < 1440 ∨ 5258966399 < c := by simp [okC] at h; omega
    clear h
    rcases h' with h' | h'
    · go_enter Try.func94, Try.ntmps94
      go_wp2
      go_ret3
      exact ⟨rfl, rfl⟩
    · have h0 : ¬ c < 1440 := by omega
      go_enter Try.func94, Try.ntmps94
      go_wp2
      go_ret3
      exact ⟨rfl, rfl⟩
/-- dayshiftref15.asked -/
theorem rasked_any (f t c : Int) (w : World) : Calls Try.prog 82 #[.int .i64 f, .int .i64 t, .int .i64 c] w fun e w' => e = .returned (.int .i64 (askF f t c)) ∧ w' = w := by
  have HF := whide (fun w => rmin_any f w)
  have HT := whide (fun w => rmin_any t w)
  have HS := whide (fun w => rsplit_any c w)
  obtain ⟨P, hP⟩ : ∃ P, askF f t c = P := ⟨_, rfl⟩
  rw [hP]
  unfold askF at hP
  generalize mB f = x at HF hP
  generalize mB t = y at HT hP
  cases x
  · rw [if_neg (by simp)] at hP
    subst hP
    go_enter Try.func82, Try.ntmps82
    go_wp2_with fail
    refine (HF.out _).mono ?_
    rintro e w1 ⟨rfl, rfl⟩
    go_wp2
    go_ret
    exact ⟨rfl, rfl⟩
  · cases y
    · rw [if_neg (by simp)] at hP
      subst hP
      go_enter Try.func82, Try.ntmps82
      go_wp2_with fail
      refine (HF.out _).mono ?_
      rintro e w1 ⟨rfl, rfl⟩
      go_wp2_with fail
      refine (HT.out _).mono ?_
      rintro e w1 ⟨rfl, rfl⟩
      go_wp2
      go_ret
      exact ⟨rfl, rfl⟩
    · rw [if_pos (by rfl)] at hP
      rw [hP] at HS
      generalize (if okC c = true then c / 1440 else 0) = a at HS
      generalize (if okC c = true then c % 1440 else 0) = b at HS
      clear hP
      go_enter Try.func82, Try.ntmps82
      go_wp2_with fail
      refine (HF.out _).mono ?_
      rintro e w1 ⟨rfl, rfl⟩
      go_wp2_with fail
      refine (HT.out _).mono ?_
      rintro e w1 ⟨rfl, rfl⟩
      go_wp2_with fail
      refine (HS.out _).mono ?_
      rintro e w1 ⟨rfl, rfl⟩
      go_wp2
      go_ret
      exact ⟨rfl, rfl⟩
theorem cmod (c k : Int) : (c + k) % 1440 = (c % 1440 + k) % 1440 := by omega
theorem open_of (f t c k : Int) (hf : 0 ≤ f ∧ f < 1440) (ht : 0 ≤ t ∧ t < 1440) : openB f t ((c + k) % 1440) = hasB f t ((c % 1440 + k) % 1440) := by
  unfold openB
  rw [(mB_iff f).2 hf, (mB_iff t).2 ht, (mB_iff ((c + k) % 1440)).2 (by omega), cmod]
  rfl
set_option maxRecDepth 20000 in
/-- dayshiftref15.Next -/
theorem rnext_any (f t c : Int) (w : World) (c0 : -9223372036854775808 ≤ c) (c9 : c ≤ 9223372036854775807) :
    Calls Try.prog 46 #[.int .i64 f, .int .i64 t, .int .i64 c] w fun e w' => e = .returned (.tuple #[.int .i64 (nextF f t c).1, .int .i64 (nextF f t c).2]) ∧ w' = w := by
  have HT := whide (fun w => rasked_any f t c w)
  obtain ⟨Q, hQ⟩ : ∃ Q, nextF f t c = Q := ⟨_, rfl⟩
  rw [hQ]
  unfold nextF at hQ
  have HE := ask_or f t c
  by_cases he : askF f t c = 0
  · obtain ⟨hf, ht, hc0, hc1⟩ := ask_zero he
    rw [he] at HT
    rw [if_neg (by omega)] at hQ
    obtain ⟨u0, u1⟩ := until_bd f t (c % 1440) (by omega) hf
    have HLT : Hid (∀ k : Nat, (k : Int) < untilF f t (c % 1440) → ∀ w, Calls Try.prog 41 #[.int .i64 f, .int .i64 t, .int .i64 ((c + (k : Int)) % 1440)] w fun e w' => e = .returned (.bool false) ∧ w' = w) := whide (fun k hk w => by
      have := ropen_any f t ((c + (k : Int)) % 1440) w
      rw [open_of f t c k hf ht, until_lt f t (c % 1440) k (by omega) hf ht (by omega) hk] at this
      exact this)
    have HAT : Hid (∀ k : Nat, (k : Int) = untilF f t (c % 1440) → ∀ w, Calls Try.prog 41 #[.int .i64 f, .int .i64 t, .int .i64 ((c + (k : Int)) % 1440)] w fun e w' => e = .returned (.bool true) ∧ w' = w) := whide (fun k hk w => by
      have := ropen_any f t ((c + (k : Int)) % 1440) w
      rw [open_of f t c k hf ht, hk, until_at f t (c % 1440) (by omega) hf ht] at this
      rw [hk]
      exact this)
    generalize untilF f t (c % 1440) = u at *
    have HQ := whide hQ
    clear he HE hf ht c0 c9 hQ
    go_enter Try.func46, Try.ntmps46
    go_wp2_with fail
    refine (HT.out _).mono ?_
    rintro e w1 ⟨rfl, rfl⟩
    go_wp2
    go_loop [9] (fun i => ∃ k : Nat, (k : Int) ≤ u ∧ i = .int .i64 k) (fun i => (2000 - intOf i).toNat)
    case atStart => exact ⟨0, by omega, rfl⟩
    case round =>
      obtain ⟨k, hk, rfl⟩ := hrel
      have hk9 : (k : Int) < 1440 := by omega
      by_cases hl : c + (k : Int) ≤ 5258966399
      · by_cases hlt : (k : Int) < u
        · go_wp2_with fail
          refine (HLT.out k hlt _).mono ?_
          rintro e w1 ⟨rfl, rfl⟩
          go_wp2
          go_round
          case rel => exact ⟨k + 1, by omega, by go_num⟩
          case measure => simp [intOf]; omega
        · have hku : (k : Int) = u := by omega
          have HK := whide hku
          have HQ2 : Hid (Q = (c + (k : Int), 0)) := whide (by rw [← HQ.out, hku, if_pos (by omega)])
          clear hku hlt
          go_wp2_with fail
          refine (HAT.out k HK.out _).mono ?_
          rintro e w1 ⟨rfl, rfl⟩
          go_wp2
          go_ret2
          exact ⟨wpair_of HQ2.out, rfl⟩
      · have HQ2 : Hid (Q = (0, 6)) := whide (by rw [← HQ.out, if_neg (by omega)])
        go_wp2
        go_ret2
        exact ⟨wpair_of HQ2.out, rfl⟩
  · rw [if_pos he] at hQ
    clear c0 c9
    generalize askF f t c = a at *
    rcases HE with rfl | rfl | rfl
    · exact absurd rfl he
    all_goals
      clear he
      subst hQ
      go_enter Try.func46, Try.ntmps46
      go_wp2_with fail
      refine (HT.out _).mono ?_
      rintro e w1 ⟨rfl, rfl⟩
      go_wp2
      go_ret2
      exact ⟨rfl, rfl⟩
set_option maxHeartbeats 1000000 in
set_option maxRecDepth 20000 in
/-- dayshiftref15.Left -/
theorem rleft_any (f t c : Int) (w : World) (c0 : -9223372036854775808 ≤ c) (c9 : c ≤ 9223372036854775807) :
    Calls Try.prog 48 #[.int .i64 f, .int .i64 t, .int .i64 c] w fun e w' => e = .returned (.tuple #[.int .i64 (lfF f t c).1, .int .i64 (lfF f t c).2]) ∧ w' = w := by
  have HT := whide (fun w => rasked_any f t c w)
  obtain ⟨Q, hQ⟩ : ∃ Q, lfF f t c = Q := ⟨_, rfl⟩
  rw [hQ]
  unfold lfF at hQ
  have HE := ask_or f t c
  by_cases he : askF f t c = 0
  · obtain ⟨hf, ht, hc0, hc1⟩ := ask_zero he
    rw [he] at HT
    rw [if_neg (by omega)] at hQ
    obtain ⟨u0, u1⟩ := left_bd f t (c % 1440) (by omega)
    have hz := left_zero f t (c % 1440) (by omega)
    have HLT : Hid (∀ k : Nat, (k : Int) < leftF f t (c % 1440) → ∀ w, Calls Try.prog 41 #[.int .i64 f, .int .i64 t, .int .i64 ((c + (k : Int)) % 1440)] w fun e w' => e = .returned (.bool true) ∧ w' = w) := whide (fun k hk w => by
      have := ropen_any f t ((c + (k : Int)) % 1440) w
      rw [open_of f t c k hf ht, left_lt f t (c % 1440) k (by omega) hf ht (by omega) hk] at this
      exact this)
    have HAT : Hid (∀ k : Nat, (k : Int) = leftF f t (c % 1440) → (k : Int) < 1440 → ∀ w, Calls Try.prog 41 #[.int .i64 f, .int .i64 t, .int .i64 ((c + (k : Int)) % 1440)] w fun e w' => e = .returned (.bool false) ∧ w' = w) := whide (fun k hk hk9 w => by
      have := ropen_any f t ((c + (k : Int)) % 1440) w
      rw [open_of f t c k hf ht, hk, left_at f t (c % 1440) (by omega) hf ht (by omega)] at this
      rw [hk]
      exact this)
    have HQ : Hid (Q = if leftF f t (c % 1440) = 0 then (0, 5) else (leftF f t (c % 1440), 0)) := whide (by
      rw [← hQ]
      by_cases h : hasB f t (c % 1440) = true
      · rw [if_pos h, if_neg (fun e => by have := hz.1 e; rw [h] at this; cases this)]
      · rw [if_neg h, if_pos (hz.2 (by simpa using h))])
    generalize leftF f t (c % 1440) = u at *
    clear he HE hf ht c0 c9 hQ hz
    go_enter Try.func48, Try.ntmps48
    go_wp2_with fail
    refine (HT.out _).mono ?_
    rintro e w1 ⟨rfl, rfl⟩
    go_wp2
    go_loop [9] (fun i => ∃ k : Nat, (k : Int) ≤ u ∧ i = .int .i64 k) (fun i => (2000 - intOf i).toNat)
    case atStart => exact ⟨0, by omega, rfl⟩
    case round =>
      obtain ⟨k, hk, rfl⟩ := hrel
      by_cases hlt : (k : Int) < u
      · have hk9 : (k : Int) < 1440 := by omega
        go_wp2_with fail
        refine (HLT.out k hlt _).mono ?_
        rintro e w1 ⟨rfl, rfl⟩
        go_wp2
        go_round
        case rel => exact ⟨k + 1, by omega, by go_num⟩
        case measure => simp [intOf]; omega
      · have hku : (k : Int) = u := by omega
        have HK := whide hku
        have HQ2 : Hid (Q = if (k : Int) = 0 then (0, 5) else ((k : Int), 0)) := whide (by rw [HQ.out, hku])
        clear hku hlt
        by_cases hk9 : (k : Int) < 1440
        · by_cases h0 : (k : Int) = 0
          · obtain rfl : k = 0 := by omega
            have HQ3 : Hid (Q = (0, 5)) := whide (by rw [HQ2.out]; rfl)
            have H0 := whide (HAT.out 0 HK.out (by omega))
            rw [show c + ((0 : Nat) : Int) = c from by omega] at H0
            go_wp2_with fail
            refine (H0.out _).mono ?_
            rintro e w1 ⟨rfl, rfl⟩
            go_wp2
            go_ret2
            exact ⟨wpair_of HQ3.out, rfl⟩
          · have HQ3 : Hid (Q = ((k : Int), 0)) := whide (by rw [HQ2.out, if_neg h0])
            have h0' : ((k : Int) == 0) = false := by simpa using h0
            go_wp2_with fail
            refine (HAT.out k HK.out hk9 _).mono ?_
            rintro e w1 ⟨rfl, rfl⟩
            go_wp2
            go_ret2
            exact ⟨wpair_of HQ3.out, rfl⟩
        · have h0 : ¬ (k : Int) = 0 := by omega
          have HQ3 : Hid (Q = ((k : Int), 0)) := whide (by rw [HQ2.out, if_neg h0])
          have h0' : ((k : Int) == 0) = false := by simpa using h0
          go_wp2
          go_ret2
          exact ⟨wpair_of HQ3.out, rfl⟩
  · rw [if_pos he] at hQ
    clear c0 c9
    generalize askF f t c = a at *
    rcases HE with rfl | rfl | rfl
    · exact absurd rfl he
    all_goals
      clear he
      subst hQ
      go_enter Try.func48, Try.ntmps48
      go_wp2_with fail
      refine (HT.out _).mono ?_
      rintro e w1 ⟨rfl, rfl⟩
      go_wp2
      go_ret2
      exact ⟨rfl, rfl⟩
end Go.Proofs.Ytkpambipgcjaiaa
