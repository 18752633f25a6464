/- Layer 15's laws: WhenOther, WhenFirst, WhenLeft. -/
import Derived.Test.YtkpambipgcjaiaaWnK
namespace Go.Proofs.Ytkpambipgcjaiaa
open Go.ChangeShapes Go.WideShapes Go.ChangeAt Go.RowKit DsWn
set_option linter.unusedVariables false
set_option maxHeartbeats 4000000 in
theorem other15 (f t m : Int) (w : World) : Calls Try.prog 11 #[.int .i64 f, .int .i64 t, .int .i64 m] w fun e w' => e = .returned (.bool true) ∧ Below w.heap.size w w' := by
  have HF := whide (fun w => rmin_any f w)
  have HT := whide (fun w => rmin_any t w)
  have HM := whide (fun w => rmin_any m w)
  have HL := whide (fun w => wlong_any f t w)
  have HK := whide (fun w => known15 w)
  cases hf : mB f
  · rw [hf] at HF
    clear hf
    go_enter Try.func11, Try.ntmps11
    go_wp2_with fail
    refine (HF.out _).mono ?_
    rintro e w1 ⟨rfl, rfl⟩
    go_wp2_with fail
    refine (HK.out _).mono ?_
    rintro e w1 ⟨rfl, hb⟩
    go_wp2
    go_ret
    exact ⟨rfl, hb⟩
  rw [hf] at HF
  cases ht : mB t
  · rw [ht] at HT
    clear hf ht
    go_enter Try.func11, Try.ntmps11
    go_wp2_with fail
    refine (HF.out _).mono ?_
    rintro e w1 ⟨rfl, rfl⟩
    go_wp2_with fail
    refine (HT.out _).mono ?_
    rintro e w1 ⟨rfl, rfl⟩
    go_wp2_with fail
    refine (HK.out _).mono ?_
    rintro e w1 ⟨rfl, hb⟩
    go_wp2
    go_ret
    exact ⟨rfl, hb⟩
  rw [ht] at HT
  cases hm : mB m
  · rw [hm] at HM
    clear hf ht hm
    go_enter Try.func11, Try.ntmps11
    go_wp2_with fail
    refine (HF.out _).mono ?_
    rintro e w1 ⟨rfl, rfl⟩
    go_wp2_with fail
    refine (HT.out _).mono ?_
    rintro e w1 ⟨rfl, rfl⟩
    go_wp2_with fail
    refine (HM.out _).mono ?_
    rintro e w1 ⟨rfl, rfl⟩
    go_wp2_with fail
    refine (HK.out _).mono ?_
    rintro e w1 ⟨rfl, hb⟩
    go_wp2
    go_ret
    exact ⟨rfl, hb⟩
  rw [hm] at HM
  rw [mB_iff] at hf ht hm
  obtain ⟨l0, l1⟩ := long_bd f t
  by_cases hl : longF f t = 1440
  · rw [hl] at HL
    clear hf ht hm hl l0 l1
    go_enter Try.func11, Try.ntmps11
    go_wp2_with fail
    refine (HF.out _).mono ?_
    rintro e w1 ⟨rfl, rfl⟩
    go_wp2_with fail
    refine (HT.out _).mono ?_
    rintro e w1 ⟨rfl, rfl⟩
    go_wp2_with fail
    refine (HM.out _).mono ?_
    rintro e w1 ⟨rfl, rfl⟩
    go_wp2_with fail
    refine (HL.out _).mono ?_
    rintro e w1 ⟨rfl, hb⟩
    have H1 := whide hb
    clear hb
    go_wp2_with fail
    refine (HK.out _).mono ?_
    rintro e w2 ⟨rfl, hb⟩
    have H2 := whide (H1.out.trans (hb.mono H1.out.size))
    clear hb
    go_wp2
    go_ret
    exact ⟨rfl, H2.out⟩
  have HO := whide (fun w => wopen_any f t m w)
  have HP := whide (fun w => wopen_any ((t + 1) % 1440) ((f + 1439) % 1440) m w)
  rw [other_open f t m hf ht hm hl] at HP
  have HQ := whide (fun w => wlong_any ((t + 1) % 1440) ((f + 1439) % 1440) w)
  rw [other_long f t hf ht hl] at HQ
  have hln : ((longF f t : Int) == 1440) = false := by simpa using hl
  obtain ⟨f0, f1⟩ := hf
  obtain ⟨t0, t1⟩ := ht
  generalize longF f t = L at *
  clear hm hl
  generalize openB f t m = b at *
  obtain ⟨a, ha⟩ : ∃ a, (t + 1) % 1440 = a := ⟨_, rfl⟩
  obtain ⟨d, hd⟩ : ∃ d, (f + 1439) % 1440 = d := ⟨_, rfl⟩
  rw [ha, hd] at HP HQ
  have HA := whide ha
  have HD := whide (show (f + 1440 - 1) % 1440 = d from by omega)
  have HD2 := whide hd
  clear ha hd
  go_enter Try.func11, Try.ntmps11
  go_wp2_with fail
  refine (HF.out _).mono ?_
  rintro e w1 ⟨rfl, rfl⟩
  go_wp2_with fail
  refine (HT.out _).mono ?_
  rintro e w1 ⟨rfl, rfl⟩
  go_wp2_with fail
  refine (HM.out _).mono ?_
  rintro e w1 ⟨rfl, rfl⟩
  go_wp2_with fail
  refine (HL.out _).mono ?_
  rintro e w1 ⟨rfl, hb⟩
  have H1 := whide hb
  clear hb
  go_wp2_with fail
  refine (HO.out _).mono ?_
  rintro e w2 ⟨rfl, hb⟩
  have H2 := whide (H1.out.trans (hb.mono H1.out.size))
  clear hb H1
  go_wp2_with fail
  rw [HA.out]
  first
    | rw [HD.out]
    | rw [HD2.out]
  refine (HP.out _).mono ?_
  rintro e w3 ⟨rfl, hb⟩
  have H3 := whide (H2.out.trans (hb.mono H2.out.size))
  clear hb H2
  have hbb : (b != !b) = true := by cases b <;> rfl
  go_wp2_with fail
  refine (HL.out _).mono ?_
  rintro e w4 ⟨rfl, hb⟩
  have H4 := whide (H3.out.trans (hb.mono H3.out.size))
  clear hb H3
  go_wp2_with fail
  refine (HQ.out _).mono ?_
  rintro e w5 ⟨rfl, hb⟩
  have H5 := whide (H4.out.trans (hb.mono H4.out.size))
  clear hb H4
  have hsum : L + (1440 - L) = 1440 := by omega
  go_wp2_with fail
  refine (HK.out _).mono ?_
  rintro e w6 ⟨rfl, hb⟩
  have H6 := whide (H5.out.trans (hb.mono H5.out.size))
  clear hb
  go_wp2
  go_ret
  exact ⟨rfl, H6.out⟩
set_option maxHeartbeats 4000000 in
theorem first15 (f t c k : Int) (w : World) (c0 : -9223372036854775808 ≤ c) (c9 : c ≤ 9223372036854775807) : Calls Try.prog 12 #[.int .i64 f, .int .i64 t, .int .i64 c, .int .i64 k] w fun e w' => e = .returned (.bool true) ∧ Below w.heap.size w w' := by
  have HN := whide (fun w => wnext_any f t c w c0 c9)
  have HK := whide (fun w => known15 w)
  have HE := next_err f t c
  have HO := next_ok f t c
  generalize nextF f t c = P at *
  obtain ⟨a, e0⟩ := P
  simp only at HN HE HO
  by_cases h0 : e0 = 0
  · subst h0
    obtain ⟨hc0, hca, ham, hop, hk⟩ := HO rfl
    have HP := whide (fun w => wopen_any f t (a % 1440) w)
    rw [hop] at HP
    clear HE HO hop c0 c9
    by_cases k0 : k < 0
    · clear hk
      go_enter Try.func12, Try.ntmps12
      go_wp2_with fail
      refine (HN.out _).mono ?_
      rintro e w1 ⟨rfl, hb⟩
      have H1 := whide hb
      clear hb
      go_wp2_with fail
      refine (HP.out _).mono ?_
      rintro e w2 ⟨rfl, hb⟩
      have H2 := whide (H1.out.trans (hb.mono H1.out.size))
      clear hb H1
      go_wp2_with fail
      refine (HK.out _).mono ?_
      rintro e w3 ⟨rfl, hb⟩
      have H3 := whide (H2.out.trans (hb.mono H2.out.size))
      clear hb
      go_wp2
      go_ret
      exact ⟨rfl, H3.out⟩
    · by_cases k1 : a - c ≤ k
      · clear hk
        go_enter Try.func12, Try.ntmps12
        go_wp2_with fail
        refine (HN.out _).mono ?_
        rintro e w1 ⟨rfl, hb⟩
        have H1 := whide hb
        clear hb
        go_wp2_with fail
        refine (HP.out _).mono ?_
        rintro e w2 ⟨rfl, hb⟩
        have H2 := whide (H1.out.trans (hb.mono H1.out.size))
        clear hb H1
        go_wp2_with fail
        refine (HK.out _).mono ?_
        rintro e w3 ⟨rfl, hb⟩
        have H3 := whide (H2.out.trans (hb.mono H2.out.size))
        clear hb
        go_wp2
        go_ret
        exact ⟨rfl, H3.out⟩
      · have HQ := whide (fun w => wopen_any f t ((c + k) % 1440) w)
        rw [hk k (by omega) (by omega)] at HQ
        clear hk
        go_enter Try.func12, Try.ntmps12
        go_wp2_with fail
        refine (HN.out _).mono ?_
        rintro e w1 ⟨rfl, hb⟩
        have H1 := whide hb
        clear hb
        go_wp2_with fail
        refine (HP.out _).mono ?_
        rintro e w2 ⟨rfl, hb⟩
        have H2 := whide (H1.out.trans (hb.mono H1.out.size))
        clear hb H1
        go_wp2_with fail
        refine (HQ.out _).mono ?_
        rintro e w3 ⟨rfl, hb⟩
        have H3 := whide (H2.out.trans (hb.mono H2.out.size))
        clear hb
        go_wp2_with fail
        refine (HK.out _).mono ?_
        rintro e w4 ⟨rfl, hb⟩
        have H4 := whide (H3.out.trans (hb.mono H3.out.size))
        clear hb
        go_wp2
        go_ret
        exact ⟨rfl, H4.out⟩
  · obtain rfl := HE h0
    have h0' : (e0 != 0) = true := by simpa using h0
    clear HE HO h0 c0 c9
    go_enter Try.func12, Try.ntmps12
    go_wp2_with fail
    refine (HN.out _).mono ?_
    rintro e w1 ⟨rfl, hb⟩
    have H1 := whide hb
    clear hb
    go_wp2_with fail
    refine (HK.out _).mono ?_
    rintro e w3 ⟨rfl, hb⟩
    have H3 := whide (H1.out.trans (hb.mono H1.out.size))
    clear hb
    go_wp2
    go_ret
    exact ⟨rfl, H3.out⟩
set_option maxHeartbeats 4000000 in
theorem left15 (f t c : Int) (w : World) (c0 : -9223372036854775808 ≤ c) (c9 : c ≤ 9223372036854775807) : Calls Try.prog 13 #[.int .i64 f, .int .i64 t, .int .i64 c] w fun e w' => e = .returned (.bool true) ∧ Below w.heap.size w w' := by
  have HN := whide (fun w => wleft_any f t c w c0 c9)
  have HK := whide (fun w => known15 w)
  have HL := whide (fun w => wlong_any f t w)
  have HE := left_err f t c
  have HO := left_ok f t c
  obtain ⟨l0, l1⟩ := long_bd f t
  by_cases h0 : (lfF f t c).2 = 0
  · obtain ⟨⟨hc0, hc1⟩, hn1, hnl, hnx, hal⟩ := HO h0
    rw [h0] at HN
    clear HE HO h0 c0 c9
    by_cases hcm : c = 5258966399
    · subst hcm
      generalize (lfF f t 5258966399).1 = n at *
      generalize longF f t = L at *
      clear hnx hal
      go_enter Try.func13, Try.ntmps13
      go_wp2_with fail
      refine (HN.out _).mono ?_
      rintro e w1 ⟨rfl, hb⟩
      have H1 := whide hb
      clear hb
      go_wp2_with fail
      refine (HL.out _).mono ?_
      rintro e w2 ⟨rfl, hb⟩
      have H2 := whide (H1.out.trans (hb.mono H1.out.size))
      clear hb H1
      go_wp2_with fail
      refine (HK.out _).mono ?_
      rintro e w3 ⟨rfl, hb⟩
      have H3 := whide (H2.out.trans (hb.mono H2.out.size))
      clear hb
      go_wp2
      go_ret
      exact ⟨rfl, H3.out⟩
    · have HM := whide (fun w => wleft_any f t (c + 1) w (by omega) (by omega))
      rw [hnx (by omega)] at HM
      have hcm' : (c == 5258966399) = false := by simpa using hcm
      generalize (lfF f t c).1 = n at *
      generalize longF f t = L at *
      clear hnx hcm
      by_cases hL : L = 1440
      · obtain rfl := hal hL
        subst hL
        rw [if_pos rfl] at HM
        simp only at HM
        clear hal
        go_enter Try.func13, Try.ntmps13
        go_wp2_with fail
        refine (HN.out _).mono ?_
        rintro e w1 ⟨rfl, hb⟩
        have H1 := whide hb
        clear hb
        go_wp2_with fail
        refine (HL.out _).mono ?_
        rintro e w2 ⟨rfl, hb⟩
        have H2 := whide (H1.out.trans (hb.mono H1.out.size))
        clear hb H1
        go_wp2_with fail
        refine (HM.out _).mono ?_
        rintro e w3 ⟨rfl, hb⟩
        have H3 := whide (H2.out.trans (hb.mono H2.out.size))
        clear hb H2
        go_wp2_with fail
        refine (HL.out _).mono ?_
        rintro e w4 ⟨rfl, hb⟩
        have H4 := whide (H3.out.trans (hb.mono H3.out.size))
        clear hb H3
        go_wp2_with fail
        refine (HK.out _).mono ?_
        rintro e w5 ⟨rfl, hb⟩
        have H5 := whide (H4.out.trans (hb.mono H4.out.size))
        clear hb
        go_wp2
        go_ret
        exact ⟨rfl, H5.out⟩
      · rw [if_neg hL] at HM
        have hL' : (L == 1440) = false := by simpa using hL
        clear hal hL
        by_cases hn : n = 1
        · subst hn
          rw [if_pos rfl] at HM
          simp only at HM
          go_enter Try.func13, Try.ntmps13
          go_wp2_with fail
          refine (HN.out _).mono ?_
          rintro e w1 ⟨rfl, hb⟩
          have H1 := whide hb
          clear hb
          go_wp2_with fail
          refine (HL.out _).mono ?_
          rintro e w2 ⟨rfl, hb⟩
          have H2 := whide (H1.out.trans (hb.mono H1.out.size))
          clear hb H1
          go_wp2_with fail
          refine (HM.out _).mono ?_
          rintro e w3 ⟨rfl, hb⟩
          have H3 := whide (H2.out.trans (hb.mono H2.out.size))
          clear hb H2
          go_wp2_with fail
          refine (HL.out _).mono ?_
          rintro e w4 ⟨rfl, hb⟩
          have H4 := whide (H3.out.trans (hb.mono H3.out.size))
          clear hb H3
          go_wp2_with fail
          refine (HK.out _).mono ?_
          rintro e w5 ⟨rfl, hb⟩
          have H5 := whide (H4.out.trans (hb.mono H4.out.size))
          clear hb
          go_wp2
          go_ret
          exact ⟨rfl, H5.out⟩
        · rw [if_neg hn] at HM
          simp only at HM
          have hn' : (n == 1) = false := by simpa using hn
          clear hn
          go_enter Try.func13, Try.ntmps13
          go_wp2_with fail
          refine (HN.out _).mono ?_
          rintro e w1 ⟨rfl, hb⟩
          have H1 := whide hb
          clear hb
          go_wp2_with fail
          refine (HL.out _).mono ?_
          rintro e w2 ⟨rfl, hb⟩
          have H2 := whide (H1.out.trans (hb.mono H1.out.size))
          clear hb H1
          go_wp2_with fail
          refine (HM.out _).mono ?_
          rintro e w3 ⟨rfl, hb⟩
          have H3 := whide (H2.out.trans (hb.mono H2.out.size))
          clear hb H2
          go_wp2_with fail
          refine (HL.out _).mono ?_
          rintro e w4 ⟨rfl, hb⟩
          have H4 := whide (H3.out.trans (hb.mono H3.out.size))
          clear hb H3
          go_wp2_with fail
          refine (HK.out _).mono ?_
          rintro e w5 ⟨rfl, hb⟩
          have H5 := whide (H4.out.trans (hb.mono H4.out.size))
          clear hb
          go_wp2
          go_ret
          exact ⟨rfl, H5.out⟩
  · have h1 := HE h0
    rw [h1] at HN
    have h0' : ((lfF f t c).2 != 0) = true := by simpa using h0
    generalize (lfF f t c).2 = x at *
    clear HE HO h0 h1 c0 c9
    go_enter Try.func13, Try.ntmps13
    go_wp2_with fail
    refine (HN.out _).mono ?_
    rintro e w1 ⟨rfl, hb⟩
    have H1 := whide hb
    clear hb
    go_wp2_with fail
    refine (HK.out _).mono ?_
    rintro e w3 ⟨rfl, hb⟩
    have H3 := whide (H1.out.trans (hb.mono H1.out.size))
    clear hb
    go_wp2
    go_ret
    exact ⟨rfl, H3.out⟩
end Go.Proofs.Ytkpambipgcjaiaa
