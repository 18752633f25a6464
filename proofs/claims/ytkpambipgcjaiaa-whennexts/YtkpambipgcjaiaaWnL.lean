/- Layer 15's laws: known, WhenOpens, WhenNexts. -/
import Derived.Test.YtkpambipgcjaiaaWnD
import Derived.Test.YtkpambipgcjaiaaWnS
namespace Go.Proofs.Ytkpambipgcjaiaa
open Go.ChangeShapes Go.WideShapes Go.ChangeAt Go.RowKit DsWn
set_option linter.unusedVariables false
theorem wf_i64 {n : Int} (h : (Lit.int .i64 n).wf = true) : -9223372036854775808 ≤ n ∧ n ≤ 9223372036854775807 := by
  simp only [Lit.wf, Bool.and_eq_true, decide_eq_true_eq] at h
  exact ⟨h.1, h.2⟩
set_option maxHeartbeats 1000000 in
/-- dayshiftlaw15.known -/
theorem known15 (w : World) : Calls Try.prog 44 #[] w fun e w' => e = .returned (.bool true) ∧ Below w.heap.size w w' := by
  have HN := whide (fun w => wnext_any 1320 120 7380 w (by decide) (by decide))
  rw [show nextF 1320 120 7380 = (8520, 0) from by decide +kernel] at HN
  have HL := whide (fun w => wleft_any 1320 120 8580 w (by decide) (by decide))
  rw [show lfF 1320 120 8580 = (181, 0) from by decide +kernel] at HL
  have HO := whide (fun w => wopen_any 1320 120 60 w)
  rw [show openB 1320 120 60 = true from by decide +kernel] at HO
  have HP := whide (fun w => wopen_any 1320 120 180 w)
  rw [show openB 1320 120 180 = false from by decide +kernel] at HP
  have HT := whide (fun w => wlater_known w)
  go_enter Try.func44, Try.ntmps44
  go_wp2_with fail
  refine (HN.out _).mono ?_
  rintro e w1 ⟨rfl, hb⟩
  have H1 := whide hb
  clear hb
  go_wp2_with fail
  refine (HL.out _).mono ?_
  rintro e w2 ⟨rfl, hb⟩
  have H2 := whide (H1.out.trans (hb.mono H1.out.size))
  clear hb H1
  go_wp2_with fail
  refine (HO.out _).mono ?_
  rintro e w3 ⟨rfl, hb⟩
  have H3 := whide (H2.out.trans (hb.mono H2.out.size))
  clear hb H2
  go_wp2_with fail
  refine (HP.out _).mono ?_
  rintro e w4 ⟨rfl, hb⟩
  have H4 := whide (H3.out.trans (hb.mono H3.out.size))
  clear hb H3
  go_wp2_with fail
  refine (HT.out _).mono ?_
  rintro e w5 ⟨rfl, rfl⟩
  go_wp2
  go_ret
  exact ⟨rfl, H4.out⟩
set_option maxHeartbeats 1000000 in
theorem opens15 (f t m : Int) (w : World) : Calls Try.prog 9 #[.int .i64 f, .int .i64 t, .int .i64 m] w fun e w' => e = .returned (.bool true) ∧ Below w.heap.size w w' := by
  have HO := whide (fun w => wopen_any f t m w)
  have HR := whide (fun w => ropen_any f t m w)
  have HL := whide (fun w => wlong_any f t w)
  have HM := whide (fun w => rlong_any f t w)
  have HK := whide (fun w => known15 w)
  generalize openB f t m = P at *
  generalize longF f t = Q at *
  go_enter Try.func9, Try.ntmps9
  go_wp2_with fail
  refine (HO.out _).mono ?_
  rintro e w1 ⟨rfl, hb⟩
  have H1 := whide hb
  clear hb
  go_wp2_with fail
  refine (HR.out _).mono ?_
  rintro e w2 ⟨rfl, rfl⟩
  go_wp2_with fail
  refine (HL.out _).mono ?_
  rintro e w2 ⟨rfl, hb⟩
  have H2 := whide (H1.out.trans (hb.mono H1.out.size))
  clear hb H1
  go_wp2_with fail
  refine (HM.out _).mono ?_
  rintro e w3 ⟨rfl, rfl⟩
  go_wp2_with fail
  refine (HK.out _).mono ?_
  rintro e w3 ⟨rfl, hb⟩
  have H3 := whide (H2.out.trans (hb.mono H2.out.size))
  clear hb
  go_wp2
  go_ret
  exact ⟨rfl, H3.out⟩
set_option maxHeartbeats 1000000 in
theorem nexts15 (f t c : Int) (w : World) (c0 : -9223372036854775808 ≤ c) (c9 : c ≤ 9223372036854775807) : Calls Try.prog 10 #[.int .i64 f, .int .i64 t, .int .i64 c] w fun e w' => e = .returned (.bool true) ∧ Below w.heap.size w w' := by
  have HO := whide (fun w => wnext_any f t c w c0 c9)
  have HR := whide (fun w => rnext_any f t c w c0 c9)
  have HL := whide (fun w => wleft_any f t c w c0 c9)
  have HM := whide (fun w => rleft_any f t c w c0 c9)
  have HK := whide (fun w => known15 w)
  generalize nextF f t c = P at *
  generalize lfF f t c = Q at *
  obtain ⟨p1, p2⟩ := P
  obtain ⟨q1, q2⟩ := Q
  simp only at HO HR HL HM
  clear c0 c9
  go_enter Try.func10, Try.ntmps10
  go_wp2_with fail
  refine (HO.out _).mono ?_
  rintro e w1 ⟨rfl, hb⟩
  have H1 := whide hb
  clear hb
  go_wp2_with fail
  refine (HR.out _).mono ?_
  rintro e w2 ⟨rfl, rfl⟩
  go_wp2_with fail
  refine (HL.out _).mono ?_
  rintro e w2 ⟨rfl, hb⟩
  have H2 := whide (H1.out.trans (hb.mono H1.out.size))
  clear hb H1
  go_wp2_with fail
  refine (HM.out _).mono ?_
  rintro e w3 ⟨rfl, rfl⟩
  go_wp2_with fail
  refine (HK.out _).mono ?_
  rintro e w3 ⟨rfl, hb⟩
  have H3 := whide (H2.out.trans (hb.mono H2.out.size))
  clear hb
  go_wp2
  go_ret
  exact ⟨rfl, H3.out⟩
end Go.Proofs.Ytkpambipgcjaiaa
