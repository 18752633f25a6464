/- Layer 7's law LexBack. -/
import Derived.Test.YtfbkcipjfjoifaaLyF
import Derived.Test.YtfbkcipjfjoifaaLyC
namespace Go.Proofs.Ytfbkcipjfjoifaa
open Go.ChangeShapes Go.WideShapes Go.ChangeAt Go.RowKit Go.DsMem Go.DsLx
set_option linter.unusedVariables false
set_option maxHeartbeats 8000000 in
set_option maxRecDepth 20000 in
theorem back7 (s : ByteArray) (w : World) (hs : s.size ≤ 140737488355000) : Calls Try.prog 4 #[.string s] w fun e w' => e = .returned (.bool true) ∧ Below w.heap.size w w' := by
  have HT := hide (fun w => tokens_any s w (by omega))
  have HBAD := hide (tokens_bad (s := s))
  have HF := hide (tokens_few s)
  have HK := hide known7
  have HS8 : Hid ((tokensF s).2.2 = 0 → (joinB ((tokensF s).1.map (fun t => t.text))).size ≤ 16384) := fun h => by
    have h1 := joined_size h
    have h2 : s.size ≤ 8192 := by
      unfold tokensF at h
      split at h
      · cases h
      · omega
    omega
  have HJ := hide (fun h => tokens_joined s h)
  obtain ⟨R1, hR1⟩ : ∃ R, tokensF s = R := ⟨_, rfl⟩
  rw [hR1] at HT HBAD HF HS8 HJ
  clear hR1
  obtain ⟨l, p1, e1⟩ := R1
  simp only at HBAD HF HS8 HJ
  have hlf := HF.out
  go_enter Try.func4, Try.ntmps4
  go_wp2_with fail
  refine (HT.out w).mono ?_
  rintro e w1 ⟨uo1, uc1, rfl, ho1, hb1⟩
  simp only at ho1 ⊢
  have HB1 := hide hb1
  have HO1 := hide (tkAt_row ho1 rfl)
  clear ho1 hb1 HT
  by_cases he : e1 = 0
  · subst he
    have hs8 := HS8.out rfl
    have HJN := hide (fun (w : World) (h : TkAt w uo1 uc1 0 l) => lexJoin_any l uo1 uc1 0 w (by omega) h (by omega))
    obtain ⟨x, hx⟩ : ∃ x, joinB (l.map (fun t => t.text)) = x := ⟨_, rfl⟩
    rw [hx] at HJ hs8 HJN
    clear hx HS8 HBAD
    go_wp2_with fail
    refine (HJN.out w1 HO1.out).mono ?_
    rintro e w2 ⟨rfl, hb2⟩
    have HB2 := hide hb2
    have HO2 := hide (HO1.out.keep hb2)
    have HW2 := hide (HB1.out.trans (hb2.mono HB1.out.size))
    clear hb2 HJN HO1
    have HT2 := hide (fun w => tokens_any x w (by omega))
    have HF2 := hide (tokens_few x)
    by_cases h8 : x.size ≤ 8192
    · obtain ⟨h0, hm⟩ := HJ.out h8
      obtain ⟨R2, hR2⟩ : ∃ R, tokensF x = R := ⟨_, rfl⟩
      rw [hR2] at HT2 HF2 h0 hm
      clear hR2 HJ
      obtain ⟨m, p2, e2⟩ := R2
      simp only at h0 hm HF2
      subst h0
      have hmf := HF2.out
      have HM := hide hm
      clear hm
      have hd1 : decide ((8192 : Int) < (x.size : Int)) = false := by simp; omega
      go_wp2_with fail
      refine (HT2.out w2).mono ?_
      rintro e w3 ⟨uo3, uc3, rfl, ho3, hb3⟩
      simp only at ho3 ⊢
      have HB3 := hide hb3
      have HO3 := hide (tkAt_row ho3 rfl)
      have HO23 := hide (HO2.out.keep hb3)
      have HW3 := hide (HW2.out.trans (hb3.mono HW2.out.size))
      clear ho3 hb3 HT2
      go_wp2_with fail
      refine (taken_any l uo1 uc1 0 w3 (by omega) HO23.out).mono ?_
      rintro e w4 ⟨uo4, uc4, rfl, hw4⟩
      have HW4 := hide hw4
      clear hw4
      have HO34 := hide (HO3.out.keep HW4.out.below)
      go_wp2_with fail
      refine (taken_any m uo3 uc3 0 w4 (by omega) HO34.out).mono ?_
      rintro e w5 ⟨uo5, uc5, rfl, hw5⟩
      have HW5 := hide hw5
      clear hw5
      go_wp2_with fail
      refine (same_true false l m uo4 uo5 uc4 uc5 0 0 w5 (by omega) (HW4.out.at_.keep HW5.out.below) HW5.out.at_ HM.out.symm).mono ?_
      rintro e w6 ⟨rfl, hb6⟩
      have HB6 := hide hb6
      clear hb6
      go_wp2_with fail
      refine (HK.out w6).mono ?_
      rintro e w7 ⟨rfl, hb7⟩
      have HB7 := hide hb7
      clear hb7
      go_wp2
      go_ret
      have h4 := HW3.out.trans (HW4.out.below.mono HW3.out.size)
      have h5 := h4.trans (HW5.out.below.mono h4.size)
      have h6 := h5.trans (HB6.out.mono h5.size)
      exact ⟨rfl, h6.trans (HB7.out.mono h6.size)⟩
    · have hR2 := tokens_long (x := x) (by omega)
      rw [hR2] at HT2
      clear hR2 HJ HF2
      have hd1 : decide ((8192 : Int) < (x.size : Int)) = true := by simp; omega
      go_wp2_with fail
      refine (HT2.out w2).mono ?_
      rintro e w3 ⟨uo3, uc3, rfl, ho3, hb3⟩
      simp only [List.length_nil] at ho3 ⊢
      have HW3 := hide (HW2.out.trans (hb3.mono HW2.out.size))
      clear ho3 hb3 HT2
      go_wp2_with fail
      all_goals first | (refine (HK.out w3).mono ?_; rintro e w4 ⟨rfl, hb4⟩; go_wp2; go_ret; exact ⟨rfl, HW3.out.trans (hb4.mono HW3.out.size)⟩) | (exfalso; omega)
  · have hl := HBAD.out he
    subst hl
    go_wp2_with fail
    all_goals first | (refine (HK.out w1).mono ?_; rintro e w4 ⟨rfl, hb4⟩; go_wp2; go_ret; exact ⟨rfl, HB1.out.trans (hb4.mono HB1.out.size)⟩) | (exfalso; omega)
end Go.Proofs.Ytfbkcipjfjoifaa
