/- Law CondBack of layer 11. -/
import Derived.Test.YtliinilbfacpbaaCmB
namespace Go.Proofs.Ytliinilbfacpbaa
open Go.ChangeShapes Go.WideShapes Go.ChangeAt Go.RowKit Go.DsMem Go.DsCo
set_option linter.unusedVariables false
theorem add_in {L : List Cn} {c : Cn} (hL : Fine L) (h : c ∈ L) : addF L c = (L, 0) := by
  unfold addF
  rw [if_neg (by simpa using hL.ok c h), if_pos h]
theorem drop_ins {L : List Cn} {c : Cn} (hL : Up L) (h : c ∉ L) : dropF (insL c L) c = L :=
  up_ext ((hL.ins h).filter _) hL fun d => by
    rw [mem_drop, mem_insL]
    constructor
    · rintro ⟨h1 | h1, h2⟩
      · exact absurd h1 h2
      · exact h1
    · exact fun h1 => ⟨.inr h1, fun e => h (e ▸ h1)⟩
theorem BoxC.only {S : Nat → Prop} {w w' : World} {p : Nat} {c : Cn} (h : BoxC w p c) (ho : Only S w w') (hs : ¬ S p) : BoxC w' p c := ⟨ho.cell h.c0 hs, ho.cell h.c1 hs⟩
/-- what becomes of one that is added and taken away -/
theorem back_cases {L : List Cn} (hL : Fine L) (c : Cn) : (c ∈ L ∧ addF L c = (L, 0)) ∨ (c ∉ L ∧ ∃ k : Int, (k == 0) = false ∧ addF L c = (L, k)) ∨ (c ∉ L ∧ ∃ M, addF L c = (M, 0) ∧ c ∈ M ∧ dropF M c = L) := by
  by_cases h : c ∈ L
  · exact .inl ⟨h, add_in hL h⟩
  · by_cases ho : okC c
    · by_cases hf : 128 ≤ L.length
      · refine .inr (.inl ⟨h, 4, rfl, ?_⟩)
        unfold addF
        rw [if_neg (by simpa using ho), if_neg h, if_pos hf]
      · exact .inr (.inr ⟨h, insL c L, add_new ho h (by omega), (mem_insL c c L).2 (.inl rfl), drop_ins hL.up h⟩)
    · refine .inr (.inl ⟨h, 1, rfl, ?_⟩)
      unfold addF
      rw [if_pos ho]
set_option maxHeartbeats 16000000 in
set_option maxRecDepth 20000 in
/-- law CondBack -/
theorem back11 (l : List Cn) (c : Cn) (uo : Option Addr) (uc : Nat) (w : World) (hl : CnsRd w uo l) (hlc : l.length ≤ uc) (hfl : ∀ x ∈ l, fitC x) (hc : fitC c) :
    Calls Try.prog 7 #[.slice uo l.length uc, .agg #[.string c.nm, .int .i64 c.day]] w fun e w' => e = .returned (.bool true) ∧ Below w.heap.size w w' := by
  have HLR := hide hl
  have HFL := hide hfl
  have HC := hide hc
  clear hl hfl hc
  obtain ⟨b, hb⟩ : ∃ b, w.heap.size = b := ⟨_, rfl⟩
  have BX0 := BoxC.new w c 24
  have HBL0 : Below w.heap.size w (w.alloc (.cells #[.string c.nm, .int .i64 c.day] 24)) := (Below.refl _ _).alloc (Nat.le_refl _) _
  have hs0 : (w.alloc (.cells #[.string c.nm, .int .i64 c.day] 24)).heap.size = b + 1 := by simp [hb]
  obtain ⟨w0, hw0⟩ : ∃ w0, w0 = w.alloc (.cells #[.string c.nm, .int .i64 c.day] 24) := ⟨_, rfl⟩
  rw [← hw0] at BX0 HBL0 hs0
  rw [hb] at BX0 HBL0 ⊢
  have BX := hide BX0
  have HB0 := hide HBL0
  have HN := hide (cnew_any w0)
  rw [hs0] at HN
  clear BX0 HBL0
  unfold ptr at *
  go_enter Try.func7, Try.ntmps7
  go_wp2_with fail
  rw [← hw0]
  have HS0 := hide hs0
  clear hw0 hs0
  refine HN.out.mono ?_
  rintro e w1 ⟨rfl, hs1, hb1⟩
  have HS1 := hide hs1
  have hs0 := HS0.out
  have HB1 : Hid (Below b w w1) := HB0.out.trans (hb1.mono (by omega))
  have BX1 := hide (BX.out.only (S := fun _ => False) ⟨hb1.os, hb1.tape, hb1.output, hb1.size, fun i hi _ => hb1.block i (by omega)⟩ (fun h => h))
  clear hs1 hb1 HN
  go_wp2
  go_loopw [6] (fun i wr => ∃ (k : Nat) (L : List Cn), k ≤ l.length ∧ i = .int .i64 k ∧ k ≤ 100 ∧ StAt wr (b + 1 + 1) (b + 1) L ∧ Below b w wr ∧ BoxC wr b c) (fun i _ => 100 - (intOf i).toNat)
  case atStart => exact ⟨0, [], Nat.zero_le _, rfl, by omega, HS1.out, HB1.out, BX1.out⟩
  case round =>
    obtain ⟨k, L, hk, rfl, hk100, hst, hbl, hbx⟩ := hrel
    have HST := hide hst
    have HBL := hide hbl
    have HBX := hide hbx
    have hszr : b ≤ wr.heap.size := by have := hbl.size; omega
    clear hst hbl hbx
    by_cases hlt : k < l.length ∧ k < 100
    · obtain ⟨h1, h2⟩ := hlt
      obtain ⟨g, o, rfl, hin⟩ := (HLR.out.mono (fun a u hc => Below.keeps HBL.out (by omega) hc)) k h1
      obtain ⟨x0, x1⟩ := hin
      have HA := hide (cadd_any l[k] (b + 1 + 1) (b + 1) L wr HST.out (HFL.out _ (List.getElem_mem h1)))
      unfold ptr cvl at HA
      generalize l[k] = x at *
      go_wp2_with fail
      refine HA.out.mono ?_
      rintro e w2 ⟨rfl, hst2, ho2⟩
      have HST2 := hide hst2
      have HBL2 := hide (HBL.out.trans (ho2.toBelow hszr (fun i hi => by omega)))
      have HBX2 := hide (HBX.out.only ho2 (by omega))
      clear hst2 ho2 x0 x1 HA
      go_wp2
      go_roundw
      case rel => exact ⟨k + 1, _, by omega, by go_num, by omega, HST2.out, HBL2.out, HBX2.out⟩
      case measure => simp [intOf]; omega
    · have HLI := hide (clist_any (b + 1 + 1) (b + 1) L wr HST.out)
      unfold ptr at HLI
      have HCASE := hide (back_cases HST.out.fine c)
      have h128 := HST.out.fine.le
      have HH0 := hide (fun w h => chas_any c (b + 1 + 1) (b + 1) L w h HC.out)
      unfold ptr cvl at HH0
      by_cases hg1 : k < l.length
      all_goals
        go_wp2_with fail
        refine HLI.out.mono ?_
        rintro e w2 ⟨g, cap, rfl, hrow, hb2⟩
        have hge := hrow.ge
        obtain ⟨cur, hcur, _, hcap, _⟩ := hrow.block
        have HROW := hide hrow
        have HST2 := hide (HST.out.below hb2)
        have HBL2 := hide (HBL.out.trans (hb2.mono hszr))
        have HBX2 := hide (HBX.out.below hb2)
        have hgB : ¬ g = b + 1 := by have := HST.out.ltB; omega
        clear hrow hb2 HLI hcur
        obtain ⟨x0, x1⟩ := HBX2.out
        go_wp2_with fail
        refine (HH0.out w2 HST2.out).mono ?_
        rintro e w3 ⟨rfl, hb3⟩
        have HST3 := hide (HST2.out.below hb3)
        have HBL3 := hide (HBL2.out.trans (hb3.mono (by have := HBL2.out.size; omega)))
        have HBX3 := hide (HBX2.out.below hb3)
        have HROW3 := hide (HROW.out.same (hb3.block g HROW.out.lt))
        clear hb3 x0 x1
        obtain ⟨x0, x1⟩ := HBX3.out
        rcases HCASE.out with ⟨hin, hadd⟩ | ⟨hin, k', hk', hadd⟩ | ⟨hin, M, hadd, hcM, hdM⟩
        · have e1 := inB_true hin
          rw [e1]
          have HA := hide (cadd_eq hadd HC.out (b + 1 + 1) (b + 1) w3 HST3.out)
          have HH := hide (fun w h => chas_any c (b + 1 + 1) (b + 1) L w h HC.out)
          have HD := hide (fun w h => cdrop_any c (b + 1 + 1) (b + 1) L w h HC.out)
          have HH2 := hide (fun w h => chas_any c (b + 1 + 1) (b + 1) (dropF L c) w h HC.out)
          have HLN := hide (fun w h => clen_any (b + 1 + 1) (b + 1) (dropF L c) w h)
          have HDL := hide (len_drop_mem HST.out.fine.up hin)
          unfold Dropped at HD
          rw [e1] at HH HD
          rw [inB_false (fun h => ((mem_drop L c c).1 h).2 rfl)] at HH2
          unfold ptr cvl at *
          generalize dropF L c = M at *
          have hdl := HDL.out
          clear e1 hadd hin HCASE
          go_wp2_with fail
          refine HA.out.mono ?_
          rintro e w4 ⟨rfl, hst4, ho4⟩
          have HST4 := hide hst4
          have HBL4 := hide (HBL3.out.trans (ho4.toBelow (by have := HBL3.out.size; omega) (fun i hi => by omega)))
          have HBX4 := hide (HBX3.out.only ho4 (by omega))
          clear hst4 ho4 x0 x1
          obtain ⟨x0, x1⟩ := HBX4.out
          go_wp2_with fail
          refine (HH.out w4 HST4.out).mono ?_
          rintro e w5 ⟨rfl, hb5⟩
          have HST5 := hide (HST4.out.below hb5)
          have HBL5 := hide (HBL4.out.trans (hb5.mono (by have := HBL4.out.size; omega)))
          have HBX5 := hide (HBX4.out.below hb5)
          clear hb5 x0 x1
          obtain ⟨x0, x1⟩ := HBX5.out
          go_wp2_with fail
          refine (HD.out w5 HST5.out).mono ?_
          rintro e w6 ⟨rfl, hst6, ho6⟩
          have HST6 := hide hst6
          have HBL6 := hide (HBL5.out.trans (ho6.toBelow (by have := HBL5.out.size; omega) (fun i hi => by omega)))
          have HBX6 := hide (HBX5.out.only ho6 (by omega))
          clear hst6 ho6 x0 x1
          obtain ⟨x0, x1⟩ := HBX6.out
          go_wp2_with fail
          refine (HH2.out w6 HST6.out).mono ?_
          rintro e w7 ⟨rfl, hb7⟩
          have HST7 := hide (HST6.out.below hb7)
          have HBL7 := hide (HBL6.out.trans (hb7.mono (by have := HBL6.out.size; omega)))
          clear hb7 x0 x1
          go_wp2_with fail
          refine (HLN.out w7 HST7.out).mono ?_
          rintro e w8 ⟨rfl, rfl⟩
          have heq : ((M.length : Int) == (L.length : Int) - 1) = true := by simp; omega
          go_wp2_with fail
          refine (known11 w8).mono ?_
          rintro e w9 ⟨rfl, hb9⟩
          have HBL9 := hide (HBL7.out.trans (hb9.mono (by have := HBL7.out.size; omega)))
          clear hb9
          go_wp2
          go_ret
          exact ⟨rfl, HBL9.out⟩
        · have e1 := inB_false hin
          rw [e1]
          have HA := hide (cadd_eq hadd HC.out (b + 1 + 1) (b + 1) w3 HST3.out)
          have HH := hide (fun w h => chas_any c (b + 1 + 1) (b + 1) L w h HC.out)
          have HD := hide (fun w h => cdrop_any c (b + 1 + 1) (b + 1) L w h HC.out)
          have HLN := hide (fun w h => clist_any (b + 1 + 1) (b + 1) L w h)
          unfold Dropped at HD
          rw [e1] at HH HD
          rw [drop_not hin] at HD
          unfold ptr cvl at *
          clear e1 hadd hin HCASE
          go_wp2_with fail
          refine HA.out.mono ?_
          rintro e w4 ⟨rfl, hst4, ho4⟩
          have HST4 := hide hst4
          have HBL4 := hide (HBL3.out.trans (ho4.toBelow (by have := HBL3.out.size; omega) (fun i hi => by omega)))
          have HBX4 := hide (HBX3.out.only ho4 (by omega))
          have HROW4 := hide (HROW3.out.only ho4 hgB)
          clear hst4 ho4 x0 x1
          obtain ⟨x0, x1⟩ := HBX4.out
          go_wp2_with fail
          refine (HH.out w4 HST4.out).mono ?_
          rintro e w5 ⟨rfl, hb5⟩
          have HST5 := hide (HST4.out.below hb5)
          have HBL5 := hide (HBL4.out.trans (hb5.mono (by have := HBL4.out.size; omega)))
          have HBX5 := hide (HBX4.out.below hb5)
          have HROW5 := hide (HROW4.out.same (hb5.block g HROW4.out.lt))
          clear hb5 x0 x1
          obtain ⟨x0, x1⟩ := HBX5.out
          go_wp2_with fail
          refine (HD.out w5 HST5.out).mono ?_
          rintro e w6 ⟨rfl, hst6, ho6⟩
          have HST6 := hide hst6
          have HBL6 := hide (HBL5.out.trans (ho6.toBelow (by have := HBL5.out.size; omega) (fun i hi => by omega)))
          have HROW6 := hide (HROW5.out.only ho6 hgB)
          clear hst6 ho6 x0 x1
          go_wp2_with fail
          refine (HLN.out w6 HST6.out).mono ?_
          rintro e w7 ⟨g', cap', rfl, hrow7, hb7⟩
          obtain ⟨cur', _, _, hcap', _⟩ := hrow7.block
          have HRD1 := hide hrow7.rd
          have HRD2 := hide ((HROW6.out.same (hb7.block g HROW6.out.lt))).rd
          have HBL7 := hide (HBL6.out.trans (hb7.mono (by have := HBL6.out.size; omega)))
          clear hrow7 hb7
          go_wp2_with fail
          refine (csame_any L L _ _ cap' cap w7 HRD1.out HRD2.out hcap' hcap (by omega)).mono ?_
          rintro e w8 ⟨rfl, hb8⟩
          rw [eqB_true rfl]
          have HBL8 := hide (HBL7.out.trans (hb8.mono (by have := HBL7.out.size; omega)))
          clear hb8
          go_wp2_with fail
          refine (known11 w8).mono ?_
          rintro e w9 ⟨rfl, hb9⟩
          have HBL9 := hide (HBL8.out.trans (hb9.mono (by have := HBL8.out.size; omega)))
          clear hb9
          go_wp2
          go_ret
          exact ⟨rfl, HBL9.out⟩
        · have e1 := inB_false hin
          rw [e1]
          have HA := hide (cadd_eq hadd HC.out (b + 1 + 1) (b + 1) w3 HST3.out)
          have HH := hide (fun w h => chas_any c (b + 1 + 1) (b + 1) M w h HC.out)
          have HD := hide (fun w h => cdrop_any c (b + 1 + 1) (b + 1) M w h HC.out)
          have HLN := hide (fun w h => clist_any (b + 1 + 1) (b + 1) L w h)
          unfold Dropped at HD
          rw [inB_true hcM] at HH HD
          rw [hdM] at HD
          unfold ptr cvl at *
          clear e1 hadd hin HCASE hcM hdM
          go_wp2_with fail
          refine HA.out.mono ?_
          rintro e w4 ⟨rfl, hst4, ho4⟩
          have HST4 := hide hst4
          have HBL4 := hide (HBL3.out.trans (ho4.toBelow (by have := HBL3.out.size; omega) (fun i hi => by omega)))
          have HBX4 := hide (HBX3.out.only ho4 (by omega))
          have HROW4 := hide (HROW3.out.only ho4 hgB)
          clear hst4 ho4 x0 x1
          obtain ⟨x0, x1⟩ := HBX4.out
          go_wp2_with fail
          refine (HH.out w4 HST4.out).mono ?_
          rintro e w5 ⟨rfl, hb5⟩
          have HST5 := hide (HST4.out.below hb5)
          have HBL5 := hide (HBL4.out.trans (hb5.mono (by have := HBL4.out.size; omega)))
          have HBX5 := hide (HBX4.out.below hb5)
          have HROW5 := hide (HROW4.out.same (hb5.block g HROW4.out.lt))
          clear hb5 x0 x1
          obtain ⟨x0, x1⟩ := HBX5.out
          go_wp2_with fail
          refine (HD.out w5 HST5.out).mono ?_
          rintro e w6 ⟨rfl, hst6, ho6⟩
          have HST6 := hide hst6
          have HBL6 := hide (HBL5.out.trans (ho6.toBelow (by have := HBL5.out.size; omega) (fun i hi => by omega)))
          have HROW6 := hide (HROW5.out.only ho6 hgB)
          clear hst6 ho6 x0 x1
          go_wp2_with fail
          refine (HLN.out w6 HST6.out).mono ?_
          rintro e w7 ⟨g', cap', rfl, hrow7, hb7⟩
          obtain ⟨cur', _, _, hcap', _⟩ := hrow7.block
          have HRD1 := hide hrow7.rd
          have HRD2 := hide ((HROW6.out.same (hb7.block g HROW6.out.lt))).rd
          have HBL7 := hide (HBL6.out.trans (hb7.mono (by have := HBL6.out.size; omega)))
          clear hrow7 hb7
          go_wp2_with fail
          refine (csame_any L L _ _ cap' cap w7 HRD1.out HRD2.out hcap' hcap (by omega)).mono ?_
          rintro e w8 ⟨rfl, hb8⟩
          rw [eqB_true rfl]
          have HBL8 := hide (HBL7.out.trans (hb8.mono (by have := HBL7.out.size; omega)))
          clear hb8
          go_wp2_with fail
          refine (known11 w8).mono ?_
          rintro e w9 ⟨rfl, hb9⟩
          have HBL9 := hide (HBL8.out.trans (hb9.mono (by have := HBL8.out.size; omega)))
          clear hb9
          go_wp2
          go_ret
          exact ⟨rfl, HBL9.out⟩
end Go.Proofs.Ytliinilbfacpbaa
