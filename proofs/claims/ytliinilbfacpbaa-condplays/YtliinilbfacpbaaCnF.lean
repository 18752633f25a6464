/- Law CondPlays of layer 11. -/
import Derived.Test.YtliinilbfacpbaaCnG
import Derived.Test.YtliinilbfacpbaaCnE
namespace Go.Proofs.Ytliinilbfacpbaa
open Go.ChangeShapes Go.WideShapes Go.ChangeAt Go.RowKit Go.DsMem Go.DsCo
set_option linter.unusedVariables false
set_option maxHeartbeats 32000000 in
set_option maxRecDepth 20000 in
/-- law CondPlays -/
theorem plays11 (l : List A11) (c : Cn) (ao : Option Addr) (ac : Nat) (w : World) (hl : A11Rd w ao l) (hlc : l.length ≤ ac) (hc : fitC c) :
    Calls Try.prog 3 #[.slice ao l.length ac, .agg #[.string c.nm, .int .i64 c.day]] w fun e w' => e = .returned (.bool true) ∧ Below w.heap.size w w' := by
  have HLR := hide hl
  have HC := hide hc
  clear hl hc
  obtain ⟨q, hq⟩ : ∃ q, w.heap.size = q := ⟨_, rfl⟩
  have BX0 := BoxC.new w c 24
  have HBL0 : Below w.heap.size w (w.alloc (.cells #[.string c.nm, .int .i64 c.day] 24)) := (Below.refl _ _).alloc (Nat.le_refl _) _
  have hs0 : (w.alloc (.cells #[.string c.nm, .int .i64 c.day] 24)).heap.size = q + 1 := by simp [hq]
  obtain ⟨w0, hw0⟩ : ∃ w0, w0 = w.alloc (.cells #[.string c.nm, .int .i64 c.day] 24) := ⟨_, rfl⟩
  rw [← hw0] at BX0 HBL0 hs0
  rw [hq] at BX0 HBL0 ⊢
  have BX := hide BX0
  have HB0 := hide HBL0
  have HS0 := hide hs0
  have HN := hide (cnew_any w0)
  rw [hs0] at HN
  clear BX0 HBL0 hs0
  unfold ptr at HN
  go_enter Try.func3, Try.ntmps3
  go_wp2_with fail
  rw [← hw0]
  clear hw0
  refine HN.out.mono ?_
  rintro e w1 ⟨rfl, hs1, hb1⟩
  have hs0 := HS0.out
  have HS1 := hide hs1
  have HB1 : Hid (Below q w w1) := HB0.out.trans (hb1.mono (by omega))
  have BX1 := hide (BX.out.only' (S := fun _ => False) ⟨hb1.os, hb1.tape, hb1.output, hb1.size, fun i hi _ => hb1.block i (by omega)⟩ (fun h => h))
  have hlt1 := hs1.ltp
  have HN2 := hide (rnew_any w1)
  unfold ptr at HN2
  obtain ⟨pr, hpr⟩ : ∃ pr, w1.heap.size = pr := ⟨_, rfl⟩
  rw [hpr] at HN2 hlt1
  have HPR := hide hpr
  clear hs1 hb1 hpr HN hs0
  go_wp2_with fail
  refine HN2.out.mono ?_
  rintro e w2 ⟨rfl, hs2, hb2⟩
  have HS2 : Hid (BothS w2 (q + 1 + 1) (q + 1) pr pr []) := ⟨HS1.out.below (by rw [HPR.out]; exact hb2), _, _, hs2⟩
  have HB2 : Hid (Below q w w2) := HB1.out.trans (hb2.mono (by omega))
  have BX2 := hide (BX1.out.below (by rw [HPR.out]; exact hb2))
  clear hs2 hb2 HN2
  go_wp2
  go_loopw [5, 7] (fun sp i wr => ∃ (k p1 B1 : Nat) (L1 : List Cn), k ≤ l.length ∧ i = .int .i64 k ∧ k ≤ 300 ∧ sp = .pointer (some ⟨p1, 0, none⟩) ∧ BothS wr p1 B1 pr pr L1 ∧ Below q w wr ∧ BoxC wr q c ∧ q < B1) (fun _ i _ => 300 - (intOf i).toNat)
  case atStart => exact ⟨0, q + 1 + 1, q + 1, [], Nat.zero_le _, rfl, by omega, rfl, HS2.out, HB2.out, BX2.out, by omega⟩
  case round =>
    obtain ⟨k, p1, B1, L1, hk, rfl, hk300, rfl, hbo, hbl, hbx, hqB⟩ := hrel
    have HBO := hide hbo
    have HBL := hide hbl
    have HBX := hide hbx
    have hszr : q < wr.heap.size := by have := hbo.st.ltB; omega
    clear hbo hbl hbx
    by_cases hlt : k < l.length ∧ k < 300
    · obtain ⟨h1, h2⟩ := hlt
      obtain ⟨g, o, rfl, hin, hfit⟩ := (HLR.out.mono (fun a u hc => Below.keeps HBL.out (by omega) hc)) k h1
      obtain ⟨x0, x1, x2⟩ := hin
      have HFIT := hide hfit
      clear hfit
      generalize hlk : l[k] = a at *
      clear hlk
      obtain ⟨uo, uc, hrf⟩ := HBO.out.rf
      have HRF := hide hrf
      have HAP := hide (st_apart HBO.out.st hrf)
      have hprl := hrf.lt
      have hB1l := HBO.out.st.ltB
      have hp1l := HBO.out.st.ltp
      clear hrf
      by_cases hk8 : a.kind = 8
      · have HCP := hide (ccopy_any p1 B1 L1 wr HBO.out.st)
        unfold ptr at HCP
        rw [hk8] at x0
        go_wp2_with fail
        refine HCP.out.mono ?_
        rintro e w3 ⟨p2, B2, rfl, hst3, hp2, hB2, hb3⟩
        have HB3w := hide hb3
        have HST3 := hide hst3
        have HOL3 := hide (HBO.out.below hb3)
        have HBL3 := hide (HBL.out.trans (hb3.mono (by omega)))
        have HBX3 := hide (HBX.out.below hb3)
        have HAD := hide (cadd_any ⟨⟨#[122, 122]⟩, 1⟩ p1 B1 L1 w3 HOL3.out.st ⟨by show 2 ≤ _; omega, by show -9223372036854775808 ≤ (1 : Int); omega, by show (1 : Int) ≤ 9223372036854775807; omega⟩)
        unfold ptr cvl at HAD
        clear hst3 hb3 HCP x0 x1 x2
        go_wp2_with fail
        refine HAD.out.mono ?_
        rintro e w4 ⟨rfl, hst4, ho4⟩
        have HDA := hide (cdropall_any ⟨#[97]⟩ p1 B1 _ w4 hst4)
        unfold ptr at HDA
        have HST4 := hide (HST3.out.only ho4 (by omega) (by omega))
        have HRF4 := hide ((HRF.out.only (Only.below (S := fun _ => False) HB3w.out) (fun h => h) (fun _ _ _ h => h)).only ho4 HAP.out.2.1 HAP.out.2.2)
        have HBL4 := hide (HBL3.out.trans (ho4.toBelow (by have := HBL3.out.size; omega) (fun i hi => by omega)))
        have HBX4 := hide (HBX3.out.only' ho4 (by omega))
        clear hst4 ho4 HAD
        go_wp2_with fail
        refine HDA.out.mono ?_
        rintro e w5 ⟨rfl, hst5, ho5⟩
        have HBO5 : Hid (BothS w5 p2 B2 pr pr L1) := ⟨HST4.out.only ho5 (by omega) (by omega), _, _, HRF4.out.only ho5 HAP.out.2.1 HAP.out.2.2⟩
        have HBL5 : Hid (Below q w w5) := HBL4.out.trans (ho5.toBelow (by have := HBL4.out.size; omega) (fun i hi => by omega))
        have HBX5 : Hid (BoxC w5 q c) := HBX4.out.only' ho5 (by omega)
        have hqB2 : q < B2 := by omega
        clear hst5 ho5 HDA HST4 HRF4 HBL4 HBX4 HST3 HOL3 HBL3 HBX3 HB3w HBO HBL HBX HRF HAP hqB hp2 hB2 hprl hB1l hp1l
        have hqB := hqB2
        have HOB : Hid (¬ q = B2) := by have := HBO5.out.st.ltB; exact hide (by omega)
        have hsz5 : q < w5.heap.size := by have := HBO5.out.st.ltB; have := HBX5.out.c0; exact World.block_lt_of_cell? w5 _ this
        have HLI := hide (clist_any p2 B2 L1 w5 HBO5.out.st)
        unfold ptr at HLI
        have h128 := HBO5.out.st.fine.le
        go_wp2_with fail
        refine HLI.out.mono ?_
        rintro e w6 ⟨g, cap, rfl, hrow, hb6⟩
        have hge := hrow.ge
        have hgl := hrow.lt
        obtain ⟨cur, hcur, _, hcap, hcm, hcs, _⟩ := hrow.block
        have HRD1 := hide hrow.rd
        have HBO6 := hide (HBO5.out.below hb6)
        have HBL6 := hide (HBL5.out.trans (hb6.mono (by omega)))
        have HBX6 := hide (HBX5.out.below hb6)
        have HCUR := hide hcur
        have HB56 := hide hb6
        clear hrow hb6 HLI hcur
        obtain ⟨uo, uc, hrf⟩ := HBO6.out.rf
        have HRF6 := hide hrf
        have hcap2 := hrf.cap
        have c0 := hrf.c0
        obtain ⟨x0, x1⟩ := HBX6.out
        have HSM := hide (fun w' (h : Below w6.drew.heap.size w6.drew w') => csame_any L1 L1 (some ⟨g, 0, none⟩) uo cap uc w' (HRD1.out.mono (fun a u hc => Below.keeps h (Nat.le_refl _) hc)) (hrf.rd.mono (fun a u hc => Below.keeps h (Nat.le_refl _) hc)) hcap hcap2 (by omega))
        have HSO := hide (show ∀ w', Below w6.drew.heap.size w6.drew w' → StAt w' p2 B2 L1 from fun w' h => HBO6.out.st.drew.below h)
        have HRO := hide (show ∀ w', Below w6.drew.heap.size w6.drew w' → RfSt w' pr pr uo uc L1 from fun w' h => hrf.drew.below h)
        have KP := hide (show ∀ w', Below w6.drew.heap.size w6.drew w' → w'.cell? ⟨pr, 0, none⟩ = some (.slice uo L1.length uc) ∧ w'.cell? ⟨q, 0, none⟩ = some (.string c.nm) ∧ w'.cell? ⟨q, 1, none⟩ = some (.int .i64 c.day) from fun w' h => ⟨Below.keeps h (Nat.le_refl _) c0, Below.keeps h (Nat.le_refl _) x0, Below.keeps h (Nat.le_refl _) x1⟩)
        have HLN := hide (fun w' h => clen_any p2 B2 L1 w' h)
        have HHS := hide (fun w' h => chas_any c p2 B2 L1 w' h HC.out)
        have HAN := hide (fun w' h => cany_any c.nm p2 B2 L1 w' h)
        have HRH := hide (fun w' h => rhas_any c pr pr uo uc L1 w' h)
        have HRA := hide (fun w' h => rany_any c.nm pr pr uo uc L1 w' h)
        rw [eqB_true rfl] at HSM
        unfold ptr at HLN HHS HAN HRH HRA
        unfold cvl at HHS HRH
        clear hrf
        generalize inB c L1 = r1 at *
        generalize anyB c.nm L1 = r2 at *
        have e1 : (r1 != r1) = false := by simp
        have e2 : (r2 != r2) = false := by simp
        have e3 : ((L1.length : Int) != (L1.length : Int)) = false := by simp
        go_wp2
        first
          | (go_region_held3 (fun w' => w'.cell? ⟨pr, 0, none⟩ = some (.slice uo L1.length uc) ∧ w'.cell? ⟨q, 0, none⟩ = some (.string c.nm) ∧ w'.cell? ⟨q, 1, none⟩ = some (.int .i64 c.day))
              (go_keep)
              (first
                | (go_at_call 15; refine (HSM.out _ (by exact Below.refl _ _)).mono ?_; rintro e w7 ⟨rfl, hc7⟩; obtain ⟨k0, k1, k2⟩ := KP.out _ hc7)
                | (go_at_call 16; refine (HLN.out _ (by exact HSO.out _ hc7)).mono ?_; rintro e w8 ⟨rfl, rfl⟩)
                | (go_at_call 17; refine (HHS.out _ (by exact HSO.out _ hc7)).mono ?_; rintro e w9 ⟨rfl, hb9⟩; have hc9 := hc7.trans (hb9.mono hc7.size); clear hb9; obtain ⟨k3, k4, k5⟩ := KP.out _ hc9)
                | (go_at_call 18; refine (HRH.out _ (by exact HRO.out _ hc9)).mono ?_; rintro e w10 ⟨rfl, hb10⟩; have hc10 := hc9.trans (hb10.mono hc9.size); clear hb10; obtain ⟨k6, k7, k8⟩ := KP.out _ hc10)
                | (go_at_call 19; refine (HAN.out _ (by exact HSO.out _ hc10)).mono ?_; rintro e w11 ⟨rfl, hb11⟩; have hc11 := hc10.trans (hb11.mono hc10.size); clear hb11; obtain ⟨k9, k10, k11⟩ := KP.out _ hc11)
                | (go_at_call 20; refine (HRA.out _ (by exact HRO.out _ hc11)).mono ?_; rintro e w12 ⟨rfl, hb12⟩; have hc12 := hc11.trans (hb12.mono hc11.size); clear hb12; obtain ⟨k12, k13, k14⟩ := KP.out _ hc12)))
          | fail
        have HW12 : Hid (Below w6.heap.size w6 w12) := ⟨hc12.os, hc12.tape, hc12.output, hc12.size, hc12.block⟩
        have HCUR12 : Hid (w12.heap[g]? = some (.cells cur 24 (0, 0))) := (HW12.out.block g hgl).trans HCUR.out
        clear hc7 hc9 hc10 hc11 hc12 k0 k1 k2 k3 k4 k5 k6 k7 k8 k9 k10 k11 k12 k13 k14 e1 e2 e3 c0 x0 x1
        go_wp2
        go_loopw [10] (fun j wx => ∃ (t : Nat) (cu : Array Value), t ≤ L1.length ∧ j = .int .i64 t ∧ wx.heap[g]? = some (.cells cu 24 (0, 0)) ∧ cu.size = cap * 2 ∧ Only (· = g) w12 wx) (fun j _ => L1.length - (intOf j).toNat)
        case atStart => exact ⟨0, cur, Nat.zero_le _, rfl, HCUR12.out, hcs, Only.refl _ _⟩
        case round =>
          rename World => wx
          obtain ⟨t, cu, ht, rfl, hcu, hcus, hox⟩ := hrel
          have HCU := hide hcu
          have HOX := hide hox
          clear hcu hox
          by_cases htl : t < L1.length
          · have hix : t * 2 < cu.size := by omega
            have hcell : wx.cell? ⟨g, t * 2, none⟩ = some cu[t * 2] := by rw [cell_of HCU.out, Array.getElem?_eq_getElem hix]
            have hfr : wx.frozen? ⟨g, t * 2, none⟩ = false := frozen_of HCU.out
            have ht0 : (0 : Int) ≤ (t : Int) := by omega
            have ht1 : (t : Int) < ((L1.length : Nat) : Int) := by omega
            have HNX : Hid ((wx.setCell ⟨g, t * 2, none⟩ (.string ⟨#[63]⟩)).heap[g]? = some (.cells (cu.setIfInBounds (t * 2) (.string ⟨#[63]⟩)) 24 (0, 0)) ∧ Only (· = g) w12 (wx.setCell ⟨g, t * 2, none⟩ (.string ⟨#[63]⟩))) := ⟨hset_same HCU.out _, HOX.out.trans (Only.set wx g (t * 2) _) (fun _ _ h => h)⟩
            go_wp2
            go_roundw
            case rel => exact ⟨t + 1, _, by omega, by go_num, HNX.out.1, by simpa using hcus, HNX.out.2⟩
            case measure => simp [intOf]; omega
          · have HOF : Hid (Only (· = g) w5 wx) := (Only.below (HB56.out.trans (HW12.out.mono HB56.out.size))).trans HOX.out (fun _ _ h => h)
            have HBF : Hid (BothS wx p2 B2 pr pr L1) := HBO5.out.only HOF.out (fun i hi e => by omega)
            have HLF : Hid (Below q w wx) := HBL5.out.trans (HOF.out.toBelow (by omega) (fun i hi => by omega))
            have HXF : Hid (BoxC wx q c) := HBX5.out.only' HOF.out (by omega)
            go_wp2
            go_roundw
            case rel => exact ⟨k + 1, p2, B2, L1, by omega, by go_num, by omega, rfl, HBF.out, HLF.out, HXF.out, hqB⟩
            case measure => simp [intOf]; omega
      · have HD := hide (do_any a.kind a.c HFIT.out p1 B1 pr pr L1 wr HBO.out (by omega))
        have hk8' : (a.kind == 8) = false := beq_false_of_ne hk8
        go_wp2_with fail
        refine HD.out.mono ?_
        rintro e w5 ⟨rfl, ⟨L2, hbo5⟩, ho5⟩
        have hqpr : Hid (¬ q = pr) := by have := HPR.out; have := HBX.out.c0; exact hide (by omega)
        have HBO5 := hide hbo5
        have HBL5 : Hid (Below q w w5) := HBL.out.trans (ho5.toBelow (by omega) (fun i hi => by omega))
        have HBX5 : Hid (BoxC w5 q c) := HBX.out.only' ho5 (fun e => by have := hqpr.out; omega)
        clear hbo5 ho5 HD HBO HBL HBX HRF HAP hprl hB1l hp1l x0 x1 x2
        have HOB : Hid (¬ q = B1) := by have := HBO5.out.st.ltB; exact hide (by omega)
        have hsz5 : q < w5.heap.size := by have := HBO5.out.st.ltB; have := HBX5.out.c0; exact World.block_lt_of_cell? w5 _ this
        have HLI := hide (clist_any p1 B1 L2 w5 HBO5.out.st)
        unfold ptr at HLI
        have h128 := HBO5.out.st.fine.le
        go_wp2_with fail
        refine HLI.out.mono ?_
        rintro e w6 ⟨g, cap, rfl, hrow, hb6⟩
        have hge := hrow.ge
        have hgl := hrow.lt
        obtain ⟨cur, hcur, _, hcap, hcm, hcs, _⟩ := hrow.block
        have HRD1 := hide hrow.rd
        have HBO6 := hide (HBO5.out.below hb6)
        have HBL6 := hide (HBL5.out.trans (hb6.mono (by omega)))
        have HBX6 := hide (HBX5.out.below hb6)
        have HCUR := hide hcur
        have HB56 := hide hb6
        clear hrow hb6 HLI hcur
        obtain ⟨uo, uc, hrf⟩ := HBO6.out.rf
        have HRF6 := hide hrf
        have hcap2 := hrf.cap
        have c0 := hrf.c0
        obtain ⟨x0, x1⟩ := HBX6.out
        have HSM := hide (fun w' (h : Below w6.drew.heap.size w6.drew w') => csame_any L2 L2 (some ⟨g, 0, none⟩) uo cap uc w' (HRD1.out.mono (fun a u hc => Below.keeps h (Nat.le_refl _) hc)) (hrf.rd.mono (fun a u hc => Below.keeps h (Nat.le_refl _) hc)) hcap hcap2 (by omega))
        have HSO := hide (show ∀ w', Below w6.drew.heap.size w6.drew w' → StAt w' p1 B1 L2 from fun w' h => HBO6.out.st.drew.below h)
        have HRO := hide (show ∀ w', Below w6.drew.heap.size w6.drew w' → RfSt w' pr pr uo uc L2 from fun w' h => hrf.drew.below h)
        have KP := hide (show ∀ w', Below w6.drew.heap.size w6.drew w' → w'.cell? ⟨pr, 0, none⟩ = some (.slice uo L2.length uc) ∧ w'.cell? ⟨q, 0, none⟩ = some (.string c.nm) ∧ w'.cell? ⟨q, 1, none⟩ = some (.int .i64 c.day) from fun w' h => ⟨Below.keeps h (Nat.le_refl _) c0, Below.keeps h (Nat.le_refl _) x0, Below.keeps h (Nat.le_refl _) x1⟩)
        have HLN := hide (fun w' h => clen_any p1 B1 L2 w' h)
        have HHS := hide (fun w' h => chas_any c p1 B1 L2 w' h HC.out)
        have HAN := hide (fun w' h => cany_any c.nm p1 B1 L2 w' h)
        have HRH := hide (fun w' h => rhas_any c pr pr uo uc L2 w' h)
        have HRA := hide (fun w' h => rany_any c.nm pr pr uo uc L2 w' h)
        rw [eqB_true rfl] at HSM
        unfold ptr at HLN HHS HAN HRH HRA
        unfold cvl at HHS HRH
        clear hrf
        generalize inB c L2 = r1 at *
        generalize anyB c.nm L2 = r2 at *
        have e1 : (r1 != r1) = false := by simp
        have e2 : (r2 != r2) = false := by simp
        have e3 : ((L2.length : Int) != (L2.length : Int)) = false := by simp
        go_wp2
        first
          | (go_region_held3 (fun w' => w'.cell? ⟨pr, 0, none⟩ = some (.slice uo L2.length uc) ∧ w'.cell? ⟨q, 0, none⟩ = some (.string c.nm) ∧ w'.cell? ⟨q, 1, none⟩ = some (.int .i64 c.day))
              (go_keep)
              (first
                | (go_at_call 15; refine (HSM.out _ (by exact Below.refl _ _)).mono ?_; rintro e w7 ⟨rfl, hc7⟩; obtain ⟨k0, k1, k2⟩ := KP.out _ hc7)
                | (go_at_call 16; refine (HLN.out _ (by exact HSO.out _ hc7)).mono ?_; rintro e w8 ⟨rfl, rfl⟩)
                | (go_at_call 17; refine (HHS.out _ (by exact HSO.out _ hc7)).mono ?_; rintro e w9 ⟨rfl, hb9⟩; have hc9 := hc7.trans (hb9.mono hc7.size); clear hb9; obtain ⟨k3, k4, k5⟩ := KP.out _ hc9)
                | (go_at_call 18; refine (HRH.out _ (by exact HRO.out _ hc9)).mono ?_; rintro e w10 ⟨rfl, hb10⟩; have hc10 := hc9.trans (hb10.mono hc9.size); clear hb10; obtain ⟨k6, k7, k8⟩ := KP.out _ hc10)
                | (go_at_call 19; refine (HAN.out _ (by exact HSO.out _ hc10)).mono ?_; rintro e w11 ⟨rfl, hb11⟩; have hc11 := hc10.trans (hb11.mono hc10.size); clear hb11; obtain ⟨k9, k10, k11⟩ := KP.out _ hc11)
                | (go_at_call 20; refine (HRA.out _ (by exact HRO.out _ hc11)).mono ?_; rintro e w12 ⟨rfl, hb12⟩; have hc12 := hc11.trans (hb12.mono hc11.size); clear hb12; obtain ⟨k12, k13, k14⟩ := KP.out _ hc12)))
          | fail
        have HW12 : Hid (Below w6.heap.size w6 w12) := ⟨hc12.os, hc12.tape, hc12.output, hc12.size, hc12.block⟩
        have HCUR12 : Hid (w12.heap[g]? = some (.cells cur 24 (0, 0))) := (HW12.out.block g hgl).trans HCUR.out
        clear hc7 hc9 hc10 hc11 hc12 k0 k1 k2 k3 k4 k5 k6 k7 k8 k9 k10 k11 k12 k13 k14 e1 e2 e3 c0 x0 x1
        go_wp2
        go_loopw [10] (fun j wx => ∃ (t : Nat) (cu : Array Value), t ≤ L2.length ∧ j = .int .i64 t ∧ wx.heap[g]? = some (.cells cu 24 (0, 0)) ∧ cu.size = cap * 2 ∧ Only (· = g) w12 wx) (fun j _ => L2.length - (intOf j).toNat)
        case atStart => exact ⟨0, cur, Nat.zero_le _, rfl, HCUR12.out, hcs, Only.refl _ _⟩
        case round =>
          rename World => wx
          obtain ⟨t, cu, ht, rfl, hcu, hcus, hox⟩ := hrel
          have HCU := hide hcu
          have HOX := hide hox
          clear hcu hox
          by_cases htl : t < L2.length
          · have hix : t * 2 < cu.size := by omega
            have hcell : wx.cell? ⟨g, t * 2, none⟩ = some cu[t * 2] := by rw [cell_of HCU.out, Array.getElem?_eq_getElem hix]
            have hfr : wx.frozen? ⟨g, t * 2, none⟩ = false := frozen_of HCU.out
            have ht0 : (0 : Int) ≤ (t : Int) := by omega
            have ht1 : (t : Int) < ((L2.length : Nat) : Int) := by omega
            have HNX : Hid ((wx.setCell ⟨g, t * 2, none⟩ (.string ⟨#[63]⟩)).heap[g]? = some (.cells (cu.setIfInBounds (t * 2) (.string ⟨#[63]⟩)) 24 (0, 0)) ∧ Only (· = g) w12 (wx.setCell ⟨g, t * 2, none⟩ (.string ⟨#[63]⟩))) := ⟨hset_same HCU.out _, HOX.out.trans (Only.set wx g (t * 2) _) (fun _ _ h => h)⟩
            go_wp2
            go_roundw
            case rel => exact ⟨t + 1, _, by omega, by go_num, HNX.out.1, by simpa using hcus, HNX.out.2⟩
            case measure => simp [intOf]; omega
          · have HOF : Hid (Only (· = g) w5 wx) := (Only.below (HB56.out.trans (HW12.out.mono HB56.out.size))).trans HOX.out (fun _ _ h => h)
            have HBF : Hid (BothS wx p1 B1 pr pr L2) := HBO5.out.only HOF.out (fun i hi e => by omega)
            have HLF : Hid (Below q w wx) := HBL5.out.trans (HOF.out.toBelow (by omega) (fun i hi => by omega))
            have HXF : Hid (BoxC wx q c) := HBX5.out.only' HOF.out (by omega)
            go_wp2
            go_roundw
            case rel => exact ⟨k + 1, p1, B1, L2, by omega, by go_num, by omega, rfl, HBF.out, HLF.out, HXF.out, hqB⟩
            case measure => simp [intOf]; omega
    · have hgo : ¬ k < l.length ∨ ¬ k < 300 := by omega
      by_cases hg1 : k < l.length
      all_goals
        go_wp2_with fail
        refine (known11 wr).mono ?_
        rintro e w3 ⟨rfl, hb3⟩
        have HB3 := hide (HBL.out.trans (hb3.mono (by omega)))
        clear hb3
        go_wp2
        go_ret
        exact ⟨rfl, HB3.out⟩
end Go.Proofs.Ytliinilbfacpbaa
