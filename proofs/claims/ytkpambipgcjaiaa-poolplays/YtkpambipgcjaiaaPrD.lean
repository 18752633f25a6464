/- Law PoolPlays of layer 13. Written by gen_prd.py. -/
import Derived.Test.YtkpambipgcjaiaaPrC
import Derived.BigQuiet
namespace Go.Proofs.Ytkpambipgcjaiaa
open Go.ChangeShapes Go.WideShapes Go.ChangeAt Go.RowKit Go.DsMem Go.DsCo Go.DsPl Go.DsMap
set_option linter.unusedVariables false
set_option linter.unusedSimpArgs false
/-- what holds before each round -/
def PLoop (W wr : World) (al : List A13) (pr : Nat) (q i : Value) : Prop := ∃ (k p a b : Nat) (R : List Rk) (H : List Hd) (X : List Rt) (uo vo : Option Addr) (uc vc : Nat), k ≤ al.length ∧ k ≤ 60 ∧ i = .int .i64 ((k : Nat) : Int) ∧ q = .pointer (some ⟨p, 0, none⟩) ∧ Duo W wr p a b R H pr X uo vo uc vc ∧ H.length ≤ k * 20
/-- what holds before each round of giving what the old pool holds -/
def QLoop (w2 wq : World) (p a b : Nat) (R : List Rk) (n : Nat) (i : Value) : Prop := ∃ (j : Nat) (H : List Hd), j ≤ n ∧ i = .int .i64 ((j : Nat) : Int) ∧ PoAt wq p a b R H ∧ H.length ≤ 1200 ∧ Only (· = b) w2 wq
set_option maxHeartbeats 32000000 in
set_option maxRecDepth 20000 in
theorem plays13 (l : List Rt) (al : List A13) (uo vo : Option Addr) (uc vc : Nat) (W : World) (hl : RtAt W uo uc l) (ha : AcAt W vo vc al) (hfl : FitR l) (hlb : l.length ≤ 4398046510976) (hlc : l.length ≤ uc) (hac : al.length ≤ vc) :
    Calls Try.prog 3 #[.slice uo l.length uc, .slice vo al.length vc] W fun e w' => e = .returned (.bool true) ∧ Below W.heap.size W w' := by
  have HK := hide (fun w => known13 w)
  by_cases h20 : 20 < l.length
  · have h20' : (20 : Int) < ((l.length : Nat) : Int) := by omega
    clear hl ha hfl
    go_enter Try.func3, Try.ntmps3
    go_wp2_with fail
    refine (HK.out _).mono ?_
    rintro e w1 ⟨rfl, hb1⟩
    have HB1 := hide hb1
    clear hb1
    go_wp2
    go_ret
    exact ⟨rfl, HB1.out⟩
  have h20' : ¬ (20 : Int) < ((l.length : Nat) : Int) := by omega
  have HRES := hide (res13_any l uo uc W (by omega) hl)
  have HNEW := hide (fun uo uc w hr => new_any l uo uc w hr hfl (by omega))
  have HRN := hide (fun w (hb : Below W.heap.size W w) => rnew_any l uo uc w (hl.keep hb) (by omega))
  obtain ⟨hnf, hnl⟩ := newF_fine l [] fine0 hfl
  have hRl : (newF l).length ≤ 20 := by have : (newF l).length ≤ 0 + l.length := hnl; omega
  have HA := hide ha
  obtain ⟨R, hR⟩ : ∃ R, newF l = R := ⟨_, rfl⟩
  unfold RNew at HRN
  rw [hR] at HNEW hRl HRN
  clear hl ha hfl hnf hnl hR
  unfold ptr at HNEW HRN
  go_enter Try.func3, Try.ntmps3
  go_wp2_with fail
  refine HRES.out.mono ?_
  rintro e w1 ⟨ro, rc, rfl, hrd, hb1⟩
  have HRD := hide hrd
  have HB1 := hide hb1
  clear hrd hb1 HRES
  go_wp2_with fail
  refine (HNEW.out _ _ _ HRD.out).mono ?_
  rintro e w2 ⟨rfl, hp2, hb2⟩
  have HB2 : Hid (Below W.heap.size W w2) := hide (HB1.out.trans (hb2.mono HB1.out.size))
  have hag : W.heap.size ≤ w1.heap.size := HB1.out.size
  have hbg : W.heap.size ≤ w1.heap.size + 1 := by omega
  obtain ⟨p, hp⟩ : ∃ p, p = w1.heap.size + 2 := ⟨_, rfl⟩
  obtain ⟨b, hb⟩ : ∃ b, b = w1.heap.size + 1 := ⟨_, rfl⟩
  obtain ⟨a, ha⟩ : ∃ a, a = w1.heap.size := ⟨_, rfl⟩
  rw [← hb] at hbg
  rw [← ha] at hag
  rw [← hp, ← hb, ← ha] at hp2
  rw [← hp]
  have HP2 := hide hp2
  clear hp hb ha hp2 hb2 HNEW HB1 HRD
  go_wp2_with fail
  refine (HRN.out _ HB2.out).mono ?_
  rintro e w3 ⟨rfl, X, ruo, ruc, hrp, hrk, hXl, hb3⟩
  obtain ⟨pr, hpr⟩ : ∃ pr, pr = w2.heap.size := ⟨_, rfl⟩
  rw [← hpr] at hrp ⊢
  have D3 : Hid (Duo W w3 p a b R [] pr X ruo none ruc 0) := hide ⟨HP2.out.below hb3, hrp, hrk, HB2.out.trans (hb3.mono HB2.out.size), hag, hbg, by have := HB2.out.size; omega, hRl⟩
  clear hb3 hrp hrk hpr HP2 HRN HB2 hag hbg hRl hXl
  go_wp2
  go_loopw [5, 7] (fun q i wr => PLoop W wr al pr q i) (fun _ i _ => 60 - (intOf i).toNat)
  case atStart => exact ⟨0, p, a, b, R, [], X, ruo, none, ruc, 0, Nat.zero_le _, Nat.zero_le _, rfl, rfl, D3.out, Nat.zero_le _⟩
  case round =>
    clear D3
    obtain ⟨k, p, a, b, R, H, X, uo, vo, uc, vc, hk, hk60, rfl, rfl, hd, hHl⟩ := hrel
    have HD := hide hd
    clear hd
    by_cases hlt : k < al.length ∧ k < 60
    · have HLT := hide hlt
      have hk1 : ((k : Nat) : Int) < ((al.length : Nat) : Int) := by omega
      have hk2 : ((k : Nat) : Int) < 60 := by omega
      have hk0 : (0 : Int) ≤ ((k : Nat) : Int) := by omega
      obtain ⟨c, hc⟩ : ∃ c, al[k]? = some c := ⟨_, List.getElem?_eq_getElem hlt.1⟩
      obtain ⟨g, o, rfl, _, hg, hcells⟩ := HA.out (by omega)
      obtain ⟨hin, hcs⟩ := hcells k c hc
      have e0 := Below.keeps HD.out.bel (Nat.le_refl _) (hcs 0 _ rfl)
      have e1 := Below.keeps HD.out.bel (Nat.le_refl _) (hcs 1 _ rfl)
      have e2 := Below.keeps HD.out.bel (Nat.le_refl _) (hcs 2 _ rfl)
      have e3 := Below.keeps HD.out.bel (Nat.le_refl _) (hcs 3 _ rfl)
      have e4 := Below.keeps HD.out.bel (Nat.le_refl _) (hcs 4 _ rfl)
      have hsw := HD.out.bel.size
      have HIN := hide hin
      clear hcells hcs hc hin
      obtain ⟨kd, ow, nl, no, nc, nm, nn⟩ := c
      have hnm : FitN nm := HIN.out.nmf
      simp only [Nat.add_zero] at e0 e1 e2 e3 e4
      obtain ⟨w1, hw1⟩ : ∃ w1, wr.alloc (.cells #[.int .i64 kd, .int .i64 ow, .slice no nl.length nc, .string nm, .int .i64 nn] 33) = w1 := ⟨_, rfl⟩
      have hb1 : Below wr.heap.size wr w1 := by rw [← hw1]; exact bel1 _ _
      have k0 : w1.cell? ⟨wr.heap.size, 0, none⟩ = some (.int .i64 kd) := by rw [← hw1]; simp [go_sem]
      have k1 : w1.cell? ⟨wr.heap.size, 1, none⟩ = some (.int .i64 ow) := by rw [← hw1]; simp [go_sem]
      have k2 : w1.cell? ⟨wr.heap.size, 2, none⟩ = some (.slice no nl.length nc) := by rw [← hw1]; simp [go_sem]
      have k3 : w1.cell? ⟨wr.heap.size, 3, none⟩ = some (.string nm) := by rw [← hw1]; simp [go_sem]
      have k4 : w1.cell? ⟨wr.heap.size, 4, none⟩ = some (.int .i64 nn) := by rw [← hw1]; simp [go_sem]
      have hz1 : wr.heap.size < w1.heap.size := by rw [← hw1]; simp
      have hlr := HD.out.po.lt
      have HNO : Hid (∀ i, (i = a ∨ i = b ∨ i = pr ∨ (Value.slice uo X.length uc).ownBlock = some i) → ¬ wr.heap.size = i) := hide (fun i hi e => by
        have h1 := HD.out.po.lt
        have h2 := block_lt HD.out.rp.blk
        rcases hi with hi | hi | hi | hi
        · omega
        · omega
        · omega
        · have := (HD.out.rp.rs.lt _ hi).2; omega)
      have D1 := hide (HD.out.below hb1)
      clear hb1 HD hlr
      go_upto_region 11 with fail
      try rw [hw1]
      clear hw1 e0 e1 e2 e3 e4
      by_cases h20n : 20 < nl.length
      · have h20i : (20 : Int) < ((nl.length : Nat) : Int) := by omega
        go_wp2
        go_roundw
        case rel => exact ⟨k + 1, p, a, b, R, H, X, uo, vo, uc, vc, by have := HLT.out; omega, by have := HLT.out; omega, by go_num, rfl, D1.out, by omega⟩
        case measure => have := HLT.out; simp [intOf]; omega
      have h20i : ¬ (20 : Int) < ((nl.length : Nat) : Int) := by omega
      by_cases h8 : kd = 8
      · subst h8
        have HCP := hide (pcopy_any p a b R H w1 D1.out.po (by omega) (by have := D1.out.rl; omega))
        unfold ptr at HCP
        go_wp2_with fail
        refine HCP.out.mono ?_
        rintro e w2 ⟨rfl, hc2, hb2⟩
        obtain ⟨pc, hpc⟩ : ∃ pc, pc = w1.heap.size + 2 := ⟨_, rfl⟩
        obtain ⟨bc, hbc⟩ : ∃ bc, bc = w1.heap.size + 1 := ⟨_, rfl⟩
        obtain ⟨ac, hac'⟩ : ∃ ac, ac = w1.heap.size := ⟨_, rfl⟩
        rw [← hpc, ← hbc, ← hac'] at hc2
        rw [← hpc]
        have hl1 := D1.out.po.lt
        have hpb : ¬ pc = b := by omega
        have hab : ¬ ac = b := by omega
        have hbb : ¬ bc = b := by omega
        have hWa : W.heap.size ≤ ac := by have := D1.out.bel.size; omega
        have hWb : W.heap.size ≤ bc := by have := D1.out.bel.size; omega
        have hDb : ¬ wr.heap.size = b := HNO.out b (.inr (.inl rfl))
        have HC2 := hide hc2
        have D2 := hide (D1.out.below hb2)
        have hc2n := Below.keeps hb2 (Nat.le_refl _) k3
        have HO2 : Hid (∀ wq H', PoAt wq p a b R H' → Only (· = b) w2 wq → Duo W wq pc ac bc R H pr X uo vo uc vc ∧ wq.cell? ⟨wr.heap.size, 3, none⟩ = some (.string nm)) := hide (fun wq H' hp ho =>
          ⟨⟨HC2.out.only ho hpb hab hbb, D2.out.rp.keepP D2.out.po (ho.mono (fun i _ e => .inr e)), D2.out.rk, D2.out.bel.trans (ho.toBelow D2.out.bel.size (fun i e => by rw [e]; exact D2.out.gb)), hWa, hWb, D2.out.gr, D2.out.rl⟩, ho.cell hc2n hDb⟩)
        have HFH := hide D2.out.po.fine.ho
        have hHb : H.length ≤ 1200 := by have := HLT.out; omega
        clear hpc hbc hac' hc2 hb2 hl1 HCP hpb hab hbb hWa hWb hDb HC2 hc2n k0 k1 k2 k3 k4 hz1 HNO D1 h20i
        obtain ⟨D, hD⟩ : ∃ D, wr.heap.size = D := ⟨_, rfl⟩
        rw [hD] at HO2 ⊢
        clear hD
        go_wp2
        go_loopw [10] (fun i wq => QLoop w2 wq p a b R H.length i) (fun i _ => H.length - (intOf i).toNat)
        case atStart => exact ⟨0, H, Nat.zero_le _, rfl, D2.out.po, hHb, Only.refl _ _⟩
        case round =>
          clear D2
          obtain ⟨j, H1, hj, rfl, hp, hH1, ho⟩ := hrel
          have HP := hide hp
          have HO := hide ho
          obtain ⟨hdd, hcn⟩ := HO2.out _ _ hp ho
          have hcr := hdd.rp.c1
          have HDD := hide hdd
          clear hp ho hdd
          by_cases hjl : j < H.length
          · have HJL := hide hjl
            have hj0 : (0 : Int) ≤ ((j : Nat) : Int) := by omega
            have hj1 : ((j : Nat) : Int) < ((H.length : Nat) : Int) := by omega
            obtain ⟨g2, hvo, _, hcells⟩ := HDD.out.rp.rdH (by omega)
            obtain ⟨f0, f1, f2, f3⟩ := hcells j hjl
            have HGV := hide (give_any (H[j]).1.1 (HFH.out _ (List.getElem_mem hjl)) p a b R H1 wr HP.out (by omega))
            have hgl := give_len H1 (H[j]).1.1
            rw [hvo] at hcr
            unfold ptr at HGV
            clear hcells HDD f1 f2 f3
            generalize H[j] = x at *
            go_wp2_with fail
            refine HGV.out.mono ?_
            rintro e w5 ⟨rfl, hp5, ho5⟩
            have HP5 := hide hp5
            have HO5 := hide (HO.out.trans ho5 (fun _ _ e => e))
            clear hp5 ho5 HGV HP HO
            go_wp2
            go_roundw
            case rel => exact ⟨j + 1, _, by have := HJL.out; omega, by go_num, HP5.out, by omega, HO5.out⟩
            case measure => have := HJL.out; simp [intOf]; omega
          · have hj1 : ¬ ((j : Nat) : Int) < ((H.length : Nat) : Int) := by omega
            have HT := HDD
            have hc3 := hcn
            clear HP HO HO2 HFH hcn hj hH1 HDD
            have hd := HT.out
            have hbd : Below wr.heap.size wr wr.drew := (Below.refl _ _).drew
            have hHt : H.length ≤ 1200 := by have := HLT.out; omega
            have HLS := hide (plist_any pc ac bc R H wr.drew (hd.po.below hbd) (by omega))
            have HSM := hide (fun w' g cap (hb : Below wr.heap.size wr w') (hr : HdRow w' wr.drew.heap.size g cap H) => same13_true H wr.drew.heap.size g cap pr (pr + 1) X uo vo uc vc w' hr (hd.rp.below hb) (by omega))
            have hcr := hd.rp.c1
            have KP : Hid (∀ w', Below wr.heap.size wr w' → w'.cell? ⟨pr, 1, none⟩ = some (.slice vo H.length vc) ∧ w'.cell? ⟨D, 3, none⟩ = some (.string nm)) := hide (fun w' hb => ⟨Below.keeps hb (Nat.le_refl _) hcr, Below.keeps hb (Nat.le_refl _) hc3⟩)
            have HBD := hide hbd
            have hxl := hd.xl
            have hrk := hd.rk
            have HUP := hide (fun w' (hb : Below wr.heap.size wr w') => units_any nm hnm pc ac bc R H w' (hd.po.below hb))
            have HUR := hide (fun w' (hb : Below wr.heap.size wr w') => runits_any nm pr (pr + 1) X H uo vo uc vc w' (hd.rp.below hb) (by omega))
            have HFP := hide (fun w' (hb : Below wr.heap.size wr w') => free_any nm hnm pc ac bc R H w' (hd.po.below hb) (by omega))
            have HFR := hide (fun w' (hb : Below wr.heap.size wr w') => rfree_any nm pr (pr + 1) X H uo vo uc vc w' (hd.rp.below hb) (by omega) (by omega) hd.po.fine.small (by rw [hd.rk]; exact hd.po.fine.ru))
            simp only [hrk] at HUR HFR
            generalize unitsF R nm = U at *
            generalize freeF R H nm = F at *
            obtain ⟨u1, u2⟩ := U
            obtain ⟨f1, f2⟩ := F
            simp only at HUP HUR HFP HFR
            unfold ptr at HLS HUP HUR HFP HFR
            unfold ListedH at HLS
            clear hd hbd hrk hxl
            go_wp2_with fail
            first
              | (go_region_held3 (fun w' => w'.cell? ⟨pr, 1, none⟩ = some (.slice vo H.length vc) ∧ w'.cell? ⟨D, 3, none⟩ = some (.string nm)) (go_keep)
                  (first
                    | (go_at_call 22; refine HLS.out.mono ?_; rintro e w10 ⟨g10, cap10, rfl, hr10, hb10⟩; have HR10 := hide hr10; have HB10 := hide (HBD.out.trans (hb10.mono HBD.out.size)); obtain ⟨q10, t10⟩ := KP.out _ HB10.out; clear hr10 hb10)
                    | (go_at_call 21; refine (HSM.out _ _ _ HB10.out HR10.out).mono ?_; rintro e w11 ⟨rfl, hb11⟩; have HB11 := hide (HB10.out.trans (hb11.mono HB10.out.size)); obtain ⟨q11, t11⟩ := KP.out _ HB11.out; clear hb11)))
              | fail
            all_goals
              go_wp2_with fail
              refine (HUP.out _ HB11.out).mono ?_
              rintro e w12 ⟨rfl, hb12⟩
              have HB12 := hide (HB11.out.trans (hb12.mono HB11.out.size))
              obtain ⟨q12, t12⟩ := KP.out _ HB12.out
              clear hb12
              go_wp2_with fail
              refine (HUR.out _ HB12.out).mono ?_
              rintro e w13 ⟨rfl, hb13⟩
              have HB13 := hide (HB12.out.trans (hb13.mono HB12.out.size))
              obtain ⟨q13, t13⟩ := KP.out _ HB13.out
              clear hb13
              go_wp2_with fail
              refine (HFP.out _ HB13.out).mono ?_
              rintro e w14 ⟨rfl, hb14⟩
              have HB14 := hide (HB13.out.trans (hb14.mono HB13.out.size))
              obtain ⟨q14, t14⟩ := KP.out _ HB14.out
              clear hb14
              go_wp2_with fail
              refine (HFR.out _ HB14.out).mono ?_
              rintro e w15 ⟨rfl, hb15⟩
              have HB15 := hide (HB14.out.trans (hb15.mono HB14.out.size))
              clear hb15
              go_wp2
              go_roundw
              case rel => exact ⟨k + 1, pc, ac, bc, R, H, X, uo, vo, uc, vc, by have := HLT.out; omega, by have := HLT.out; omega, by go_num, rfl, HT.out.below HB15.out, by omega⟩
              case measure => have := HLT.out; simp [intOf]; omega
      · have h8' : (kd == 8) = false := by simpa using h8
        have HDO := hide (do13_any ⟨kd, ow, nl, no, nc, nm, nn⟩ W HIN.out (by simp only; omega) w1 p a b pr R H X uo vo uc vc D1.out (by have := HLT.out; omega))
        unfold DoT ptr at HDO
        simp only at HDO
        go_wp2_with fail
        refine HDO.out.mono ?_
        rintro e w2 ⟨rfl, ⟨R2, H2, X2, vo2, vc2, hd2, hl2⟩, ho2⟩
        have hc3 := ho2.cell k3 (fun e => HNO.out _ e rfl)
        have HT := hide hd2
        clear hd2 ho2 HDO D1 HNO k0 k1 k2 k3 k4 hz1 h20i h8 h8'
        have hd := HT.out
        have hbd : Below w2.heap.size w2 w2.drew := (Below.refl _ _).drew
        have hHt : H2.length ≤ 1200 := by have := HLT.out; omega
        have HLS := hide (plist_any p a b R2 H2 w2.drew (hd.po.below hbd) (by omega))
        have HSM := hide (fun w' g cap (hb : Below w2.heap.size w2 w') (hr : HdRow w' w2.drew.heap.size g cap H2) => same13_true H2 w2.drew.heap.size g cap pr (pr + 1) X2 uo vo2 uc vc2 w' hr (hd.rp.below hb) (by omega))
        have hcr := hd.rp.c1
        have KP : Hid (∀ w', Below w2.heap.size w2 w' → w'.cell? ⟨pr, 1, none⟩ = some (.slice vo2 H2.length vc2) ∧ w'.cell? ⟨wr.heap.size, 3, none⟩ = some (.string nm)) := hide (fun w' hb => ⟨Below.keeps hb (Nat.le_refl _) hcr, Below.keeps hb (Nat.le_refl _) hc3⟩)
        have HBD := hide hbd
        have hxl := hd.xl
        have hrk := hd.rk
        have HUP := hide (fun w' (hb : Below w2.heap.size w2 w') => units_any nm hnm p a b R2 H2 w' (hd.po.below hb))
        have HUR := hide (fun w' (hb : Below w2.heap.size w2 w') => runits_any nm pr (pr + 1) X2 H2 uo vo2 uc vc2 w' (hd.rp.below hb) (by omega))
        have HFP := hide (fun w' (hb : Below w2.heap.size w2 w') => free_any nm hnm p a b R2 H2 w' (hd.po.below hb) (by omega))
        have HFR := hide (fun w' (hb : Below w2.heap.size w2 w') => rfree_any nm pr (pr + 1) X2 H2 uo vo2 uc vc2 w' (hd.rp.below hb) (by omega) (by omega) hd.po.fine.small (by rw [hd.rk]; exact hd.po.fine.ru))
        simp only [hrk] at HUR HFR
        generalize unitsF R2 nm = U at *
        generalize freeF R2 H2 nm = F at *
        obtain ⟨u1, u2⟩ := U
        obtain ⟨f1, f2⟩ := F
        simp only at HUP HUR HFP HFR
        unfold ptr at HLS HUP HUR HFP HFR
        unfold ListedH at HLS
        clear hd hbd hrk hxl
        go_wp2_with fail
        first
          | (go_region_held3 (fun w' => w'.cell? ⟨pr, 1, none⟩ = some (.slice vo2 H2.length vc2) ∧ w'.cell? ⟨wr.heap.size, 3, none⟩ = some (.string nm)) (go_keep)
              (first
                | (go_at_call 22; refine HLS.out.mono ?_; rintro e w10 ⟨g10, cap10, rfl, hr10, hb10⟩; have HR10 := hide hr10; have HB10 := hide (HBD.out.trans (hb10.mono HBD.out.size)); obtain ⟨q10, t10⟩ := KP.out _ HB10.out; clear hr10 hb10)
                | (go_at_call 21; refine (HSM.out _ _ _ HB10.out HR10.out).mono ?_; rintro e w11 ⟨rfl, hb11⟩; have HB11 := hide (HB10.out.trans (hb11.mono HB10.out.size)); obtain ⟨q11, t11⟩ := KP.out _ HB11.out; clear hb11)))
          | fail
        all_goals
          go_wp2_with fail
          refine (HUP.out _ HB11.out).mono ?_
          rintro e w12 ⟨rfl, hb12⟩
          have HB12 := hide (HB11.out.trans (hb12.mono HB11.out.size))
          obtain ⟨q12, t12⟩ := KP.out _ HB12.out
          clear hb12
          go_wp2_with fail
          refine (HUR.out _ HB12.out).mono ?_
          rintro e w13 ⟨rfl, hb13⟩
          have HB13 := hide (HB12.out.trans (hb13.mono HB12.out.size))
          obtain ⟨q13, t13⟩ := KP.out _ HB13.out
          clear hb13
          go_wp2_with fail
          refine (HFP.out _ HB13.out).mono ?_
          rintro e w14 ⟨rfl, hb14⟩
          have HB14 := hide (HB13.out.trans (hb14.mono HB13.out.size))
          obtain ⟨q14, t14⟩ := KP.out _ HB14.out
          clear hb14
          go_wp2_with fail
          refine (HFR.out _ HB14.out).mono ?_
          rintro e w15 ⟨rfl, hb15⟩
          have HB15 := hide (HB14.out.trans (hb15.mono HB14.out.size))
          clear hb15
          go_wp2
          go_roundw
          case rel => exact ⟨k + 1, p, a, b, R2, H2, X2, uo, vo2, uc, vc2, by have := HLT.out; omega, by have := HLT.out; omega, by go_num, rfl, HT.out.below HB15.out, by omega⟩
          case measure => have := HLT.out; simp [intOf]; omega
    · have hend : (¬ ((k : Nat) : Int) < ((al.length : Nat) : Int)) ∨ (((k : Nat) : Int) < ((al.length : Nat) : Int) ∧ ¬ ((k : Nat) : Int) < 60) := by omega
      rcases hend with hk1 | ⟨hk1, hk2⟩
      all_goals
        go_wp2_with fail
        refine (HK.out _).mono ?_
        rintro e w5 ⟨rfl, hb5⟩
        have HB5 := hide (HD.out.bel.trans (hb5.mono HD.out.bel.size))
        clear hb5
        go_wp2
        go_ret
        exact ⟨rfl, HB5.out⟩
end Go.Proofs.Ytkpambipgcjaiaa
