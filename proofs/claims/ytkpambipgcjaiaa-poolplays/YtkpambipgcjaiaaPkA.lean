/- Law PoolBack of layer 13. -/
import Derived.Test.YtkpambipgcjaiaaRpH
import Derived.Test.YtkpambipgcjaiaaPmD
namespace Go.DsPl
open Go.DsCo
set_option linter.unusedVariables false
theorem give_insH (h : Hd) (o : Int) (ho : h.1.1 = o) : ∀ H : List Hd, giveF (insH h H) o = giveF H o
  | [] => by unfold giveF; simp [insH, ho]
  | x :: r => by
    rw [insH]
    split
    · unfold giveF
      rw [List.filter_cons, if_neg (by simp [ho])]
    · have := give_insH h o ho r
      unfold giveF at this ⊢
      rw [List.filter_cons, List.filter_cons, this]
theorem give_takeL (R : List Rk) (o : Int) : ∀ (l : List Ne) (H : List Hd), giveF (takeL R o H l) o = giveF H o
  | [], H => rfl
  | n :: r, H => by
    have e : takeL R o H (n :: r) = takeL R o (insH ((o, n.nm), shareF ((findK R n.nm).getD .lock) n) H) r := rfl
    rw [e, give_takeL R o r]
    exact give_insH _ o rfl H
theorem len_takeL (R : List Rk) (o : Int) : ∀ (l : List Ne) (H : List Hd), (takeL R o H l).length = H.length + l.length
  | [], H => rfl
  | n :: r, H => by
    have e : takeL R o H (n :: r) = takeL R o (insH ((o, n.nm), shareF ((findK R n.nm).getD .lock) n) H) r := rfl
    rw [e, len_takeL R o r, len_insH, List.length_cons]; omega
theorem give_none (o : Int) (H : List Hd) (h : ∀ x ∈ H, x.1.1 ≠ o) : giveF H o = H := by
  unfold giveF
  exact List.filter_eq_self.2 (fun x hx => by simpa using h x hx)
/-- what an owner took, given again -/
theorem back_take (R : List Rk) (H : List Hd) (o : Int) (l : List Ne) (h : ∀ x ∈ H, x.1.1 ≠ o) : giveF (takeF R H o l).1 o = H ∧ (takeF R H o l).1.length = H.length + (if (takeF R H o l).2 = 0 then l.length else 0) ∧ (takeF R H o l).2 = mayF R H o l := by
  unfold takeF
  by_cases hm : mayF R H o l = 0
  · rw [if_neg (by simp [hm])]
    refine ⟨?_, ?_, hm.symm⟩
    · show giveF (takeL R o H l) o = H
      rw [give_takeL, give_none o H h]
    · show (takeL R o H l).length = H.length + (if (0 : Int) = 0 then l.length else 0)
      rw [len_takeL]; rfl
  · rw [if_pos hm]
    refine ⟨give_none o H h, ?_, rfl⟩
    show H.length = H.length + (if mayF R H o l = 0 then l.length else 0)
    rw [if_neg hm]; rfl
end Go.DsPl
namespace Go.Proofs.Ytkpambipgcjaiaa
open Go.ChangeShapes Go.WideShapes Go.ChangeAt Go.RowKit Go.DsMem Go.DsCo Go.DsPl Go.DsMap
set_option linter.unusedVariables false
set_option linter.unusedSimpArgs false
theorem HdRow.below {w w' : World} {b g cap : Nat} {l : List Hd} (h : HdRow w b g cap l) (hb : Below w.heap.size w w') : HdRow w' b g cap l := h.same (hb.block g h.lt)
theorem RpAt.only {T : Nat → Prop} {w w' : World} {pr b0 : Nat} {X : List Rt} {H : List Hd} {uo vo : Option Addr} {uc vc : Nat} (h : RpAt w pr b0 X H uo vo uc vc) (ho : Only T w w') (hpb : pr < b0) (hT : ∀ k, T k → k < pr) : RpAt w' pr b0 X H uo vo uc vc :=
  ⟨by rw [ho.block pr (block_lt h.blk) (fun e => by have := hT _ e; omega)]; exact h.blk,
    own3_same h.rs (fun k hk => ho.block k (h.rs.lt k hk).2 (fun e => by have := hT _ e; have := (h.rs.lt k hk).1; omega)),
    own4_same h.hs (fun k hk => ho.block k (h.hs.lt k hk).2 (fun e => by have := hT _ e; have := (h.hs.lt k hk).1; omega)), h.nx, h.nh⟩
set_option maxHeartbeats 16000000 in
set_option maxRecDepth 20000 in
theorem back13 (l : List Rt) (fs sd : List Ne) (uo vo xo : Option Addr) (uc vc xc : Nat) (W : World) (hl : RtAt W uo uc l) (hf : NeAt W vo vc fs) (hs : NeAt W xo xc sd) (hfl : FitR l) (hff : FitL fs) (hfs : FitL sd) (hlc : l.length ≤ uc) (hfc : fs.length ≤ vc) (hsc : sd.length ≤ xc) :
    Calls Try.prog 4 #[.slice uo l.length uc, .slice vo fs.length vc, .slice xo sd.length xc] W fun e w' => e = .returned (.bool true) ∧ Below W.heap.size W w' := by
  have HK := hide (fun w => known13 w)
  by_cases h20 : 20 < l.length
  · have h20' : (20 : Int) < ((l.length : Nat) : Int) := by omega
    clear hl hf hs hfl hff hfs
    go_enter Try.func4, Try.ntmps4
    go_wp2_with fail
    refine (HK.out _).mono ?_
    rintro e w1 ⟨rfl, hb1⟩
    have HB1 := hide hb1
    clear hb1
    go_wp2
    go_ret
    exact ⟨rfl, HB1.out⟩
  have h20' : ¬ (20 : Int) < ((l.length : Nat) : Int) := by omega
  by_cases f20 : 20 < fs.length
  · have f20' : (20 : Int) < ((fs.length : Nat) : Int) := by omega
    clear hl hf hs hfl hff hfs
    go_enter Try.func4, Try.ntmps4
    go_wp2_with fail
    refine (HK.out _).mono ?_
    rintro e w1 ⟨rfl, hb1⟩
    have HB1 := hide hb1
    clear hb1
    go_wp2
    go_ret
    exact ⟨rfl, HB1.out⟩
  have f20' : ¬ (20 : Int) < ((fs.length : Nat) : Int) := by omega
  by_cases s20 : 20 < sd.length
  · have s20' : (20 : Int) < ((sd.length : Nat) : Int) := by omega
    clear hl hf hs hfl hff hfs
    go_enter Try.func4, Try.ntmps4
    go_wp2_with fail
    refine (HK.out _).mono ?_
    rintro e w1 ⟨rfl, hb1⟩
    have HB1 := hide hb1
    clear hb1
    go_wp2
    go_ret
    exact ⟨rfl, HB1.out⟩
  have s20' : ¬ (20 : Int) < ((sd.length : Nat) : Int) := by omega
  have HRES := hide (res13_any l uo uc W (by omega) hl)
  have HNEW := hide (fun uo uc w hr => new_any l uo uc w hr hfl (by omega))
  have HRN := hide (fun w (hb : Below W.heap.size W w) => rnew_any l uo uc w (hl.keep hb) (by omega))
  have HNF := hide (fun w (hb : Below W.heap.size W w) => needs13_any fs vo vc w (by omega) (hf.keep hb))
  have HNS := hide (fun w (hb : Below W.heap.size W w) => needs13_any sd xo xc w (by omega) (hs.keep hb))
  obtain ⟨hnf, hnl⟩ := newF_fine l [] fine0 hfl
  have hRl : (newF l).length ≤ 20 := by have : (newF l).length ≤ 0 + l.length := hnl; omega
  have hfine : FineP (newF l) [] := hnf
  have HFF := hide hff
  have HFS := hide hfs
  have HF := hide hf
  obtain ⟨R, hR⟩ : ∃ R, newF l = R := ⟨_, rfl⟩
  unfold RNew at HRN
  rw [hR] at HNEW hRl hfine HRN
  have HFIN := hide hfine
  clear hl hf hs hff hfs hfl hnf hnl hR hfine
  unfold ptr at HNEW HRN
  go_enter Try.func4, Try.ntmps4
  go_wp2_with fail
  refine HRES.out.mono ?_
  rintro e w1 ⟨ro, rc, rfl, hrd, hb1⟩
  have HRD := hide hrd
  have HB1 := hide hb1
  clear hrd hb1 HRES
  go_wp2_with fail
  refine (HNEW.out _ _ _ HRD.out).mono ?_
  rintro e w2 ⟨rfl, hp2, hb2⟩
  have HB2 : Hid (Below W.heap.size W w2) := hide (HB1.out.trans (hb2.mono HB1.out.size))
  have hbg : W.heap.size ≤ w1.heap.size + 1 := by have := HB1.out.size; omega
  obtain ⟨p, hp⟩ : ∃ p, p = w1.heap.size + 2 := ⟨_, rfl⟩
  obtain ⟨b, hb⟩ : ∃ b, b = w1.heap.size + 1 := ⟨_, rfl⟩
  obtain ⟨a, ha⟩ : ∃ a, a = w1.heap.size := ⟨_, rfl⟩
  rw [← hb] at hbg
  rw [← hp, ← hb, ← ha] at hp2
  rw [← hp]
  have HP2 := hide hp2
  clear hp hb ha hp2 hb2 HNEW HB1 HRD
  go_wp2_with fail
  refine (HRN.out _ HB2.out).mono ?_
  rintro e w3 ⟨rfl, X, ruo, ruc, hrp, hrk, hXl, hb3⟩
  obtain ⟨pr, hpr⟩ : ∃ pr, pr = w2.heap.size := ⟨_, rfl⟩
  rw [← hpr] at hrp ⊢
  have HB3 := hide (HB2.out.trans (hb3.mono HB2.out.size))
  have HP3 := hide (HP2.out.below hb3)
  have hlt := HP2.out.lt
  have hpp : p < pr := by omega
  have hpa : a < pr := by omega
  have hpb : b < pr := by omega
  have hprW : W.heap.size ≤ pr := by have := HB2.out.size; omega
  have HRP3 := hide hrp
  have HRK := hide hrk
  have hX : X.length ≤ 20 := by omega
  clear hb3 hrp hrk hlt hpr HP2 HRN HB2
  go_wp2_with fail
  refine (HNF.out _ HB3.out).mono ?_
  rintro e w4 ⟨no, nc, rfl, hn4, hb4⟩
  have HB4 := hide (HB3.out.trans (hb4.mono HB3.out.size))
  have HP4 := hide (HP3.out.below hb4)
  have HRP4 := hide (HRP3.out.below hb4)
  have hs4 : pr + 1 ≤ w4.heap.size := block_lt HRP4.out.blk
  have HTK := hide (take_any fs no nc 1 (by decide) p a b R [] w4 HP4.out hn4 HFF.out (by omega) (by simp; omega))
  clear hn4 hb4 HB3 HP3 HRP3 HNF
  unfold ptr at HTK
  go_wp2_with fail
  refine HTK.out.mono ?_
  rintro e w5 ⟨rfl, hp5, ho5⟩
  have HP5 := hide hp5
  have HRP5 := hide (HRP4.out.only ho5 (Nat.lt_succ_self _) (fun k hk => by have : k = b := hk; omega))
  have HB5 : Hid (Below W.heap.size W w5) := hide (HB4.out.trans (ho5.toBelow HB4.out.size (fun i e => by rw [e]; exact hbg)))
  have hs5 : pr + 1 ≤ w5.heap.size := block_lt HRP5.out.blk
  have HRT := hide (rtake0_any 1 fs vo vc pr (pr + 1) X ruo none ruc 0 w5 HRP5.out hs5 (by omega) (by rw [HRK.out]; exact HFIN.out.ru) (by rw [HRK.out]; exact HFIN.out.kn) (HF.out.keep HB5.out) (fun h0 g o' e => by
    obtain ⟨g', o'', e', _, hg, _⟩ := HF.out h0
    rw [e'] at e
    simp only [Option.some.injEq, Addr.mk.injEq] at e
    omega) (by omega))
  rw [HRK.out] at HRT
  clear hp5 ho5 HB4 HP4 HRP4 HTK hs4
  unfold ptr at HRT
  have hH1 : (takeF R [] 1 fs).1.length ≤ 20 := by
    have := (take_fine (o := 1) (l := fs) HFIN.out (by decide)).2
    simp only [List.length_nil] at this
    omega
  have HOW := hide (take_own (R := R) (H := []) (o := 1) (l := fs) (P := fun z => z = 1) (fun x hx => by simp at hx) rfl)
  generalize takeF R [] 1 fs = T at *
  obtain ⟨H1, t1⟩ := T
  simp only at HRT HP5 hH1 HOW
  have HBT := hide (back_take R H1 2 sd (fun x hx e => by have h1 : x.1.1 = 1 := HOW.out x hx; omega))
  have hH2 := (take_fine (o := 2) (l := sd) HP5.out.fine (by decide)).2
  go_wp2_with fail
  refine HRT.out.mono ?_
  rintro e w6 ⟨rfl, ⟨vo6, vc6, hrp6⟩, ho6⟩
  have HP6 := hide (HP5.out.only ho6 (fun e => by have : p = pr := e; omega) (fun e => by have : a = pr := e; omega) (fun e => by have : b = pr := e; omega))
  have HRP6 := hide hrp6
  have HB6 : Hid (Below W.heap.size W w6) := hide (HB5.out.trans (ho6.toBelow HB5.out.size (fun i e => by rw [e]; exact hprW)))
  clear hrp6 ho6 HP5 HRP5 HB5 HRT
  go_wp2_with fail
  refine (HNS.out _ HB6.out).mono ?_
  rintro e w7 ⟨no7, nc7, rfl, hn7, hb7⟩
  have HP7 := hide (HP6.out.below hb7)
  have HRP7 := hide (HRP6.out.below hb7)
  have HB7 := hide (HB6.out.trans (hb7.mono HB6.out.size))
  have HTK := hide (take_any sd no7 nc7 2 (by decide) p a b R H1 w7 HP7.out hn7 HFS.out (by omega) (by omega))
  have HMY := hide (fun w' no nc (h : PoAt w' p a b R H1) hn => may_any sd no nc 2 (by decide) p a b R H1 w' h hn HFS.out (by omega) (by omega) (by omega))
  clear hn7 hb7 HB6 HP6 HRP6
  unfold ptr at HTK HMY
  obtain ⟨hg1, hl1, hm1⟩ := HBT.out
  rw [← hm1] at HMY
  generalize takeF R H1 2 sd = T2 at *
  obtain ⟨H2, E⟩ := T2
  simp only at HTK HMY hg1 hl1 hm1 hH2
  have HG1 := hide hg1
  have HL1 := hide hl1
  clear hg1 hl1 hm1 HBT
  go_wp2_with fail
  refine HTK.out.mono ?_
  rintro e w8 ⟨rfl, hp8, ho8⟩
  have HP8 := hide hp8
  have HRP8 := hide (HRP7.out.only ho8 (Nat.lt_succ_self _) (fun k hk => by have : k = b := hk; omega))
  have HB8 : Hid (Below W.heap.size W w8) := hide (HB7.out.trans (ho8.toBelow HB7.out.size (fun i e => by rw [e]; exact hbg)))
  have HGV := hide (give_any 2 (by decide) p a b R H2 w8 HP8.out (by omega))
  rw [HG1.out] at HGV
  clear hp8 ho8 HB7 HP7 HRP7 HTK
  unfold ptr at HGV
  have HEND : Hid (∀ w9, PoAt w9 p a b R H1 → Only (· = b) w8 w9 → PoAt w9 p a b R H1 ∧ RpAt w9 pr (pr + 1) X H1 ruo vo6 ruc vc6 ∧ Below W.heap.size W w9) := hide (fun w9 h ho => ⟨h, HRP8.out.only ho (Nat.lt_succ_self _) (fun k hk => by have : k = b := hk; omega), HB8.out.trans (ho.toBelow HB8.out.size (fun i e => by rw [e]; exact hbg))⟩)
  clear HP8 HRP8 HB8
  by_cases hE : E = 0
  · rw [if_pos hE] at HL1
    have HV : Hid (((H2.length : Nat) : Int) - ((H1.length : Nat) : Int) = ((sd.length : Nat) : Int)) := hide (by have := HL1.out; omega)
    rw [HV.out] at HGV
    subst hE
    clear HL1 HV HG1
    go_wp2_with fail
    refine HGV.out.mono ?_
    rintro e w9 ⟨rfl, hp9, ho9⟩
    obtain ⟨hp9, hrp9, hb9⟩ := HEND.out _ hp9 ho9
    have HB9 := hide hb9
    have hbd9 : Below w9.heap.size w9 w9.drew := (Below.refl _ _).drew
    have HLS := hide (plist_any p a b R H1 w9.drew (hp9.below hbd9) (by omega))
    have HSM := hide (fun w' g cap (hb : Below w9.heap.size w9 w') (hr : HdRow w' w9.drew.heap.size g cap H1) => same13_true H1 w9.drew.heap.size g cap pr (pr + 1) X ruo vo6 ruc vc6 w' hr (hrp9.below hb) (by omega))
    have HN9 := hide (fun w' (hb : Below w9.heap.size w9 w') => HNS.out w' (hb9.trans (hb.mono hb9.size)))
    have HM9 := hide (fun w' no nc (hb : Below w9.heap.size w9 w') hn => HMY.out w' no nc (hp9.below hb) hn)
    have hc9 := hrp9.c1
    have KP : Hid (∀ w', Below w9.heap.size w9 w' → w'.cell? ⟨pr, 1, none⟩ = some (.slice vo6 H1.length vc6)) := hide (fun w' hb => Below.keeps hb (Nat.le_refl _) hc9)
    have HBD := hide hbd9
    clear hb9 hp9 hrp9 ho9 hbd9 HEND HNS HMY HGV
    unfold ptr at HLS HM9
    unfold ListedH at HLS
    go_wp2_with fail
    first
      | (go_region_held3 (fun w' => w'.cell? ⟨pr, 1, none⟩ = some (.slice vo6 H1.length vc6)) (go_keep)
          (first
            | (go_at_call 22; refine HLS.out.mono ?_; rintro e w10 ⟨g10, cap10, rfl, hr10, hb10⟩; have HR10 := hide hr10; have HB10 := hide (HBD.out.trans (hb10.mono HBD.out.size)); have q10 := KP.out _ HB10.out; clear hr10 hb10)
            | (go_at_call 21; refine (HSM.out _ _ _ HB10.out HR10.out).mono ?_; rintro e w11 ⟨rfl, hb11⟩; have HB11 := hide (HB10.out.trans (hb11.mono HB10.out.size)); have q11 := KP.out _ HB11.out; clear hb11)
            | (go_at_call 28; refine (HN9.out _ HB11.out).mono ?_; rintro e w12 ⟨no12, nc12, rfl, hn12, hb12⟩; have HN12 := hide hn12; have HB12 := hide (HB11.out.trans (hb12.mono HB11.out.size)); have q12 := KP.out _ HB12.out; clear hn12 hb12)
            | (go_at_call 30; refine (HM9.out _ _ _ HB12.out HN12.out).mono ?_; rintro e w13 ⟨rfl, hb13⟩; have HB13 := hide (HB12.out.trans (hb13.mono HB12.out.size)); have q13 := KP.out _ HB13.out; clear hb13)
            | (go_at_call 14; refine (HK.out _).mono ?_; rintro e w14 ⟨rfl, hb14⟩; have HB14 := hide (HB13.out.trans (hb14.mono HB13.out.size)); have q14 := KP.out _ HB14.out; clear hb14)))
      | fail
    all_goals
      go_wp2
      go_ret
      exact ⟨rfl, HB9.out.trans (HB14.out.mono HB9.out.size)⟩
  · rw [if_neg hE] at HL1
    have HV : Hid (((H2.length : Nat) : Int) - ((H1.length : Nat) : Int) = 0) := hide (by have := HL1.out; omega)
    rw [HV.out] at HGV
    have hE' : (E == 0) = false := by simpa using hE
    clear HL1 HV HG1 hE
    go_wp2_with fail
    refine HGV.out.mono ?_
    rintro e w9 ⟨rfl, hp9, ho9⟩
    obtain ⟨hp9, hrp9, hb9⟩ := HEND.out _ hp9 ho9
    have HB9 := hide hb9
    have hbd9 : Below w9.heap.size w9 w9.drew := (Below.refl _ _).drew
    have HLS := hide (plist_any p a b R H1 w9.drew (hp9.below hbd9) (by omega))
    have HSM := hide (fun w' g cap (hb : Below w9.heap.size w9 w') (hr : HdRow w' w9.drew.heap.size g cap H1) => same13_true H1 w9.drew.heap.size g cap pr (pr + 1) X ruo vo6 ruc vc6 w' hr (hrp9.below hb) (by omega))
    have HN9 := hide (fun w' (hb : Below w9.heap.size w9 w') => HNS.out w' (hb9.trans (hb.mono hb9.size)))
    have HM9 := hide (fun w' no nc (hb : Below w9.heap.size w9 w') hn => HMY.out w' no nc (hp9.below hb) hn)
    have hc9 := hrp9.c1
    have KP : Hid (∀ w', Below w9.heap.size w9 w' → w'.cell? ⟨pr, 1, none⟩ = some (.slice vo6 H1.length vc6)) := hide (fun w' hb => Below.keeps hb (Nat.le_refl _) hc9)
    have HBD := hide hbd9
    clear hb9 hp9 hrp9 ho9 hbd9 HEND HNS HMY HGV
    unfold ptr at HLS HM9
    unfold ListedH at HLS
    go_wp2_with fail
    first
      | (go_region_held3 (fun w' => w'.cell? ⟨pr, 1, none⟩ = some (.slice vo6 H1.length vc6)) (go_keep)
          (first
            | (go_at_call 22; refine HLS.out.mono ?_; rintro e w10 ⟨g10, cap10, rfl, hr10, hb10⟩; have HR10 := hide hr10; have HB10 := hide (HBD.out.trans (hb10.mono HBD.out.size)); have q10 := KP.out _ HB10.out; clear hr10 hb10)
            | (go_at_call 21; refine (HSM.out _ _ _ HB10.out HR10.out).mono ?_; rintro e w11 ⟨rfl, hb11⟩; have HB11 := hide (HB10.out.trans (hb11.mono HB10.out.size)); have q11 := KP.out _ HB11.out; clear hb11)
            | (go_at_call 28; refine (HN9.out _ HB11.out).mono ?_; rintro e w12 ⟨no12, nc12, rfl, hn12, hb12⟩; have HN12 := hide hn12; have HB12 := hide (HB11.out.trans (hb12.mono HB11.out.size)); have q12 := KP.out _ HB12.out; clear hn12 hb12)
            | (go_at_call 30; refine (HM9.out _ _ _ HB12.out HN12.out).mono ?_; rintro e w13 ⟨rfl, hb13⟩; have HB13 := hide (HB12.out.trans (hb13.mono HB12.out.size)); have q13 := KP.out _ HB13.out; clear hb13)
            | (go_at_call 14; refine (HK.out _).mono ?_; rintro e w14 ⟨rfl, hb14⟩; have HB14 := hide (HB13.out.trans (hb14.mono HB13.out.size)); have q14 := KP.out _ HB14.out; clear hb14)))
      | fail
    all_goals
      go_wp2
      go_ret
      exact ⟨rfl, HB9.out.trans (HB14.out.mono HB9.out.size)⟩
end Go.Proofs.Ytkpambipgcjaiaa
