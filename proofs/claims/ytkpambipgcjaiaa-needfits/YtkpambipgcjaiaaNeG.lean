/- Law NeedFits of layer 14. Written by gen_neg.py. -/
import Derived.Test.YtkpambipgcjaiaaNdK
import Derived.Test.YtkpambipgcjaiaaNdF
import Derived.Test.YtkpambipgcjaiaaNdN
namespace Go.Proofs.Ytkpambipgcjaiaa
open Go.ChangeShapes Go.WideShapes Go.ChangeAt Go.RowKit Go.DsMem Go.DsCo Go.DsPl Go.DsMap
set_option linter.unusedVariables false
set_option linter.unusedSimpArgs false
set_option maxHeartbeats 16000000 in
set_option maxRecDepth 20000 in
theorem fits14 (l : List Rt) (hd fs sd : List Ne) (uo yo vo xo : Option Addr) (uc yc vc xc : Nat) (W : World) (hl : RtAt W uo uc l) (hh : NeAt W yo yc hd) (hf : NeAt W vo vc fs) (hs : NeAt W xo xc sd) (hfl : FitR l) (hfh : FitL hd) (hff : FitL fs) (hfs : FitL sd) (hlc : l.length ≤ uc) (hhc : hd.length ≤ yc) (hfc : fs.length ≤ vc) (hsc : sd.length ≤ xc) :
    Calls Try.prog 5 #[.slice uo l.length uc, .slice yo hd.length yc, .slice vo fs.length vc, .slice xo sd.length xc] W fun e w' => e = .returned (.bool true) ∧ Below W.heap.size W w' := by
  have HK := hide (fun w => known14 w)
  by_cases h20 : 20 < l.length
  · have h20' : (20 : Int) < ((l.length : Nat) : Int) := by omega
    clear hl hh hf hs hfl hfh hff hfs
    go_enter Try.func5, Try.ntmps5
    go_wp2_with fail
    refine (HK.out _).mono ?_
    rintro e w1 ⟨rfl, hb1⟩
    have HB1 := hide hb1
    clear hb1
    go_wp2
    go_ret
    exact ⟨rfl, HB1.out⟩
  have h20' : ¬ (20 : Int) < ((l.length : Nat) : Int) := by omega
  by_cases d20 : 20 < hd.length
  · have d20' : (20 : Int) < ((hd.length : Nat) : Int) := by omega
    clear hl hh hf hs hfl hfh hff hfs
    go_enter Try.func5, Try.ntmps5
    go_wp2_with fail
    refine (HK.out _).mono ?_
    rintro e w1 ⟨rfl, hb1⟩
    have HB1 := hide hb1
    clear hb1
    go_wp2
    go_ret
    exact ⟨rfl, HB1.out⟩
  have d20' : ¬ (20 : Int) < ((hd.length : Nat) : Int) := by omega
  by_cases f20 : 20 < fs.length
  · have f20' : (20 : Int) < ((fs.length : Nat) : Int) := by omega
    clear hl hh hf hs hfl hfh hff hfs
    go_enter Try.func5, Try.ntmps5
    go_wp2_with fail
    refine (HK.out _).mono ?_
    rintro e w1 ⟨rfl, hb1⟩
    have HB1 := hide hb1
    clear hb1
    go_wp2
    go_ret
    exact ⟨rfl, HB1.out⟩
  have f20' : ¬ (20 : Int) < ((fs.length : Nat) : Int) := by omega
  by_cases s20 : 20 < sd.length
  · have s20' : (20 : Int) < ((sd.length : Nat) : Int) := by omega
    clear hl hh hf hs hfl hfh hff hfs
    go_enter Try.func5, Try.ntmps5
    go_wp2_with fail
    refine (HK.out _).mono ?_
    rintro e w1 ⟨rfl, hb1⟩
    have HB1 := hide hb1
    clear hb1
    go_wp2
    go_ret
    exact ⟨rfl, HB1.out⟩
  have s20' : ¬ (20 : Int) < ((sd.length : Nat) : Int) := by omega
  have HRES := hide (res14_any l uo uc W (by omega) hl)
  have HNEW := hide (fun uo uc w hr => new_any l uo uc w hr hfl (by omega))
  have HRN := hide (fun w (hb : Below W.heap.size W w) => rnew_any l uo uc w (hl.keep hb) (by omega))
  have HNH := hide (fun w (hb : Below W.heap.size W w) => needs14_any hd yo yc w (by omega) (hh.keep hb))
  have HNF := hide (fun w (hb : Below W.heap.size W w) => needs14_any fs vo vc w (by omega) (hf.keep hb))
  have HNS := hide (fun w (hb : Below W.heap.size W w) => needs14_any sd xo xc w (by omega) (hs.keep hb))
  obtain ⟨hnf, hnl⟩ := newF_fine l [] fine0 hfl
  have hRl : (newF l).length ≤ 20 := by have : (newF l).length ≤ 0 + l.length := hnl; omega
  have hfine : FineP (newF l) [] := hnf
  have HH := hide hh
  have HF := hide hf
  have HS := hide hs
  obtain ⟨R, hR⟩ : ∃ R, newF l = R := ⟨_, rfl⟩
  unfold RNew at HRN
  rw [hR] at HNEW hRl hfine HRN
  have HFIN := hide hfine
  have htf := (take_fine (o := 9) (l := hd) hfine (by decide))
  have hH1 := htf.2
  simp only [List.length_nil] at hH1
  have HT9 := hide (fun w p a b no nc (h : PoAt w p a b R []) hr => take_any hd no nc 9 (by decide) p a b R [] w h hr hfh (by omega) (by simp; omega))
  have HFI := hide (fun w p a b no nc (h : PoAt w p a b R (takeF R [] 9 hd).1) hr => nfits_any fs no nc p a b R (takeF R [] 9 hd).1 w h hr hff (by omega) (by omega) (by omega))
  have HBO := hide (fun w p a b no mo nc mc (h : PoAt w p a b R (takeF R [] 9 hd).1) hr hs => nboth_any fs sd no mo nc mc p a b R (takeF R [] 9 hd).1 w h hr hs hff hfs (by omega) (by omega) (by omega) (by omega))
  have HLI := hide (fun w p a b (h : PoAt w p a b R (takeF R [] 9 hd).1) => plist_any p a b R (takeF R [] 9 hd).1 w h (by omega))
  clear hl hh hf hs hfh hff hfs hfl hnf hnl hR hfine htf
  unfold ptr ListedH at *
  go_enter Try.func5, Try.ntmps5
  go_wp2_with fail
  refine HRES.out.mono ?_
  rintro e w1 ⟨ro, rc, rfl, hrd, hb1⟩
  have HRD := hide hrd
  have HB1 := hide hb1
  clear hrd hb1 HRES
  go_wp2_with fail
  refine (HNEW.out _ _ _ HRD.out).mono ?_
  rintro e w2 ⟨rfl, hp2, hb2⟩
  have HB2 : Hid (Below W.heap.size W w2) := hide (HB1.out.trans (hb2.mono HB1.out.size))
  have hbg : W.heap.size ≤ w1.heap.size + 1 := by have := HB1.out.size; omega
  obtain ⟨p, hp⟩ : ∃ p, p = w1.heap.size + 2 := ⟨_, rfl⟩
  obtain ⟨b, hb⟩ : ∃ b, b = w1.heap.size + 1 := ⟨_, rfl⟩
  obtain ⟨a, ha⟩ : ∃ a, a = w1.heap.size := ⟨_, rfl⟩
  rw [← hb] at hbg
  rw [← hp, ← hb, ← ha] at hp2
  rw [← hp]
  have HP2 := hide hp2
  clear hp hb ha hp2 hb2 HNEW HB1 HRD
  go_wp2_with fail
  refine (HRN.out _ HB2.out).mono ?_
  rintro e w3 ⟨rfl, X, ruo, ruc, hrp, hrk, hXl, hb3⟩
  obtain ⟨pr, hpr⟩ : ∃ pr, pr = w2.heap.size := ⟨_, rfl⟩
  rw [← hpr] at hrp ⊢
  have HB3 := hide (HB2.out.trans (hb3.mono HB2.out.size))
  have HP3 := hide (HP2.out.below hb3)
  have hlt := HP2.out.lt
  have hpp : p < pr := by omega
  have hpa : a < pr := by omega
  have hpb : b < pr := by omega
  have hprW : W.heap.size ≤ pr := by have := HB2.out.size; omega
  have HRP3 := hide hrp
  have HRK := hide hrk
  have hX : X.length ≤ 20 := by omega
  clear hb3 hrp hrk hlt hpr HP2 HRN HB2
  go_wp2_with fail
  refine (HNH.out _ HB3.out).mono ?_
  rintro e w4 ⟨no, nc, rfl, hn4, hb4⟩
  have HB4 := hide (HB3.out.trans (hb4.mono HB3.out.size))
  have HP4 := hide (HP3.out.below hb4)
  have HRP4 := hide (HRP3.out.below hb4)
  have HTK := hide (HT9.out _ p a b no nc HP4.out hn4)
  clear hn4 hb4 HB3 HP3 HRP3 HNH HT9
  go_wp2_with fail
  refine HTK.out.mono ?_
  rintro e w5 ⟨rfl, hp5, ho5⟩
  have HP5 := hide hp5
  have HRP5 := hide (HRP4.out.only ho5 (Nat.lt_succ_self _) (fun k hk => by have : k = b := hk; omega))
  have HB5 : Hid (Below W.heap.size W w5) := hide (HB4.out.trans (ho5.toBelow HB4.out.size (fun i e => by rw [e]; exact hbg)))
  have hs5 : pr + 1 ≤ w5.heap.size := block_lt HRP5.out.blk
  have HRT := hide (rtake0_any 9 hd yo yc pr (pr + 1) X ruo none ruc 0 w5 HRP5.out hs5 (by omega) (by rw [HRK.out]; exact HFIN.out.ru) (by rw [HRK.out]; exact HFIN.out.kn) (HH.out.keep HB5.out) (fun h0 g o' e => by
    obtain ⟨g', o'', e', _, hg, _⟩ := HH.out h0
    rw [e'] at e
    simp only [Option.some.injEq, Addr.mk.injEq] at e
    omega) (by omega))
  rw [HRK.out] at HRT
  clear hp5 ho5 HB4 HP4 HRP4 HTK
  unfold ptr at HRT
  generalize takeF R [] 9 hd = T at *
  obtain ⟨H1, t1⟩ := T
  simp only at HRT HP5 hH1 HFI HBO HLI
  go_wp2_with fail
  refine HRT.out.mono ?_
  rintro e w6 ⟨rfl, ⟨vo6, vc6, hrp6⟩, ho6⟩
  have HP6 := hide (HP5.out.only ho6 (fun e => by have : p = pr := e; omega) (fun e => by have : a = pr := e; omega) (fun e => by have : b = pr := e; omega))
  have HB6 : Hid (Below W.heap.size W w6) := hide (HB5.out.trans (ho6.toBelow HB5.out.size (fun i e => by rw [e]; exact hprW)))
  have HRP6 := hide hrp6
  have hs6 : pr + 1 ≤ w6.heap.size := block_lt hrp6.blk
  have HRF := hide (fun w' (hb : Below w6.heap.size w6 w') => rnfits_any fs vo vc pr (pr + 1) X H1 ruo vo6 ruc vc6 w' (HRP6.out.below hb) (by omega) (by rw [HRK.out]; exact HFIN.out) (HF.out.keep (HB6.out.trans (hb.mono HB6.out.size))) (by omega))
  have HRB := hide (fun w' (hb : Below w6.heap.size w6 w') => rnboth_any fs sd vo xo vc xc pr (pr + 1) X H1 ruo vo6 ruc vc6 w' (HRP6.out.below hb) (by omega) (by have := hb.size; omega) (by rw [HRK.out]; exact HFIN.out) (HF.out.keep (HB6.out.trans (hb.mono HB6.out.size))) (HS.out.keep (HB6.out.trans (hb.mono HB6.out.size))) (by omega) (by omega))
  rw [HRK.out] at HRF HRB
  unfold ptr at HRF HRB
  have HD6 : Hid (Below w6.heap.size w6 w6) := hide (Below.refl _ _)
  clear hrp6 ho6 HP5 HRP5 HB5 HRT
  generalize mayF R [] 1 fs = A at *
  generalize bothF R fs sd = Z at *
  go_wp2_with fail
  refine (HLI.out _ p a b HP6.out).mono ?_
  rintro e w7 ⟨g7, cap7, rfl, _, hb⟩
  have HP7 := hide (HP6.out.below hb)
  have HB7 := hide (HB6.out.trans (hb.mono HB6.out.size))
  have HD7 := hide (HD6.out.trans (hb.mono HD6.out.size))
  clear hb HP6 HB6 HD6
  go_wp2_with fail
  refine (HNF.out _ HB7.out).mono ?_
  rintro e w8 ⟨no8, nc8, rfl, hn8, hb⟩
  have HP8 := hide (HP7.out.below hb)
  have HB8 := hide (HB7.out.trans (hb.mono HB7.out.size))
  have HD8 := hide (HD7.out.trans (hb.mono HD7.out.size))
  have HN8 := hide hn8
  clear hn8
  clear hb HP7 HB7 HD7
  go_wp2_with fail
  refine (HFI.out _ p a b _ _ HP8.out HN8.out).mono ?_
  rintro e w9 ⟨rfl, hb⟩
  have HP9 := hide (HP8.out.below hb)
  have HB9 := hide (HB8.out.trans (hb.mono HB8.out.size))
  have HD9 := hide (HD8.out.trans (hb.mono HD8.out.size))
  clear hb HP8 HB8 HD8
  go_wp2_with fail
  refine (HRF.out _ HD9.out).mono ?_
  rintro e w10 ⟨rfl, hb⟩
  have HP10 := hide (HP9.out.below hb)
  have HB10 := hide (HB9.out.trans (hb.mono HB9.out.size))
  have HD10 := hide (HD9.out.trans (hb.mono HD9.out.size))
  clear hb HP9 HB9 HD9
  go_wp2_with fail
  refine (HNF.out _ HB10.out).mono ?_
  rintro e w11 ⟨no11, nc11, rfl, hn11, hb⟩
  have HP11 := hide (HP10.out.below hb)
  have HB11 := hide (HB10.out.trans (hb.mono HB10.out.size))
  have HD11 := hide (HD10.out.trans (hb.mono HD10.out.size))
  have HN11 := hide hn11
  clear hn11
  clear hb HP10 HB10 HD10
  go_wp2_with fail
  refine (HNS.out _ HB11.out).mono ?_
  rintro e w12 ⟨no12, nc12, rfl, hn12, hb⟩
  have HP12 := hide (HP11.out.below hb)
  have HB12 := hide (HB11.out.trans (hb.mono HB11.out.size))
  have HD12 := hide (HD11.out.trans (hb.mono HD11.out.size))
  have HN12 := hide hn12
  have HN11 := hide (HN11.out.below hb)
  clear hn12
  clear hb HP11 HB11 HD11
  go_wp2_with fail
  refine (HBO.out _ p a b _ _ _ _ HP12.out HN11.out HN12.out).mono ?_
  rintro e w13 ⟨rfl, hb⟩
  have HP13 := hide (HP12.out.below hb)
  have HB13 := hide (HB12.out.trans (hb.mono HB12.out.size))
  have HD13 := hide (HD12.out.trans (hb.mono HD12.out.size))
  clear hb HP12 HB12 HD12
  go_wp2_with fail
  refine (HRB.out _ HD13.out).mono ?_
  rintro e w14 ⟨rfl, hb⟩
  have HP14 := hide (HP13.out.below hb)
  have HB14 := hide (HB13.out.trans (hb.mono HB13.out.size))
  have HD14 := hide (HD13.out.trans (hb.mono HD13.out.size))
  clear hb HP13 HB13 HD13
  go_wp2_with fail
  refine (HLI.out _ p a b HP14.out).mono ?_
  rintro e w15 ⟨g15, cap15, rfl, _, hb⟩
  have HP15 := hide (HP14.out.below hb)
  have HB15 := hide (HB14.out.trans (hb.mono HB14.out.size))
  have HD15 := hide (HD14.out.trans (hb.mono HD14.out.size))
  clear hb HP14 HB14 HD14
  have HFN := hide (fun w => nfits_nil w)
  have HBN := hide (fun w => nboth_nil w)
  go_wp2_with fail
  refine (HFN.out _).mono ?_
  rintro e wy ⟨rfl, rfl⟩
  go_wp2_with fail
  refine (HBN.out _).mono ?_
  rintro e wy ⟨rfl, rfl⟩
  go_wp2_with fail
  refine (HK.out _).mono ?_
  rintro e wz ⟨rfl, hb⟩
  have HBZ := hide (HB15.out.trans (hb.mono HB15.out.size))
  clear hb
  go_wp2
  go_ret
  exact ⟨rfl, HBZ.out⟩
end Go.Proofs.Ytkpambipgcjaiaa
