/- Law NeedHeld of layer 14. Written by gen_neh.py. -/
import Derived.Test.YtkpambipgcjaiaaNdK
import Derived.Test.YtkpambipgcjaiaaNdR
namespace Go.Proofs.Ytkpambipgcjaiaa
open Go.ChangeShapes Go.WideShapes Go.ChangeAt Go.RowKit Go.DsMem Go.DsCo Go.DsPl Go.DsMap
set_option linter.unusedVariables false
set_option linter.unusedSimpArgs false
set_option maxHeartbeats 16000000 in
set_option maxRecDepth 20000 in
theorem held14 (l : List Rt) (fs sd : List Ne) (uo vo xo : Option Addr) (uc vc xc : Nat) (W : World) (hl : RtAt W uo uc l) (hf : NeAt W vo vc fs) (hs : NeAt W xo xc sd) (hfl : FitR l) (hff : FitL fs) (hfs : FitL sd) (hlc : l.length ≤ uc) (hfc : fs.length ≤ vc) (hsc : sd.length ≤ xc) :
    Calls Try.prog 8 #[.slice uo l.length uc, .slice vo fs.length vc, .slice xo sd.length xc] W fun e w' => e = .returned (.bool true) ∧ Below W.heap.size W w' := by
  have HK := hide (fun w => known14 w)
  by_cases h20 : 20 < l.length
  · have h20' : (20 : Int) < ((l.length : Nat) : Int) := by omega
    clear hl hf hs hfl hff hfs
    go_enter Try.func8, Try.ntmps8
    go_wp2_with fail
    refine (HK.out _).mono ?_
    rintro e w1 ⟨rfl, hb1⟩
    have HB1 := hide hb1
    clear hb1
    go_wp2
    go_ret
    exact ⟨rfl, HB1.out⟩
  have h20' : ¬ (20 : Int) < ((l.length : Nat) : Int) := by omega
  by_cases f20 : 20 < fs.length
  · have f20' : (20 : Int) < ((fs.length : Nat) : Int) := by omega
    clear hl hf hs hfl hff hfs
    go_enter Try.func8, Try.ntmps8
    go_wp2_with fail
    refine (HK.out _).mono ?_
    rintro e w1 ⟨rfl, hb1⟩
    have HB1 := hide hb1
    clear hb1
    go_wp2
    go_ret
    exact ⟨rfl, HB1.out⟩
  have f20' : ¬ (20 : Int) < ((fs.length : Nat) : Int) := by omega
  by_cases s20 : 20 < sd.length
  · have s20' : (20 : Int) < ((sd.length : Nat) : Int) := by omega
    clear hl hf hs hfl hff hfs
    go_enter Try.func8, Try.ntmps8
    go_wp2_with fail
    refine (HK.out _).mono ?_
    rintro e w1 ⟨rfl, hb1⟩
    have HB1 := hide hb1
    clear hb1
    go_wp2
    go_ret
    exact ⟨rfl, HB1.out⟩
  have s20' : ¬ (20 : Int) < ((sd.length : Nat) : Int) := by omega
  have HRES := hide (res14_any l uo uc W (by omega) hl)
  have HNEW := hide (fun uo uc w hr => new_any l uo uc w hr hfl (by omega))
  have HNF := hide (fun w (hb : Below W.heap.size W w) => needs14_any fs vo vc w (by omega) (hf.keep hb))
  have HNS := hide (fun w (hb : Below W.heap.size W w) => needs14_any sd xo xc w (by omega) (hs.keep hb))
  obtain ⟨hnf, hnl⟩ := newF_fine l [] fine0 hfl
  have hRl : (newF l).length ≤ 20 := by have : (newF l).length ≤ 0 + l.length := hnl; omega
  have hfine : FineP (newF l) [] := hnf
  obtain ⟨R, hR⟩ : ∃ R, newF l = R := ⟨_, rfl⟩
  rw [hR] at HNEW hRl hfine
  have HFF := hide hff
  have HFS := hide hfs
  have HFL := hide hfl
  have HL := hide hl
  have HS1 := hide ((safe0 R hfine.ru).take hfine 1 fs (by decide))
  have hfn1 := (take_fine (o := 1) (l := fs) hfine (by decide))
  have HS2 := hide (HS1.out.take hfn1.1 2 sd (by decide))
  have hfn2 := (take_fine (o := 2) (l := sd) hfn1.1 (by decide))
  have hln1 := hfn1.2
  have hln2 := hfn2.2
  simp only [List.length_nil] at hln1
  have HT1 := hide (fun w p a b no nc (h : PoAt w p a b R []) hr => take_any fs no nc 1 (by decide) p a b R [] w h hr HFF.out (by omega) (by simp; omega))
  have HT2 := hide (fun w p a b no nc (h : PoAt w p a b R (takeF R [] 1 fs).1) hr => take_any sd no nc 2 (by decide) p a b R (takeF R [] 1 fs).1 w h hr HFS.out (by omega) (by omega))
  clear hl hf hs hff hfs hfl hnf hnl hR hfine hfn1 hfn2 HS1
  generalize takeF R [] 1 fs = T1 at *
  obtain ⟨H1, t1⟩ := T1
  simp only at HT1 HT2 hln1 hln2 HS2
  generalize takeF R H1 2 sd = T2 at *
  obtain ⟨H, t2⟩ := T2
  simp only at HT2 hln2 HS2
  have hHl : H.length ≤ 40 := by omega
  clear hln1 hln2
  unfold ptr at *
  go_enter Try.func8, Try.ntmps8
  go_wp2_with fail
  refine HRES.out.mono ?_
  rintro e w1 ⟨ro, rc, rfl, hrd, hb1⟩
  have HRD := hide hrd
  have HB01 := hide hb1
  clear hrd hb1 HRES
  go_wp2_with fail
  refine (HNEW.out _ _ _ HRD.out).mono ?_
  rintro e w2 ⟨rfl, hp2, hb2⟩
  have HB02 : Hid (Below W.heap.size W w2) := hide (HB01.out.trans (hb2.mono HB01.out.size))
  have hbg : W.heap.size ≤ w1.heap.size + 1 := by have := HB01.out.size; omega
  obtain ⟨p, hp⟩ : ∃ p, p = w1.heap.size + 2 := ⟨_, rfl⟩
  obtain ⟨b, hb⟩ : ∃ b, b = w1.heap.size + 1 := ⟨_, rfl⟩
  obtain ⟨a, ha⟩ : ∃ a, a = w1.heap.size := ⟨_, rfl⟩
  rw [← hb] at hbg
  rw [← hp, ← hb, ← ha] at hp2
  rw [← hp]
  have HP2 := hide hp2
  clear hp hb ha hp2 hb2 HNEW HB01 HRD
  go_wp2_with fail
  refine (HNF.out _ HB02.out).mono ?_
  rintro e w3 ⟨no3, nc3, rfl, hn3, hb⟩
  have HP3 := hide (HP2.out.below hb)
  have HB03 := hide (HB02.out.trans (hb.mono HB02.out.size))
  have HTA := hide (HT1.out _ p a b _ nc3 HP3.out hn3)
  clear hb hn3 HP2 HB02
  go_wp2_with fail
  refine HTA.out.mono ?_
  rintro e w4 ⟨rfl, hp4, ho4⟩
  have HP4 := hide hp4
  have HB04 : Hid (Below W.heap.size W w4) := hide (HB03.out.trans (ho4.toBelow HB03.out.size (fun i e => by rw [e]; exact hbg)))
  clear hp4 ho4 HP3 HB03 HTA HT1
  go_wp2_with fail
  refine (HNS.out _ HB04.out).mono ?_
  rintro e w5 ⟨no5, nc5, rfl, hn5, hb⟩
  have HP5 := hide (HP4.out.below hb)
  have HB05 := hide (HB04.out.trans (hb.mono HB04.out.size))
  have HTA := hide (HT2.out _ p a b _ nc5 HP5.out hn5)
  clear hb hn5 HP4 HB04
  go_wp2_with fail
  refine HTA.out.mono ?_
  rintro e w6 ⟨rfl, hp6, ho6⟩
  have HP6 := hide hp6
  have HB06 : Hid (Below W.heap.size W w6) := hide (HB05.out.trans (ho6.toBelow HB05.out.size (fun i e => by rw [e]; exact hbg)))
  clear hp6 ho6 HP5 HB05 HTA HT2 HNF HNS
  go_wp2
  go_loopw [8] (fun i wr => ∃ k : Nat, k ≤ l.length ∧ i = .int .i64 k ∧ PoAt wr p a b R H ∧ Below W.heap.size W wr) (fun i _ => l.length - (intOf i).toNat)
  case atStart => exact ⟨0, Nat.zero_le _, rfl, HP6.out, HB06.out⟩
  case round =>
    clear HP6 HB06
    obtain ⟨k, hk, rfl, hpo, hbl⟩ := hrel
    have HPO := hide hpo
    have HBL := hide hbl
    clear hpo hbl
    by_cases hlt : k < l.length
    · have HLT := hide hlt
      have hk0 : (0 : Int) ≤ (k : Int) := by omega
      have hk1 : (k : Int) < ((l.length : Nat) : Int) := by omega
      obtain ⟨g, o, rfl, _, hg, hcells⟩ := HL.out (by omega)
      obtain ⟨e0, _, _⟩ := hcells k l[k] (List.getElem?_eq_getElem hlt)
      have e1 := Below.keeps HBL.out (Nat.le_refl _) e0
      have hfn : FitN (l[k]).1 := HFL.out _ (List.getElem_mem hlt)
      clear hcells
      generalize (l[k]).1 = nm at *
      have HIN := hide HPO.out.fine.hin
      have HRU := hide HPO.out.fine.ru
      have HLS := hide (plist_any p a b R H wr.drew (HPO.out.drew) (by omega))
      have HTO := hide (fun w g cap (hr : HdRow w wr.drew.heap.size g cap H) => total_any H wr.drew.heap.size g cap nm w hr (by omega) (fun x hx => by
        obtain ⟨kd, _, ho⟩ := HIN.out x hx
        exact ho.tot))
      have HU := hide (fun w (h : PoAt w p a b R H) => units_any nm hfn p a b R H w h)
      have HF := hide (fun w (h : PoAt w p a b R H) => free_any nm hfn p a b R H w h (by omega))
      have HEX := hide (HS2.out.ex nm)
      have HUN := hide (HS2.out.un nm)
      have HUB := hide (useF_bd nm HPO.out.fine.small)
      have KP : Hid (∀ w', Below wr.drew.heap.size wr.drew w' → w'.cell? ⟨g, o + k * 3, none⟩ = some (.string nm)) := hide (fun w' hb => Below.keeps hb (Nat.le_refl _) (show wr.drew.cell? _ = _ from e1))
      unfold ptr ListedH at *
      clear e0 hfn
      rcases hfk : findK R nm with _ | kd
      · have hu0 := use_no hfk HIN.out
        unfold unitsF at HU
        unfold freeF at HF
        rw [hfk] at HU HF
        rw [hu0] at HTO
        clear HEX HUN HUB hu0 hfk HIN HRU
        simp only at HU HF HTO
        go_wp2_with fail
        first
          | (go_region_held3 (fun w' => w'.cell? ⟨g, o + k * 3, none⟩ = some (.string nm)) (go_keep)
              (first
                | (go_at_call 22; refine HLS.out.mono ?_; rintro e w7 ⟨g7, cap7, rfl, hr7, hb7⟩; have HR7 := hide hr7; have HB7 := hide hb7; have q7 := KP.out _ hb7; clear hr7 hb7)
                | (go_at_call 39; refine (HTO.out _ _ _ HR7.out).mono ?_; rintro e w8 ⟨rfl, hb8⟩; have HB8 := hide (HB7.out.trans (hb8.mono HB7.out.size)); have q8 := KP.out _ HB8.out; clear hb8)))
          | fail
        all_goals
          have HP8 := hide (HPO.out.drew.below HB8.out)
          go_wp2_with fail
          refine (HU.out _ HP8.out).mono ?_
          rintro e w9 ⟨rfl, hb9⟩
          have HP9 := hide (HP8.out.below hb9)
          have HB9 := hide (HB8.out.trans (hb9.mono HB8.out.size))
          have q9 := KP.out _ HB9.out
          clear hb9
          go_wp2_with fail
          refine (HF.out _ HP9.out).mono ?_
          rintro e w10 ⟨rfl, hb10⟩
          have HP10 := hide (HP9.out.below hb10)
          have HB10 : Hid (Below W.heap.size W w10) := hide (HBL.out.trans (((Below.refl wr.heap.size wr).drew.trans (HB9.out.trans (hb10.mono HB9.out.size))).mono HBL.out.size))
          clear hb10
          go_wp2
          go_roundw
          case rel => exact ⟨k + 1, by have := HLT.out; omega, by go_num, HP10.out, HB10.out⟩
          case measure => have := HLT.out; simp [intOf]; omega
      · rcases kd with n0 | _
        · obtain ⟨hs0, hx0⟩ := use_units hfk HIN.out
          have hun := HUN.out n0 hfk
          have hub := HUB.out.1
          have hn0 := HRU.out nm n0 (findK_in hfk)
          unfold unitsF at HU
          unfold freeF at HF
          rw [hfk] at HU HF
          rw [hs0, hx0] at HTO
          simp only at HU HF HTO
          generalize (useF H nm).1 = u1 at *
          have hsub : n0 - (n0 - u1) = u1 := by omega
          have hw1 : IntKind.i64.wrap (n0 - (n0 - u1)) = u1 := by rw [IntKind.wrap_i64]; omega
          have hne : (u1 != u1) = false := by simp
          clear HEX HUN HUB hs0 hx0 hfk HIN HRU
          go_wp2_with fail
          first
            | (go_region_held3 (fun w' => w'.cell? ⟨g, o + k * 3, none⟩ = some (.string nm)) (go_keep)
                (first
                  | (go_at_call 22; refine HLS.out.mono ?_; rintro e w7 ⟨g7, cap7, rfl, hr7, hb7⟩; have HR7 := hide hr7; have HB7 := hide hb7; have q7 := KP.out _ hb7; clear hr7 hb7)
                  | (go_at_call 39; refine (HTO.out _ _ _ HR7.out).mono ?_; rintro e w8 ⟨rfl, hb8⟩; have HB8 := hide (HB7.out.trans (hb8.mono HB7.out.size)); have q8 := KP.out _ HB8.out; clear hb8)))
            | fail
          all_goals
            have HP8 := hide (HPO.out.drew.below HB8.out)
            go_wp2_with fail
            refine (HU.out _ HP8.out).mono ?_
            rintro e w9 ⟨rfl, hb9⟩
            have HP9 := hide (HP8.out.below hb9)
            have HB9 := hide (HB8.out.trans (hb9.mono HB8.out.size))
            have q9 := KP.out _ HB9.out
            clear hb9
            go_wp2_with fail
            refine (HF.out _ HP9.out).mono ?_
            rintro e w10 ⟨rfl, hb10⟩
            have HP10 := hide (HP9.out.below hb10)
            have HB10 : Hid (Below W.heap.size W w10) := hide (HBL.out.trans (((Below.refl wr.heap.size wr).drew.trans (HB9.out.trans (hb10.mono HB9.out.size))).mono HBL.out.size))
            clear hb10
            go_wp2
            go_roundw
            case rel => exact ⟨k + 1, by have := HLT.out; omega, by go_num, HP10.out, HB10.out⟩
            case measure => have := HLT.out; simp [intOf]; omega
        · have hl0 := use_lock hfk HIN.out
          have hub2 := HUB.out.2.2.1
          unfold unitsF at HU
          unfold freeF at HF
          rw [hfk] at HU HF
          rw [hl0] at HTO
          simp only at HU HF HTO
          have hex := HEX.out
          generalize (useF H nm).2.1 = s1 at *
          generalize (useF H nm).2.2 = x1 at *
          clear HEX HUN HUB hl0 hfk HIN HRU
          rcases hex with rfl | ⟨rfl, rfl⟩
          · go_wp2_with fail
            first
              | (go_region_held3 (fun w' => w'.cell? ⟨g, o + k * 3, none⟩ = some (.string nm)) (go_keep)
                  (first
                    | (go_at_call 22; refine HLS.out.mono ?_; rintro e w7 ⟨g7, cap7, rfl, hr7, hb7⟩; have HR7 := hide hr7; have HB7 := hide hb7; have q7 := KP.out _ hb7; clear hr7 hb7)
                    | (go_at_call 39; refine (HTO.out _ _ _ HR7.out).mono ?_; rintro e w8 ⟨rfl, hb8⟩; have HB8 := hide (HB7.out.trans (hb8.mono HB7.out.size)); have q8 := KP.out _ HB8.out; clear hb8)))
              | fail
            all_goals
              have HP8 := hide (HPO.out.drew.below HB8.out)
              go_wp2_with fail
              refine (HU.out _ HP8.out).mono ?_
              rintro e w9 ⟨rfl, hb9⟩
              have HP9 := hide (HP8.out.below hb9)
              have HB9 := hide (HB8.out.trans (hb9.mono HB8.out.size))
              have q9 := KP.out _ HB9.out
              clear hb9
              go_wp2_with fail
              refine (HF.out _ HP9.out).mono ?_
              rintro e w10 ⟨rfl, hb10⟩
              have HP10 := hide (HP9.out.below hb10)
              have HB10 : Hid (Below W.heap.size W w10) := hide (HBL.out.trans (((Below.refl wr.heap.size wr).drew.trans (HB9.out.trans (hb10.mono HB9.out.size))).mono HBL.out.size))
              clear hb10
              go_wp2
              go_roundw
              case rel => exact ⟨k + 1, by have := HLT.out; omega, by go_num, HP10.out, HB10.out⟩
              case measure => have := HLT.out; simp [intOf]; omega
          · go_wp2_with fail
            first
              | (go_region_held3 (fun w' => w'.cell? ⟨g, o + k * 3, none⟩ = some (.string nm)) (go_keep)
                  (first
                    | (go_at_call 22; refine HLS.out.mono ?_; rintro e w7 ⟨g7, cap7, rfl, hr7, hb7⟩; have HR7 := hide hr7; have HB7 := hide hb7; have q7 := KP.out _ hb7; clear hr7 hb7)
                    | (go_at_call 39; refine (HTO.out _ _ _ HR7.out).mono ?_; rintro e w8 ⟨rfl, hb8⟩; have HB8 := hide (HB7.out.trans (hb8.mono HB7.out.size)); have q8 := KP.out _ HB8.out; clear hb8)))
              | fail
            all_goals
              have HP8 := hide (HPO.out.drew.below HB8.out)
              go_wp2_with fail
              refine (HU.out _ HP8.out).mono ?_
              rintro e w9 ⟨rfl, hb9⟩
              have HP9 := hide (HP8.out.below hb9)
              have HB9 := hide (HB8.out.trans (hb9.mono HB8.out.size))
              have q9 := KP.out _ HB9.out
              clear hb9
              go_wp2_with fail
              refine (HF.out _ HP9.out).mono ?_
              rintro e w10 ⟨rfl, hb10⟩
              have HP10 := hide (HP9.out.below hb10)
              have HB10 : Hid (Below W.heap.size W w10) := hide (HBL.out.trans (((Below.refl wr.heap.size wr).drew.trans (HB9.out.trans (hb10.mono HB9.out.size))).mono HBL.out.size))
              clear hb10
              go_wp2
              go_roundw
              case rel => exact ⟨k + 1, by have := HLT.out; omega, by go_num, HP10.out, HB10.out⟩
              case measure => have := HLT.out; simp [intOf]; omega
    · have hk1 : ¬ (k : Int) < ((l.length : Nat) : Int) := by omega
      go_wp2_with fail
      refine (HK.out _).mono ?_
      rintro e w9 ⟨rfl, hb9⟩
      have HB9 := hide (HBL.out.trans (hb9.mono HBL.out.size))
      clear hb9
      go_wp2
      go_ret
      exact ⟨rfl, HB9.out⟩
end Go.Proofs.Ytkpambipgcjaiaa
