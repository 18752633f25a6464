/- Law NeedBoth of layer 14. Written by gen_nea.py. -/
import Derived.Test.YtkpambipgcjaiaaNdK
namespace Go.Proofs.Ytkpambipgcjaiaa
open Go.ChangeShapes Go.WideShapes Go.ChangeAt Go.RowKit Go.DsMem Go.DsCo Go.DsPl Go.DsMap
set_option linter.unusedVariables false
set_option linter.unusedSimpArgs false
set_option maxHeartbeats 16000000 in
set_option maxRecDepth 20000 in
theorem both14 (l : List Rt) (fs sd : List Ne) (uo vo xo : Option Addr) (uc vc xc : Nat) (W : World) (hl : RtAt W uo uc l) (hf : NeAt W vo vc fs) (hs : NeAt W xo xc sd) (hfl : FitR l) (hff : FitL fs) (hfs : FitL sd) (hlc : l.length ≤ uc) (hfc : fs.length ≤ vc) (hsc : sd.length ≤ xc) :
    Calls Try.prog 6 #[.slice uo l.length uc, .slice vo fs.length vc, .slice xo sd.length xc] W fun e w' => e = .returned (.bool true) ∧ Below W.heap.size W w' := by
  have HK := hide (fun w => known14 w)
  by_cases h20 : 20 < l.length
  · have h20' : (20 : Int) < ((l.length : Nat) : Int) := by omega
    clear hl hf hs hfl hff hfs
    go_enter Try.func6, Try.ntmps6
    go_wp2_with fail
    refine (HK.out _).mono ?_
    rintro e w1 ⟨rfl, hb1⟩
    have HB1 := hide hb1
    clear hb1
    go_wp2
    go_ret
    exact ⟨rfl, HB1.out⟩
  have h20' : ¬ (20 : Int) < ((l.length : Nat) : Int) := by omega
  by_cases f20 : 20 < fs.length
  · have f20' : (20 : Int) < ((fs.length : Nat) : Int) := by omega
    clear hl hf hs hfl hff hfs
    go_enter Try.func6, Try.ntmps6
    go_wp2_with fail
    refine (HK.out _).mono ?_
    rintro e w1 ⟨rfl, hb1⟩
    have HB1 := hide hb1
    clear hb1
    go_wp2
    go_ret
    exact ⟨rfl, HB1.out⟩
  have f20' : ¬ (20 : Int) < ((fs.length : Nat) : Int) := by omega
  by_cases s20 : 20 < sd.length
  · have s20' : (20 : Int) < ((sd.length : Nat) : Int) := by omega
    clear hl hf hs hfl hff hfs
    go_enter Try.func6, Try.ntmps6
    go_wp2_with fail
    refine (HK.out _).mono ?_
    rintro e w1 ⟨rfl, hb1⟩
    have HB1 := hide hb1
    clear hb1
    go_wp2
    go_ret
    exact ⟨rfl, HB1.out⟩
  have s20' : ¬ (20 : Int) < ((sd.length : Nat) : Int) := by omega
  have HRES := hide (res14_any l uo uc W (by omega) hl)
  have HNEW := hide (fun uo uc w hr => new_any l uo uc w hr hfl (by omega))
  have HNF := hide (fun w (hb : Below W.heap.size W w) => needs14_any fs vo vc w (by omega) (hf.keep hb))
  have HNS := hide (fun w (hb : Below W.heap.size W w) => needs14_any sd xo xc w (by omega) (hs.keep hb))
  obtain ⟨hnf, hnl⟩ := newF_fine l [] fine0 hfl
  have hRl : (newF l).length ≤ 20 := by have : (newF l).length ≤ 0 + l.length := hnl; omega
  have hfine : FineP (newF l) [] := hnf
  obtain ⟨R, hR⟩ : ∃ R, newF l = R := ⟨_, rfl⟩
  rw [hR] at HNEW hRl hfine
  have HFS := hide (bothF_fits (a := fs) (b := sd) hfine)
  have HB1 := hide (fun w p a b no mo nc mc (h : PoAt w p a b R []) hr hs => nboth_any fs sd no mo nc mc p a b R [] w h hr hs hff hfs (by omega) (by omega) (by simp) (by omega))
  have HB2 := hide (fun w p a b no mo nc mc (h : PoAt w p a b R []) hr hs => nboth_any sd fs no mo nc mc p a b R [] w h hr hs hfs hff (by omega) (by omega) (by simp) (by omega))
  rw [bothF_symm hfine sd fs] at HB2
  have HF1 := hide (fun w p a b no nc (h : PoAt w p a b R []) hr => nfits_any fs no nc p a b R [] w h hr hff (by omega) (by simp) (by omega))
  have HF2 := hide (fun w p a b no nc (h : PoAt w p a b R []) hr => nfits_any sd no nc p a b R [] w h hr hfs (by omega) (by simp) (by omega))
  generalize bothF R fs sd = X at *
  clear hl hf hs hff hfs hfl hnf hnl hR hfine
  unfold ptr at *
  have hcase : (fs.length = 0) ∨ (0 < fs.length ∧ sd.length = 0) ∨ (0 < fs.length ∧ 0 < sd.length) := by omega
  rcases hcase with h1 | ⟨h1, h2⟩ | ⟨h1, h2⟩
  · cases X
    · have g1 : ¬ (0 : Int) < ((fs.length : Nat) : Int) := by omega
      clear h1
      go_enter Try.func6, Try.ntmps6
      go_wp2_with fail
      refine HRES.out.mono ?_
      rintro e w1 ⟨ro, rc, rfl, hrd, hb1⟩
      have HRD := hide hrd
      have HB01 := hide hb1
      clear hrd hb1 HRES
      go_wp2_with fail
      refine (HNEW.out _ _ _ HRD.out).mono ?_
      rintro e w2 ⟨rfl, hp2, hb2⟩
      have HB02 : Hid (Below W.heap.size W w2) := hide (HB01.out.trans (hb2.mono HB01.out.size))
      obtain ⟨p, hp⟩ : ∃ p, p = w1.heap.size + 2 := ⟨_, rfl⟩
      obtain ⟨b, hb⟩ : ∃ b, b = w1.heap.size + 1 := ⟨_, rfl⟩
      obtain ⟨a, ha⟩ : ∃ a, a = w1.heap.size := ⟨_, rfl⟩
      rw [← hp, ← hb, ← ha] at hp2
      rw [← hp]
      have HP2 := hide hp2
      clear hp hb ha hp2 hb2 HNEW HB01 HRD
      go_wp2_with fail
      refine (HNF.out _ HB02.out).mono ?_
      rintro e w3 ⟨no3, nc3, rfl, hn3, hb⟩
      have HP3 := hide (HP2.out.below hb)
      have HB03 := hide (HB02.out.trans (hb.mono HB02.out.size))
      have HN3 := hide hn3
      clear hb hn3 HP2 HB02
      go_wp2_with fail
      refine (HNS.out _ HB03.out).mono ?_
      rintro e w4 ⟨no4, nc4, rfl, hn4, hb⟩
      have HP4 := hide (HP3.out.below hb)
      have HB04 := hide (HB03.out.trans (hb.mono HB03.out.size))
      have HN4 := hide hn4
      have HN3 := hide (HN3.out.below hb)
      clear hb hn4 HP3 HB03
      go_wp2_with fail
      refine (HB1.out _ p a b _ _ _ _ HP4.out HN3.out HN4.out).mono ?_
      rintro e w5 ⟨rfl, hb⟩
      have HP5 := hide (HP4.out.below hb)
      have HB05 := hide (HB04.out.trans (hb.mono HB04.out.size))
      clear hb HP4 HB04
      go_wp2_with fail
      refine (HK.out _).mono ?_
      rintro e wz ⟨rfl, hb⟩
      have HBZ := hide (HB05.out.trans (hb.mono HB05.out.size))
      clear hb
      go_wp2
      go_ret
      exact ⟨rfl, HBZ.out⟩
    · have g1 : ¬ (0 : Int) < ((fs.length : Nat) : Int) := by omega
      clear h1
      obtain ⟨hx1, hx2⟩ := HFS.out rfl
      rw [hx1] at HF1
      rw [hx2] at HF2
      clear hx1 hx2
      go_enter Try.func6, Try.ntmps6
      go_wp2_with fail
      refine HRES.out.mono ?_
      rintro e w1 ⟨ro, rc, rfl, hrd, hb1⟩
      have HRD := hide hrd
      have HB01 := hide hb1
      clear hrd hb1 HRES
      go_wp2_with fail
      refine (HNEW.out _ _ _ HRD.out).mono ?_
      rintro e w2 ⟨rfl, hp2, hb2⟩
      have HB02 : Hid (Below W.heap.size W w2) := hide (HB01.out.trans (hb2.mono HB01.out.size))
      obtain ⟨p, hp⟩ : ∃ p, p = w1.heap.size + 2 := ⟨_, rfl⟩
      obtain ⟨b, hb⟩ : ∃ b, b = w1.heap.size + 1 := ⟨_, rfl⟩
      obtain ⟨a, ha⟩ : ∃ a, a = w1.heap.size := ⟨_, rfl⟩
      rw [← hp, ← hb, ← ha] at hp2
      rw [← hp]
      have HP2 := hide hp2
      clear hp hb ha hp2 hb2 HNEW HB01 HRD
      go_wp2_with fail
      refine (HNF.out _ HB02.out).mono ?_
      rintro e w3 ⟨no3, nc3, rfl, hn3, hb⟩
      have HP3 := hide (HP2.out.below hb)
      have HB03 := hide (HB02.out.trans (hb.mono HB02.out.size))
      have HN3 := hide hn3
      clear hb hn3 HP2 HB02
      go_wp2_with fail
      refine (HNS.out _ HB03.out).mono ?_
      rintro e w4 ⟨no4, nc4, rfl, hn4, hb⟩
      have HP4 := hide (HP3.out.below hb)
      have HB04 := hide (HB03.out.trans (hb.mono HB03.out.size))
      have HN4 := hide hn4
      have HN3 := hide (HN3.out.below hb)
      clear hb hn4 HP3 HB03
      go_wp2_with fail
      refine (HB1.out _ p a b _ _ _ _ HP4.out HN3.out HN4.out).mono ?_
      rintro e w5 ⟨rfl, hb⟩
      have HP5 := hide (HP4.out.below hb)
      have HB05 := hide (HB04.out.trans (hb.mono HB04.out.size))
      clear hb HP4 HB04
      go_wp2_with fail
      refine (HNF.out _ HB05.out).mono ?_
      rintro e w6 ⟨no6, nc6, rfl, hn6, hb⟩
      have HP6 := hide (HP5.out.below hb)
      have HB06 := hide (HB05.out.trans (hb.mono HB05.out.size))
      have HN6 := hide hn6
      clear hb hn6 HP5 HB05
      go_wp2_with fail
      refine (HF1.out _ p a b _ _ HP6.out HN6.out).mono ?_
      rintro e w7 ⟨rfl, hb⟩
      have HP7 := hide (HP6.out.below hb)
      have HB07 := hide (HB06.out.trans (hb.mono HB06.out.size))
      clear hb HP6 HB06
      go_wp2_with fail
      refine (HNS.out _ HB07.out).mono ?_
      rintro e w8 ⟨no8, nc8, rfl, hn8, hb⟩
      have HP8 := hide (HP7.out.below hb)
      have HB08 := hide (HB07.out.trans (hb.mono HB07.out.size))
      have HN8 := hide hn8
      clear hb hn8 HP7 HB07
      go_wp2_with fail
      refine (HF2.out _ p a b _ _ HP8.out HN8.out).mono ?_
      rintro e w9 ⟨rfl, hb⟩
      have HP9 := hide (HP8.out.below hb)
      have HB09 := hide (HB08.out.trans (hb.mono HB08.out.size))
      clear hb HP8 HB08
      go_wp2_with fail
      refine (HK.out _).mono ?_
      rintro e wz ⟨rfl, hb⟩
      have HBZ := hide (HB09.out.trans (hb.mono HB09.out.size))
      clear hb
      go_wp2
      go_ret
      exact ⟨rfl, HBZ.out⟩
  · cases X
    · have g1 : (0 : Int) < ((fs.length : Nat) : Int) := by omega
      have g2 : ¬ (0 : Int) < ((sd.length : Nat) : Int) := by omega
      clear h1 h2
      go_enter Try.func6, Try.ntmps6
      go_wp2_with fail
      refine HRES.out.mono ?_
      rintro e w1 ⟨ro, rc, rfl, hrd, hb1⟩
      have HRD := hide hrd
      have HB01 := hide hb1
      clear hrd hb1 HRES
      go_wp2_with fail
      refine (HNEW.out _ _ _ HRD.out).mono ?_
      rintro e w2 ⟨rfl, hp2, hb2⟩
      have HB02 : Hid (Below W.heap.size W w2) := hide (HB01.out.trans (hb2.mono HB01.out.size))
      obtain ⟨p, hp⟩ : ∃ p, p = w1.heap.size + 2 := ⟨_, rfl⟩
      obtain ⟨b, hb⟩ : ∃ b, b = w1.heap.size + 1 := ⟨_, rfl⟩
      obtain ⟨a, ha⟩ : ∃ a, a = w1.heap.size := ⟨_, rfl⟩
      rw [← hp, ← hb, ← ha] at hp2
      rw [← hp]
      have HP2 := hide hp2
      clear hp hb ha hp2 hb2 HNEW HB01 HRD
      go_wp2_with fail
      refine (HNF.out _ HB02.out).mono ?_
      rintro e w3 ⟨no3, nc3, rfl, hn3, hb⟩
      have HP3 := hide (HP2.out.below hb)
      have HB03 := hide (HB02.out.trans (hb.mono HB02.out.size))
      have HN3 := hide hn3
      clear hb hn3 HP2 HB02
      go_wp2_with fail
      refine (HNS.out _ HB03.out).mono ?_
      rintro e w4 ⟨no4, nc4, rfl, hn4, hb⟩
      have HP4 := hide (HP3.out.below hb)
      have HB04 := hide (HB03.out.trans (hb.mono HB03.out.size))
      have HN4 := hide hn4
      have HN3 := hide (HN3.out.below hb)
      clear hb hn4 HP3 HB03
      go_wp2_with fail
      refine (HB1.out _ p a b _ _ _ _ HP4.out HN3.out HN4.out).mono ?_
      rintro e w5 ⟨rfl, hb⟩
      have HP5 := hide (HP4.out.below hb)
      have HB05 := hide (HB04.out.trans (hb.mono HB04.out.size))
      clear hb HP4 HB04
      go_wp2_with fail
      refine (HK.out _).mono ?_
      rintro e wz ⟨rfl, hb⟩
      have HBZ := hide (HB05.out.trans (hb.mono HB05.out.size))
      clear hb
      go_wp2
      go_ret
      exact ⟨rfl, HBZ.out⟩
    · have g1 : (0 : Int) < ((fs.length : Nat) : Int) := by omega
      have g2 : ¬ (0 : Int) < ((sd.length : Nat) : Int) := by omega
      clear h1 h2
      obtain ⟨hx1, hx2⟩ := HFS.out rfl
      rw [hx1] at HF1
      rw [hx2] at HF2
      clear hx1 hx2
      go_enter Try.func6, Try.ntmps6
      go_wp2_with fail
      refine HRES.out.mono ?_
      rintro e w1 ⟨ro, rc, rfl, hrd, hb1⟩
      have HRD := hide hrd
      have HB01 := hide hb1
      clear hrd hb1 HRES
      go_wp2_with fail
      refine (HNEW.out _ _ _ HRD.out).mono ?_
      rintro e w2 ⟨rfl, hp2, hb2⟩
      have HB02 : Hid (Below W.heap.size W w2) := hide (HB01.out.trans (hb2.mono HB01.out.size))
      obtain ⟨p, hp⟩ : ∃ p, p = w1.heap.size + 2 := ⟨_, rfl⟩
      obtain ⟨b, hb⟩ : ∃ b, b = w1.heap.size + 1 := ⟨_, rfl⟩
      obtain ⟨a, ha⟩ : ∃ a, a = w1.heap.size := ⟨_, rfl⟩
      rw [← hp, ← hb, ← ha] at hp2
      rw [← hp]
      have HP2 := hide hp2
      clear hp hb ha hp2 hb2 HNEW HB01 HRD
      go_wp2_with fail
      refine (HNF.out _ HB02.out).mono ?_
      rintro e w3 ⟨no3, nc3, rfl, hn3, hb⟩
      have HP3 := hide (HP2.out.below hb)
      have HB03 := hide (HB02.out.trans (hb.mono HB02.out.size))
      have HN3 := hide hn3
      clear hb hn3 HP2 HB02
      go_wp2_with fail
      refine (HNS.out _ HB03.out).mono ?_
      rintro e w4 ⟨no4, nc4, rfl, hn4, hb⟩
      have HP4 := hide (HP3.out.below hb)
      have HB04 := hide (HB03.out.trans (hb.mono HB03.out.size))
      have HN4 := hide hn4
      have HN3 := hide (HN3.out.below hb)
      clear hb hn4 HP3 HB03
      go_wp2_with fail
      refine (HB1.out _ p a b _ _ _ _ HP4.out HN3.out HN4.out).mono ?_
      rintro e w5 ⟨rfl, hb⟩
      have HP5 := hide (HP4.out.below hb)
      have HB05 := hide (HB04.out.trans (hb.mono HB04.out.size))
      clear hb HP4 HB04
      go_wp2_with fail
      refine (HNF.out _ HB05.out).mono ?_
      rintro e w6 ⟨no6, nc6, rfl, hn6, hb⟩
      have HP6 := hide (HP5.out.below hb)
      have HB06 := hide (HB05.out.trans (hb.mono HB05.out.size))
      have HN6 := hide hn6
      clear hb hn6 HP5 HB05
      go_wp2_with fail
      refine (HF1.out _ p a b _ _ HP6.out HN6.out).mono ?_
      rintro e w7 ⟨rfl, hb⟩
      have HP7 := hide (HP6.out.below hb)
      have HB07 := hide (HB06.out.trans (hb.mono HB06.out.size))
      clear hb HP6 HB06
      go_wp2_with fail
      refine (HNS.out _ HB07.out).mono ?_
      rintro e w8 ⟨no8, nc8, rfl, hn8, hb⟩
      have HP8 := hide (HP7.out.below hb)
      have HB08 := hide (HB07.out.trans (hb.mono HB07.out.size))
      have HN8 := hide hn8
      clear hb hn8 HP7 HB07
      go_wp2_with fail
      refine (HF2.out _ p a b _ _ HP8.out HN8.out).mono ?_
      rintro e w9 ⟨rfl, hb⟩
      have HP9 := hide (HP8.out.below hb)
      have HB09 := hide (HB08.out.trans (hb.mono HB08.out.size))
      clear hb HP8 HB08
      go_wp2_with fail
      refine (HK.out _).mono ?_
      rintro e wz ⟨rfl, hb⟩
      have HBZ := hide (HB09.out.trans (hb.mono HB09.out.size))
      clear hb
      go_wp2
      go_ret
      exact ⟨rfl, HBZ.out⟩
  · cases X
    · have g1 : (0 : Int) < ((fs.length : Nat) : Int) := by omega
      have g2 : (0 : Int) < ((sd.length : Nat) : Int) := by omega
      clear h1 h2
      go_enter Try.func6, Try.ntmps6
      go_wp2_with fail
      refine HRES.out.mono ?_
      rintro e w1 ⟨ro, rc, rfl, hrd, hb1⟩
      have HRD := hide hrd
      have HB01 := hide hb1
      clear hrd hb1 HRES
      go_wp2_with fail
      refine (HNEW.out _ _ _ HRD.out).mono ?_
      rintro e w2 ⟨rfl, hp2, hb2⟩
      have HB02 : Hid (Below W.heap.size W w2) := hide (HB01.out.trans (hb2.mono HB01.out.size))
      obtain ⟨p, hp⟩ : ∃ p, p = w1.heap.size + 2 := ⟨_, rfl⟩
      obtain ⟨b, hb⟩ : ∃ b, b = w1.heap.size + 1 := ⟨_, rfl⟩
      obtain ⟨a, ha⟩ : ∃ a, a = w1.heap.size := ⟨_, rfl⟩
      rw [← hp, ← hb, ← ha] at hp2
      rw [← hp]
      have HP2 := hide hp2
      clear hp hb ha hp2 hb2 HNEW HB01 HRD
      go_wp2_with fail
      refine (HNF.out _ HB02.out).mono ?_
      rintro e w3 ⟨no3, nc3, rfl, hn3, hb⟩
      have HP3 := hide (HP2.out.below hb)
      have HB03 := hide (HB02.out.trans (hb.mono HB02.out.size))
      have HN3 := hide hn3
      clear hb hn3 HP2 HB02
      go_wp2_with fail
      refine (HNS.out _ HB03.out).mono ?_
      rintro e w4 ⟨no4, nc4, rfl, hn4, hb⟩
      have HP4 := hide (HP3.out.below hb)
      have HB04 := hide (HB03.out.trans (hb.mono HB03.out.size))
      have HN4 := hide hn4
      have HN3 := hide (HN3.out.below hb)
      clear hb hn4 HP3 HB03
      go_wp2_with fail
      refine (HB1.out _ p a b _ _ _ _ HP4.out HN3.out HN4.out).mono ?_
      rintro e w5 ⟨rfl, hb⟩
      have HP5 := hide (HP4.out.below hb)
      have HB05 := hide (HB04.out.trans (hb.mono HB04.out.size))
      clear hb HP4 HB04
      go_wp2_with fail
      refine (HNS.out _ HB05.out).mono ?_
      rintro e w6 ⟨no6, nc6, rfl, hn6, hb⟩
      have HP6 := hide (HP5.out.below hb)
      have HB06 := hide (HB05.out.trans (hb.mono HB05.out.size))
      have HN6 := hide hn6
      clear hb hn6 HP5 HB05
      go_wp2_with fail
      refine (HNF.out _ HB06.out).mono ?_
      rintro e w7 ⟨no7, nc7, rfl, hn7, hb⟩
      have HP7 := hide (HP6.out.below hb)
      have HB07 := hide (HB06.out.trans (hb.mono HB06.out.size))
      have HN7 := hide hn7
      have HN6 := hide (HN6.out.below hb)
      clear hb hn7 HP6 HB06
      go_wp2_with fail
      refine (HB2.out _ p a b _ _ _ _ HP7.out HN6.out HN7.out).mono ?_
      rintro e w8 ⟨rfl, hb⟩
      have HP8 := hide (HP7.out.below hb)
      have HB08 := hide (HB07.out.trans (hb.mono HB07.out.size))
      clear hb HP7 HB07
      go_wp2_with fail
      refine (HK.out _).mono ?_
      rintro e wz ⟨rfl, hb⟩
      have HBZ := hide (HB08.out.trans (hb.mono HB08.out.size))
      clear hb
      go_wp2
      go_ret
      exact ⟨rfl, HBZ.out⟩
    · have g1 : (0 : Int) < ((fs.length : Nat) : Int) := by omega
      have g2 : (0 : Int) < ((sd.length : Nat) : Int) := by omega
      clear h1 h2
      obtain ⟨hx1, hx2⟩ := HFS.out rfl
      rw [hx1] at HF1
      rw [hx2] at HF2
      clear hx1 hx2
      go_enter Try.func6, Try.ntmps6
      go_wp2_with fail
      refine HRES.out.mono ?_
      rintro e w1 ⟨ro, rc, rfl, hrd, hb1⟩
      have HRD := hide hrd
      have HB01 := hide hb1
      clear hrd hb1 HRES
      go_wp2_with fail
      refine (HNEW.out _ _ _ HRD.out).mono ?_
      rintro e w2 ⟨rfl, hp2, hb2⟩
      have HB02 : Hid (Below W.heap.size W w2) := hide (HB01.out.trans (hb2.mono HB01.out.size))
      obtain ⟨p, hp⟩ : ∃ p, p = w1.heap.size + 2 := ⟨_, rfl⟩
      obtain ⟨b, hb⟩ : ∃ b, b = w1.heap.size + 1 := ⟨_, rfl⟩
      obtain ⟨a, ha⟩ : ∃ a, a = w1.heap.size := ⟨_, rfl⟩
      rw [← hp, ← hb, ← ha] at hp2
      rw [← hp]
      have HP2 := hide hp2
      clear hp hb ha hp2 hb2 HNEW HB01 HRD
      go_wp2_with fail
      refine (HNF.out _ HB02.out).mono ?_
      rintro e w3 ⟨no3, nc3, rfl, hn3, hb⟩
      have HP3 := hide (HP2.out.below hb)
      have HB03 := hide (HB02.out.trans (hb.mono HB02.out.size))
      have HN3 := hide hn3
      clear hb hn3 HP2 HB02
      go_wp2_with fail
      refine (HNS.out _ HB03.out).mono ?_
      rintro e w4 ⟨no4, nc4, rfl, hn4, hb⟩
      have HP4 := hide (HP3.out.below hb)
      have HB04 := hide (HB03.out.trans (hb.mono HB03.out.size))
      have HN4 := hide hn4
      have HN3 := hide (HN3.out.below hb)
      clear hb hn4 HP3 HB03
      go_wp2_with fail
      refine (HB1.out _ p a b _ _ _ _ HP4.out HN3.out HN4.out).mono ?_
      rintro e w5 ⟨rfl, hb⟩
      have HP5 := hide (HP4.out.below hb)
      have HB05 := hide (HB04.out.trans (hb.mono HB04.out.size))
      clear hb HP4 HB04
      go_wp2_with fail
      refine (HNS.out _ HB05.out).mono ?_
      rintro e w6 ⟨no6, nc6, rfl, hn6, hb⟩
      have HP6 := hide (HP5.out.below hb)
      have HB06 := hide (HB05.out.trans (hb.mono HB05.out.size))
      have HN6 := hide hn6
      clear hb hn6 HP5 HB05
      go_wp2_with fail
      refine (HNF.out _ HB06.out).mono ?_
      rintro e w7 ⟨no7, nc7, rfl, hn7, hb⟩
      have HP7 := hide (HP6.out.below hb)
      have HB07 := hide (HB06.out.trans (hb.mono HB06.out.size))
      have HN7 := hide hn7
      have HN6 := hide (HN6.out.below hb)
      clear hb hn7 HP6 HB06
      go_wp2_with fail
      refine (HB2.out _ p a b _ _ _ _ HP7.out HN6.out HN7.out).mono ?_
      rintro e w8 ⟨rfl, hb⟩
      have HP8 := hide (HP7.out.below hb)
      have HB08 := hide (HB07.out.trans (hb.mono HB07.out.size))
      clear hb HP7 HB07
      go_wp2_with fail
      refine (HNF.out _ HB08.out).mono ?_
      rintro e w9 ⟨no9, nc9, rfl, hn9, hb⟩
      have HP9 := hide (HP8.out.below hb)
      have HB09 := hide (HB08.out.trans (hb.mono HB08.out.size))
      have HN9 := hide hn9
      clear hb hn9 HP8 HB08
      go_wp2_with fail
      refine (HF1.out _ p a b _ _ HP9.out HN9.out).mono ?_
      rintro e w10 ⟨rfl, hb⟩
      have HP10 := hide (HP9.out.below hb)
      have HB010 := hide (HB09.out.trans (hb.mono HB09.out.size))
      clear hb HP9 HB09
      go_wp2_with fail
      refine (HNS.out _ HB010.out).mono ?_
      rintro e w11 ⟨no11, nc11, rfl, hn11, hb⟩
      have HP11 := hide (HP10.out.below hb)
      have HB011 := hide (HB010.out.trans (hb.mono HB010.out.size))
      have HN11 := hide hn11
      clear hb hn11 HP10 HB010
      go_wp2_with fail
      refine (HF2.out _ p a b _ _ HP11.out HN11.out).mono ?_
      rintro e w12 ⟨rfl, hb⟩
      have HP12 := hide (HP11.out.below hb)
      have HB012 := hide (HB011.out.trans (hb.mono HB011.out.size))
      clear hb HP11 HB011
      go_wp2_with fail
      refine (HK.out _).mono ?_
      rintro e wz ⟨rfl, hb⟩
      have HBZ := hide (HB012.out.trans (hb.mono HB012.out.size))
      clear hb
      go_wp2
      go_ret
      exact ⟨rfl, HBZ.out⟩
end Go.Proofs.Ytkpambipgcjaiaa
