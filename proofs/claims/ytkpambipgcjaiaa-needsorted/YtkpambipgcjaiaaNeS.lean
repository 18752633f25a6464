/- Law NeedSorted of layer 14. Written by gen_nes.py. -/
import Derived.Test.YtkpambipgcjaiaaNdK
import Derived.Test.YtkpambipgcjaiaaNsC
namespace Go.Proofs.Ytkpambipgcjaiaa
open Go.ChangeShapes Go.WideShapes Go.ChangeAt Go.RowKit Go.DsMem Go.DsCo Go.DsPl Go.DsMap
set_option linter.unusedVariables false
set_option linter.unusedSimpArgs false
theorem gtr_false (a b : ByteArray) (h : ¬ b.data.toList < a.data.toList) (w : World) : (binOp BinOp.gtr 9 (.string a) (.string b)).run Try.prog w = .ok (.bool false) w := by
  have e2 : (Op.bytesLess a.toList b.toList || a.toList == b.toList) = true := by
    rw [Lib.toList_data, Lib.toList_data, bytesLess_eq]
    rcases k_total a.data.toList b.data.toList with h1 | h1 | h1
    · simp [h1]
    · simp [h1]
    · exact absurd h1 h
  rw [gtr_str, e2]; rfl
set_option maxHeartbeats 16000000 in
set_option maxRecDepth 20000 in
theorem sorted14 (l : List Rt) (fs : List Ne) (uo vo : Option Addr) (uc vc : Nat) (W : World) (hl : RtAt W uo uc l) (hf : NeAt W vo vc fs) (hfl : FitR l) (hff : FitL fs) (hlc : l.length ≤ uc) (hfc : fs.length ≤ vc) :
    Calls Try.prog 7 #[.slice uo l.length uc, .slice vo fs.length vc] W fun e w' => e = .returned (.bool true) ∧ Below W.heap.size W w' := by
  have HK := hide (fun w => known14 w)
  by_cases h20 : 20 < l.length
  · have h20' : (20 : Int) < ((l.length : Nat) : Int) := by omega
    clear hl hf hfl hff
    go_enter Try.func7, Try.ntmps7
    go_wp2_with fail
    refine (HK.out _).mono ?_
    rintro e w1 ⟨rfl, hb1⟩
    have HB1 := hide hb1
    clear hb1
    go_wp2
    go_ret
    exact ⟨rfl, HB1.out⟩
  have h20' : ¬ (20 : Int) < ((l.length : Nat) : Int) := by omega
  by_cases f20 : 20 < fs.length
  · have f20' : (20 : Int) < ((fs.length : Nat) : Int) := by omega
    clear hl hf hfl hff
    go_enter Try.func7, Try.ntmps7
    go_wp2_with fail
    refine (HK.out _).mono ?_
    rintro e w1 ⟨rfl, hb1⟩
    have HB1 := hide hb1
    clear hb1
    go_wp2
    go_ret
    exact ⟨rfl, HB1.out⟩
  have f20' : ¬ (20 : Int) < ((fs.length : Nat) : Int) := by omega
  have HRES := hide (res14_any l uo uc W (by omega) hl)
  have HNEW := hide (fun uo uc w hr => new_any l uo uc w hr hfl (by omega))
  have HNF := hide (fun w (hb : Below W.heap.size W w) => needs14_any fs vo vc w (by omega) (hf.keep hb))
  have HST := hide (fun uo uc w hr => sorted_any fs uo uc w hr (by omega))
  obtain ⟨hnf, hnl⟩ := newF_fine l [] fine0 hfl
  have hRl : (newF l).length ≤ 20 := by have : (newF l).length ≤ 0 + l.length := hnl; omega
  have hfine : FineP (newF l) [] := hnf
  obtain ⟨R, hR⟩ : ∃ R, newF l = R := ⟨_, rfl⟩
  rw [hR] at HNEW hRl hfine
  have HFI := hide (fun w p a b no nc (h : PoAt w p a b R []) hr => nfits_any fs no nc p a b R [] w h hr hff (by omega) (by simp) (by omega))
  have HFM := hide (fun (M : List Ne) (hp : M.Perm fs) w p a b no nc (h : PoAt w p a b R []) hr => nfits_any M no nc p a b R [] w h hr (fun n hn => hff n (hp.mem_iff.1 hn)) (by have := hp.length_eq; omega) (by simp) (by omega))
  have HEQ := hide (fun (M : List Ne) (hp : M.Perm fs) => mayF_perm_zero hfine.kn hp)
  clear hl hf hff hfl hnf hnl hR hfine
  unfold ptr SortedT at *
  go_enter Try.func7, Try.ntmps7
  go_wp2_with fail
  refine HRES.out.mono ?_
  rintro e w1 ⟨ro, rc, rfl, hrd, hb1⟩
  have HRD := hide hrd
  have HB1 := hide hb1
  clear hrd hb1 HRES
  go_wp2_with fail
  refine (HNEW.out _ _ _ HRD.out).mono ?_
  rintro e w2 ⟨rfl, hp2, hb2⟩
  have HB2 : Hid (Below W.heap.size W w2) := hide (HB1.out.trans (hb2.mono HB1.out.size))
  obtain ⟨p, hp⟩ : ∃ p, p = w1.heap.size + 2 := ⟨_, rfl⟩
  obtain ⟨b, hb⟩ : ∃ b, b = w1.heap.size + 1 := ⟨_, rfl⟩
  obtain ⟨a, ha⟩ : ∃ a, a = w1.heap.size := ⟨_, rfl⟩
  rw [← hp, ← hb, ← ha] at hp2
  rw [← hp]
  have HP2 := hide hp2
  clear hp hb ha hp2 hb2 HNEW HB1 HRD
  go_wp2_with fail
  refine (HNF.out _ HB2.out).mono ?_
  rintro e w3 ⟨no3, nc3, rfl, hn3, hb⟩
  have HP3 := hide (HP2.out.below hb)
  have HB3 := hide (HB2.out.trans (hb.mono HB2.out.size))
  have HN3 := hide hn3
  clear hb hn3 HP2 HB2
  go_wp2_with fail
  refine (HST.out _ _ _ HN3.out).mono ?_
  rintro e w4 ⟨so, sc, M, rfl, hpm, hso, hnm, _, hcap, hb⟩
  have HP4 := hide (HP3.out.below hb)
  have HB4 := hide (HB3.out.trans (hb.mono HB3.out.size))
  have HNM := hide hnm
  have HSO := hide hso
  have HPM := hide hpm
  have hml := hpm.length_eq
  clear hb hnm hso hpm HP3 HB3 HN3 HST
  go_wp2
  go_loopw [7] (fun i wr => ∃ q : Nat, 1 ≤ q ∧ q ≤ fs.length + 1 ∧ i = .int .i64 q ∧ PoAt wr p a b R [] ∧ NeRd wr so M ∧ Below W.heap.size W wr) (fun i _ => fs.length + 1 - (intOf i).toNat)
  case atStart => exact ⟨1, by omega, by omega, rfl, HP4.out, HNM.out, HB4.out⟩
  case round =>
    clear HP4 HNM HB4
    obtain ⟨q, hq1, hqL, rfl, hpo, hnm, hbl⟩ := hrel
    have HPO := hide hpo
    have HNM := hide hnm
    have HBL := hide hbl
    clear hpo hnm hbl
    by_cases hlt : q < fs.length
    · have HLT := hide hlt
      obtain ⟨qm, hqm⟩ : ∃ qm, qm + 1 = q := ⟨q - 1, by omega⟩
      have HQM := hide hqm
      obtain ⟨g, rfl, hg, hcs⟩ := HNM.out (by omega)
      have hqmm : qm < M.length := by omega
      have hqqm : q < M.length := by omega
      have a0 := (hcs qm M[qm] (List.getElem?_eq_getElem hqmm)).1
      have b0 := (hcs q M[q] (List.getElem?_eq_getElem hqqm)).1
      have hle : leN M[qm] M[q] := (List.pairwise_iff_getElem.1 HSO.out) qm q (by omega) (by omega) (by omega)
      have hgt := fun w => gtr_false M[qm].nm M[q].nm hle w
      have hq0 : (0 : Int) ≤ (q : Int) := by omega
      have hq2 : (q : Int) < ((fs.length : Nat) : Int) := by omega
      have hm0 : (0 : Int) ≤ (qm : Int) := by omega
      have hm2 : (qm : Int) < ((fs.length : Nat) : Int) := by omega
      have hsub : IntKind.i64.wrap ((q : Int) - 1) = (qm : Int) := by rw [IntKind.wrap_i64]; omega
      generalize M[qm].nm = xa at *
      generalize M[q].nm = xb at *
      clear hcs hle
      go_wp2
      go_quiet (fail)
      go_wp2
      go_roundw
      case rel => exact ⟨q + 1, by omega, by have := HLT.out; omega, by go_num, HPO.out.below (below_drewNP _ _), HNM.out.below (below_drewNP _ _), HBL.out.trans ((below_drewNP _ _).mono HBL.out.size)⟩
      case measure => have := HLT.out; simp [intOf]; omega
    · have hq2 : ¬ (q : Int) < ((fs.length : Nat) : Int) := by omega
      have HEM := hide (HEQ.out M HPM.out)
      have HFM2 := hide (HFM.out M HPM.out)
      rw [hml] at HFM2
      generalize mayF R [] 1 fs = e1 at *
      generalize mayF R [] 1 M = e2 at *
      have hee : ((e1 == (0 : Int)) == (e2 == (0 : Int))) = true := by
        by_cases h : e1 = 0
        · have h2 := HEM.out.2 h; rw [h, h2]; rfl
        · have h2 : ¬ e2 = 0 := fun e => h (HEM.out.1 e)
          have f1 : (e1 == (0 : Int)) = false := by simpa using h
          have f2 : (e2 == (0 : Int)) = false := by simpa using h2
          rw [f1, f2]; rfl
      obtain ⟨x1, hx1⟩ : ∃ x, (e1 == (0 : Int)) = x := ⟨_, rfl⟩
      obtain ⟨x2, hx2⟩ : ∃ x, (e2 == (0 : Int)) = x := ⟨_, rfl⟩
      rw [hx1, hx2] at hee
      obtain rfl : x1 = x2 := by simpa using hee
      clear hee
      go_wp2_with fail
      refine (HNF.out _ HBL.out).mono ?_
      rintro e w5 ⟨no5, nc5, rfl, hn5, hb⟩
      have HP5 := hide (HPO.out.below hb)
      have HB5 := hide (HBL.out.trans (hb.mono HBL.out.size))
      have HN5 := hide hn5
      have HM5 := hide (HNM.out.below hb)
      clear hb hn5
      go_wp2_with fail
      refine (HFI.out _ p a b _ _ HP5.out HN5.out).mono ?_
      rintro e w6 ⟨rfl, hb⟩
      have HP6 := hide (HP5.out.below hb)
      have HB6 := hide (HB5.out.trans (hb.mono HB5.out.size))
      have HM6 := hide (HM5.out.below hb)
      clear hb
      go_wp2_with fail
      refine (HFM2.out _ p a b _ _ HP6.out HM6.out).mono ?_
      rintro e w7 ⟨rfl, hb⟩
      have HB7 := hide (HB6.out.trans (hb.mono HB6.out.size))
      clear hb
      go_wp2_with fail
      refine (HK.out _).mono ?_
      rintro e w8 ⟨rfl, hb⟩
      have HB8 := hide (HB7.out.trans (hb.mono HB7.out.size))
      clear hb
      go_wp2
      go_ret
      exact ⟨rfl, HB8.out⟩
end Go.Proofs.Ytkpambipgcjaiaa
