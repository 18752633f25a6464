/- Package dayshiftref13: Give. Written by gen_rqc.py. -/
import Derived.Test.YtkpambipgcjaiaaRqB
namespace Go.DsPl
open Go.DsCo
set_option linter.unusedVariables false
theorem giveF_snoc (H : List Hd) (x : Hd) (o : Int) : giveF (H ++ [x]) o = if x.1.1 = o then giveF H o else giveF H o ++ [x] := by
  unfold giveF
  rw [List.filter_append, List.filter_cons]
  by_cases h : x.1.1 = o
  · rw [if_pos h]; simp [h]
  · rw [if_neg h]; simp [h]
end Go.DsPl
namespace Go.Proofs.Ytkpambipgcjaiaa
open Go.ChangeShapes Go.WideShapes Go.ChangeAt Go.RowKit Go.DsMem Go.DsCo Go.DsPl Go.DsMap
set_option linter.unusedVariables false
set_option linter.unusedSimpArgs false
set_option maxHeartbeats 16000000 in
set_option maxRecDepth 20000 in
/-- (*dayshiftref13.Pool).Give -/
theorem rgive_any (o : Int) (pr b0 : Nat) (X : List Rt) (H : List Hd) (uo vo : Option Addr) (uc vc : Nat) (w : World) (hp : RpAt w pr b0 X H uo vo uc vc) (hH : H.length ≤ 1000000) (hb0 : b0 ≤ w.heap.size) :
    Calls Try.prog 54 #[ptr pr, .int .i64 o] w fun e w' => e = .returned (.int .i64 ((H.length : Int) - (giveF H o).length)) ∧ (∃ vo' vc', RpAt w' pr b0 X (giveF H o) uo vo' uc vc') ∧ Only (· = pr) w w' := by
  obtain ⟨i0, hi0, hz0, hz1, hz2⟩ := info_parts infoRH
  have HPW := hide hp
  have c1 := hp.c1
  obtain ⟨Q, hQ⟩ : ∃ Q, giveF H o = Q := ⟨_, rfl⟩
  have hQl : Q.length ≤ H.length := by rw [← hQ]; exact List.length_filter_le _ _
  rw [hQ]
  have HQ := hide hQ
  clear hp hQ
  unfold ptr
  go_enter Try.func54, Try.ntmps54
  go_wp2
  clear c1
  go_loopw [5, 6] (fun sl ti wr => ∃ (k : Nat) (wo : Option Addr) (wc : Nat), k ≤ H.length ∧ sl = .slice wo (giveF (H.take k) o).length wc ∧ ti = .int .i64 k ∧ OutH w wr (giveF (H.take k) o) wo wc) (fun _ ti _ => H.length - (intOf ti).toNat)
  case atStart => exact ⟨0, none, 0, Nat.zero_le _, rfl, rfl, OutH.start (Below.refl _ _)⟩
  case round =>
    obtain ⟨k, wo, wc, hk, rfl, rfl, hos⟩ := hrel
    have HOS := hide hos
    have HPR := hide (HPW.out.below hos.below)
    have c1 := HPR.out.c1
    have hsw := hos.below.size
    clear hos
    by_cases hlt : k < H.length
    · have HLT := hide hlt
      have hk0 : (0 : Int) ≤ (k : Int) := by omega
      have hk1 : (k : Int) < ((H.length : Nat) : Int) := by omega
      obtain ⟨g, rfl, hg, hcells⟩ := HPR.out.rdH (by omega)
      obtain ⟨x0, x1, x2, x3⟩ := hcells k hlt
      have HTK : Hid (giveF (H.take (k + 1)) o = if H[k].1.1 = o then giveF (H.take k) o else giveF (H.take k) o ++ [H[k]]) := hide ((congrArg (fun M => giveF M o) (List.take_succ_eq_append_getElem hlt)).trans (giveF_snoc _ _ _))
      have hol : (giveF (H.take k) o).length ≤ k := by
        have := List.length_filter_le (fun h : Hd => decide (h.1.1 ≠ o)) (H.take k)
        have h2 : (H.take k).length ≤ k := List.length_take_le _ _
        unfold giveF; omega
      clear hcells
      generalize H[k] = x at *
      by_cases ho : x.1.1 = o
      · have HV : Hid (giveF (H.take (k + 1)) o = giveF (H.take k) o) := hide (by rw [HTK.out, if_pos ho])
        rw [ho] at x0
        clear HTK ho
        go_wp2
        go_roundw
        case rel => exact ⟨k + 1, wo, wc, by have := HLT.out; omega, by rw [HV.out], by go_num, by rw [HV.out]; exact HOS.out⟩
        case measure => have := HLT.out; simp [intOf]; omega
      · have HV : Hid (giveF (H.take (k + 1)) o = giveF (H.take k) o ++ [x]) := hide (by rw [HTK.out, if_neg ho])
        have hne : ((x.1.1 : Int) != o) = true := by simpa using ho
        clear HTK ho
        generalize giveF (H.take k) o = out at *
        have HROW4 : Hid (∀ ob, (wr.alloc ob).ownsRow w.heap.size 40 4 (.slice wo out.length wc) out.length (hdRows out)) := hide (fun ob => own4_same HOS.out.row (fun k hk => ((Below.refl _ _).alloc (Nat.le_refl _) ob).block k (HOS.out.row.lt k hk).2))
        go_upto_region 6 with fail
        go_wp2_with (at_builtin; refine Hid.out ?_)
        refine hide ?_
        refine wpList_append_lies _ rfl _ _ 35 rfl w.heap.size 40 i0 _ 4 40 Try.underlying35 hi0 hz0 hz1 hz2 rfl (by decide) _ (out.length) _ rfl (HROW4.out _) ⟨wr.heap.size, 0, none⟩ 1 1 (encH x) rfl rfl (World.news_of_block (cs := (encH x).toArray) (t := 40) (fr := (0, 0)) (by exact heap_alloc_new wr _)) (encH_one x) (by omega) (by unfold maxLen; omega) (by omega) (by have := HOS.out.below.size; simp; omega) (wr.heap.size + 1) (by simp) ?_
        intro g4 cap4 w4 hown4 hgr4 _ _
        have HOS4 := hide (HOS.out.step (show Below wr.heap.size wr (wr.alloc (.cells (encH x).toArray 40)) from bel1 _ _) hown4 hgr4)
        clear hown4 hgr4
        go_wp2
        go_roundw
        case rel => exact ⟨k + 1, _, _, by have := HLT.out; omega, by rw [HV.out, List.length_append]; rfl, by go_num, by rw [HV.out]; exact HOS4.out⟩
        case measure => have := HLT.out; simp [intOf]; omega
    · have e : k = H.length := by omega
      have hk1 : ¬ (k : Int) < ((H.length : Nat) : Int) := by omega
      have hq : giveF (H.take k) o = Q := by rw [e, List.take_length]; exact HQ.out
      rw [hq] at HOS
      have hfz : wr.frozen? ⟨pr, 1, none⟩ = false := frozen_of HPR.out.blk
      have HSET := hide (RpAt.setH HPW.out (Below.refl _ _) hb0 HPR.out HOS.out)
      rw [hq]
      clear e hlt hq
      go_wp2
      go_ret
      exact ⟨rfl, ⟨_, _, HSET.out.1⟩, HSET.out.2⟩
end Go.Proofs.Ytkpambipgcjaiaa
