/- The walk of LogCut. -/
import Derived.Test.YtgobnnciijlpaaaDoorLlB
import Derived.Test.YtgobnnciijlpaaaDoorCnt
namespace Go.Proofs.YtgobnnciijlpaaaDoor
open Go.ChangeShapes Go.WideShapes Go.ChangeAt Go.RowKit Go.DsMem Go.DsDk Go.DsLg
set_option linter.unusedVariables false

/-- none of the first records is too long -/
theorem all_next {l : List (List UInt8)} {k : Nat} (h : ∀ r ∈ l.take k, r.length ≤ 200) (hk : k < l.length) (hr : l[k].length ≤ 200) : ∀ r ∈ l.take (k + 1), r.length ≤ 200 := by
  intro r hm
  rw [List.take_succ_eq_append_getElem hk] at hm
  rcases List.mem_append.1 hm with h1 | h1
  · exact h r h1
  · simp at h1; subst h1; exact hr
theorem scan_all {l : List (List UInt8)} {n : Nat} (hn : 1 ≤ n) (hb : n + l.length ≤ 18446744073709551616) (hl : ∀ r ∈ l, r.length ≤ 60000) : scanB (wrB n l) = (if l.length = 0 then 0 else n, l, (wrB n l).length) := by
  have := scanB_wr (t := []) hn hb hl unf_nil
  rwa [List.append_nil] at this

theorem rd_take {w : World} {ao : Option Addr} {n c k : Nat} {l : List UInt8} (h : Rd w (.slice ao n c) l) (hk : k ≤ l.length) : Rd w (.slice ao k c) (l.take k) := by
  obtain ⟨ao', cap, hs, hl, hn, hr⟩ := h
  simp only [Value.slice.injEq] at hs
  obtain ⟨rfl, _, rfl⟩ := hs
  have hlen : (l.take k).length = k := by rw [List.length_take]; omega
  refine ⟨ao, c, by rw [hlen], by rw [hlen]; omega, fun h => ?_, fun a ha j u hu => ?_⟩
  · have := hn h; rw [hlen]; omega
  · rw [List.getElem?_take] at hu
    split at hu
    · exact hr a ha j u hu
    · cases hu

set_option maxHeartbeats 4000000 in
set_option maxRecDepth 20000 in
/-- the law LogCut -/
theorem logCut_walk (l : List (List UInt8)) (ao : Option Addr) (cap : Nat) (n : Int) (w : World) (ht : Tab w) (h : RdLs w (.slice ao l.length cap) l) (hlc : l.length ≤ cap) (hn : -9223372036854775808 ≤ n ∧ n ≤ 9223372036854775807) :
    Calls Tryd.prog 5 #[.slice ao l.length cap, .int .i64 n] w fun e w' => e = .returned (.bool true) ∧ Below w.heap.size w w' := by
  have HT := hide ht
  have HR := hide h
  have HN := hide hn
  clear ht h hn
  by_cases h12 : 12 < l.length
  · go_enter Tryd.func5, Tryd.ntmps5
    go_wp2_with (go_at_call 31; refine (known4_any _ HT.out).mono ?_; rintro e w1 ⟨rfl, B1⟩)
    go_ret
    exact ⟨rfl, B1⟩
  have h12' : l.length ≤ 12 := by omega
  clear h12
  go_enter Tryd.func5, Tryd.ntmps5
  go_wp2
  go_loop [5] (fun i => ∃ k : Nat, k ≤ l.length ∧ i = .int .i64 k ∧ ∀ r ∈ l.take k, r.length ≤ 200) (fun i => l.length - (intOf i).toNat)
  case atStart => exact ⟨0, Nat.zero_le _, rfl, fun r hr => by simp at hr⟩
  case round =>
    obtain ⟨k, hk, rfl, hall⟩ := hrel
    have HALL := hide hall
    clear hall
    by_cases hlt : k < l.length
    · obtain ⟨a, xo, xc, rfl, hc, -⟩ := HR.out.at hlt
      by_cases hbig : 200 < l[k].length
      · generalize l[k].length = m at *
        go_wp2_with (go_at_call 31; refine (known4_any _ HT.out).mono ?_; rintro e w1 ⟨rfl, B1⟩)
        go_ret
        exact ⟨rfl, B1⟩
      · have HNX := hide (all_next HALL.out hlt (by omega))
        generalize l[k].length = m at *
        go_wp2
        go_round
        case rel => exact ⟨k + 1, by omega, by go_num, HNX.out⟩
        case measure => simp [intOf]; omega
    · have h200 : ∀ r ∈ l, r.length ≤ 200 := by have := HALL.out; rwa [List.take_of_length_le (by omega)] at this
      have h6 : ∀ r ∈ l, r.length ≤ 60000 := fun r hr => Nat.le_trans (h200 r hr) (by decide)
      have hsc := scan_all (l := l) (n := 1) (Nat.le_refl _) (by omega) h6
      have hml := wr_small (n := 1) h200 (by omega)
      obtain ⟨hk1, hk2⟩ := cnt_lt (k := n) (n := (wrB 1 l).length + 1) (by omega)
      obtain ⟨kk, hkk⟩ : ∃ kk : Nat, cnt n ((wrB 1 l).length + 1) = (kk : Int) := ⟨(cnt n ((wrB 1 l).length + 1)).toNat, by omega⟩
      rw [hkk] at hk1 hk2
      have hkl : kk ≤ (wrB 1 l).length := by omega
      obtain ⟨j, hj, hf, hto⟩ := scan_cut (n := 1) (Nat.le_refl _) (by omega) h6 hkl
      have H200 := hide h200
      have HSC := hide hsc
      have HKK := hide hkk
      have HF := hide hf
      clear h200 h6 hsc hkk hf hk1 hk2 HALL
      obtain ⟨bb, hbb⟩ : ∃ bb, bb = wrB 1 l := ⟨_, rfl⟩
      rw [← hbb] at hml hkl HSC HKK HF hto
      have HBB := hide hbb
      clear hbb
      go_wp2_with fail
      refine (written_any l _ w HT.out HR.out (by omega) H200.out).mono ?_
      rintro e w1 ⟨x, rfl, hx, B1⟩
      rw [← HBB.out] at hx
      obtain ⟨xo, xc, rfl, hxc⟩ := own_shape hx
      have HX1 := hide hx
      have HB1 := hide B1
      clear hx B1
      go_wp2_with fail
      refine (scan_any bb _ w1 (HT.out.below HB1.out (Nat.le_refl _)) (Rd.own HX1.out) (by omega)).mono ?_
      rintro e w2 ⟨r1, vs1, rfl, hr1, B2⟩
      have hs1 := hr1.rds
      rw [HSC.out] at hs1
      rw [HSC.out]
      obtain ⟨r1o, r1c, rfl, -⟩ := id hs1
      have HS2 := hide hs1
      have HX2 := hide (own_below HX1.out B2)
      have HB2 := hide (HB1.out.trans (B2.mono HB1.out.size))
      clear hr1 hs1 B2 HX1 HB1
      have hlc2 : (bb.length : Int) ≤ 3456 := by omega
      obtain ⟨sc2, hsc2⟩ : ∃ sc2, sc2 = scanB (bb.take kk) := ⟨_, rfl⟩
      rw [← hsc2] at HF hto
      have HSC2 := hide hsc2
      clear hsc2
      have hjl : (l.take j).length = j := by rw [List.length_take]; omega
      have HJL := hide hjl
      clear hjl
      have hto2 : (sc2.2.2 : Int) ≤ (kk : Int) := by omega
      rcases (show l.length = 0 ∨ ¬ l.length = 0 by omega) with h0 | h0
      · rw [if_pos h0]
        have hz : ¬ (0 : Int) < (l.length : Int) := by omega
        clear h0
        go_wp2_with (first
          | (go_at_call 27; refine (rsame_any l l _ _ _ HS2.out (rdls_in HR.out HB2.out (Nat.le_refl _)) (by omega) (by omega)).mono ?_; rintro e w3 ⟨rfl, B3⟩; rw [show decide (l = l) = true by simp]; have HX3 := hide (own_below HX2.out B3); have HB3 := hide (HB2.out.trans (B3.mono HB2.out.size)); clear B3 HS2)
          | (go_at_call 39; refine (count_any n (bb.length + 1) _ HN.out (by omega)).mono ?_; rintro e w' ⟨rfl, rfl⟩; rw [HKK.out])
          | (go_at_call 34; refine (scan_any (bb.take kk) _ _ (HT.out.below HB3.out (Nat.le_refl _)) (rd_take (Rd.own HX3.out) hkl) (by rw [List.length_take]; omega)).mono ?_; rintro e w4 ⟨r4, vs4, rfl, hr4, B4⟩; rw [← HSC2.out] at hr4; rw [← HSC2.out]; rw [HF.out] at hr4; have hs4 := hr4.rds; obtain ⟨r4o, r4c, rfl, -⟩ := id hs4; rw [HJL.out] at hs4; rw [HJL.out]; have HS4 := hide hs4; have HB4 := hide (HB3.out.trans (B4.mono HB3.out.size)); clear hr4 hs4 B4)
          | (go_at_call 27; refine (rsame_any (l.take j) (l.take j) _ _ _ HS4.out ((rdls_in HR.out HB4.out (Nat.le_refl _)).take hj) (by rw [HJL.out]; omega) (by rw [HJL.out]; omega)).mono ?_; rintro e w5 ⟨rfl, B5⟩; rw [show decide (l.take j = l.take j) = true by simp]; have HB5 := hide (HB4.out.trans (B5.mono HB4.out.size)); clear B5)
          | (go_at_call 31; refine (known4_any _ (HT.out.below HB5.out (Nat.le_refl _))).mono ?_; rintro e w6 ⟨rfl, B6⟩; have HB6 := hide (HB5.out.trans (B6.mono HB5.out.size)); clear B6))
        go_ret
        exact ⟨rfl, HB6.out⟩
      · rw [if_neg h0]
        have hz : (0 : Int) < (l.length : Int) := by omega
        clear h0
        go_wp2_with (first
          | (go_at_call 27; refine (rsame_any l l _ _ _ HS2.out (rdls_in HR.out HB2.out (Nat.le_refl _)) (by omega) (by omega)).mono ?_; rintro e w3 ⟨rfl, B3⟩; rw [show decide (l = l) = true by simp]; have HX3 := hide (own_below HX2.out B3); have HB3 := hide (HB2.out.trans (B3.mono HB2.out.size)); clear B3 HS2)
          | (go_at_call 39; refine (count_any n (bb.length + 1) _ HN.out (by omega)).mono ?_; rintro e w' ⟨rfl, rfl⟩; rw [HKK.out])
          | (go_at_call 34; refine (scan_any (bb.take kk) _ _ (HT.out.below HB3.out (Nat.le_refl _)) (rd_take (Rd.own HX3.out) hkl) (by rw [List.length_take]; omega)).mono ?_; rintro e w4 ⟨r4, vs4, rfl, hr4, B4⟩; rw [← HSC2.out] at hr4; rw [← HSC2.out]; rw [HF.out] at hr4; have hs4 := hr4.rds; obtain ⟨r4o, r4c, rfl, -⟩ := id hs4; rw [HJL.out] at hs4; rw [HJL.out]; have HS4 := hide hs4; have HB4 := hide (HB3.out.trans (B4.mono HB3.out.size)); clear hr4 hs4 B4)
          | (go_at_call 27; refine (rsame_any (l.take j) (l.take j) _ _ _ HS4.out ((rdls_in HR.out HB4.out (Nat.le_refl _)).take hj) (by rw [HJL.out]; omega) (by rw [HJL.out]; omega)).mono ?_; rintro e w5 ⟨rfl, B5⟩; rw [show decide (l.take j = l.take j) = true by simp]; have HB5 := hide (HB4.out.trans (B5.mono HB4.out.size)); clear B5)
          | (go_at_call 31; refine (known4_any _ (HT.out.below HB5.out (Nat.le_refl _))).mono ?_; rintro e w6 ⟨rfl, B6⟩; have HB6 := hide (HB5.out.trans (B6.mono HB5.out.size)); clear B6))
        go_ret
        exact ⟨rfl, HB6.out⟩
end Go.Proofs.YtgobnnciijlpaaaDoor
