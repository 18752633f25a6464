/- Law PoolSafe of layer 13. Written by gen_pmf.py. -/
import Derived.Test.YtakebjhbcfjlbaaPmD
import Derived.Test.YtakebjhbcfjlbaaPmE
import Derived.BigQuiet
namespace Go.Proofs.Ytakebjhbcfjlbaa
open Go.ChangeShapes Go.WideShapes Go.ChangeAt Go.RowKit Go.DsMem Go.DsCo Go.DsPl Go.DsMap
set_option linter.unusedVariables false
set_option linter.unusedSimpArgs false
theorem str_neP {y x : ByteArray} (h : ¬ y = x) : (y.toList == x.toList) = false := by
  rw [Lib.toList_data, Lib.toList_data]
  cases hb : y.data.toList == x.data.toList with
  | false => rfl
  | true => exact absurd (nm_of_k (by simpa using hb)) h
theorem below_drewNP (w : World) (n : Nat) : Below w.heap.size w (w.drewN n) := ⟨rfl, rfl, rfl, Nat.le_refl _, fun _ _ => rfl⟩
theorem HdRow.cell {w : World} {b g cap : Nat} {l : List Hd} (h : HdRow w b g cap l) (i k : Nat) (hi : i < l.length) (hk : k < 4) : w.cell? ⟨g, i * 4 + k, none⟩ = (encH l[i])[k]? := by
  obtain ⟨cur, hg, hb, h1, h2, h3, h4⟩ := h.block
  have hlt : i * 4 + k < l.length * 4 := by omega
  rw [cell_of hg]
  have e : cur[i * 4 + k]? = (cur.toList.take (l.length * 4))[i * 4 + k]? := by
    rw [List.getElem?_take, if_pos hlt]; simp
  rw [e, h4, hdRows_get l _ hlt, show (i * 4 + k) / 4 = i by omega, show (i * 4 + k) % 4 = k by omega, getElem!_pos l i hi]
set_option maxHeartbeats 32000000 in
set_option maxRecDepth 20000 in
theorem safe13 (l : List Rt) (al : List A13) (uo vo : Option Addr) (uc vc : Nat) (W : World) (hl : RtAt W uo uc l) (ha : AcAt W vo vc al) (hfl : FitR l) (hlb : l.length ≤ 4398046510976) (hlc : l.length ≤ uc) (hac : al.length ≤ vc) :
    Calls Try.prog 4 #[.slice uo l.length uc, .slice vo al.length vc] W fun e w' => e = .returned (.bool true) ∧ Below W.heap.size W w' := by
  have HK := hide (fun w => known13 w)
  by_cases h20 : 20 < l.length
  · have h20' : (20 : Int) < ((l.length : Nat) : Int) := by omega
    clear hl ha hfl
    go_enter Try.func4, Try.ntmps4
    go_wp2_with fail
    refine (HK.out _).mono ?_
    rintro e w1 ⟨rfl, hb1⟩
    have HB1 := hide hb1
    clear hb1
    go_wp2
    go_ret
    exact ⟨rfl, HB1.out⟩
  have h20' : ¬ (20 : Int) < ((l.length : Nat) : Int) := by omega
  have HRES := hide (res13_any l uo uc W (by omega) hl)
  have HNEW := hide (fun uo uc w hr => new_any l uo uc w hr hfl (by omega))
  obtain ⟨hnf, hnl⟩ := newF_fine l [] fine0 hfl
  have hRl : (newF l).length ≤ 20 := by have : (newF l).length ≤ 0 + l.length := hnl; omega
  have HFL := hide hfl
  have HSF := hide (safe0 (newF l) hnf.ru)
  have HL := hide hl
  have HA := hide ha
  obtain ⟨R, hR⟩ : ∃ R, newF l = R := ⟨_, rfl⟩
  rw [hR] at HNEW hRl HSF
  clear hl ha hfl hnf hnl hR
  unfold ptr at HNEW
  go_enter Try.func4, Try.ntmps4
  go_wp2_with fail
  refine HRES.out.mono ?_
  rintro e w1 ⟨ro, rc, rfl, hrd, hb1⟩
  have HRD := hide hrd
  have HB1 := hide hb1
  clear hrd hb1 HRES
  go_wp2_with fail
  refine (HNEW.out _ _ _ HRD.out).mono ?_
  rintro e w2 ⟨rfl, hp2, hb2⟩
  have HB2 : Hid (Below W.heap.size W w2) := hide (HB1.out.trans (hb2.mono HB1.out.size))
  have hbg : W.heap.size ≤ w1.heap.size + 1 := by have := HB1.out.size; omega
  obtain ⟨p, hp⟩ : ∃ p, p = w1.heap.size + 2 := ⟨_, rfl⟩
  obtain ⟨b, hb⟩ : ∃ b, b = w1.heap.size + 1 := ⟨_, rfl⟩
  obtain ⟨a, ha⟩ : ∃ a, a = w1.heap.size := ⟨_, rfl⟩
  rw [← hb] at hbg
  rw [← hp, ← hb, ← ha] at hp2
  rw [← hp]
  have HP2 := hide hp2
  clear hp hb ha hp2 hb2 HNEW HB1 HRD
  go_wp2
  go_loopw [6] (fun i wr => ∃ (k : Nat) (H : List Hd), k ≤ al.length ∧ k ≤ 60 ∧ i = .int .i64 k ∧ PoAt wr p a b R H ∧ SafeP R H ∧ H.length ≤ k * 20 ∧ Below W.heap.size W wr) (fun i _ => 60 - (intOf i).toNat)
  case atStart => exact ⟨0, [], Nat.zero_le _, Nat.zero_le _, rfl, HP2.out, HSF.out, Nat.zero_le _, HB2.out⟩
  case round =>
    obtain ⟨k, H, hk, hk60, rfl, hpo, hsf, hHl, hbl⟩ := hrel
    have HPO := hide hpo
    have HBL := hide hbl
    have HSA := hide hsf
    have hsw := hbl.size
    clear hpo hbl hsf HP2 HB2 HSF
    by_cases hlt : k < al.length ∧ k < 60
    · have HLT := hide hlt
      have hk1 : ((k : Nat) : Int) < ((al.length : Nat) : Int) := by omega
      have hk2 : ((k : Nat) : Int) < 60 := by omega
      have hk0 : (0 : Int) ≤ ((k : Nat) : Int) := by omega
      obtain ⟨c, hc⟩ : ∃ c, al[k]? = some c := ⟨_, List.getElem?_eq_getElem hlt.1⟩
      obtain ⟨g, o, rfl, _, hg, hcells⟩ := HA.out (by omega)
      obtain ⟨hin, hcs⟩ := hcells k c hc
      have e0 := Below.keeps HBL.out (Nat.le_refl _) (hcs 0 _ rfl)
      have e1 := Below.keeps HBL.out (Nat.le_refl _) (hcs 1 _ rfl)
      have e2 := Below.keeps HBL.out (Nat.le_refl _) (hcs 2 _ rfl)
      have e3 := Below.keeps HBL.out (Nat.le_refl _) (hcs 3 _ rfl)
      have e4 := Below.keeps HBL.out (Nat.le_refl _) (hcs 4 _ rfl)
      have HIN := hide hin
      clear hcells hcs hc hin
      obtain ⟨kd, ow, nl, no, nc, nm, nn⟩ := c
      simp only [Nat.add_zero] at e0 e1 e2 e3 e4
      obtain ⟨w1, hw1⟩ : ∃ w1, wr.alloc (.cells #[.int .i64 kd, .int .i64 ow, .slice no nl.length nc, .string nm, .int .i64 nn] 33) = w1 := ⟨_, rfl⟩
      have hb1 : Below wr.heap.size wr w1 := by rw [← hw1]; exact bel1 _ _
      have k0 : w1.cell? ⟨wr.heap.size, 0, none⟩ = some (.int .i64 kd) := by rw [← hw1]; simp [go_sem]
      have k1 : w1.cell? ⟨wr.heap.size, 1, none⟩ = some (.int .i64 ow) := by rw [← hw1]; simp [go_sem]
      have k2 : w1.cell? ⟨wr.heap.size, 2, none⟩ = some (.slice no nl.length nc) := by rw [← hw1]; simp [go_sem]
      have hz1 : w1.heap.size = wr.heap.size + 1 := by rw [← hw1]; simp
      have hwb : ¬ wr.heap.size = b := by have := HPO.out.lt; omega
      have HP1 := hide (HPO.out.below hb1)
      have HB1 := hide (HBL.out.trans (hb1.mono HBL.out.size))
      have hat1 : NeAt w1 no nc nl := HIN.out.at_.keep HB1.out
      have hfitl := HIN.out.fit
      have hlen := HIN.out.len
      have hlo := HIN.out.lo
      simp only at hfitl hlen hlo
      clear hb1 HBL HPO
      by_cases h5 : kd = 5
      · have HG := hide (give_any ow hlo p a b R H w1 HP1.out (by omega))
        unfold ptr at HG
        have HSN := hide (HSA.out.give HP1.out.fine ow)
        have HTL : Hid ((giveF H ow).length ≤ (k + 1) * 20) := hide (by have := give_len H ow; omega)
        generalize giveF H ow = H2 at *
        subst h5
        clear hat1 hfitl hlen
        go_wp2_with fail
        first
        | rw [hw1]
        | skip
        clear hw1
        go_wp2_with fail
        refine HG.out.mono ?_
        rintro e w2 ⟨rfl, hp2, ho2⟩
        have HP2 := hide hp2
        have HB2 : Hid (Below W.heap.size W w2) := hide (HB1.out.trans (ho2.toBelow HB1.out.size (fun i e => by rw [e]; exact hbg)))
        clear hp2 ho2 HG HP1 HB1 HSA
        have hHb : H2.length ≤ 1200 := by have := HTL.out; have := HLT.out; omega
        have HLS := hide (plist_any p a b R H2 w2 HP2.out (by omega))
        unfold ptr ListedH at HLS
        go_wp2_with fail
        refine HLS.out.mono ?_
        rintro e w3 ⟨gl, cap, rfl, hrow, hb3⟩
        have HROW := hide hrow
        have HP3 := hide (HP2.out.below hb3)
        have HB3 := hide (HB2.out.trans (hb3.mono HB2.out.size))
        clear hrow hb3 HLS HP2 HB2 e0 e1 e2 e3 e4 k0 k1 k2
        go_wp2
        go_loopw [9] (fun i wr => ∃ m : Nat, m ≤ H2.length ∧ i = .int .i64 m ∧ PoAt wr p a b R H2 ∧ HdRow wr w2.heap.size gl cap H2 ∧ Below W.heap.size W wr) (fun i _ => H2.length - (intOf i).toNat)
        case atStart => exact ⟨0, Nat.zero_le _, rfl, HP3.out, HROW.out, HB3.out⟩
        case round =>
          clear HP3 HROW HB3
          obtain ⟨m, hm, rfl, hpq, hrow, hbq⟩ := hrel
          have HPQ := hide hpq
          have HROW := hide hrow
          have HBQ := hide hbq
          have hsq := hbq.size
          clear hpq hrow hbq
          by_cases hmt : m < H2.length
          · have HMT := hide hmt
            have hm0 : (0 : Int) ≤ ((m : Nat) : Int) := by omega
            have hm1 : ((m : Nat) : Int) < ((H2.length : Nat) : Int) := by omega
            have d0 : wr.cell? ⟨gl, m * 4, none⟩ = some (.int .i64 H2[m].1.1) := HROW.out.cell m 0 hmt (by decide)
            have d1 : wr.cell? ⟨gl, m * 4 + 1, none⟩ = some (.string H2[m].1.2) := HROW.out.cell m 1 hmt (by decide)
            have d2 : wr.cell? ⟨gl, m * 4 + 2, none⟩ = some (.int .i64 H2[m].2.1) := HROW.out.cell m 2 hmt (by decide)
            have d3 : wr.cell? ⟨gl, m * 4 + 3, none⟩ = some (.int .i64 H2[m].2.2) := HROW.out.cell m 3 hmt (by decide)
            have hfn : FitN H2[m].1.2 := HPQ.out.fine.hs _ (List.getElem_mem hmt)
            have hfree : H2[m].2.2 = 0 → (freeF R H2 H2[m].1.2).2 = 0 ∧ 0 ≤ (freeF R H2 H2[m].1.2).1 ∧ 1 ≤ H2[m].2.1 := HSN.out.free HPQ.out.fine (List.getElem_mem hmt)
            have HAL : Hid (∀ j (hj : j < H2.length), j ≠ m → H2[m].2.2 = 2 → ¬ H2[j].1.2 = H2[m].1.2) := hide (fun j hj hne h2 e => HSN.out.alone HPQ.out.fine hmt hj (fun e => hne e.symm) h2 e)
            have HF := hide (fun w h => free_any H2[m].1.2 hfn p a b R H2 w h (by omega))
            generalize freeF R H2 H2[m].1.2 = fr at *
            generalize H2[m] = x at *
            obtain ⟨⟨xo, xn⟩, xk, xm⟩ := x
            obtain ⟨fn, fe⟩ := fr
            simp only at d0 d1 d2 d3 hfn hfree HAL HF
            unfold ptr at HF
            obtain ⟨w4, hw4⟩ : ∃ w4, wr.alloc (.cells #[.int .i64 xo, .string xn, .int .i64 xk, .int .i64 xm] 52) = w4 := ⟨_, rfl⟩
            have hb4 : Below wr.heap.size wr w4 := by rw [← hw4]; exact bel1 _ _
            obtain ⟨D, hD⟩ : ∃ D, wr.heap.size = D := ⟨_, rfl⟩
            have q1 : w4.cell? ⟨D, 1, none⟩ = some (.string xn) := by rw [← hw4, ← hD]; simp [go_sem]
            have q2 : w4.cell? ⟨D, 2, none⟩ = some (.int .i64 xk) := by rw [← hw4, ← hD]; simp [go_sem]
            have q3 : w4.cell? ⟨D, 3, none⟩ = some (.int .i64 xm) := by rw [← hw4, ← hD]; simp [go_sem]
            have HP4 := hide (HPQ.out.below hb4)
            have HR4 := hide (HROW.out.same (hb4.block _ HROW.out.lt))
            have HB4 := hide (HBQ.out.trans (hb4.mono HBQ.out.size))
            clear hb4 HPQ HROW HBQ
            go_wp2_with fail
            first
            | rw [hw4]
            | skip
            try rw [hD]
            clear hw4 d0 d1 d2 d3
            go_wp2_with fail
            refine (HF.out _ HP4.out).mono ?_
            rintro e w5 ⟨rfl, hb5⟩
            have q1 := Below.keeps hb5 (Nat.le_refl _) q1
            have q2 := Below.keeps hb5 (Nat.le_refl _) q2
            have q3 := Below.keeps hb5 (Nat.le_refl _) q3
            have HP5 := hide (HP4.out.below hb5)
            have HR5 := hide (HR4.out.same (hb5.block _ HR4.out.lt))
            have HB5 := hide (HB4.out.trans (hb5.mono HB4.out.size))
            clear hb5 HP4 HR4 HB4 HF
            have hcase : (xm = 0 ∧ fe = 0 ∧ ¬ fn < 0 ∧ ¬ xk < 1) ∨ ¬ xm = 0 := by
              by_cases h0 : xm = 0
              · have := hfree h0; exact .inl ⟨h0, this.1, by omega, by omega⟩
              · exact .inr h0
            clear hfree
            rcases hcase with ⟨h0, he0, hn0, hk1'⟩ | h0
            all_goals
              first
              | (subst h0; subst he0; go_wp2; obtain ⟨xm, hxm⟩ : ∃ xm : Int, xm = 0 := ⟨0, rfl⟩; rw [← hxm] at HAL q3; clear hxm)
              | go_wp2
              go_loopw [13] (fun i wr => ∃ q : Nat, q ≤ H2.length ∧ i = .int .i64 q ∧ PoAt wr p a b R H2 ∧ HdRow wr w2.heap.size gl cap H2 ∧ Below W.heap.size W wr ∧ wr.cell? ⟨D, 1, none⟩ = some (.string xn) ∧ wr.cell? ⟨D, 3, none⟩ = some (.int .i64 xm)) (fun i _ => H2.length - (intOf i).toNat)
              case atStart => exact ⟨0, Nat.zero_le _, rfl, HP5.out, HR5.out, HB5.out, q1, q3⟩
              case round =>
                clear HP5 HR5 HB5 q1 q2 q3
                obtain ⟨q, hq, rfl, hpz, hrz, hbz, q1, q3⟩ := hrel
                have HPZ := hide hpz
                have HRZ := hide hrz
                have HBZ := hide hbz
                clear hpz hrz hbz
                by_cases hqt : q < H2.length
                · have HQT := hide hqt
                  have hq0 : (0 : Int) ≤ ((q : Nat) : Int) := by omega
                  have hq1 : ((q : Nat) : Int) < ((H2.length : Nat) : Int) := by omega
                  have z1 : wr.cell? ⟨gl, q * 4 + 1, none⟩ = some (.string H2[q].1.2) := HRZ.out.cell q 1 hqt (by decide)
                  have hcase : ((xm == (2 : Int)) = false) ∨ (xm = (2 : Int) ∧ ((((q : Int) != (m : Int)) = false ∧ (q == m) = true ∧ decide (q = m) = true) ∨ ((((q : Int) != (m : Int)) = true ∧ (q == m) = false ∧ ¬ q = m) ∧ (H2[q].1.2.toList == xn.toList) = false))) := by
                    by_cases h2 : xm = (2 : Int)
                    · refine .inr ⟨h2, ?_⟩
                      by_cases hqm : q = m
                      · exact .inl ⟨by simp [hqm], by simp [hqm], by simp [hqm]⟩
                      · exact .inr ⟨⟨by simp; omega, by simpa using hqm, hqm⟩, str_neP (HAL.out q hqt hqm h2)⟩
                    · exact .inl (by simpa using h2)
                  generalize H2[q] = y at *
                  have Q3 := hide q3
                  rcases hcase with h2 | ⟨h2, ⟨n1, n2, n3⟩ | ⟨⟨n1, n2, n3⟩, hs⟩⟩
                  · go_wp2_with fail
                    go_quiet (fail)
                    go_wp2
                    go_roundw
                    case rel => exact ⟨q + 1, by have := HQT.out; omega, by go_num, HPZ.out.below (below_drewNP _ _), HRZ.out.same rfl, HBZ.out.trans ((below_drewNP _ _).mono HBZ.out.size), q1, Q3.out⟩
                    case measure => have := HQT.out; simp [intOf]; omega
                  · rw [h2] at q3
                    go_wp2_with fail
                    go_quiet (fail)
                    go_wp2
                    go_roundw
                    case rel => exact ⟨q + 1, by have := HQT.out; omega, by go_num, HPZ.out.below (below_drewNP _ _), HRZ.out.same rfl, HBZ.out.trans ((below_drewNP _ _).mono HBZ.out.size), q1, Q3.out⟩
                    case measure => have := HQT.out; simp [intOf]; omega
                  · rw [h2] at q3
                    go_wp2_with fail
                    go_quiet (fail)
                    go_wp2
                    go_roundw
                    case rel => exact ⟨q + 1, by have := HQT.out; omega, by go_num, HPZ.out.below (below_drewNP _ _), HRZ.out.same rfl, HBZ.out.trans ((below_drewNP _ _).mono HBZ.out.size), q1, Q3.out⟩
                    case measure => have := HQT.out; simp [intOf]; omega
                · go_wp2
                  go_roundw
                  case rel => exact ⟨m + 1, by have := HMT.out; omega, by go_num, HPZ.out, HRZ.out, HBZ.out⟩
                  case measure => have := HMT.out; simp [intOf]; omega
          · go_wp2
            go_roundw
            case rel => exact ⟨k + 1, H2, by have := HLT.out; omega, by have := HLT.out; omega, by go_num, HPQ.out, HSN.out, HTL.out, HBQ.out⟩
            case measure => have := HLT.out; simp [intOf]; omega
      by_cases h6 : kd = 6
      · have HG := hide (give_any ow hlo p a b R H w1 HP1.out (by omega))
        unfold ptr at HG
        have HSN := hide (HSA.out.give HP1.out.fine ow)
        have HTL : Hid ((giveF H ow).length ≤ (k + 1) * 20) := hide (by have := give_len H ow; omega)
        generalize giveF H ow = H2 at *
        subst h6
        clear hat1 hfitl hlen
        go_wp2_with fail
        first
        | rw [hw1]
        | skip
        clear hw1
        go_wp2_with fail
        refine HG.out.mono ?_
        rintro e w2 ⟨rfl, hp2, ho2⟩
        have HP2 := hide hp2
        have HB2 : Hid (Below W.heap.size W w2) := hide (HB1.out.trans (ho2.toBelow HB1.out.size (fun i e => by rw [e]; exact hbg)))
        clear hp2 ho2 HG HP1 HB1 HSA
        have hHb : H2.length ≤ 1200 := by have := HTL.out; have := HLT.out; omega
        have HLS := hide (plist_any p a b R H2 w2 HP2.out (by omega))
        unfold ptr ListedH at HLS
        go_wp2_with fail
        refine HLS.out.mono ?_
        rintro e w3 ⟨gl, cap, rfl, hrow, hb3⟩
        have HROW := hide hrow
        have HP3 := hide (HP2.out.below hb3)
        have HB3 := hide (HB2.out.trans (hb3.mono HB2.out.size))
        clear hrow hb3 HLS HP2 HB2 e0 e1 e2 e3 e4 k0 k1 k2
        go_wp2
        go_loopw [9] (fun i wr => ∃ m : Nat, m ≤ H2.length ∧ i = .int .i64 m ∧ PoAt wr p a b R H2 ∧ HdRow wr w2.heap.size gl cap H2 ∧ Below W.heap.size W wr) (fun i _ => H2.length - (intOf i).toNat)
        case atStart => exact ⟨0, Nat.zero_le _, rfl, HP3.out, HROW.out, HB3.out⟩
        case round =>
          clear HP3 HROW HB3
          obtain ⟨m, hm, rfl, hpq, hrow, hbq⟩ := hrel
          have HPQ := hide hpq
          have HROW := hide hrow
          have HBQ := hide hbq
          have hsq := hbq.size
          clear hpq hrow hbq
          by_cases hmt : m < H2.length
          · have HMT := hide hmt
            have hm0 : (0 : Int) ≤ ((m : Nat) : Int) := by omega
            have hm1 : ((m : Nat) : Int) < ((H2.length : Nat) : Int) := by omega
            have d0 : wr.cell? ⟨gl, m * 4, none⟩ = some (.int .i64 H2[m].1.1) := HROW.out.cell m 0 hmt (by decide)
            have d1 : wr.cell? ⟨gl, m * 4 + 1, none⟩ = some (.string H2[m].1.2) := HROW.out.cell m 1 hmt (by decide)
            have d2 : wr.cell? ⟨gl, m * 4 + 2, none⟩ = some (.int .i64 H2[m].2.1) := HROW.out.cell m 2 hmt (by decide)
            have d3 : wr.cell? ⟨gl, m * 4 + 3, none⟩ = some (.int .i64 H2[m].2.2) := HROW.out.cell m 3 hmt (by decide)
            have hfn : FitN H2[m].1.2 := HPQ.out.fine.hs _ (List.getElem_mem hmt)
            have hfree : H2[m].2.2 = 0 → (freeF R H2 H2[m].1.2).2 = 0 ∧ 0 ≤ (freeF R H2 H2[m].1.2).1 ∧ 1 ≤ H2[m].2.1 := HSN.out.free HPQ.out.fine (List.getElem_mem hmt)
            have HAL : Hid (∀ j (hj : j < H2.length), j ≠ m → H2[m].2.2 = 2 → ¬ H2[j].1.2 = H2[m].1.2) := hide (fun j hj hne h2 e => HSN.out.alone HPQ.out.fine hmt hj (fun e => hne e.symm) h2 e)
            have HF := hide (fun w h => free_any H2[m].1.2 hfn p a b R H2 w h (by omega))
            generalize freeF R H2 H2[m].1.2 = fr at *
            generalize H2[m] = x at *
            obtain ⟨⟨xo, xn⟩, xk, xm⟩ := x
            obtain ⟨fn, fe⟩ := fr
            simp only at d0 d1 d2 d3 hfn hfree HAL HF
            unfold ptr at HF
            obtain ⟨w4, hw4⟩ : ∃ w4, wr.alloc (.cells #[.int .i64 xo, .string xn, .int .i64 xk, .int .i64 xm] 52) = w4 := ⟨_, rfl⟩
            have hb4 : Below wr.heap.size wr w4 := by rw [← hw4]; exact bel1 _ _
            obtain ⟨D, hD⟩ : ∃ D, wr.heap.size = D := ⟨_, rfl⟩
            have q1 : w4.cell? ⟨D, 1, none⟩ = some (.string xn) := by rw [← hw4, ← hD]; simp [go_sem]
            have q2 : w4.cell? ⟨D, 2, none⟩ = some (.int .i64 xk) := by rw [← hw4, ← hD]; simp [go_sem]
            have q3 : w4.cell? ⟨D, 3, none⟩ = some (.int .i64 xm) := by rw [← hw4, ← hD]; simp [go_sem]
            have HP4 := hide (HPQ.out.below hb4)
            have HR4 := hide (HROW.out.same (hb4.block _ HROW.out.lt))
            have HB4 := hide (HBQ.out.trans (hb4.mono HBQ.out.size))
            clear hb4 HPQ HROW HBQ
            go_wp2_with fail
            first
            | rw [hw4]
            | skip
            try rw [hD]
            clear hw4 d0 d1 d2 d3
            go_wp2_with fail
            refine (HF.out _ HP4.out).mono ?_
            rintro e w5 ⟨rfl, hb5⟩
            have q1 := Below.keeps hb5 (Nat.le_refl _) q1
            have q2 := Below.keeps hb5 (Nat.le_refl _) q2
            have q3 := Below.keeps hb5 (Nat.le_refl _) q3
            have HP5 := hide (HP4.out.below hb5)
            have HR5 := hide (HR4.out.same (hb5.block _ HR4.out.lt))
            have HB5 := hide (HB4.out.trans (hb5.mono HB4.out.size))
            clear hb5 HP4 HR4 HB4 HF
            have hcase : (xm = 0 ∧ fe = 0 ∧ ¬ fn < 0 ∧ ¬ xk < 1) ∨ ¬ xm = 0 := by
              by_cases h0 : xm = 0
              · have := hfree h0; exact .inl ⟨h0, this.1, by omega, by omega⟩
              · exact .inr h0
            clear hfree
            rcases hcase with ⟨h0, he0, hn0, hk1'⟩ | h0
            all_goals
              first
              | (subst h0; subst he0; go_wp2; obtain ⟨xm, hxm⟩ : ∃ xm : Int, xm = 0 := ⟨0, rfl⟩; rw [← hxm] at HAL q3; clear hxm)
              | go_wp2
              go_loopw [13] (fun i wr => ∃ q : Nat, q ≤ H2.length ∧ i = .int .i64 q ∧ PoAt wr p a b R H2 ∧ HdRow wr w2.heap.size gl cap H2 ∧ Below W.heap.size W wr ∧ wr.cell? ⟨D, 1, none⟩ = some (.string xn) ∧ wr.cell? ⟨D, 3, none⟩ = some (.int .i64 xm)) (fun i _ => H2.length - (intOf i).toNat)
              case atStart => exact ⟨0, Nat.zero_le _, rfl, HP5.out, HR5.out, HB5.out, q1, q3⟩
              case round =>
                clear HP5 HR5 HB5 q1 q2 q3
                obtain ⟨q, hq, rfl, hpz, hrz, hbz, q1, q3⟩ := hrel
                have HPZ := hide hpz
                have HRZ := hide hrz
                have HBZ := hide hbz
                clear hpz hrz hbz
                by_cases hqt : q < H2.length
                · have HQT := hide hqt
                  have hq0 : (0 : Int) ≤ ((q : Nat) : Int) := by omega
                  have hq1 : ((q : Nat) : Int) < ((H2.length : Nat) : Int) := by omega
                  have z1 : wr.cell? ⟨gl, q * 4 + 1, none⟩ = some (.string H2[q].1.2) := HRZ.out.cell q 1 hqt (by decide)
                  have hcase : ((xm == (2 : Int)) = false) ∨ (xm = (2 : Int) ∧ ((((q : Int) != (m : Int)) = false ∧ (q == m) = true ∧ decide (q = m) = true) ∨ ((((q : Int) != (m : Int)) = true ∧ (q == m) = false ∧ ¬ q = m) ∧ (H2[q].1.2.toList == xn.toList) = false))) := by
                    by_cases h2 : xm = (2 : Int)
                    · refine .inr ⟨h2, ?_⟩
                      by_cases hqm : q = m
                      · exact .inl ⟨by simp [hqm], by simp [hqm], by simp [hqm]⟩
                      · exact .inr ⟨⟨by simp; omega, by simpa using hqm, hqm⟩, str_neP (HAL.out q hqt hqm h2)⟩
                    · exact .inl (by simpa using h2)
                  generalize H2[q] = y at *
                  have Q3 := hide q3
                  rcases hcase with h2 | ⟨h2, ⟨n1, n2, n3⟩ | ⟨⟨n1, n2, n3⟩, hs⟩⟩
                  · go_wp2_with fail
                    go_quiet (fail)
                    go_wp2
                    go_roundw
                    case rel => exact ⟨q + 1, by have := HQT.out; omega, by go_num, HPZ.out.below (below_drewNP _ _), HRZ.out.same rfl, HBZ.out.trans ((below_drewNP _ _).mono HBZ.out.size), q1, Q3.out⟩
                    case measure => have := HQT.out; simp [intOf]; omega
                  · rw [h2] at q3
                    go_wp2_with fail
                    go_quiet (fail)
                    go_wp2
                    go_roundw
                    case rel => exact ⟨q + 1, by have := HQT.out; omega, by go_num, HPZ.out.below (below_drewNP _ _), HRZ.out.same rfl, HBZ.out.trans ((below_drewNP _ _).mono HBZ.out.size), q1, Q3.out⟩
                    case measure => have := HQT.out; simp [intOf]; omega
                  · rw [h2] at q3
                    go_wp2_with fail
                    go_quiet (fail)
                    go_wp2
                    go_roundw
                    case rel => exact ⟨q + 1, by have := HQT.out; omega, by go_num, HPZ.out.below (below_drewNP _ _), HRZ.out.same rfl, HBZ.out.trans ((below_drewNP _ _).mono HBZ.out.size), q1, Q3.out⟩
                    case measure => have := HQT.out; simp [intOf]; omega
                · go_wp2
                  go_roundw
                  case rel => exact ⟨m + 1, by have := HMT.out; omega, by go_num, HPZ.out, HRZ.out, HBZ.out⟩
                  case measure => have := HMT.out; simp [intOf]; omega
          · go_wp2
            go_roundw
            case rel => exact ⟨k + 1, H2, by have := HLT.out; omega, by have := HLT.out; omega, by go_num, HPQ.out, HSN.out, HTL.out, HBQ.out⟩
            case measure => have := HLT.out; simp [intOf]; omega
      · have HSN := hide (HSA.out.take HP1.out.fine ow nl hlo)
        have HTL : Hid ((takeF R H ow nl).1.length ≤ (k + 1) * 20) := hide (by have := (take_fine (l := nl) HP1.out.fine hlo).2; omega)
        have HNS : Hid (Calls Try.prog 27 #[.slice no nl.length nc] w1.drew (NeGot w1.drew nl)) := hide (needs13_any nl no nc w1.drew hlen hat1)
        have HTK : Hid (∀ w2 vo vc, Below w1.heap.size w1.drew w2 → NeRd w2 vo nl → Calls Try.prog 26 #[.pointer (some ⟨p, 0, none⟩), .int .i64 ow, .slice vo nl.length vc] w2 fun e w' => e = .returned (.int .i64 (takeF R H ow nl).2) ∧ PoAt w' p a b R (takeF R H ow nl).1 ∧ Only (· = b) w2 w') := hide (fun w2 vo vc hb hn => take_any nl vo vc ow hlo p a b R H w2 (HP1.out.drew.below hb) hn hfitl (by omega) (by omega))
        have KP : Hid (∀ w2 w', Below w1.heap.size w1.drew w2 → Only (· = b) w2 w' → w'.cell? ⟨wr.heap.size, 1, none⟩ = some (.int .i64 ow) ∧ w'.cell? ⟨wr.heap.size, 2, none⟩ = some (.slice no nl.length nc)) := hide (fun w2 w' hb ho => ⟨ho.cell (Below.keeps hb (Nat.le_refl _) (show w1.drew.cell? _ = _ from k1)) hwb, ho.cell (Below.keeps hb (Nat.le_refl _) (show w1.drew.cell? _ = _ from k2)) hwb⟩)
        generalize takeF R H ow nl = tk at *
        obtain ⟨H2, te⟩ := tk
        simp only at HSN HTL HTK
        clear hat1 hfitl hlen
        have n56 : (kd == 5 || kd == 6) = false := by simp [h5, h6]
        go_wp2_with fail
        try (exfalso; simp_all; done)
        first
        | rw [hw1]
        | skip
        clear hw1
        first
        | (go_region_held3 (fun w' => w'.cell? ⟨wr.heap.size, 1, none⟩ = some (.int .i64 ow) ∧ w'.cell? ⟨wr.heap.size, 2, none⟩ = some (.slice no nl.length nc))
            (go_keep)
            (first
              | (go_at_call 27; refine HNS.out.mono ?_; rintro e w3 ⟨qo, qc, rfl, hn3, hb3⟩; obtain ⟨q0, q1⟩ := KP.out _ _ hb3 (Only.refl _ _); have HN3 := hide hn3; have HB3 := hide hb3; clear hn3 hb3)
              | (go_at_call 26; refine (HTK.out _ _ _ HB3.out HN3.out).mono ?_; rintro e w2 ⟨rfl, hp2, ho2⟩; obtain ⟨r0, r1⟩ := KP.out _ _ HB3.out ho2; have HP2 := hide hp2; have HO2 := hide ho2; clear hp2 ho2)))
        | fail
        all_goals
          have HB2 : Hid (Below W.heap.size W w2) := hide ((HB1.out.drew.trans (HB3.out.mono HB1.out.size)).trans (HO2.out.toBelow (Nat.le_trans HB1.out.size HB3.out.size) (fun i e => by rw [e]; exact hbg)))
          clear HP1 HB1 HSA HNS HTK KP
          have hHb : H2.length ≤ 1200 := by have := HTL.out; have := HLT.out; omega
          have HLS := hide (plist_any p a b R H2 w2 HP2.out (by omega))
          unfold ptr ListedH at HLS
          go_wp2_with fail
          refine HLS.out.mono ?_
          rintro e w3 ⟨gl, cap, rfl, hrow, hb3⟩
          have HROW := hide hrow
          have HP3 := hide (HP2.out.below hb3)
          have HB3 := hide (HB2.out.trans (hb3.mono HB2.out.size))
          clear hrow hb3 HLS HP2 HB2 e0 e1 e2 e3 e4 k0 k1 k2
          go_wp2
          go_loopw [9] (fun i wr => ∃ m : Nat, m ≤ H2.length ∧ i = .int .i64 m ∧ PoAt wr p a b R H2 ∧ HdRow wr w2.heap.size gl cap H2 ∧ Below W.heap.size W wr) (fun i _ => H2.length - (intOf i).toNat)
          case atStart => exact ⟨0, Nat.zero_le _, rfl, HP3.out, HROW.out, HB3.out⟩
          case round =>
            clear HP3 HROW HB3
            obtain ⟨m, hm, rfl, hpq, hrow, hbq⟩ := hrel
            have HPQ := hide hpq
            have HROW := hide hrow
            have HBQ := hide hbq
            have hsq := hbq.size
            clear hpq hrow hbq
            by_cases hmt : m < H2.length
            · have HMT := hide hmt
              have hm0 : (0 : Int) ≤ ((m : Nat) : Int) := by omega
              have hm1 : ((m : Nat) : Int) < ((H2.length : Nat) : Int) := by omega
              have d0 : wr.cell? ⟨gl, m * 4, none⟩ = some (.int .i64 H2[m].1.1) := HROW.out.cell m 0 hmt (by decide)
              have d1 : wr.cell? ⟨gl, m * 4 + 1, none⟩ = some (.string H2[m].1.2) := HROW.out.cell m 1 hmt (by decide)
              have d2 : wr.cell? ⟨gl, m * 4 + 2, none⟩ = some (.int .i64 H2[m].2.1) := HROW.out.cell m 2 hmt (by decide)
              have d3 : wr.cell? ⟨gl, m * 4 + 3, none⟩ = some (.int .i64 H2[m].2.2) := HROW.out.cell m 3 hmt (by decide)
              have hfn : FitN H2[m].1.2 := HPQ.out.fine.hs _ (List.getElem_mem hmt)
              have hfree : H2[m].2.2 = 0 → (freeF R H2 H2[m].1.2).2 = 0 ∧ 0 ≤ (freeF R H2 H2[m].1.2).1 ∧ 1 ≤ H2[m].2.1 := HSN.out.free HPQ.out.fine (List.getElem_mem hmt)
              have HAL : Hid (∀ j (hj : j < H2.length), j ≠ m → H2[m].2.2 = 2 → ¬ H2[j].1.2 = H2[m].1.2) := hide (fun j hj hne h2 e => HSN.out.alone HPQ.out.fine hmt hj (fun e => hne e.symm) h2 e)
              have HF := hide (fun w h => free_any H2[m].1.2 hfn p a b R H2 w h (by omega))
              generalize freeF R H2 H2[m].1.2 = fr at *
              generalize H2[m] = x at *
              obtain ⟨⟨xo, xn⟩, xk, xm⟩ := x
              obtain ⟨fn, fe⟩ := fr
              simp only at d0 d1 d2 d3 hfn hfree HAL HF
              unfold ptr at HF
              obtain ⟨w4, hw4⟩ : ∃ w4, wr.alloc (.cells #[.int .i64 xo, .string xn, .int .i64 xk, .int .i64 xm] 52) = w4 := ⟨_, rfl⟩
              have hb4 : Below wr.heap.size wr w4 := by rw [← hw4]; exact bel1 _ _
              obtain ⟨D, hD⟩ : ∃ D, wr.heap.size = D := ⟨_, rfl⟩
              have q1 : w4.cell? ⟨D, 1, none⟩ = some (.string xn) := by rw [← hw4, ← hD]; simp [go_sem]
              have q2 : w4.cell? ⟨D, 2, none⟩ = some (.int .i64 xk) := by rw [← hw4, ← hD]; simp [go_sem]
              have q3 : w4.cell? ⟨D, 3, none⟩ = some (.int .i64 xm) := by rw [← hw4, ← hD]; simp [go_sem]
              have HP4 := hide (HPQ.out.below hb4)
              have HR4 := hide (HROW.out.same (hb4.block _ HROW.out.lt))
              have HB4 := hide (HBQ.out.trans (hb4.mono HBQ.out.size))
              clear hb4 HPQ HROW HBQ
              go_wp2_with fail
              first
              | rw [hw4]
              | skip
              try rw [hD]
              clear hw4 d0 d1 d2 d3
              go_wp2_with fail
              refine (HF.out _ HP4.out).mono ?_
              rintro e w5 ⟨rfl, hb5⟩
              have q1 := Below.keeps hb5 (Nat.le_refl _) q1
              have q2 := Below.keeps hb5 (Nat.le_refl _) q2
              have q3 := Below.keeps hb5 (Nat.le_refl _) q3
              have HP5 := hide (HP4.out.below hb5)
              have HR5 := hide (HR4.out.same (hb5.block _ HR4.out.lt))
              have HB5 := hide (HB4.out.trans (hb5.mono HB4.out.size))
              clear hb5 HP4 HR4 HB4 HF
              have hcase : (xm = 0 ∧ fe = 0 ∧ ¬ fn < 0 ∧ ¬ xk < 1) ∨ ¬ xm = 0 := by
                by_cases h0 : xm = 0
                · have := hfree h0; exact .inl ⟨h0, this.1, by omega, by omega⟩
                · exact .inr h0
              clear hfree
              rcases hcase with ⟨h0, he0, hn0, hk1'⟩ | h0
              all_goals
                first
                | (subst h0; subst he0; go_wp2; obtain ⟨xm, hxm⟩ : ∃ xm : Int, xm = 0 := ⟨0, rfl⟩; rw [← hxm] at HAL q3; clear hxm)
                | go_wp2
                go_loopw [13] (fun i wr => ∃ q : Nat, q ≤ H2.length ∧ i = .int .i64 q ∧ PoAt wr p a b R H2 ∧ HdRow wr w2.heap.size gl cap H2 ∧ Below W.heap.size W wr ∧ wr.cell? ⟨D, 1, none⟩ = some (.string xn) ∧ wr.cell? ⟨D, 3, none⟩ = some (.int .i64 xm)) (fun i _ => H2.length - (intOf i).toNat)
                case atStart => exact ⟨0, Nat.zero_le _, rfl, HP5.out, HR5.out, HB5.out, q1, q3⟩
                case round =>
                  clear HP5 HR5 HB5 q1 q2 q3
                  obtain ⟨q, hq, rfl, hpz, hrz, hbz, q1, q3⟩ := hrel
                  have HPZ := hide hpz
                  have HRZ := hide hrz
                  have HBZ := hide hbz
                  clear hpz hrz hbz
                  by_cases hqt : q < H2.length
                  · have HQT := hide hqt
                    have hq0 : (0 : Int) ≤ ((q : Nat) : Int) := by omega
                    have hq1 : ((q : Nat) : Int) < ((H2.length : Nat) : Int) := by omega
                    have z1 : wr.cell? ⟨gl, q * 4 + 1, none⟩ = some (.string H2[q].1.2) := HRZ.out.cell q 1 hqt (by decide)
                    have hcase : ((xm == (2 : Int)) = false) ∨ (xm = (2 : Int) ∧ ((((q : Int) != (m : Int)) = false ∧ (q == m) = true ∧ decide (q = m) = true) ∨ ((((q : Int) != (m : Int)) = true ∧ (q == m) = false ∧ ¬ q = m) ∧ (H2[q].1.2.toList == xn.toList) = false))) := by
                      by_cases h2 : xm = (2 : Int)
                      · refine .inr ⟨h2, ?_⟩
                        by_cases hqm : q = m
                        · exact .inl ⟨by simp [hqm], by simp [hqm], by simp [hqm]⟩
                        · exact .inr ⟨⟨by simp; omega, by simpa using hqm, hqm⟩, str_neP (HAL.out q hqt hqm h2)⟩
                      · exact .inl (by simpa using h2)
                    generalize H2[q] = y at *
                    have Q3 := hide q3
                    rcases hcase with h2 | ⟨h2, ⟨n1, n2, n3⟩ | ⟨⟨n1, n2, n3⟩, hs⟩⟩
                    · go_wp2_with fail
                      go_quiet (fail)
                      go_wp2
                      go_roundw
                      case rel => exact ⟨q + 1, by have := HQT.out; omega, by go_num, HPZ.out.below (below_drewNP _ _), HRZ.out.same rfl, HBZ.out.trans ((below_drewNP _ _).mono HBZ.out.size), q1, Q3.out⟩
                      case measure => have := HQT.out; simp [intOf]; omega
                    · rw [h2] at q3
                      go_wp2_with fail
                      go_quiet (fail)
                      go_wp2
                      go_roundw
                      case rel => exact ⟨q + 1, by have := HQT.out; omega, by go_num, HPZ.out.below (below_drewNP _ _), HRZ.out.same rfl, HBZ.out.trans ((below_drewNP _ _).mono HBZ.out.size), q1, Q3.out⟩
                      case measure => have := HQT.out; simp [intOf]; omega
                    · rw [h2] at q3
                      go_wp2_with fail
                      go_quiet (fail)
                      go_wp2
                      go_roundw
                      case rel => exact ⟨q + 1, by have := HQT.out; omega, by go_num, HPZ.out.below (below_drewNP _ _), HRZ.out.same rfl, HBZ.out.trans ((below_drewNP _ _).mono HBZ.out.size), q1, Q3.out⟩
                      case measure => have := HQT.out; simp [intOf]; omega
                  · go_wp2
                    go_roundw
                    case rel => exact ⟨m + 1, by have := HMT.out; omega, by go_num, HPZ.out, HRZ.out, HBZ.out⟩
                    case measure => have := HMT.out; simp [intOf]; omega
            · go_wp2
              go_roundw
              case rel => exact ⟨k + 1, H2, by have := HLT.out; omega, by have := HLT.out; omega, by go_num, HPQ.out, HSN.out, HTL.out, HBQ.out⟩
              case measure => have := HLT.out; simp [intOf]; omega
    · have hend : (¬ ((k : Nat) : Int) < ((al.length : Nat) : Int)) ∨ (((k : Nat) : Int) < ((al.length : Nat) : Int) ∧ ¬ ((k : Nat) : Int) < 60) := by omega
      clear hlt
      rcases hend with hk1 | ⟨hk1, hk2⟩
      all_goals
        go_wp2_with fail
        refine (HK.out _).mono ?_
        rintro e w5 ⟨rfl, hb5⟩
        have HB5 := hide (HBL.out.trans (hb5.mono HBL.out.size))
        clear hb5
        go_wp2
        go_ret
        exact ⟨rfl, HB5.out⟩
end Go.Proofs.Ytakebjhbcfjlbaa
