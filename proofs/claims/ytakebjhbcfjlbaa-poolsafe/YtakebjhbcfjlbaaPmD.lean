/- Law PoolGives of layer 13. -/
import Derived.Test.YtakebjhbcfjlbaaPmC
namespace Go.Proofs.Ytakebjhbcfjlbaa
open Go.ChangeShapes Go.WideShapes Go.ChangeAt Go.RowKit Go.DsMem Go.DsCo Go.DsPl Go.DsMap
set_option linter.unusedVariables false
set_option linter.unusedSimpArgs false
theorem freeF_nil (R : List Rk) (nm : ByteArray) : freeF R [] nm = unitsF R nm := by
  unfold freeF unitsF
  cases findK R nm with
  | none => rfl
  | some k => cases k with
    | lock => rfl
    | units n => simp [useF]
theorem take_own {R : List Rk} {H : List Hd} {o : Int} {l : List Ne} {P : Int → Prop} (h : ∀ x ∈ H, P x.1.1) (ho : P o) : ∀ x ∈ (takeF R H o l).1, P x.1.1 := by
  have hl : ∀ (l : List Ne) (H : List Hd), (∀ x ∈ H, P x.1.1) → ∀ x ∈ takeL R o H l, P x.1.1 := by
    intro l
    induction l with
    | nil => exact fun H h => h
    | cons n r ih =>
      intro H h
      refine ih _ (fun x hx => ?_)
      rcases mem_insH.1 hx with rfl | hx
      · exact ho
      · exact h x hx
  unfold takeF
  split
  · exact h
  · exact hl l H h
theorem give_own {H : List Hd} {o : Int} {P : Int → Prop} (h : ∀ x ∈ H, x.1.1 = o ∨ P x.1.1) : ∀ x ∈ giveF H o, P x.1.1 := fun x hx => by
  obtain ⟨hm, hn⟩ := List.mem_filter.1 hx
  rcases h x hm with e | e
  · simp at hn; exact absurd e hn
  · exact e
theorem give_len (H : List Hd) (o : Int) : (giveF H o).length ≤ H.length := List.length_filter_le _ _
set_option maxHeartbeats 16000000 in
set_option maxRecDepth 20000 in
theorem gives13 (l : List Rt) (al : List A13) (uo vo : Option Addr) (uc vc : Nat) (W : World) (hl : RtAt W uo uc l) (ha : AcAt W vo vc al) (hfl : FitR l) (hlb : l.length ≤ 4398046510976) (hlc : l.length ≤ uc) (hac : al.length ≤ vc) :
    Calls Try.prog 7 #[.slice uo l.length uc, .slice vo al.length vc] W fun e w' => e = .returned (.bool true) ∧ Below W.heap.size W w' := by
  have HK := hide (fun w => known13 w)
  by_cases h20 : 20 < l.length
  · have h20' : (20 : Int) < ((l.length : Nat) : Int) := by omega
    clear hl ha hfl
    go_enter Try.func7, Try.ntmps7
    go_wp2_with fail
    refine (HK.out _).mono ?_
    rintro e w1 ⟨rfl, hb1⟩
    have HB1 := hide hb1
    clear hb1
    go_wp2
    go_ret
    exact ⟨rfl, HB1.out⟩
  have h20' : ¬ (20 : Int) < ((l.length : Nat) : Int) := by omega
  have HRES := hide (res13_any l uo uc W (by omega) hl)
  have HNEW := hide (fun uo uc w hr => new_any l uo uc w hr hfl (by omega))
  obtain ⟨hnf, hnl⟩ := newF_fine l [] fine0 hfl
  have hRl : (newF l).length ≤ 20 := by have : (newF l).length ≤ 0 + l.length := hnl; omega
  have HFL := hide hfl
  have HL := hide hl
  have HA := hide ha
  obtain ⟨R, hR⟩ : ∃ R, newF l = R := ⟨_, rfl⟩
  rw [hR] at HNEW hRl
  clear hl ha hfl hnf hnl hR
  unfold ptr at HNEW
  go_enter Try.func7, Try.ntmps7
  go_wp2_with fail
  refine HRES.out.mono ?_
  rintro e w1 ⟨ro, rc, rfl, hrd, hb1⟩
  have HRD := hide hrd
  have HB1 := hide hb1
  clear hrd hb1 HRES
  go_wp2_with fail
  refine (HNEW.out _ _ _ HRD.out).mono ?_
  rintro e w2 ⟨rfl, hp2, hb2⟩
  have HB2 : Hid (Below W.heap.size W w2) := hide (HB1.out.trans (hb2.mono HB1.out.size))
  have hbg : W.heap.size ≤ w1.heap.size + 1 := by have := HB1.out.size; omega
  obtain ⟨p, hp⟩ : ∃ p, p = w1.heap.size + 2 := ⟨_, rfl⟩
  obtain ⟨b, hb⟩ : ∃ b, b = w1.heap.size + 1 := ⟨_, rfl⟩
  obtain ⟨a, ha⟩ : ∃ a, a = w1.heap.size := ⟨_, rfl⟩
  rw [← hb] at hbg
  rw [← hp, ← hb, ← ha] at hp2
  rw [← hp]
  have HP2 := hide hp2
  clear hp hb ha hp2 hb2 HNEW HB1 HRD
  go_wp2
  go_loopw [6] (fun i wr => ∃ (k : Nat) (H : List Hd), k ≤ al.length ∧ k ≤ 60 ∧ i = .int .i64 k ∧ PoAt wr p a b R H ∧ (∀ x ∈ H, ∃ j, j < 60 ∧ ∃ c, al[j]? = some c ∧ c.o = x.1.1) ∧ H.length ≤ k * 20 ∧ Below W.heap.size W wr) (fun i _ => 60 - (intOf i).toNat)
  case atStart => exact ⟨0, [], Nat.zero_le _, Nat.zero_le _, rfl, HP2.out, fun x hx => by simp at hx, Nat.zero_le _, HB2.out⟩
  case round =>
    obtain ⟨k, H, hk, hk60, rfl, hpo, hown, hHl, hbl⟩ := hrel
    have HPO := hide hpo
    have HBL := hide hbl
    have HOWN := hide hown
    have hsw := hbl.size
    clear hpo hbl hown HP2 HB2
    by_cases hlt : k < al.length ∧ k < 60
    · have HLT := hide hlt
      have hk1 : ((k : Nat) : Int) < ((al.length : Nat) : Int) := by omega
      have hk2 : ((k : Nat) : Int) < 60 := by omega
      have hk0 : (0 : Int) ≤ ((k : Nat) : Int) := by omega
      obtain ⟨c, hc⟩ : ∃ c, al[k]? = some c := ⟨_, List.getElem?_eq_getElem hlt.1⟩
      obtain ⟨g, o, rfl, _, hg, hcells⟩ := HA.out (by omega)
      obtain ⟨hin, hcs⟩ := hcells k c hc
      have e1 := Below.keeps HBL.out (Nat.le_refl _) (hcs 1 _ rfl)
      have e2 := Below.keeps HBL.out (Nat.le_refl _) (hcs 2 _ rfl)
      have hgb : ¬ g = b := by omega
      have HOWN2 : Hid (∀ x ∈ (takeF R H c.o c.l).1, ∃ j, j < 60 ∧ ∃ c', al[j]? = some c' ∧ c'.o = x.1.1) := hide (take_own (P := fun z => ∃ j, j < 60 ∧ ∃ c', al[j]? = some c' ∧ c'.o = z) HOWN.out ⟨k, hlt.2, c, hc, rfl⟩)
      have HTL : Hid ((takeF R H c.o c.l).1.length ≤ (k + 1) * 20) := hide (by have := (take_fine (l := c.l) HPO.out.fine hin.lo).2; omega)
      have HNS : Hid (Calls Try.prog 27 #[.slice c.vo c.l.length c.vc] wr.drew (NeGot wr.drew c.l)) := hide (needs13_any c.l c.vo c.vc wr.drew hin.len (hin.at_.keep HBL.out.drew))
      have HTK : Hid (∀ w2 vo vc, Below wr.heap.size wr.drew w2 → NeRd w2 vo c.l → Calls Try.prog 26 #[.pointer (some ⟨p, 0, none⟩), .int .i64 c.o, .slice vo c.l.length vc] w2 fun e w' => e = .returned (.int .i64 (takeF R H c.o c.l).2) ∧ PoAt w' p a b R (takeF R H c.o c.l).1 ∧ Only (· = b) w2 w') := hide (fun w2 vo vc hb hn => take_any c.l vo vc c.o hin.lo p a b R H w2 (HPO.out.drew.below hb) hn hin.fit (by have := hin.len; omega) (by omega))
      have KP : Hid (∀ w2 w', Below wr.heap.size wr.drew w2 → Only (· = b) w2 w' → w'.cell? ⟨g, o + k * 5 + 1, none⟩ = some (.int .i64 c.o) ∧ w'.cell? ⟨g, o + k * 5 + 2, none⟩ = some (.slice c.vo c.l.length c.vc)) := hide (fun w2 w' hb ho => ⟨ho.cell (Below.keeps hb (Nat.le_refl _) (show wr.drew.cell? _ = _ from e1)) hgb, ho.cell (Below.keeps hb (Nat.le_refl _) (show wr.drew.cell? _ = _ from e2)) hgb⟩)
      clear hcells hcs hc hin
      obtain ⟨kd, ow, nl, no, nc, nm, nn⟩ := c
      simp only at e1 e2 HOWN2 HTL HNS HTK KP
      go_wp2_with fail
      first
      | (go_region_held3 (fun w' => w'.cell? ⟨g, o + k * 5 + 1, none⟩ = some (.int .i64 ow) ∧ w'.cell? ⟨g, o + k * 5 + 2, none⟩ = some (.slice no nl.length nc))
          (go_keep)
          (first
            | (go_at_call 27; refine HNS.out.mono ?_; rintro e w3 ⟨qo, qc, rfl, hn3, hb3⟩; obtain ⟨q0, q1⟩ := KP.out _ _ hb3 (Only.refl _ _); have HN3 := hide hn3; have HB3 := hide hb3; clear hn3 hb3)
            | (go_at_call 26; refine (HTK.out _ _ _ HB3.out HN3.out).mono ?_; rintro e w4 ⟨rfl, hp4, ho4⟩; obtain ⟨r0, r1⟩ := KP.out _ _ HB3.out ho4; have HP4 := hide hp4; have HO4 := hide ho4; clear hp4 ho4)))
      | fail
      all_goals
        have HB4 : Hid (Below W.heap.size W w4) := hide ((HBL.out.drew.trans (HB3.out.mono HBL.out.size)).trans (HO4.out.toBelow (Nat.le_trans HBL.out.size HB3.out.size) (fun i e => by rw [e]; exact hbg)))
        go_wp2
        go_roundw
        case rel => exact ⟨k + 1, _, by have := HLT.out; omega, by have := HLT.out; omega, by go_num, HP4.out, HOWN2.out, HTL.out, HB4.out⟩
        case measure => have := HLT.out; simp [intOf]; omega
    · have HOWN1 : Hid (∀ x ∈ H, ∃ j, 0 ≤ j ∧ j < 60 ∧ ∃ c, al[j]? = some c ∧ c.o = x.1.1) := hide (fun x hx => by obtain ⟨j, h1, h2⟩ := HOWN.out x hx; exact ⟨j, Nat.zero_le _, h1, h2⟩)
      clear HOWN
      have hHb : H.length ≤ 1200 := by omega
      clear hHl
      have hend : (¬ ((k : Nat) : Int) < ((al.length : Nat) : Int)) ∨ (((k : Nat) : Int) < ((al.length : Nat) : Int) ∧ ¬ ((k : Nat) : Int) < 60) := by omega
      rcases hend with hk1 | ⟨hk1, hk2⟩
      all_goals
        go_wp2
        clear hk1
        try clear hk2
        go_loopw [7] (fun i wr => ∃ (k : Nat) (H : List Hd), k ≤ al.length ∧ k ≤ 60 ∧ i = .int .i64 k ∧ PoAt wr p a b R H ∧ (∀ x ∈ H, ∃ j, k ≤ j ∧ j < 60 ∧ ∃ c, al[j]? = some c ∧ c.o = x.1.1) ∧ H.length ≤ 1200 ∧ Below W.heap.size W wr) (fun i _ => 60 - (intOf i).toNat)
        case atStart => exact ⟨0, H, Nat.zero_le _, Nat.zero_le _, rfl, HPO.out, HOWN1.out, hHb, HBL.out⟩
        case round =>
          clear HPO HBL HOWN1 hHb hlt hk hk60 hsw
          clear H
          obtain ⟨k, H, hk, hk60, rfl, hpo, hown, hHl, hbl⟩ := hrel
          have HPO := hide hpo
          have HBL := hide hbl
          have HOWN := hide hown
          have hsw := hbl.size
          clear hpo hbl hown
          by_cases hlt : k < al.length ∧ k < 60
          · have HLT := hide hlt
            have hk1 : ((k : Nat) : Int) < ((al.length : Nat) : Int) := by omega
            have hk2 : ((k : Nat) : Int) < 60 := by omega
            have hk0 : (0 : Int) ≤ ((k : Nat) : Int) := by omega
            obtain ⟨c, hc⟩ : ∃ c, al[k]? = some c := ⟨_, List.getElem?_eq_getElem hlt.1⟩
            obtain ⟨g, o, rfl, _, hg, hcells⟩ := HA.out (by omega)
            obtain ⟨hin, hcs⟩ := hcells k c hc
            have e1 := Below.keeps HBL.out (Nat.le_refl _) (hcs 1 _ rfl)
            have HOWN2 : Hid (∀ x ∈ giveF H c.o, ∃ j, k + 1 ≤ j ∧ j < 60 ∧ ∃ c', al[j]? = some c' ∧ c'.o = x.1.1) := hide (give_own (P := fun z => ∃ j, k + 1 ≤ j ∧ j < 60 ∧ ∃ c', al[j]? = some c' ∧ c'.o = z) (fun x hx => by
              obtain ⟨j, h1, h2, c', h3, h4⟩ := HOWN.out x hx
              by_cases e : j = k
              · subst e; rw [hc] at h3; cases h3; exact .inl h4.symm
              · exact .inr ⟨j, by omega, h2, c', h3, h4⟩))
            have HTL : Hid ((giveF H c.o).length ≤ 1200) := hide (Nat.le_trans (give_len H c.o) hHl)
            have HG := hide (give_any c.o hin.lo p a b R H wr HPO.out (by omega))
            unfold ptr at HG
            clear hcells hcs hc hin
            obtain ⟨kd, ow, nl, no, nc, nm, nn⟩ := c
            simp only at e1 HOWN2 HTL HG
            go_wp2_with fail
            refine HG.out.mono ?_
            rintro e w4 ⟨rfl, hp4, ho4⟩
            have HP4 := hide hp4
            have HB4 : Hid (Below W.heap.size W w4) := hide (HBL.out.trans (ho4.toBelow HBL.out.size (fun i e => by rw [e]; exact hbg)))
            clear hp4 ho4 HG
            go_wp2
            go_roundw
            case rel => exact ⟨k + 1, _, by have := HLT.out; omega, by have := HLT.out; omega, by go_num, HP4.out, HOWN2.out, HTL.out, HB4.out⟩
            case measure => have := HLT.out; simp [intOf]; omega
          · have hH0 : H = [] := by
              cases H with
              | nil => rfl
              | cons x r =>
                obtain ⟨j, h1, h2, c', h3, _⟩ := HOWN.out x (by simp)
                have := (List.getElem?_eq_some_iff.1 h3).1
                omega
            subst hH0
            clear HOWN hHl
            have hend : (¬ ((k : Nat) : Int) < ((al.length : Nat) : Int)) ∨ (((k : Nat) : Int) < ((al.length : Nat) : Int) ∧ ¬ ((k : Nat) : Int) < 60) := by omega
            clear hlt
            rcases hend with hk1 | ⟨hk1, hk2⟩
            all_goals
              go_wp2
              clear hk1
              try clear hk2
              go_loopw [8] (fun i wr => ∃ (k : Nat), k ≤ l.length ∧ i = .int .i64 k ∧ PoAt wr p a b R [] ∧ Below W.heap.size W wr) (fun i _ => l.length - (intOf i).toNat)
              case atStart => exact ⟨0, Nat.zero_le _, rfl, HPO.out, HBL.out⟩
              case round =>
                clear HPO HBL hsw hk hk60
                obtain ⟨k, hk, rfl, hpo, hbl⟩ := hrel
                have HPO := hide hpo
                have HBL := hide hbl
                have hsw := hbl.size
                clear hpo hbl
                by_cases hlt : k < l.length
                · have HLT := hide hlt
                  have hk1 : ((k : Nat) : Int) < ((l.length : Nat) : Int) := by omega
                  have hk0 : (0 : Int) ≤ ((k : Nat) : Int) := by omega
                  obtain ⟨g, o, rfl, _, hg, hcells⟩ := HL.out (by omega)
                  obtain ⟨e0, _, _⟩ := hcells k l[k] (List.getElem?_eq_getElem hlt)
                  have e1 := Below.keeps HBL.out (Nat.le_refl _) e0
                  have hfn : FitN (l[k]).1 := HFL.out _ (List.getElem_mem hlt)
                  have HU := hide (units_any (l[k]).1 hfn p a b R [] wr HPO.out)
                  have HF := hide (fun w (h : PoAt w p a b R []) => free_any (l[k]).1 hfn p a b R [] w h (by simp))
                  simp only [freeF_nil] at HF
                  clear hcells e0 hfn
                  unfold ptr at HU HF
                  generalize unitsF R (l[k]).1 = x at *
                  generalize (l[k]).1 = nm at *
                  obtain ⟨n, er⟩ := x
                  simp only at HU HF
                  go_wp2_with fail
                  refine HU.out.mono ?_
                  rintro e w3 ⟨rfl, hb3⟩
                  have e2 := Below.keeps hb3 (Nat.le_refl _) e1
                  have HP3 := hide (HPO.out.below hb3)
                  have HB3 := hide (HBL.out.trans (hb3.mono HBL.out.size))
                  clear hb3 HU e1
                  go_wp2_with fail
                  refine (HF.out _ HP3.out).mono ?_
                  rintro e w4 ⟨rfl, hb4⟩
                  have HP4 := hide (HP3.out.below hb4)
                  have HB4 := hide (HB3.out.trans (hb4.mono HB3.out.size))
                  clear hb4 HF e2
                  go_wp2
                  go_roundw
                  case rel => exact ⟨k + 1, by have := HLT.out; omega, by go_num, HP4.out, HB4.out⟩
                  case measure => have := HLT.out; simp [intOf]; omega
                · have HLS := hide (plist_any p a b R [] wr HPO.out (by simp))
                  unfold ptr ListedH at HLS
                  simp only [List.length_nil] at HLS
                  go_wp2_with fail
                  refine HLS.out.mono ?_
                  rintro e w3 ⟨g, cap, rfl, hrow, hb3⟩
                  have HB3 := hide (HBL.out.trans (hb3.mono HBL.out.size))
                  clear hb3 hrow
                  go_wp2_with fail
                  refine (HK.out _).mono ?_
                  rintro e w5 ⟨rfl, hb5⟩
                  have HB5 := hide (HB3.out.trans (hb5.mono HB3.out.size))
                  clear hb5
                  go_wp2
                  go_ret
                  exact ⟨rfl, HB5.out⟩
end Go.Proofs.Ytakebjhbcfjlbaa
