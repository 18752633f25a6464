/- Package dayshiftref13: May, whatever is held. Written by gen_rqa.py. -/
import Derived.Test.YtkpambipgcjaiaaRpD
import Derived.Deep.QuietTactic
import Derived.BigQuiet
namespace Go.DsPl
open Go.DsCo
set_option linter.unusedVariables false
theorem useF_lock {H : List Hd} {nm : ByteArray} (h : ∀ x ∈ H, x.1.2 = nm → x.2.2 = 1 ∨ x.2.2 = 2) : 0 ≤ (useF H nm).2.1 ∧ 0 ≤ (useF H nm).2.2 ∧ ((useF H nm).2.1 = 0 ↔ ∀ x ∈ H, x.1.2 = nm → x.2.2 ≠ 1) ∧ ((useF H nm).2.2 = 0 ↔ ∀ x ∈ H, x.1.2 = nm → x.2.2 ≠ 2) := by
  induction H with
  | nil => simp [useF]
  | cons y r ih =>
    obtain ⟨i1, i2, i3, i4⟩ := ih (fun x hx => h x (List.mem_cons_of_mem _ hx))
    have hy := h y (by simp)
    unfold useF
    by_cases e : y.1.2 = nm
    · rw [if_pos e]
      have hy := hy e
      unfold addU
      simp only [List.mem_cons, forall_eq_or_imp]
      rcases hy with hy | hy
      · rw [hy]
        simp only [if_pos]
        refine ⟨by omega, by omega, ⟨fun hh => absurd hh (by omega), fun hh => absurd rfl (hh.1 e)⟩, ?_⟩
        rw [show (useF r nm).2.2 + 0 = (useF r nm).2.2 from by omega, i4]
        exact ⟨fun hh => ⟨fun _ => by decide, hh⟩, fun hh => hh.2⟩
      · rw [hy]
        simp only [show ((2 : Int) = 1) = False from by simp, if_false, if_true]
        refine ⟨by omega, by omega, ?_, ⟨fun hh => absurd hh (by omega), fun hh => absurd rfl (hh.1 e)⟩⟩
        rw [show (useF r nm).2.1 + 0 = (useF r nm).2.1 from by omega, i3]
        exact ⟨fun hh => ⟨fun _ => by decide, hh⟩, fun hh => hh.2⟩
    · rw [if_neg e]
      refine ⟨i1, i2, ?_, ?_⟩
      · rw [i3]; simp only [List.mem_cons, forall_eq_or_imp]
        exact ⟨fun hh => ⟨fun e' => absurd e' e, hh⟩, fun hh => hh.2⟩
      · rw [i4]; simp only [List.mem_cons, forall_eq_or_imp]
        exact ⟨fun hh => ⟨fun e' => absurd e' e, hh⟩, fun hh => hh.2⟩
theorem lock_mode {R : List Rk} {H : List Hd} (hf : ∀ h ∈ H, ∃ k, findK R h.1.2 = some k ∧ okS k h.2) {nm : ByteArray} (hk : findK R nm = some .lock) : ∀ x ∈ H, x.1.2 = nm → x.2.2 = 1 ∨ x.2.2 = 2 := fun x hx e => by
  obtain ⟨k, hk', ho⟩ := hf x hx
  rw [e, hk] at hk'
  cases hk'
  exact ho.2
theorem fits_lock {H : List Hd} {nm : ByteArray} (h : ∀ x ∈ H, x.1.2 = nm → x.2.2 = 1 ∨ x.2.2 = 2) (m md : Int) (hm : md = 1 ∨ md = 2) : fitsB .lock ⟨nm, m, md⟩ (useF H nm) = true ↔ ∀ x ∈ H, x.1.2 = nm → ¬ (md = 2 ∨ x.2.2 = 2) := by
  obtain ⟨i1, i2, i3, i4⟩ := useF_lock h
  unfold fitsB
  simp only [decide_eq_true_eq]
  rw [i4, i3]
  constructor
  · rintro ⟨h1, h2⟩ x hx e hh
    rcases hh with rfl | hh
    · rcases h2 with h2 | h2
      · omega
      · rcases h x hx e with h3 | h3
        · exact h2 x hx e h3
        · exact h1 x hx e h3
    · exact h1 x hx e hh
  · intro hh
    refine ⟨fun x hx e h2 => hh x hx e (.inr h2), ?_⟩
    rcases hm with rfl | rfl
    · exact .inl rfl
    · exact .inr (fun x hx e h1 => hh x hx e (.inl rfl))
end Go.DsPl
namespace Go.Proofs.Ytkpambipgcjaiaa
open Go.ChangeShapes Go.WideShapes Go.ChangeAt Go.RowKit Go.DsMem Go.DsCo Go.DsPl Go.DsMap
set_option linter.unusedVariables false
set_option linter.unusedSimpArgs false
set_option maxHeartbeats 16000000 in
set_option maxRecDepth 20000 in
/-- (*dayshiftref13.Pool).May -/
theorem rmay_any (o : Int) (l : List Ne) (no : Option Addr) (nc : Nat) (pr b0 : Nat) (X : List Rt) (H : List Hd) (uo vo : Option Addr) (uc vc : Nat) (w : World) (h : RpAt w pr b0 X H uo vo uc vc) (hX : X.length ≤ 1000000) (hH : H.length ≤ 1000000) (hfn : FineP (rkR X) H) (hl : NeAt w no nc l) (hll : l.length ≤ 4398046510976) :
    Calls Try.prog 57 #[ptr pr, .int .i64 o, .slice no l.length nc] w fun e w' => e = .returned (.int .i64 (mayF (rkR X) H o l)) ∧ Below w.heap.size w w' := by
  have HL := hide hl
  have HP := hide h
  have c1 := h.c1
  have HR := hide (fun (i : Nat) (hi : i < l.length) w h hl => rright_any l i hi no nc pr b0 X H uo vo uc vc w h hX hl hll)
  have HF := hide (fun nm w h => rfree_any nm pr b0 X H uo vo uc vc w h hX hH hfn.small hfn.ru)
  have HIN := hide hfn.hin
  have HSM := hide hfn.small
  have HLM := hide (fun nm (hk : findK (rkR X) nm = some .lock) => lock_mode hfn.hin hk)
  have HM5 : Hid (holdsB H o = true → mayF (rkR X) H o l = 5) := hide (fun h => by unfold mayF; rw [if_pos h])
  have HMN : Hid (holdsB H o = false → mayF (rkR X) H o l = if rightF (rkR X) [] l ≠ 0 then rightF (rkR X) [] l else roomF (rkR X) H l) := hide (fun h => by unfold mayF; rw [if_neg (by simp [h])])
  obtain ⟨Q, hQ⟩ : ∃ Q, mayF (rkR X) H o l = Q := ⟨_, rfl⟩
  rw [hQ] at HM5 HMN ⊢
  have HRO : Hid (rightF (rkR X) [] l = 0 → ∀ n ∈ l, ∃ k, findK (rkR X) n.nm = some k ∧ suitsB k n = true) := hide (fun h0 => (rightF_le (rkR X) hfn.kn l [] List.nodup_nil (fun a ha => by simp at ha) h0).2)
  obtain ⟨Z, hZ⟩ : ∃ Z, rightF (rkR X) [] l = Z := ⟨_, rfl⟩
  rw [hZ] at HMN HRO
  have HZ := hide hZ
  clear h hl hfn hQ hZ
  unfold ptr at *
  go_enter Try.func57, Try.ntmps57
  go_wp2
  go_loopw [7] (fun i wr => ∃ q : Nat, q ≤ H.length ∧ i = .int .i64 q ∧ (∀ x ∈ H.take q, ¬ x.1.1 = o) ∧ RpAt wr pr b0 X H uo vo uc vc ∧ NeAt wr no nc l ∧ Below w.heap.size w wr) (fun i _ => H.length - (intOf i).toNat)
  case atStart => exact ⟨0, Nat.zero_le _, rfl, fun x hx => by simp at hx, HP.out, HL.out, Below.refl _ _⟩
  case round =>
    obtain ⟨q, hqk, rfl, hno, hp, hn, hbl⟩ := hrel
    have HPO := hide hp
    have HNO := hide hn
    have HBL := hide hbl
    have HNW := hide hno
    have c1 := hp.c1
    clear hp hn hbl hno
    by_cases hql : q < H.length
    · have HQL := hide hql
      have hq0 : (0 : Int) ≤ (q : Int) := by omega
      have hq1 : (q : Int) < ((H.length : Nat) : Int) := by omega
      obtain ⟨gh, rfl, hgh, hhc⟩ := HPO.out.rdH (by omega)
      obtain ⟨h0, _, _, _⟩ := hhc q hql
      have HTK : Hid (H.take (q + 1) = H.take q ++ [H[q]]) := hide (List.take_succ_eq_append_getElem hql)
      have HMEM := hide (List.getElem_mem hql)
      clear hhc
      generalize H[q] = x at *
      by_cases how : x.1.1 = o
      · have HRV : Hid ((5 : Int) = Q) := hide (HM5.out (holdsB_iff.2 ⟨_, HMEM.out, how⟩)).symm
        rw [how] at h0
        clear how HTK HMEM
        go_wp2
        go_ret
        exact ⟨retI HRV.out, HBL.out⟩
      · have HOW := hide how
        have hoe : ((x.1.1 : Int) == o) = false := by simpa using how
        clear how
        go_wp2
        go_roundw
        case rel => exact ⟨q + 1, by have := HQL.out; omega, by go_num, fun y hy => by
          rw [HTK.out] at hy
          rcases List.mem_append.1 hy with hy | hy
          · exact HNW.out y hy
          · simp at hy; rw [hy]; exact HOW.out, HPO.out, HNO.out, HBL.out⟩
        case measure => have := HQL.out; simp [intOf]; omega
    have hqe : q = H.length := by omega
    have hq1 : ¬ (q : Int) < ((H.length : Nat) : Int) := by omega
    have HM := hide (HMN.out (by
      rw [Bool.eq_false_iff]
      intro e
      obtain ⟨x, hx, ho⟩ := holdsB_iff.1 e
      exact HNW.out x (by rw [hqe, List.take_length]; exact hx) ho))
    clear hqe hql HMN HM5 HNW
    go_wp2
    clear c1 hq1 hqk
    try clear q
    go_loopw [8] (fun ti wr => ∃ (i : Nat) (A : List ByteArray), i ≤ l.length ∧ ti = .int .i64 i ∧ (∀ s, s ∈ A ↔ s ∈ (l.take i).map (·.nm)) ∧ rightF (rkR X) A (l.drop i) = Z ∧ RpAt wr pr b0 X H uo vo uc vc ∧ NeAt wr no nc l ∧ Below w.heap.size w wr) (fun ti _ => l.length - (intOf ti).toNat)
    case atStart => exact ⟨0, [], Nat.zero_le _, rfl, fun s => by simp, HZ.out, HPO.out, HNO.out, HBL.out⟩
    case round =>
      clear HPO HNO HBL
      obtain ⟨i, A, hi, rfl, hA, hz, hp, hn, hbl⟩ := hrel
      have HPO := hide hp
      have HNO := hide hn
      have HBL := hide hbl
      have HA := hide hA
      clear hp hn hbl hA
      by_cases hlt : i < l.length
      · have HLT := hide hlt
        have hi0 : (0 : Int) ≤ (i : Int) := by omega
        have hi1 : (i : Int) < ((l.length : Nat) : Int) := by omega
        rw [drop_cons hlt, rightF_r1, r1F_mem (rkR X) l[i] HA.out] at hz
        have HR1 := hide (HR.out i hlt _ HPO.out HNO.out)
        have HA2 := hide (take_mem hlt HA.out)
        generalize r1F (rkR X) ((l.take i).map (·.nm)) l[i] = z at *
        by_cases hz0 : z = 0
        · rw [if_pos hz0] at hz
          subst hz0
          have HZ2 := hide hz
          clear hz
          go_wp2_with fail
          refine HR1.out.mono ?_
          rintro e w2 ⟨rfl, hb2⟩
          have HP2 := hide (HPO.out.below hb2)
          have HN2 := hide (HNO.out.keep hb2)
          have HB2 := hide (HBL.out.trans (hb2.mono HBL.out.size))
          clear hb2
          go_wp2
          go_roundw
          case rel => exact ⟨i + 1, _, by have := HLT.out; omega, by go_num, HA2.out, HZ2.out, HP2.out, HN2.out, HB2.out⟩
          case measure => have := HLT.out; simp [intOf]; omega
        · rw [if_neg hz0] at hz
          have hQz : Hid (z = Q) := hide (by rw [HM.out, ← hz, if_pos hz0])
          have HZ2 := hide hz
          clear hz
          go_wp2_with fail
          refine HR1.out.mono ?_
          rintro e w2 ⟨rfl, hb2⟩
          have HB2 := hide (HBL.out.trans (hb2.mono HBL.out.size))
          clear hb2
          go_wp2
          go_ret
          exact ⟨retI hQz.out, HB2.out⟩
      · have e : i = l.length := by omega
        rw [e, List.drop_length, rightF] at hz
        have HQR : Hid (roomF (rkR X) H l = Q) := hide (by rw [HM.out, ← hz]; simp)
        have HRT := hide (HRO.out hz.symm)
        clear hz HM HRO HA
        have hi1 : ¬ (i : Int) < ((l.length : Nat) : Int) := by omega
        go_wp2
        clear hi1 e hlt
        go_loopw [10] (fun ti wr => ∃ (i : Nat), i ≤ l.length ∧ ti = .int .i64 i ∧ roomF (rkR X) H (l.drop i) = Q ∧ RpAt wr pr b0 X H uo vo uc vc ∧ NeAt wr no nc l ∧ Below w.heap.size w wr) (fun ti _ => l.length - (intOf ti).toNat)
        case atStart => exact ⟨0, Nat.zero_le _, rfl, HQR.out, HPO.out, HNO.out, HBL.out⟩
        case round =>
          clear HPO HNO HBL HQR hi
          obtain ⟨i, hi, rfl, hq, hp, hn, hbl⟩ := hrel
          have HPO := hide hp
          have HNO := hide hn
          have HBL := hide hbl
          have c1 := hp.c1
          clear hp hn hbl
          by_cases hlt : i < l.length
          · have HLT := hide hlt
            have hi0 : (0 : Int) ≤ (i : Int) := by omega
            have hi1 : (i : Int) < ((l.length : Nat) : Int) := by omega
            rw [drop_cons hlt, roomF] at hq
            obtain ⟨kd, hkd, hsu⟩ := HRT.out _ (List.getElem_mem hlt)
            rw [hkd] at hq
            simp only at hq
            obtain ⟨g, o', rfl, hnc, hgn, hcells⟩ := HNO.out (by omega)
            obtain ⟨e0, e1, e2⟩ := hcells i l[i] (List.getElem?_eq_getElem hlt)
            clear hcells
            generalize l[i] = n at *
            obtain ⟨nm, m, md⟩ := n
            simp only at e0 e1 e2 hkd hq
            have HFR := hide (HF.out nm _ HPO.out)
            unfold freeF at HFR
            simp only [hkd] at HFR
            have hkd2 := hkd
            clear hkd
            cases kd with
            | units ku =>
              clear hkd2
              simp [suitsB] at hsu
              simp only [fitsB, decide_eq_true_eq] at hq
              obtain ⟨hum, hum2, -⟩ := useF_bd nm HSM.out
              generalize (useF H nm).1 = uu at hq HFR hum hum2
              have hmd : (md == (0 : Int)) = true := by simp [hsu.1]
              by_cases hfit : m ≤ ku - uu
              · rw [if_pos (by simp [hfit])] at hq
                have HQ2 := hide hq
                have hnl : ¬ ku - uu < m := by omega
                have hmd2 : (md != (0 : Int)) = false := by simp [hsu.1]
                clear hq hsu
                go_wp2_with fail
                refine HFR.out.mono ?_
                rintro e w2 ⟨rfl, hb2⟩
                have HP2 := hide (HPO.out.below hb2)
                have HN2 := hide (HNO.out.keep hb2)
                have HB2 := hide (HBL.out.trans (hb2.mono HBL.out.size))
                have e1 := Below.keeps hb2 (Nat.le_refl _) e1
                have e2 := Below.keeps hb2 (Nat.le_refl _) e2
                have c1 := Below.keeps hb2 (Nat.le_refl _) c1
                clear hb2
                go_wp2
                go_loopw [13] (fun tj wr => tj = .int .i64 0 ∧ RpAt wr pr b0 X H uo vo uc vc ∧ NeAt wr (some ⟨g, o', none⟩) nc l ∧ Below w.heap.size w wr ∧ wr.cell? ⟨g, o' + i * 3 + 2, none⟩ = some (.int .i64 md)) (fun _ _ => 0)
                case atStart => exact ⟨rfl, HP2.out, HN2.out, HB2.out, e2⟩
                case round =>
                  obtain ⟨rfl, hp, hn, hbl, e2⟩ := hrel
                  have HPO := hide hp
                  have HNO := hide hn
                  have HBL := hide hbl
                  have c1 := hp.c1
                  clear hp hn hbl
                  by_cases hhl : 0 < H.length
                  all_goals
                    have hhl' : ((0 : Int) < ((H.length : Nat) : Int)) = (0 < H.length) := by simp
                    go_wp2
                    go_roundw
                    case rel => exact ⟨i + 1, by have := HLT.out; omega, by go_num, HQ2.out, HPO.out, HNO.out, HBL.out⟩
                    case measure => have := HLT.out; simp [intOf]; omega
              · rw [if_neg (by simp [hfit])] at hq
                have HQ2 := hide hq
                have hnl : ku - uu < m := by omega
                clear hq hsu
                go_wp2_with fail
                refine HFR.out.mono ?_
                rintro e w2 ⟨rfl, hb2⟩
                have HB2 := hide (HBL.out.trans (hb2.mono HBL.out.size))
                have e1 := Below.keeps hb2 (Nat.le_refl _) e1
                clear hb2
                go_wp2
                go_ret
                exact ⟨retI HQ2.out, HB2.out⟩
            | lock =>
              simp [suitsB] at hsu
              have HFT := hide (fits_lock (HLM.out nm hkd2) m md hsu)
              have hmd : (md == (0 : Int)) = false := by simp; omega
              have hmd2 : (md != (0 : Int)) = true := by simp; omega
              have HQ2 := hide hq
              clear hq HFR hkd2
              go_wp2
              clear c1
              go_loopw [13] (fun tj wr => ∃ k : Nat, k ≤ H.length ∧ tj = .int .i64 k ∧ (∀ x ∈ H.take k, x.1.2 = nm → ¬ (md = 2 ∨ x.2.2 = 2)) ∧ RpAt wr pr b0 X H uo vo uc vc ∧ NeAt wr (some ⟨g, o', none⟩) nc l ∧ Below w.heap.size w wr ∧ wr.cell? ⟨g, o' + i * 3, none⟩ = some (.string nm) ∧ wr.cell? ⟨g, o' + i * 3 + 2, none⟩ = some (.int .i64 md)) (fun tj _ => H.length - (intOf tj).toNat)
              case atStart => exact ⟨0, Nat.zero_le _, rfl, fun x hx => by simp at hx, HPO.out, HNO.out, HBL.out, e0, e2⟩
              case round =>
                clear HPO HNO HBL
                obtain ⟨k, hk, rfl, hno, hp, hn, hbl, e0, e2⟩ := hrel
                have HPO := hide hp
                have HNO := hide hn
                have HBL := hide hbl
                have HNW := hide hno
                have c1 := hp.c1
                clear hp hn hbl hno
                by_cases hkl : k < H.length
                · have HKL := hide hkl
                  have hk0 : (0 : Int) ≤ (k : Int) := by omega
                  have hk1 : (k : Int) < ((H.length : Nat) : Int) := by omega
                  obtain ⟨gh, rfl, hgh, hhc⟩ := HPO.out.rdH (by omega)
                  obtain ⟨_, h1, _, h3⟩ := hhc k hkl
                  have HTK : Hid (H.take (k + 1) = H.take k ++ [H[k]]) := hide (List.take_succ_eq_append_getElem hkl)
                  have HMEM := hide (List.getElem_mem hkl)
                  clear hhc
                  generalize H[k] = x at *
                  obtain ⟨⟨xo, xn⟩, xs, xm⟩ := x
                  simp only at h1 h3
                  by_cases hnm : xn = nm
                  · subst hnm
                    by_cases hbad : md = 2 ∨ xm = 2
                    · have HRV : Hid ((32 : Int) = Q) := hide (by
                        have := HQ2.out
                        rw [if_neg (fun e => (HFT.out.1 e) _ HMEM.out rfl hbad)] at this
                        exact this)
                      by_cases hm2 : md = 2
                      · subst hm2
                        clear hbad hsu
                        go_wp2
                        go_quiet (fail)
                        go_wp2
                        go_ret
                        exact ⟨retI HRV.out, HBL.out.trans ((below_drewNP _ _).mono HBL.out.size)⟩
                      · have hx2 : xm = 2 := by rcases hbad with h | h
                                                · exact absurd h hm2
                                                · exact h
                        subst hx2
                        have hm2' : (md == (2 : Int)) = false := by simpa using hm2
                        clear hbad hsu hm2
                        go_wp2
                        go_quiet (fail)
                        go_wp2
                        go_ret
                        exact ⟨retI HRV.out, HBL.out.trans ((below_drewNP _ _).mono HBL.out.size)⟩
                    · have HBAD := hide hbad
                      have hm2' : (md == (2 : Int)) = false := by simp; omega
                      have hx2' : (xm == (2 : Int)) = false := by simp; omega
                      clear hbad hsu
                      go_wp2
                      go_quiet (fail)
                      go_wp2
                      go_roundw
                      case rel => exact ⟨k + 1, by have := HKL.out; omega, by go_num, fun y hy => by
                        rw [HTK.out] at hy
                        rcases List.mem_append.1 hy with hy | hy
                        · exact HNW.out y hy
                        · simp at hy; rw [hy]; exact fun _ => HBAD.out, HPO.out.below (below_drewNP _ _), HNO.out.keep (below_drewNP _ _), HBL.out.trans ((below_drewNP _ _).mono HBL.out.size), e0, e2⟩
                      case measure => have := HKL.out; simp [intOf]; omega
                  · have hne := str_neP hnm
                    have HNM := hide hnm
                    clear hnm hsu
                    go_wp2
                    go_quiet (fail)
                    go_wp2
                    go_roundw
                    case rel => exact ⟨k + 1, by have := HKL.out; omega, by go_num, fun y hy => by
                      rw [HTK.out] at hy
                      rcases List.mem_append.1 hy with hy | hy
                      · exact HNW.out y hy
                      · simp at hy; rw [hy]; exact fun e => absurd e HNM.out, HPO.out.below (below_drewNP _ _), HNO.out.keep (below_drewNP _ _), HBL.out.trans ((below_drewNP _ _).mono HBL.out.size), e0, e2⟩
                    case measure => have := HKL.out; simp [intOf]; omega
                · have hke : k = H.length := by omega
                  have hk1 : ¬ (k : Int) < ((H.length : Nat) : Int) := by omega
                  have HQ3 : Hid (roomF (rkR X) H (l.drop (i + 1)) = Q) := hide (by
                    have := HQ2.out
                    rw [if_pos (HFT.out.2 (fun x hx => HNW.out x (by rw [hke, List.take_length]; exact hx)))] at this
                    exact this)
                  clear hke hkl HNW
                  go_wp2
                  go_roundw
                  case rel => exact ⟨i + 1, by have := HLT.out; omega, by go_num, HQ3.out, HPO.out, HNO.out, HBL.out⟩
                  case measure => have := HLT.out; simp [intOf]; omega
          · have e : i = l.length := by omega
            rw [e, List.drop_length, roomF] at hq
            have HQ2 := hide hq
            have hi1 : ¬ (i : Int) < ((l.length : Nat) : Int) := by omega
            clear hq e
            go_wp2
            go_ret
            exact ⟨retI HQ2.out, HBL.out⟩
end Go.Proofs.Ytkpambipgcjaiaa
