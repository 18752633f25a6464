/- Package dayshiftref13: Take, whatever is held. Written by gen_rqb.py. -/
import Derived.Test.YtkpambipgcjaiaaRpE
import Derived.Test.YtkpambipgcjaiaaRqA
namespace Go.Proofs.Ytkpambipgcjaiaa
open Go.ChangeShapes Go.WideShapes Go.ChangeAt Go.RowKit Go.DsMem Go.DsCo Go.DsPl Go.DsMap
set_option linter.unusedVariables false
set_option linter.unusedSimpArgs false
set_option maxHeartbeats 16000000 in
set_option maxRecDepth 20000 in
/-- (*dayshiftref13.Pool).Take -/
theorem rtake_any (o : Int) (l : List Ne) (no : Option Addr) (nc : Nat) (pr b0 : Nat) (X : List Rt) (H : List Hd) (uo vo : Option Addr) (uc vc : Nat) (w : World) (h : RpAt w pr b0 X H uo vo uc vc) (hb0 : b0 ≤ w.heap.size) (hX : X.length ≤ 1000000) (hH : H.length ≤ 100000) (hfn : FineP (rkR X) H) (hl : NeAt w no nc l) (hng : 0 < l.length → ∀ g o', no = some ⟨g, o', none⟩ → ¬ g = pr) (hll : l.length ≤ 100000) :
    Calls Try.prog 29 #[ptr pr, .int .i64 o, .slice no l.length nc] w fun e w' => e = .returned (.int .i64 (takeF (rkR X) H o l).2) ∧ (∃ vo' vc', RpAt w' pr b0 X (takeF (rkR X) H o l).1 uo vo' uc vc') ∧ Only (· = pr) w w' := by
  have HM := hide (rmay_any o l no nc pr b0 X H uo vo uc vc w h hX (by omega) hfn hl (by omega))
  have HP := hide h
  have HL := hide hl
  have HNG := hide hng
  unfold takeF
  by_cases hm : mayF (rkR X) H o l = 0
  · rw [if_neg (by simpa using hm)]
    rw [hm] at HM
    obtain ⟨h1, h2, h3⟩ := mayF_zero hm
    have HSU := hide ((rightF_le (rkR X) hfn.kn l [] List.nodup_nil (fun a ha => by simp at ha) h2).2)
    obtain ⟨Q, hQ⟩ : ∃ Q, takeL (rkR X) o H l = Q := ⟨_, rfl⟩
    simp only
    rw [hQ]
    have HQ := hide hQ
    clear h hl hng hm h1 h2 h3 hQ hfn
    unfold ptr at HM ⊢
    go_enter Try.func29, Try.ntmps29
    go_wp2_with fail
    refine HM.out.mono ?_
    rintro e w0 ⟨rfl, hb1⟩
    have HP0 := hide (HP.out.below hb1)
    have HL0 := hide (HL.out.keep hb1)
    have HO0 : Hid (Only (· = pr) w w0) := hide (Only.below hb1)
    clear hb1 HM
    go_wp2
    go_loopw [8] (fun i wr => ∃ (k : Nat) (H' : List Hd) (wo : Option Addr) (wc : Nat), k ≤ l.length ∧ i = .int .i64 k ∧ RpAt wr pr b0 X H' uo wo uc wc ∧ takeL (rkR X) o H' (l.drop k) = Q ∧ H'.length ≤ H.length + k ∧ Only (· = pr) w wr) (fun i _ => l.length - (intOf i).toNat)
    case atStart => exact ⟨0, H, vo, vc, Nat.zero_le _, rfl, HP0.out, HQ.out, by simp, HO0.out⟩
    case round =>
      clear HP0 HL0 HO0 HQ
      obtain ⟨k, H', wo, wc, hk, rfl, hp, hq, hHl, hon⟩ := hrel
      have HPO := hide hp
      have HON := hide hon
      have hsw := hon.size
      clear hp hon
      by_cases hlt : k < l.length
      · have HLT := hide hlt
        have hk0 : (0 : Int) ≤ (k : Int) := by omega
        have hk1 : (k : Int) < ((l.length : Nat) : Int) := by omega
        rw [drop_cons hlt] at hq
        obtain ⟨kd, hkd, hsu⟩ := HSU.out _ (List.getElem_mem hlt)
        obtain ⟨g, o', hno, hnc, hgn, hcells⟩ := HL.out (by omega)
        have hgp := HNG.out (by omega) g o' hno
        subst hno
        obtain ⟨e0, e1, e2⟩ := hcells k l[k] (List.getElem?_eq_getElem hlt)
        have e0 := HON.out.cell e0 hgp
        have e1 := HON.out.cell e1 hgp
        have e2 := HON.out.cell e2 hgp
        clear hcells
        generalize l[k] = n at *
        have HQ2 : Hid (takeL (rkR X) o (insH ((o, n.nm), shareF kd n) H') (l.drop (k + 1)) = Q) := hide (by rw [← hq]; show _ = takeL (rkR X) o (insH ((o, n.nm), shareF ((findK (rkR X) n.nm).getD .lock) n) H') _; rw [hkd]; rfl)
        clear hq hkd
        obtain ⟨nm, m, md⟩ := n
        simp only at e0 e1 e2 HQ2
        have hpD : ¬ pr = wr.heap.size := by have := block_lt HPO.out.blk; omega
        have hgD : ¬ g = wr.heap.size := by omega
        obtain ⟨w1, hw1⟩ : ∃ w1, (wr.alloc (.cells #[.int .i64 o, .string nm, .int .i64 0, .int .i64 md] 40)).drew = w1 := ⟨_, rfl⟩
        have hb1 : Below wr.heap.size wr w1 := by rw [← hw1]; exact ((Below.refl _ _).alloc (Nat.le_refl _) _).drew
        have hblk : w1.heap[wr.heap.size]? = some (.cells #[.int .i64 o, .string nm, .int .i64 0, .int .i64 md] 40 (0, 0)) := by rw [← hw1]; exact heap_alloc_new wr _
        have hz1 : w1.heap.size = wr.heap.size + 1 := by rw [← hw1]; simp
        have e1 := Below.keeps hb1 (Nat.le_refl _) e1
        have f0 := fun ob : Obj => Below.keeps (bel1 wr ob) (Nat.le_refl _) e0
        have f2 := fun ob : Obj => Below.keeps (bel1 wr ob) (Nat.le_refl _) e2
        have HB1 := hide hb1
        have HBK := hide hblk
        cases kd with
        | units ku =>
          simp [suitsB] at hsu
          have hmd : (md == (0 : Int)) = true := by simp [hsu.1]
          have HSH : Hid (((o, nm), shareF (.units ku) ⟨nm, m, md⟩) = (((o, nm), (m, md)) : Hd)) := hide (by simp [shareF, hsu.1])
          rw [HSH.out] at HQ2
          clear hsu hb1 HSH
          obtain ⟨w2, hw2⟩ : ∃ w2, w1.setCell ⟨wr.heap.size, 2, none⟩ (.int .i64 m) = w2 := ⟨_, rfl⟩
          have hb2 : Below wr.heap.size wr w2 := by
            rw [← hw2]
            exact HB1.out.trans ((Only.set w1 wr.heap.size 2 _).toBelow (by omega) (fun i e => by rw [e]; exact Nat.le_refl _))
          have hblk2 : w2.heap[wr.heap.size]? = some (.cells #[.int .i64 o, .string nm, .int .i64 m, .int .i64 md] 40 (0, 0)) := by
            rw [← hw2, hset_same hblk]; rfl
          have hfz := frozen_of (k := 2) hblk
          have k0 := cell_of (k := 2) hblk
          have k3 := cell_of (k := 3) hblk
          simp at k0 k3
          have j0 := cell_of (k := 0) hblk2
          have j1 := cell_of (k := 1) hblk2
          have j2 := cell_of (k := 2) hblk2
          have j3 := cell_of (k := 3) hblk2
          simp at j0 j1 j2 j3
          have HPUT := hide (rput_any ((o, nm), (m, md)) pr b0 X H' uo wo uc wc w2 (HPO.out.below hb2) (by omega) (by have := hb2.size; omega))
          have HB2 := hide hb2
          clear hblk hblk2 hb2
          unfold ptr at HPUT
          simp only at HPUT
          go_wp2_with fail
          go_region
          all_goals
            try rw [hw1]
            go_wp2_with fail
            try rw [hw2]
            refine HPUT.out.mono ?_
            rintro e w3 ⟨rfl, ⟨wo', wc', hp3⟩, ho3⟩
            have HP3 := hide hp3
            have HO3 := hide ((HON.out.trans (Only.below HB2.out) (fun _ _ e => e)).trans ho3 (fun _ _ e => e))
            clear hp3 ho3
            go_wp2
            go_roundw
            case rel => exact ⟨k + 1, _, wo', wc', by have := HLT.out; omega, by go_num, HP3.out, HQ2.out, by rw [len_insH]; omega, HO3.out⟩
            case measure => have := HLT.out; simp [intOf]; omega
        | lock =>
          simp [suitsB] at hsu
          have hmd : (md == (0 : Int)) = false := by simp; omega
          have HSH : Hid (((o, nm), shareF .lock ⟨nm, m, md⟩) = (((o, nm), (0, md)) : Hd)) := hide rfl
          rw [HSH.out] at HQ2
          clear hsu hb1 HSH
          have j0 := cell_of (k := 0) hblk
          have j1 := cell_of (k := 1) hblk
          have j2 := cell_of (k := 2) hblk
          have j3 := cell_of (k := 3) hblk
          simp at j0 j1 j2 j3
          have HPUT := hide (rput_any ((o, nm), (0, md)) pr b0 X H' uo wo uc wc w1 (HPO.out.below HB1.out) (by omega) (by have := HB1.out.size; omega))
          have HB2 := hide HB1.out
          clear hblk
          unfold ptr at HPUT
          simp only at HPUT
          go_wp2_with fail
          go_region
          all_goals
            try rw [hw1]
            go_wp2_with fail
            try rw [hw2]
            refine HPUT.out.mono ?_
            rintro e w3 ⟨rfl, ⟨wo', wc', hp3⟩, ho3⟩
            have HP3 := hide hp3
            have HO3 := hide ((HON.out.trans (Only.below HB2.out) (fun _ _ e => e)).trans ho3 (fun _ _ e => e))
            clear hp3 ho3
            go_wp2
            go_roundw
            case rel => exact ⟨k + 1, _, wo', wc', by have := HLT.out; omega, by go_num, HP3.out, HQ2.out, by rw [len_insH]; omega, HO3.out⟩
            case measure => have := HLT.out; simp [intOf]; omega
      · have e : k = l.length := by omega
        rw [e, List.drop_length] at hq
        have hq2 : H' = Q := hq
        have hk1 : ¬ (k : Int) < ((l.length : Nat) : Int) := by omega
        clear e hq
        subst hq2
        go_wp2
        go_ret
        exact ⟨rfl, ⟨_, _, HPO.out⟩, HON.out⟩
  · rw [if_pos hm]
    simp only
    obtain ⟨z, hz⟩ : ∃ z, mayF (rkR X) H o l = z := ⟨_, rfl⟩
    rw [hz] at HM hm ⊢
    clear h hl hng hfn hz
    unfold ptr at HM ⊢
    go_enter Try.func29, Try.ntmps29
    go_wp2_with fail
    refine HM.out.mono ?_
    rintro e w0 ⟨rfl, hb1⟩
    have HP0 := hide (HP.out.below hb1)
    have HO0 : Hid (Only (· = pr) w w0) := hide (Only.below hb1)
    clear hb1 HM
    go_wp2
    go_ret
    exact ⟨rfl, ⟨_, _, HP0.out⟩, HO0.out⟩
end Go.Proofs.Ytkpambipgcjaiaa
