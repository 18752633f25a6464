/- Package dayshiftref13: May of a pool of which nothing is held. -/
import Derived.Test.YtkpambipgcjaiaaRpC
namespace Go.Proofs.Ytkpambipgcjaiaa
open Go.ChangeShapes Go.WideShapes Go.ChangeAt Go.RowKit Go.DsMem Go.DsCo Go.DsPl Go.DsMap
set_option linter.unusedVariables false
set_option linter.unusedSimpArgs false
theorem take_mem {l : List Ne} {i : Nat} (h : i < l.length) {A : List ByteArray} (hA : ∀ s, s ∈ A ↔ s ∈ (l.take i).map (·.nm)) : ∀ s, s ∈ l[i].nm :: A ↔ s ∈ (l.take (i + 1)).map (·.nm) := by
  intro s
  have e : l.take (i + 1) = l.take i ++ [l[i]] := List.take_succ_eq_append_getElem h
  rw [e, List.map_append, List.mem_cons, List.mem_append, hA s]
  simp
  exact or_comm
set_option maxHeartbeats 16000000 in
set_option maxRecDepth 20000 in
/-- (*dayshiftref13.Pool).May, nothing held -/
theorem rmay0_any (o : Int) (l : List Ne) (no : Option Addr) (nc : Nat) (pr b0 : Nat) (X : List Rt) (uo vo : Option Addr) (uc vc : Nat) (w : World) (h : RpAt w pr b0 X [] uo vo uc vc) (hX : X.length ≤ 1000000) (hu : ∀ s n, (s, Kd.units n) ∈ rkR X → 0 ≤ n ∧ n ≤ 1000) (hkn : ((rkR X).map (·.1)).Nodup) (hl : NeAt w no nc l) (hll : l.length ≤ 4398046510976) :
    Calls Try.prog 57 #[ptr pr, .int .i64 o, .slice no l.length nc] w fun e w' => e = .returned (.int .i64 (mayF (rkR X) [] o l)) ∧ Below w.heap.size w w' := by
  have HL := hide hl
  have HP := hide h
  have c1 := h.c1
  have HR := hide (fun (i : Nat) (hi : i < l.length) w h hl => rright_any l i hi no nc pr b0 X [] uo vo uc vc w h hX hl hll)
  have HF := hide (fun nm w h => rfree_any nm pr b0 X [] uo vo uc vc w h hX (by simp) (fun x hx => by simp at hx) hu)
  have HM : Hid (mayF (rkR X) [] o l = if rightF (rkR X) [] l ≠ 0 then rightF (rkR X) [] l else roomF (rkR X) [] l) := hide (by unfold mayF; rfl)
  obtain ⟨Q, hQ⟩ : ∃ Q, mayF (rkR X) [] o l = Q := ⟨_, rfl⟩
  rw [hQ] at HM ⊢
  have HRO : Hid (rightF (rkR X) [] l = 0 → ∀ n ∈ l, ∃ k, findK (rkR X) n.nm = some k ∧ suitsB k n = true) := hide (fun h0 => (rightF_le (rkR X) hkn l [] List.nodup_nil (fun a ha => by simp at ha) h0).2)
  obtain ⟨Z, hZ⟩ : ∃ Z, rightF (rkR X) [] l = Z := ⟨_, rfl⟩
  rw [hZ] at HM HRO
  have HZ := hide hZ
  clear h hl hu hkn hQ hZ
  unfold ptr at *
  simp only [List.length_nil] at c1
  go_enter Try.func57, Try.ntmps57
  go_wp2
  go_loopw [7] (fun i wr => i = .int .i64 0 ∧ RpAt wr pr b0 X [] uo vo uc vc ∧ NeAt wr no nc l ∧ Below w.heap.size w wr) (fun _ _ => 0)
  case atStart => exact ⟨rfl, HP.out, HL.out, Below.refl _ _⟩
  case round =>
    obtain ⟨rfl, hp, hn, hbl⟩ := hrel
    have HPO := hide hp
    have HNO := hide hn
    have HBL := hide hbl
    have c1 := hp.c1
    simp only [List.length_nil] at c1
    clear hp hn hbl
    go_wp2
    clear c1
    go_loopw [8] (fun ti wr => ∃ (i : Nat) (A : List ByteArray), i ≤ l.length ∧ ti = .int .i64 i ∧ (∀ s, s ∈ A ↔ s ∈ (l.take i).map (·.nm)) ∧ rightF (rkR X) A (l.drop i) = Z ∧ RpAt wr pr b0 X [] uo vo uc vc ∧ NeAt wr no nc l ∧ Below w.heap.size w wr) (fun ti _ => l.length - (intOf ti).toNat)
    case atStart => exact ⟨0, [], Nat.zero_le _, rfl, fun s => by simp, HZ.out, HPO.out, HNO.out, HBL.out⟩
    case round =>
      clear HPO HNO HBL
      obtain ⟨i, A, hi, rfl, hA, hz, hp, hn, hbl⟩ := hrel
      have HPO := hide hp
      have HNO := hide hn
      have HBL := hide hbl
      have HA := hide hA
      clear hp hn hbl hA
      by_cases hlt : i < l.length
      · have HLT := hide hlt
        have hi0 : (0 : Int) ≤ (i : Int) := by omega
        have hi1 : (i : Int) < ((l.length : Nat) : Int) := by omega
        rw [drop_cons hlt, rightF_r1, r1F_mem (rkR X) l[i] HA.out] at hz
        have HR1 := hide (HR.out i hlt _ HPO.out HNO.out)
        have HA2 := hide (take_mem hlt HA.out)
        generalize r1F (rkR X) ((l.take i).map (·.nm)) l[i] = z at *
        by_cases hz0 : z = 0
        · rw [if_pos hz0] at hz
          subst hz0
          have HZ2 := hide hz
          clear hz
          go_wp2_with fail
          refine HR1.out.mono ?_
          rintro e w2 ⟨rfl, hb2⟩
          have HP2 := hide (HPO.out.below hb2)
          have HN2 := hide (HNO.out.keep hb2)
          have HB2 := hide (HBL.out.trans (hb2.mono HBL.out.size))
          clear hb2
          go_wp2
          go_roundw
          case rel => exact ⟨i + 1, _, by have := HLT.out; omega, by go_num, HA2.out, HZ2.out, HP2.out, HN2.out, HB2.out⟩
          case measure => have := HLT.out; simp [intOf]; omega
        · rw [if_neg hz0] at hz
          have hQz : Hid (z = Q) := hide (by rw [HM.out, ← hz, if_pos hz0])
          have HZ2 := hide hz
          clear hz
          go_wp2_with fail
          refine HR1.out.mono ?_
          rintro e w2 ⟨rfl, hb2⟩
          have HB2 := hide (HBL.out.trans (hb2.mono HBL.out.size))
          clear hb2
          go_wp2
          go_ret
          exact ⟨retI hQz.out, HB2.out⟩
      · have e : i = l.length := by omega
        rw [e, List.drop_length, rightF] at hz
        have HQR : Hid (roomF (rkR X) [] l = Q) := hide (by rw [HM.out, ← hz]; simp)
        have HRT := hide (HRO.out hz.symm)
        clear hz HM HRO HA
        have hi1 : ¬ (i : Int) < ((l.length : Nat) : Int) := by omega
        go_wp2
        clear hi1 e hlt
        go_loopw [10] (fun ti wr => ∃ (i : Nat), i ≤ l.length ∧ ti = .int .i64 i ∧ roomF (rkR X) [] (l.drop i) = Q ∧ RpAt wr pr b0 X [] uo vo uc vc ∧ NeAt wr no nc l ∧ Below w.heap.size w wr) (fun ti _ => l.length - (intOf ti).toNat)
        case atStart => exact ⟨0, Nat.zero_le _, rfl, HQR.out, HPO.out, HNO.out, HBL.out⟩
        case round =>
          clear HPO HNO HBL HQR hi
          obtain ⟨i, hi, rfl, hq, hp, hn, hbl⟩ := hrel
          have HPO := hide hp
          have HNO := hide hn
          have HBL := hide hbl
          have c1 := hp.c1
          simp only [List.length_nil] at c1
          clear hp hn hbl
          by_cases hlt : i < l.length
          · have HLT := hide hlt
            have hi0 : (0 : Int) ≤ (i : Int) := by omega
            have hi1 : (i : Int) < ((l.length : Nat) : Int) := by omega
            rw [drop_cons hlt, roomF] at hq
            obtain ⟨kd, hkd, hsu⟩ := HRT.out _ (List.getElem_mem hlt)
            rw [hkd] at hq
            simp only at hq
            obtain ⟨g, o', rfl, hnc, hgn, hcells⟩ := HNO.out (by omega)
            obtain ⟨e0, e1, e2⟩ := hcells i l[i] (List.getElem?_eq_getElem hlt)
            clear hcells
            generalize l[i] = n at *
            obtain ⟨nm, m, md⟩ := n
            simp only at e0 e1 e2 hkd hq
            have HFR := hide (HF.out nm _ HPO.out)
            unfold freeF at HFR
            simp only [hkd] at HFR
            clear hkd
            cases kd with
            | units ku =>
              simp [suitsB] at hsu
              simp only [useF, fitsB, Int.sub_zero] at hq HFR
              have hmd : (md == (0 : Int)) = true := by simp [hsu.1]
              by_cases hfit : m ≤ ku
              · rw [if_pos (by simp [hfit])] at hq
                have HQ2 := hide hq
                have hnl : ¬ ku < m := by omega
                have hmd2 : (md != (0 : Int)) = false := by simp [hsu.1]
                clear hq hsu
                go_wp2_with fail
                refine HFR.out.mono ?_
                rintro e w2 ⟨rfl, hb2⟩
                have HP2 := hide (HPO.out.below hb2)
                have HN2 := hide (HNO.out.keep hb2)
                have HB2 := hide (HBL.out.trans (hb2.mono HBL.out.size))
                have e1 := Below.keeps hb2 (Nat.le_refl _) e1
                have e2 := Below.keeps hb2 (Nat.le_refl _) e2
                have c1 := Below.keeps hb2 (Nat.le_refl _) c1
                clear hb2
                go_wp2
                go_loopw [13] (fun tj wr => tj = .int .i64 0 ∧ RpAt wr pr b0 X [] uo vo uc vc ∧ NeAt wr (some ⟨g, o', none⟩) nc l ∧ Below w.heap.size w wr) (fun _ _ => 0)
                case atStart => exact ⟨rfl, HP2.out, HN2.out, HB2.out⟩
                case round =>
                  obtain ⟨rfl, hp, hn, hbl⟩ := hrel
                  have HPO := hide hp
                  have HNO := hide hn
                  have HBL := hide hbl
                  have c1 := hp.c1
                  simp only [List.length_nil] at c1
                  clear hp hn hbl
                  go_wp2
                  go_roundw
                  case rel => exact ⟨i + 1, by have := HLT.out; omega, by go_num, HQ2.out, HPO.out, HNO.out, HBL.out⟩
                  case measure => have := HLT.out; simp [intOf]; omega
              · rw [if_neg (by simp [hfit])] at hq
                have HQ2 := hide hq
                have hnl : ku < m := by omega
                clear hq hsu
                go_wp2_with fail
                refine HFR.out.mono ?_
                rintro e w2 ⟨rfl, hb2⟩
                have HB2 := hide (HBL.out.trans (hb2.mono HBL.out.size))
                have e1 := Below.keeps hb2 (Nat.le_refl _) e1
                clear hb2
                go_wp2
                go_ret
                exact ⟨retI HQ2.out, HB2.out⟩
            | lock =>
              simp [suitsB] at hsu
              simp only [useF, fitsB] at hq
              rw [if_pos (by simp)] at hq
              have HQ2 := hide hq
              have hmd : (md == (0 : Int)) = false := by simp; omega
              clear hq hsu HFR
              go_wp2
              go_loopw [13] (fun tj wr => tj = .int .i64 0 ∧ RpAt wr pr b0 X [] uo vo uc vc ∧ NeAt wr (some ⟨g, o', none⟩) nc l ∧ Below w.heap.size w wr) (fun _ _ => 0)
              case atStart => exact ⟨rfl, HPO.out, HNO.out, HBL.out⟩
              case round =>
                clear HPO HNO HBL c1
                obtain ⟨rfl, hp, hn, hbl⟩ := hrel
                have HPO := hide hp
                have HNO := hide hn
                have HBL := hide hbl
                have c1 := hp.c1
                simp only [List.length_nil] at c1
                clear hp hn hbl
                go_wp2
                go_roundw
                case rel => exact ⟨i + 1, by have := HLT.out; omega, by go_num, HQ2.out, HPO.out, HNO.out, HBL.out⟩
                case measure => have := HLT.out; simp [intOf]; omega
          · have e : i = l.length := by omega
            rw [e, List.drop_length, roomF] at hq
            have HQ2 := hide hq
            have hi1 : ¬ (i : Int) < ((l.length : Nat) : Int) := by omega
            clear hq e
            go_wp2
            go_ret
            exact ⟨retI HQ2.out, HBL.out⟩
end Go.Proofs.Ytkpambipgcjaiaa
