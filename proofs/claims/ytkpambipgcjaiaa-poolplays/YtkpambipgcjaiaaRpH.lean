/- Package dayshiftref13: New. Written by gen_rph.py. -/
import Derived.Test.YtkpambipgcjaiaaRpG
namespace Go.Proofs.Ytkpambipgcjaiaa
open Go.ChangeShapes Go.WideShapes Go.ChangeAt Go.RowKit Go.DsMem Go.DsCo Go.DsPl Go.DsMap
set_option linter.unusedVariables false
set_option linter.unusedSimpArgs false
theorem infoRR : (Try.prog.info? 66).map (fun i => (i.zero, i.size, i.bytes)) = some (some (.agg #[.string ⟨#[]⟩, .int .i64 0, .bool false]), 3, 32) := by kernel_rfl
theorem rkR_snoc (X : List Rt) (x : Rt) : rkR (X ++ [x]) = rkR X ++ [(x.1, kdR x)] := by simp [rkR]
/-- the list of resources is set -/
theorem RpAt.pushX {w2 w3 : World} {pr b0 : Nat} {X : List Rt} {uo : Option Addr} {uc : Nat} {x : Rt} {g cap : Nat} {ob : Obj} (h : RpAt w2 pr b0 X [] uo none uc 0) (hpb : pr < b0)
    (hown : w3.ownsRow b0 66 3 (.slice (some ⟨g, 0, none⟩) (X.length + 1) cap) (X.length + 1) (rtRow X ++ rtC x)) (hgr : (w2.alloc ob).grownBy w3 (Value.slice uo X.length uc).ownBlock) :
    RpAt (w3.setCell ⟨pr, 0, none⟩ (.slice (some ⟨g, 0, none⟩) (X.length + 1) cap)) pr b0 (X ++ [x]) [] (some ⟨g, 0, none⟩) none cap 0 ∧ Only (fun k => k = pr ∨ b0 ≤ k) w2 (w3.setCell ⟨pr, 0, none⟩ (.slice (some ⟨g, 0, none⟩) (X.length + 1) cap)) := by
  have hA : Only (fun k => (Value.slice uo X.length uc).ownBlock = some k) w2 w3 := (Only.alloc _ w2 ob).trans (Only.grown hgr) (fun i _ hi => hi)
  have hS : Only (· = pr) w3 (w3.setCell ⟨pr, 0, none⟩ (.slice (some ⟨g, 0, none⟩) (X.length + 1) cap)) := Only.set _ pr 0 _
  have hn : ¬ (Value.slice uo X.length uc).ownBlock = some pr := fun e => h.nx pr e rfl
  have hbX := (hA.block pr (block_lt h.blk) hn).trans h.blk
  refine ⟨⟨?_, ?_, World.ownsRow_nil _ _ _ _, fun k hk e => by have := (hown.lt k hk).1; omega, fun k hk => by cases hk⟩, ?_⟩
  · rw [hset_same hbX]; simp
  · have hl : (X ++ [x]).length = X.length + 1 := by simp
    rw [hl, rtRow_snoc]
    exact own3_same hown (fun k hk => hS.block k (hown.lt k hk).2 (fun e => by have := (hown.lt k hk).1; have : k = pr := e; omega))
  · exact (hA.mono (fun i _ hi => .inr (h.rs.lt i hi).1)).trans hS (fun i _ e => .inl e)

def RNew (l : List Rt) (w : World) (e : Ending) (w' : World) : Prop := e = .returned (ptr w.heap.size) ∧ ∃ X uo uc, RpAt w' w.heap.size (w.heap.size + 1) X [] uo none uc 0 ∧ rkR X = newF l ∧ X.length ≤ l.length ∧ Below w.heap.size w w'
set_option maxHeartbeats 16000000 in
set_option maxRecDepth 20000 in
/-- dayshiftref13.New -/
theorem rnew_any (l : List Rt) (no : Option Addr) (nc : Nat) (w : World) (hl : RtAt w no nc l) (hll : l.length ≤ 1000000) : Calls Try.prog 17 #[.slice no l.length nc] w (RNew l w) := by
  obtain ⟨i0, hi0, hz0, hz1, hz2⟩ := info_parts infoRR
  have HL := hide hl
  obtain ⟨pr, hpr⟩ : ∃ pr, pr = w.heap.size := ⟨_, rfl⟩
  obtain ⟨w0, hw0⟩ : ∃ w0, w.alloc (.cells #[.slice none 0 0, .slice none 0 0] 37) = w0 := ⟨_, rfl⟩
  have hb0 : Below w.heap.size w w0 := by rw [← hw0]; exact bel1 _ _
  have hp0 : RpAt w0 pr (pr + 1) [] [] none none 0 0 := ⟨by rw [← hw0, hpr]; exact heap_alloc_new w _, World.ownsRow_nil _ _ _ _, World.ownsRow_nil _ _ _ _, (fun k hk => by cases hk), (fun k hk => by cases hk)⟩
  have HB0 := hide hb0
  have HP0 := hide hp0
  obtain ⟨Q, hQ⟩ : ∃ Q, newF l = Q := ⟨_, rfl⟩
  have HQ := hide hQ
  have HPE := hide hpr
  clear hl hb0 hp0 hQ
  go_enter Try.func17, Try.ntmps17
  go_wp2
  try rw [hw0]
  try rw [← hpr]
  clear hw0 hpr
  go_loopw [4] (fun ti wr => ∃ (k : Nat) (X : List Rt) (uo : Option Addr) (uc : Nat), k ≤ l.length ∧ ti = .int .i64 k ∧ RpAt wr pr (pr + 1) X [] uo none uc 0 ∧ (l.drop k).foldl addR (rkR X) = Q ∧ X.length ≤ k ∧ Below w.heap.size w wr) (fun ti _ => l.length - (intOf ti).toNat)
  case atStart => exact ⟨0, [], none, 0, Nat.zero_le _, rfl, HP0.out, HQ.out, Nat.le_refl _, HB0.out⟩
  case round =>
    clear HP0 HB0
    obtain ⟨k, X, uo, uc, hk, rfl, hp, hq, hXl, hbl⟩ := hrel
    have HPO := hide hp
    have HBL := hide hbl
    clear hp hbl
    by_cases hlt : k < l.length
    · have HLT := hide hlt
      have hk0 : (0 : Int) ≤ (k : Int) := by omega
      have hk1 : (k : Int) < ((l.length : Nat) : Int) := by omega
      rw [drop_cons hlt, List.foldl_cons] at hq
      have HQ1 := hide hq
      obtain ⟨g, o, rfl, _, hg, hcells⟩ := HL.out (by omega)
      obtain ⟨e0, e1, e2⟩ := hcells k l[k] (List.getElem?_eq_getElem hlt)
      have e0 := Below.keeps HBL.out (Nat.le_refl _) e0
      have e1 := Below.keeps HBL.out (Nat.le_refl _) e1
      have e2 := Below.keeps HBL.out (Nat.le_refl _) e2
      clear hcells hq
      generalize l[k] = n at *
      obtain ⟨nm, u, lk⟩ := n
      simp only at e0 e1 e2
      have hpD : ¬ pr = wr.heap.size := by have := block_lt HPO.out.blk; omega
      obtain ⟨w1, hw1⟩ : ∃ w1, wr.alloc (.cells #[.string nm, .int .i64 u, .bool lk] 66) = w1 := ⟨_, rfl⟩
      have hb1 : Below wr.heap.size wr w1 := by rw [← hw1]; exact bel1 _ _
      have hblk : w1.heap[wr.heap.size]? = some (.cells #[.string nm, .int .i64 u, .bool lk] 66 (0, 0)) := by rw [← hw1]; exact heap_alloc_new wr _
      have hzw : w1.heap.size = wr.heap.size + 1 := by rw [← hw1]; simp
      have HB1 := hide hb1
      have HBK := hide hblk
      have SETS : Hid (∀ v : Int, ∃ w2, w1.setCell ⟨wr.heap.size, 1, none⟩ (.int .i64 v) = w2 ∧ Below wr.heap.size wr w2 ∧ w2.heap[wr.heap.size]? = some (.cells #[.string nm, .int .i64 v, .bool lk] 66 (0, 0))) := hide (fun v => ⟨_, rfl, HB1.out.trans ((Only.set w1 wr.heap.size 1 _).toBelow (by omega) (fun i e => by rw [e]; exact Nat.le_refl _)), by rw [hset_same hblk]; rfl⟩)
      have k0 := cell_of (k := 0) hblk
      have k1 := cell_of (k := 1) hblk
      have k2 := cell_of (k := 2) hblk
      simp at k0 k1 k2
      have hfz := frozen_of (k := 1) hblk
      clear hb1 hblk
      go_upto_region 6 with fail
      try rw [hw1]
      clear hw1
      have hcase : (lk = true ∨ (lk = false ∧ u < 0)) ∨ (lk = false ∧ ¬ u < 0 ∧ 1000 < u) ∨ (lk = false ∧ ¬ u < 0 ∧ ¬ 1000 < u) := by
        cases lk
        · by_cases ha : u < 0
          · exact .inl (.inr ⟨rfl, ha⟩)
          · by_cases hb : 1000 < u
            · exact .inr (.inl ⟨rfl, ha, hb⟩)
            · exact .inr (.inr ⟨rfl, ha, hb⟩)
        · exact .inl (.inl rfl)
      rcases hcase with (rfl | ⟨rfl, ha⟩) | ⟨rfl, ha, hb⟩ | ⟨rfl, ha, hb⟩
      · obtain ⟨w2, hw2, hb2, hblk2⟩ := SETS.out 0
        have HP2 := hide (HPO.out.below hb2)
        have HB2 := hide (HBL.out.trans (hb2.mono HBL.out.size))
        have j0 := cell_of (k := 0) hblk2
        have j1 := cell_of (k := 1) hblk2
        have j2 := cell_of (k := 2) hblk2
        simp at j0 j1 j2
        have hz2' : wr.heap.size < w2.heap.size := block_lt hblk2
        have HFD := hide (rfind_any nm pr (pr + 1) X [] uo none uc 0 w2 HP2.out (by omega))
        have hor := idxV_or nm X 0
        clear hb2 hblk2
        unfold ptr at HFD
        rcases hor with ⟨h1, h2⟩ | ⟨q, hq, h1, h2, h3⟩
        · rw [h1] at HFD
          have HADD : Hid (addR (rkR X) (nm, u, true) = rkR (X ++ [(nm, 0, true)])) := hide (by unfold addR; rw [h2, rkR_snoc, show kdR (nm, 0, true) = kindF u true from by simp [kdR, kindF]]; rfl)
          clear h1 h2
          go_wp2_with fail
          try rw [hw2]
          refine HFD.out.mono ?_
          rintro e w3 ⟨rfl, hb3⟩
          have j0 := Below.keeps hb3 (Nat.le_refl _) j0
          have j1 := Below.keeps hb3 (Nat.le_refl _) j1
          have j2 := Below.keeps hb3 (Nat.le_refl _) j2
          have HP3 := hide (HP2.out.below hb3)
          have HB3 := hide (HB2.out.trans (hb3.mono HB2.out.size))
          have c0 := HP3.out.c0
          have hprlt : pr < w3.heap.size := block_lt HP3.out.blk
          have hdlt : wr.heap.size < w3.heap.size := by have := hb3.size; omega
          have HP3d := hide (HP3.out.below ((Below.refl _ _).drew : Below w3.heap.size w3 w3.drew))
          have hle3 : pr + 1 ≤ w3.heap.size := by have := block_lt HP3.out.blk; omega
          have HROW : Hid (∀ ob, (w3.drew.alloc ob).ownsRow (pr + 1) 66 3 (.slice uo X.length uc) X.length (rtRow X)) := hide (fun ob => own3_same HP3d.out.rs (fun k hk => ((Below.refl _ _).alloc (Nat.le_refl _) ob).block k (HP3d.out.rs.lt k hk).2))
          have hprn : ¬ (Value.slice uo X.length uc).ownBlock = some pr := fun e => by have := (HP3.out.rs.lt pr e).1; omega
          have HY : Hid (∀ w4 ob, (w3.drew.alloc ob).grownBy w4 (Value.slice uo X.length uc).ownBlock → w4.cell? ⟨pr, 0, none⟩ = some (.slice uo X.length uc) ∧ w4.frozen? ⟨pr, 0, none⟩ = false ∧ pr < w4.heap.size) := hide (fun w4 ob hg => by
            have hA : Only (fun k => (Value.slice uo X.length uc).ownBlock = some k) w3.drew w4 := (Only.alloc _ w3.drew ob).trans (Only.grown hg) (fun i _ hi => hi)
            have hbX := (hA.block pr (block_lt HP3d.out.blk) hprn).trans HP3d.out.blk
            exact ⟨by rw [cell_of hbX]; rfl, frozen_of hbX, block_lt hbX⟩)
          clear hb3 HFD hprn
          go_wp2_with fail
          go_region_law
            (first
              | (refine step_append_lies _ (by rfl) _ _ _ (by rfl) (pr + 1) 66 i0 _ 3 32 Try.underlying22 hi0 hz0 hz1 hz2 rfl (by omega) (.slice uo X.length uc) X.length (rtRow X) (by rfl) (HROW.out _)
                      ⟨w3.heap.size, 0, none⟩ 1 1 (rtC (nm, 0, true)) (by rfl) (by rfl) (World.news_of_block (cs := (rtC (nm, 0, true)).toArray) (t := 66) (fr := (0, 0)) (heap_alloc_new w3 _)) (rtC_one (nm, 0, true))
                      (by omega) (by unfold maxLen; omega) (by omega) (by simp; omega) (w3.heap.size + 1) (by simp) ?_; intro gg cap w4 hown4 hgrow hat hlt4; have hy4 := HY.out w4 _ hgrow; obtain ⟨y1, y2, y3⟩ := hy4))
          all_goals
            have HN := hide (RpAt.pushX (x := (nm, 0, true)) HP3d.out (Nat.lt_succ_self pr) hown4 hgrow)
            have HB5 := hide (HB3.out.drew.trans (HN.out.2.toBelow HB3.out.size (fun i e => by have := HPE.out; omega)))
            clear hown4 hgrow hat hlt4
            go_wp2
            go_roundw
            case rel => exact ⟨k + 1, _, _, _, by have := HLT.out; omega, by go_num, by simpa using HN.out.1, by rw [← HADD.out]; exact HQ1.out, by simp; omega, HB5.out⟩
            case measure => have := HLT.out; simp [intOf]; omega
        · rw [h1, Nat.zero_add] at HFD
          have HADD : Hid (addR (rkR X) (nm, u, true) = rkR X) := hide (by unfold addR; rw [h3]; rfl)
          have hq0 : ¬ (q : Int) < 0 := by omega
          clear h1 h2 h3
          go_wp2_with fail
          try rw [hw2]
          refine HFD.out.mono ?_
          rintro e w3 ⟨rfl, hb3⟩
          have HP3 := hide (HP2.out.below hb3)
          have HB3 := hide (HB2.out.trans (hb3.mono HB2.out.size))
          clear hb3 HFD
          go_wp2
          go_roundw
          case rel => exact ⟨k + 1, X, uo, uc, by have := HLT.out; omega, by go_num, HP3.out, by rw [← HADD.out]; exact HQ1.out, by omega, HB3.out⟩
          case measure => have := HLT.out; simp [intOf]; omega
      · obtain ⟨w2, hw2, hb2, hblk2⟩ := SETS.out 0
        have HP2 := hide (HPO.out.below hb2)
        have HB2 := hide (HBL.out.trans (hb2.mono HBL.out.size))
        have j0 := cell_of (k := 0) hblk2
        have j1 := cell_of (k := 1) hblk2
        have j2 := cell_of (k := 2) hblk2
        simp at j0 j1 j2
        have hz2' : wr.heap.size < w2.heap.size := block_lt hblk2
        have HFD := hide (rfind_any nm pr (pr + 1) X [] uo none uc 0 w2 HP2.out (by omega))
        have hor := idxV_or nm X 0
        clear hb2 hblk2
        unfold ptr at HFD
        rcases hor with ⟨h1, h2⟩ | ⟨q, hq, h1, h2, h3⟩
        · rw [h1] at HFD
          have HADD : Hid (addR (rkR X) (nm, u, false) = rkR (X ++ [(nm, 0, false)])) := hide (by unfold addR; rw [h2, rkR_snoc, show kdR (nm, 0, false) = kindF u false from by simp [kdR, kindF]; omega]; rfl)
          clear h1 h2
          go_wp2_with fail
          try rw [hw2]
          refine HFD.out.mono ?_
          rintro e w3 ⟨rfl, hb3⟩
          have j0 := Below.keeps hb3 (Nat.le_refl _) j0
          have j1 := Below.keeps hb3 (Nat.le_refl _) j1
          have j2 := Below.keeps hb3 (Nat.le_refl _) j2
          have HP3 := hide (HP2.out.below hb3)
          have HB3 := hide (HB2.out.trans (hb3.mono HB2.out.size))
          have c0 := HP3.out.c0
          have hprlt : pr < w3.heap.size := block_lt HP3.out.blk
          have hdlt : wr.heap.size < w3.heap.size := by have := hb3.size; omega
          have HP3d := hide (HP3.out.below ((Below.refl _ _).drew : Below w3.heap.size w3 w3.drew))
          have hle3 : pr + 1 ≤ w3.heap.size := by have := block_lt HP3.out.blk; omega
          have HROW : Hid (∀ ob, (w3.drew.alloc ob).ownsRow (pr + 1) 66 3 (.slice uo X.length uc) X.length (rtRow X)) := hide (fun ob => own3_same HP3d.out.rs (fun k hk => ((Below.refl _ _).alloc (Nat.le_refl _) ob).block k (HP3d.out.rs.lt k hk).2))
          have hprn : ¬ (Value.slice uo X.length uc).ownBlock = some pr := fun e => by have := (HP3.out.rs.lt pr e).1; omega
          have HY : Hid (∀ w4 ob, (w3.drew.alloc ob).grownBy w4 (Value.slice uo X.length uc).ownBlock → w4.cell? ⟨pr, 0, none⟩ = some (.slice uo X.length uc) ∧ w4.frozen? ⟨pr, 0, none⟩ = false ∧ pr < w4.heap.size) := hide (fun w4 ob hg => by
            have hA : Only (fun k => (Value.slice uo X.length uc).ownBlock = some k) w3.drew w4 := (Only.alloc _ w3.drew ob).trans (Only.grown hg) (fun i _ hi => hi)
            have hbX := (hA.block pr (block_lt HP3d.out.blk) hprn).trans HP3d.out.blk
            exact ⟨by rw [cell_of hbX]; rfl, frozen_of hbX, block_lt hbX⟩)
          clear hb3 HFD hprn
          go_wp2_with fail
          go_region_law
            (first
              | (refine step_append_lies _ (by rfl) _ _ _ (by rfl) (pr + 1) 66 i0 _ 3 32 Try.underlying22 hi0 hz0 hz1 hz2 rfl (by omega) (.slice uo X.length uc) X.length (rtRow X) (by rfl) (HROW.out _)
                      ⟨w3.heap.size, 0, none⟩ 1 1 (rtC (nm, 0, false)) (by rfl) (by rfl) (World.news_of_block (cs := (rtC (nm, 0, false)).toArray) (t := 66) (fr := (0, 0)) (heap_alloc_new w3 _)) (rtC_one (nm, 0, false))
                      (by omega) (by unfold maxLen; omega) (by omega) (by simp; omega) (w3.heap.size + 1) (by simp) ?_; intro gg cap w4 hown4 hgrow hat hlt4; have hy4 := HY.out w4 _ hgrow; obtain ⟨y1, y2, y3⟩ := hy4))
          all_goals
            have HN := hide (RpAt.pushX (x := (nm, 0, false)) HP3d.out (Nat.lt_succ_self pr) hown4 hgrow)
            have HB5 := hide (HB3.out.drew.trans (HN.out.2.toBelow HB3.out.size (fun i e => by have := HPE.out; omega)))
            clear hown4 hgrow hat hlt4
            go_wp2
            go_roundw
            case rel => exact ⟨k + 1, _, _, _, by have := HLT.out; omega, by go_num, by simpa using HN.out.1, by rw [← HADD.out]; exact HQ1.out, by simp; omega, HB5.out⟩
            case measure => have := HLT.out; simp [intOf]; omega
        · rw [h1, Nat.zero_add] at HFD
          have HADD : Hid (addR (rkR X) (nm, u, false) = rkR X) := hide (by unfold addR; rw [h3]; rfl)
          have hq0 : ¬ (q : Int) < 0 := by omega
          clear h1 h2 h3
          go_wp2_with fail
          try rw [hw2]
          refine HFD.out.mono ?_
          rintro e w3 ⟨rfl, hb3⟩
          have HP3 := hide (HP2.out.below hb3)
          have HB3 := hide (HB2.out.trans (hb3.mono HB2.out.size))
          clear hb3 HFD
          go_wp2
          go_roundw
          case rel => exact ⟨k + 1, X, uo, uc, by have := HLT.out; omega, by go_num, HP3.out, by rw [← HADD.out]; exact HQ1.out, by omega, HB3.out⟩
          case measure => have := HLT.out; simp [intOf]; omega
      · obtain ⟨w2, hw2, hb2, hblk2⟩ := SETS.out 1000
        have HP2 := hide (HPO.out.below hb2)
        have HB2 := hide (HBL.out.trans (hb2.mono HBL.out.size))
        have j0 := cell_of (k := 0) hblk2
        have j1 := cell_of (k := 1) hblk2
        have j2 := cell_of (k := 2) hblk2
        simp at j0 j1 j2
        have hz2' : wr.heap.size < w2.heap.size := block_lt hblk2
        have HFD := hide (rfind_any nm pr (pr + 1) X [] uo none uc 0 w2 HP2.out (by omega))
        have hor := idxV_or nm X 0
        clear hb2 hblk2
        unfold ptr at HFD
        rcases hor with ⟨h1, h2⟩ | ⟨q, hq, h1, h2, h3⟩
        · rw [h1] at HFD
          have HADD : Hid (addR (rkR X) (nm, u, false) = rkR (X ++ [(nm, 1000, false)])) := hide (by unfold addR; rw [h2, rkR_snoc, show kdR (nm, 1000, false) = kindF u false from by simp [kdR, kindF]; omega]; rfl)
          clear h1 h2
          go_wp2_with fail
          try rw [hw2]
          refine HFD.out.mono ?_
          rintro e w3 ⟨rfl, hb3⟩
          have j0 := Below.keeps hb3 (Nat.le_refl _) j0
          have j1 := Below.keeps hb3 (Nat.le_refl _) j1
          have j2 := Below.keeps hb3 (Nat.le_refl _) j2
          have HP3 := hide (HP2.out.below hb3)
          have HB3 := hide (HB2.out.trans (hb3.mono HB2.out.size))
          have c0 := HP3.out.c0
          have hprlt : pr < w3.heap.size := block_lt HP3.out.blk
          have hdlt : wr.heap.size < w3.heap.size := by have := hb3.size; omega
          have HP3d := hide (HP3.out.below ((Below.refl _ _).drew : Below w3.heap.size w3 w3.drew))
          have hle3 : pr + 1 ≤ w3.heap.size := by have := block_lt HP3.out.blk; omega
          have HROW : Hid (∀ ob, (w3.drew.alloc ob).ownsRow (pr + 1) 66 3 (.slice uo X.length uc) X.length (rtRow X)) := hide (fun ob => own3_same HP3d.out.rs (fun k hk => ((Below.refl _ _).alloc (Nat.le_refl _) ob).block k (HP3d.out.rs.lt k hk).2))
          have hprn : ¬ (Value.slice uo X.length uc).ownBlock = some pr := fun e => by have := (HP3.out.rs.lt pr e).1; omega
          have HY : Hid (∀ w4 ob, (w3.drew.alloc ob).grownBy w4 (Value.slice uo X.length uc).ownBlock → w4.cell? ⟨pr, 0, none⟩ = some (.slice uo X.length uc) ∧ w4.frozen? ⟨pr, 0, none⟩ = false ∧ pr < w4.heap.size) := hide (fun w4 ob hg => by
            have hA : Only (fun k => (Value.slice uo X.length uc).ownBlock = some k) w3.drew w4 := (Only.alloc _ w3.drew ob).trans (Only.grown hg) (fun i _ hi => hi)
            have hbX := (hA.block pr (block_lt HP3d.out.blk) hprn).trans HP3d.out.blk
            exact ⟨by rw [cell_of hbX]; rfl, frozen_of hbX, block_lt hbX⟩)
          clear hb3 HFD hprn
          go_wp2_with fail
          go_region_law
            (first
              | (refine step_append_lies _ (by rfl) _ _ _ (by rfl) (pr + 1) 66 i0 _ 3 32 Try.underlying22 hi0 hz0 hz1 hz2 rfl (by omega) (.slice uo X.length uc) X.length (rtRow X) (by rfl) (HROW.out _)
                      ⟨w3.heap.size, 0, none⟩ 1 1 (rtC (nm, 1000, false)) (by rfl) (by rfl) (World.news_of_block (cs := (rtC (nm, 1000, false)).toArray) (t := 66) (fr := (0, 0)) (heap_alloc_new w3 _)) (rtC_one (nm, 1000, false))
                      (by omega) (by unfold maxLen; omega) (by omega) (by simp; omega) (w3.heap.size + 1) (by simp) ?_; intro gg cap w4 hown4 hgrow hat hlt4; have hy4 := HY.out w4 _ hgrow; obtain ⟨y1, y2, y3⟩ := hy4))
          all_goals
            have HN := hide (RpAt.pushX (x := (nm, 1000, false)) HP3d.out (Nat.lt_succ_self pr) hown4 hgrow)
            have HB5 := hide (HB3.out.drew.trans (HN.out.2.toBelow HB3.out.size (fun i e => by have := HPE.out; omega)))
            clear hown4 hgrow hat hlt4
            go_wp2
            go_roundw
            case rel => exact ⟨k + 1, _, _, _, by have := HLT.out; omega, by go_num, by simpa using HN.out.1, by rw [← HADD.out]; exact HQ1.out, by simp; omega, HB5.out⟩
            case measure => have := HLT.out; simp [intOf]; omega
        · rw [h1, Nat.zero_add] at HFD
          have HADD : Hid (addR (rkR X) (nm, u, false) = rkR X) := hide (by unfold addR; rw [h3]; rfl)
          have hq0 : ¬ (q : Int) < 0 := by omega
          clear h1 h2 h3
          go_wp2_with fail
          try rw [hw2]
          refine HFD.out.mono ?_
          rintro e w3 ⟨rfl, hb3⟩
          have HP3 := hide (HP2.out.below hb3)
          have HB3 := hide (HB2.out.trans (hb3.mono HB2.out.size))
          clear hb3 HFD
          go_wp2
          go_roundw
          case rel => exact ⟨k + 1, X, uo, uc, by have := HLT.out; omega, by go_num, HP3.out, by rw [← HADD.out]; exact HQ1.out, by omega, HB3.out⟩
          case measure => have := HLT.out; simp [intOf]; omega
      · have hb2 := HB1.out
        have hblk2 := HBK.out
        have HP2 := hide (HPO.out.below hb2)
        have HB2 := hide (HBL.out.trans (hb2.mono HBL.out.size))
        have j0 := cell_of (k := 0) hblk2
        have j1 := cell_of (k := 1) hblk2
        have j2 := cell_of (k := 2) hblk2
        simp at j0 j1 j2
        have hz2' : wr.heap.size < w1.heap.size := block_lt hblk2
        have HFD := hide (rfind_any nm pr (pr + 1) X [] uo none uc 0 w1 HP2.out (by omega))
        have hor := idxV_or nm X 0
        clear hb2 hblk2
        unfold ptr at HFD
        rcases hor with ⟨h1, h2⟩ | ⟨q, hq, h1, h2, h3⟩
        · rw [h1] at HFD
          have HADD : Hid (addR (rkR X) (nm, u, false) = rkR (X ++ [(nm, u, false)])) := hide (by unfold addR; rw [h2, rkR_snoc, show kdR (nm, u, false) = kindF u false from by simp [kdR, kindF]; omega]; rfl)
          clear h1 h2
          go_wp2_with fail
          refine HFD.out.mono ?_
          rintro e w3 ⟨rfl, hb3⟩
          have j0 := Below.keeps hb3 (Nat.le_refl _) j0
          have j1 := Below.keeps hb3 (Nat.le_refl _) j1
          have j2 := Below.keeps hb3 (Nat.le_refl _) j2
          have HP3 := hide (HP2.out.below hb3)
          have HB3 := hide (HB2.out.trans (hb3.mono HB2.out.size))
          have c0 := HP3.out.c0
          have hprlt : pr < w3.heap.size := block_lt HP3.out.blk
          have hdlt : wr.heap.size < w3.heap.size := by have := hb3.size; omega
          have HP3d := hide (HP3.out.below ((Below.refl _ _).drew : Below w3.heap.size w3 w3.drew))
          have hle3 : pr + 1 ≤ w3.heap.size := by have := block_lt HP3.out.blk; omega
          have HROW : Hid (∀ ob, (w3.drew.alloc ob).ownsRow (pr + 1) 66 3 (.slice uo X.length uc) X.length (rtRow X)) := hide (fun ob => own3_same HP3d.out.rs (fun k hk => ((Below.refl _ _).alloc (Nat.le_refl _) ob).block k (HP3d.out.rs.lt k hk).2))
          have hprn : ¬ (Value.slice uo X.length uc).ownBlock = some pr := fun e => by have := (HP3.out.rs.lt pr e).1; omega
          have HY : Hid (∀ w4 ob, (w3.drew.alloc ob).grownBy w4 (Value.slice uo X.length uc).ownBlock → w4.cell? ⟨pr, 0, none⟩ = some (.slice uo X.length uc) ∧ w4.frozen? ⟨pr, 0, none⟩ = false ∧ pr < w4.heap.size) := hide (fun w4 ob hg => by
            have hA : Only (fun k => (Value.slice uo X.length uc).ownBlock = some k) w3.drew w4 := (Only.alloc _ w3.drew ob).trans (Only.grown hg) (fun i _ hi => hi)
            have hbX := (hA.block pr (block_lt HP3d.out.blk) hprn).trans HP3d.out.blk
            exact ⟨by rw [cell_of hbX]; rfl, frozen_of hbX, block_lt hbX⟩)
          clear hb3 HFD hprn
          go_wp2_with fail
          go_region_law
            (first
              | (refine step_append_lies _ (by rfl) _ _ _ (by rfl) (pr + 1) 66 i0 _ 3 32 Try.underlying22 hi0 hz0 hz1 hz2 rfl (by omega) (.slice uo X.length uc) X.length (rtRow X) (by rfl) (HROW.out _)
                      ⟨w3.heap.size, 0, none⟩ 1 1 (rtC (nm, u, false)) (by rfl) (by rfl) (World.news_of_block (cs := (rtC (nm, u, false)).toArray) (t := 66) (fr := (0, 0)) (heap_alloc_new w3 _)) (rtC_one (nm, u, false))
                      (by omega) (by unfold maxLen; omega) (by omega) (by simp; omega) (w3.heap.size + 1) (by simp) ?_; intro gg cap w4 hown4 hgrow hat hlt4; have hy4 := HY.out w4 _ hgrow; obtain ⟨y1, y2, y3⟩ := hy4))
          all_goals
            have HN := hide (RpAt.pushX (x := (nm, u, false)) HP3d.out (Nat.lt_succ_self pr) hown4 hgrow)
            have HB5 := hide (HB3.out.drew.trans (HN.out.2.toBelow HB3.out.size (fun i e => by have := HPE.out; omega)))
            clear hown4 hgrow hat hlt4
            go_wp2
            go_roundw
            case rel => exact ⟨k + 1, _, _, _, by have := HLT.out; omega, by go_num, by simpa using HN.out.1, by rw [← HADD.out]; exact HQ1.out, by simp; omega, HB5.out⟩
            case measure => have := HLT.out; simp [intOf]; omega
        · rw [h1, Nat.zero_add] at HFD
          have HADD : Hid (addR (rkR X) (nm, u, false) = rkR X) := hide (by unfold addR; rw [h3]; rfl)
          have hq0 : ¬ (q : Int) < 0 := by omega
          clear h1 h2 h3
          go_wp2_with fail
          refine HFD.out.mono ?_
          rintro e w3 ⟨rfl, hb3⟩
          have HP3 := hide (HP2.out.below hb3)
          have HB3 := hide (HB2.out.trans (hb3.mono HB2.out.size))
          clear hb3 HFD
          go_wp2
          go_roundw
          case rel => exact ⟨k + 1, X, uo, uc, by have := HLT.out; omega, by go_num, HP3.out, by rw [← HADD.out]; exact HQ1.out, by omega, HB3.out⟩
          case measure => have := HLT.out; simp [intOf]; omega
    · have e : k = l.length := by omega
      rw [e, List.drop_length] at hq
      have hk1 : ¬ (k : Int) < ((l.length : Nat) : Int) := by omega
      have HQ3 : Hid (rkR X = newF l) := hide (by rw [HQ.out]; exact hq)
      have HXL : Hid (X.length ≤ l.length) := hide (by omega)
      clear hq e
      go_wp2
      go_ret
      exact ⟨by rw [← HPE.out]; rfl, X, uo, uc, by rw [← HPE.out]; exact HPO.out, HQ3.out, HXL.out, HBL.out⟩
end Go.Proofs.Ytkpambipgcjaiaa
