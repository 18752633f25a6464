/- Package rule: a job. -/
import Derived.Test.YtkpgfhapffijkaaGreatDoorR37
import Derived.Test.YtkpgfhapffijkaaGreatDoorR42
namespace Go.Proofs.YtkpgfhapffijkaaGreatDoor
open Go.ChangeShapes Go.WideShapes Go.ChangeAt Go.RowKit Go.DsMem Go.DsLx Go.DsJd Go.DsMk Go.DsMap
set_option linter.unusedVariables false
set_option linter.unusedSimpArgs false
theorem look_more {S : Sl} {n : ByteArray} {k : Sk} {i : Int} (hk : k.1 ≠ 2) : lookF (S ++ [(k, i)]) (2, (n, 0)) = lookF S (2, (n, 0)) := by
  unfold lookF
  rw [List.find?_append]
  have : ([(k, i)] : Sl).find? (fun p => decide (p.1 = (2, (n, 0)))) = none := by
    rw [List.find?_eq_none]
    intro p hp
    simp at hp
    subst hp
    simp only [decide_eq_true_eq]
    intro e
    exact hk (by rw [e])
  rw [this]
  cases S.find? (fun p => decide (p.1 = (2, (n, 0)))) <;> rfl
theorem need_more {S : Sl} {res : List Rs} {k : Sk} {i : Int} (hk : k.1 ≠ 2) (n : Nv) : needErr (S ++ [(k, i)]) res n = needErr S res n := by
  unfold needErr
  rw [look_more hk]
theorem goN_more {S : Sl} {res : List Rs} {k : Sk} {i : Int} (hk : k.1 ≠ 2) : ∀ (l : List Nv) (a : Nat) (M : Sl), goN (S ++ [(k, i)]) res l a M = goN S res l a M
  | [], _, _ => rfl
  | n :: l, a, M => by
    rw [goN, goN, need_more hk, goN_more hk l]
theorem parts_more {S : Sl} {res : List Rs} {k : Sk} {i : Int} (hk : k.1 ≠ 2) (j : Jb) : partsE (S ++ [(k, i)]) res j = partsE S res j := by
  unfold partsE
  rw [goN_more hk]
theorem ResOk.more {S : Sl} {n : Nat} (h : ResOk S n) {k : Sk} {i : Int} (hk : k.1 ≠ 2) : ResOk (S ++ [(k, i)]) n := fun nm a ha => by
  rcases List.mem_append.1 ha with ha | ha
  · exact h nm a ha
  · simp only [List.mem_singleton, Prod.mk.injEq] at ha
    exact absurd (by rw [← ha.1]) hk
set_option maxHeartbeats 16000000 in
set_option maxRecDepth 20000 in
/-- rule.checker.job -/
theorem cjob_any {W w : World} (h : Gc W w) {cs : List (ByteArray × Nd)} {co : Option Addr} {cc g o : Nat} {V : Nat → NVal} (hc : CalsAt w co cc cs g o V) {res : List Rs} {ro : Option Addr} {rc gr : Nat} (hr : ResRd w ro rc res gr) (a0 a1 : Int) (jn jc gj oj : Nat)
    {B : Nat} (hWB : W.heap.size ≤ B) {S : Sl} (hm : MpT w B S) (hl : S.length ≤ 100000) (hok : ResOk S res.length) (hlen : res.length ≤ 100000) (i : Nat) (hi : i < jn) (hjn : jn ≤ 100000) (hjc : jn ≤ jc) (j : Jb) (s : JSl) (hrow : w.rangeAt gj (oj + i * 24) (jC j s).toList) (hj : JIn (fun _ => True) w s j) (hs : JbS j) :
    Calls Tryz.prog 37 #[.agg #[.int .i64 a0, .int .i64 a1, .slice co cs.length cc, .slice ro res.length rc, .slice (some ⟨gj, oj, none⟩) jn jc, .map (some B)], .int .i64 i] w fun e w' => e = .returned (.int .i64 (jobErr cs res S j)) ∧ MpT w' B (twS S (3, (j.name, 0)) i) ∧ Only (· = B) w w' := by
  have hn := hs.name
  have HFK : Hid (FitK (3, (j.name, 0))) := hide (fitK 3 _ 0 (by omega) (by decide) (by decide) (by decide) (by decide))
  have HE : Hid (jobErr cs res S j = if twF S (3, (j.name, 0)) then 22 else if jobDaysF cs j ≠ 0 then jobDaysF cs j else if numsCan j = false then 6 else partsE S res j) := hide rfl
  obtain ⟨w1, hw1⟩ : ∃ w1, w.alloc (.cells #[.int .i64 a0, .int .i64 a1, .slice co cs.length cc, .slice ro res.length rc, .slice (some ⟨gj, oj, none⟩) jn jc, .map (some B)] 111) = w1 := ⟨_, rfl⟩
  have hb1 : Below w.heap.size w w1 := by rw [← hw1]; exact (Below.refl _ _).alloc (Nat.le_refl _) _
  have f0 : w1.heap[w.heap.size]? = some (.cells #[.int .i64 a0, .int .i64 a1, .slice co cs.length cc, .slice ro res.length rc, .slice (some ⟨gj, oj, none⟩) jn jc, .map (some B)] 111 (0, 0)) := by rw [← hw1]; exact heap_alloc_new w _
  have hs1 : w1.heap.size = w.heap.size + 1 := by rw [← hw1]; simp
  have x4 : w1.cell? ⟨w.heap.size, 4, none⟩ = some (.slice (some ⟨gj, oj, none⟩) jn jc) := by rw [cell_of f0]; rfl
  have HRG : Hid (w1.rangeAt gj (oj + i * 24) (jC j s).toList) := hide (fun k v hv => Below.keeps hb1 (Nat.le_refl _) (hrow k v hv))
  obtain ⟨w2, hw2⟩ : ∃ w2, w1.alloc (.cells (jC j s) 56) = w2 := ⟨_, rfl⟩
  have hb2 : Below w1.heap.size w1 w2 := by rw [← hw2]; exact (Below.refl _ _).alloc (Nat.le_refl _) _
  have f1 : w2.heap[w1.heap.size]? = some (.cells (jC j s) 56 (0, 0)) := by rw [← hw2]; exact heap_alloc_new w1 _
  have f0' := (hb2.block w.heap.size (by omega)).trans f0
  have HB2 : Hid (Below w.heap.size w w2) := hide (hb1.trans (hb2.mono (by omega)))
  have HM2 := hide (hm.below HB2.out)
  have HKP : Hid (∀ w3, Only (· = B) w2 w3 → (∀ a u, w2.cell? a = some u → w3.cell? a = some u)) := hide (fun w3 ho => mpT_keep HM2.out ho)
  have HC2 := hide (hc.grew HB2.out)
  have HR2 := hide (hr.grew HB2.out)
  have HJ2 : Hid (JIn (fun _ => True) w2 s j) := hide (hj.mono (fun b _ => trivial) (fun a u _ hc => Below.keeps HB2.out (Nat.le_refl _) hc))
  have HT := hide (twice_any HM2.out (3, (j.name, 0)) HFK.out i (by omega))
  simp only at HT
  have HG := hide h
  have HOK := hide hok
  have y0 : w2.cell? ⟨w1.heap.size, 0, none⟩ = some (.string j.name) := by rw [cell_of f1]; rfl
  have x5 : w2.cell? ⟨w.heap.size, 5, none⟩ = some (.map (some B)) := by rw [cell_of f0']; rfl
  have HF := hide (And.intro f0' f1)
  have HSZ : Hid ((jC j s).size = 24) := hide (by kernel_rfl)
  have HONE : Hid ((jC j s).all (·.oneCell') = true) := hide (by kernel_rfl)
  have HBlt := hide hm.lt
  -- what is asked behind twice
  have HAFT : Hid (∀ w3, Only (· = B) w2 w3 → MpT w3 B (S ++ [((3, (j.name, 0)), (i : Int))]) →
      Calls Tryz.prog 55 #[.agg #[.int .i64 a0, .int .i64 a1, .slice co cs.length cc, .slice ro res.length rc, .slice (some ⟨gj, oj, none⟩) jn jc, .map (some B)], .agg (jC j s)] w3 (fun e w' => e = .returned (.int .i64 (jobDaysF cs j)) ∧ Below w3.heap.size w3 w')) := hide (fun w3 ho hm3 => by
    have hJ := HJ2.out.mono (B' := fun _ => True) (w' := w3) (fun b _ => trivial) (fun a u _ hc => HKP.out w3 ho a u hc)
    exact cjd_any (Only.gcS HG.out ((Only.below (S := (· = B)) HB2.out).trans ho (fun _ _ h => h)) (fun k hk => by omega)) (HC2.out.mono (HKP.out w3 ho)) a0 a1 ro res.length rc (some ⟨gj, oj, none⟩) jn jc B j s hJ.days.at_ hJ.work.at_)
  have HPAR : Hid (∀ w3 w4, Only (· = B) w2 w3 → MpT w3 B (S ++ [((3, (j.name, 0)), (i : Int))]) → Below w3.heap.size w3 w4 →
      Calls Tryz.prog 57 #[.agg #[.int .i64 a0, .int .i64 a1, .slice co cs.length cc, .slice ro res.length rc, .slice (some ⟨gj, oj, none⟩) jn jc, .map (some B)], .agg (jC j s)] w4 (fun e w' => e = .returned (.int .i64 (partsE S res j)) ∧ Below w4.heap.size w4 w')) := hide (fun w3 w4 ho hm3 hb4 => by
    have hJ := (HJ2.out.mono (B' := fun _ => True) (w' := w3) (fun b _ => trivial) (fun a u _ hc => HKP.out w3 ho a u hc)).mono (B' := fun _ => True) (w' := w4) (fun b _ => trivial) (fun a u _ hc => Below.keeps hb4 (Nat.le_refl _) hc)
    have := cparts_any ((HR2.out.mono (HKP.out w3 ho)).grew hb4) a0 a1 co cs.length cc (some ⟨gj, oj, none⟩) jn jc (hm3.below hb4) (HOK.out.more (show (3 : Int) ≠ 2 by decide)) hlen j s hJ (fun n hn => by have := (hs.needs.2 n hn).1; omega) (fun x hx => by have := hs.outs.2 x hx; omega)
    rw [parts_more (show (3 : Int) ≠ 2 by decide)] at this
    exact this)
  have HNUM := hide (fun w3 => nums_any j s w3)
  have HRJ : Hid (∀ w' : World, w'.heap[w.heap.size + 1]? = some (.cells (jC j s) 56 (0, 0)) → w'.rangeAt (w.heap.size + 1) 0 (jC j s).toList) := hide (fun w' hw' k v hv => by rw [cell_of hw', Nat.zero_add]; simpa using hv)
  have HO2 : Hid (Only (· = B) w w2) := hide (Only.below HB2.out)
  have HTW : Hid (twF S (3, (j.name, 0)) = false → twS S (3, (j.name, 0)) i = S ++ [((3, (j.name, 0)), (i : Int))]) := hide (fun h => by unfold twS; rw [h]; rfl)
  clear h hc hr hm hok hrow hj hs hb1 f0 f0' f1 hb2 hn HC2 HR2 HJ2 HG
  generalize jobErr cs res S j = R at *
  generalize jobDaysF cs j = jd at *
  generalize numsCan j = nc at *
  generalize partsE S res j = pe at *
  generalize j.name = nm at *
  generalize jC j s = J at *
  generalize twF S (3, (nm, 0)) = tb at *
  generalize twS S (3, (nm, 0)) (i : Int) = S' at *
  generalize hp : w.heap.size = p at *
  rw [hs1] at y0 HF
  go_enter Tryz.func37, Tryz.ntmps37
  go_upto_region 1 with fail
  try rw [hw1]
  clear hw1
  have hi0 : (0 : Int) ≤ (i : Int) := Int.natCast_nonneg _
  have hi1 : (i : Int) < (jn : Int) := by omega
  refine wp_region_list ?_
  iterate 5
    refine wpList_plain rfl (fun K hK => ?_)
    go_simp
    refine hK _ _ ?_
    clear hK K
  refine wpList_load_mid rfl 56 (.tmp 11) rfl gj (oj + i * 24) rfl J.toList _ HRG.out Tryz.underlying56 rfl (by rw [show J.toList.length = 24 from HSZ.out]; kernel_rfl) ?_
  simp only [Array.toArray_toList]
  refine wpList_plain rfl (fun K hK => ?_)
  go_simp
  refine hK _ _ ?_
  clear hK K
  refine wpList_store_row rfl 56 _ _ rfl (p + 1) J rfl rfl 56 _ (by rw [← hs1]; exact heap_alloc_new w1 _) (by rw [HSZ.out]; kernel_rfl) (by rw [HSZ.out]; rfl) HONE.out ?_
  rw [← hs1, setRow_alloc, hw2]
  rw [hs1]
  clear hw2 x4 HRG
  go_wp2_with fail
  refine HT.out.mono ?_
  rintro e w3 ⟨rfl, hm3, ho3⟩
  have HM3 := hide hm3
  have HX3 := hide ho3
  have HO3 := hide (HO2.out.trans ho3 (fun _ _ h => h))
  have HF3 : Hid (w3.heap[p + 1]? = some (.cells J 56 (0, 0))) := hide ((ho3.block (p + 1) (block_lt HF.out.2) (by have := HBlt.out; omega)).trans HF.out.2)
  have q := HKP.out w3 ho3
  have z0 := q _ _ (show w2.cell? ⟨p, 0, none⟩ = some (.int .i64 a0) by rw [cell_of HF.out.1]; rfl)
  have z1 := q _ _ (show w2.cell? ⟨p, 1, none⟩ = some (.int .i64 a1) by rw [cell_of HF.out.1]; rfl)
  have z2 := q _ _ (show w2.cell? ⟨p, 2, none⟩ = some (.slice co cs.length cc) by rw [cell_of HF.out.1]; rfl)
  have z3 := q _ _ (show w2.cell? ⟨p, 3, none⟩ = some (.slice ro res.length rc) by rw [cell_of HF.out.1]; rfl)
  have z4 := q _ _ (show w2.cell? ⟨p, 4, none⟩ = some (.slice (some ⟨gj, oj, none⟩) jn jc) by rw [cell_of HF.out.1]; rfl)
  have z5 := q _ _ (show w2.cell? ⟨p, 5, none⟩ = some (.map (some B)) by rw [cell_of HF.out.1]; rfl)
  have HZ := hide (And.intro z0 (And.intro z1 (And.intro z2 (And.intro z3 (And.intro z4 z5)))))
  clear q hm3 ho3 HT HF HKP
  cases tb with
  | true =>
    have HE1 : Hid (R = 22) := hide (by rw [HE.out]; rfl)
    go_wp2
    go_ret
    exact ⟨by rw [HE1.out]; rfl, HM3.out, HO3.out⟩
  | false =>
    have HS := hide (HTW.out rfl)
    have HJD := hide (HAFT.out w3 HX3.out (by rw [← HS.out]; exact HM3.out))
    clear HAFT
    go_upto_region 4 with fail
    refine wp_region_list ?_
    refine wpList_plain rfl (fun K hK => ?_)
    go_simp
    refine hK _ _ ?_
    clear hK K
    refine wpList_load_mid rfl 56 (.tmp 5) rfl (p + 1) 0 rfl J.toList _ (HRJ.out w3 HF3.out) Tryz.underlying56 rfl (by rw [show J.toList.length = 24 from HSZ.out]; kernel_rfl) ?_
    simp only [Array.toArray_toList]
    go_wp2_with fail
    refine HJD.out.mono ?_
    rintro e w4 ⟨rfl, hb4⟩
    have HB4 := hide hb4
    have HF4 := hide ((hb4.block (p + 1) (block_lt HF3.out)).trans HF3.out)
    clear hb4 HJD z0 z1 z2 z3 z4 z5
    by_cases hjd : jd = 0
    · have hjd' : (jd != 0) = false := by simp [hjd]
      have HN := hide (HNUM.out w4)
      clear HNUM
      go_upto_region 7 with fail
      refine wp_region_list ?_
      refine wpList_load_mid rfl 56 (.tmp 5) rfl (p + 1) 0 rfl J.toList _ (HRJ.out w4 HF4.out) Tryz.underlying56 rfl (by rw [show J.toList.length = 24 from HSZ.out]; kernel_rfl) ?_
      simp only [Array.toArray_toList]
      go_wp2_with fail
      refine HN.out.mono ?_
      rintro e w5 ⟨rfl, hb5⟩
      have HB5 := hide (HB4.out.trans (hb5.mono HB4.out.size))
      have q5 := fun a u (hc : w3.cell? a = some u) => Below.keeps HB5.out (Nat.le_refl _) hc
      have z0 := q5 _ _ HZ.out.1
      have z1 := q5 _ _ HZ.out.2.1
      have z2 := q5 _ _ HZ.out.2.2.1
      have z3 := q5 _ _ HZ.out.2.2.2.1
      have z4 := q5 _ _ HZ.out.2.2.2.2.1
      have z5 := q5 _ _ HZ.out.2.2.2.2.2
      have HF5 := hide ((hb5.block (p + 1) (block_lt HF4.out)).trans HF4.out)
      clear hb5 HN q5
      cases nc with
      | false =>
        have HE1 : Hid (R = 6) := hide (by rw [HE.out, if_neg (by decide), if_neg (by simp [hjd]), if_pos rfl])
        go_wp2
        go_ret
        exact ⟨by rw [HE1.out]; rfl, HM3.out.below HB5.out, HO3.out.trans (Only.below HB5.out) (fun _ _ h => h)⟩
      | true =>
        have HE1 : Hid (R = pe) := hide (by rw [HE.out, if_neg (by decide), if_neg (by simp [hjd]), if_neg (by decide)])
        have HP := hide (HPAR.out w3 w5 HX3.out (by rw [← HS.out]; exact HM3.out) HB5.out)
        clear HPAR
        go_upto_region 9 with fail
        refine wp_region_list ?_
        refine wpList_plain rfl (fun K hK => ?_)
        go_simp
        refine hK _ _ ?_
        clear hK K
        refine wpList_load_mid rfl 56 (.tmp 5) rfl (p + 1) 0 rfl J.toList _ (HRJ.out w5 HF5.out) Tryz.underlying56 rfl (by rw [show J.toList.length = 24 from HSZ.out]; kernel_rfl) ?_
        simp only [Array.toArray_toList]
        go_wp2_with fail
        refine HP.out.mono ?_
        rintro e w6 ⟨rfl, hb6⟩
        have HB6 := hide (HB5.out.trans (hb6.mono HB5.out.size))
        clear hb6 HP
        go_wp2
        go_ret
        exact ⟨by rw [HE1.out]; rfl, HM3.out.below HB6.out, HO3.out.trans (Only.below HB6.out) (fun _ _ h => h)⟩
    · have hjd' : (jd != 0) = true := by simp [hjd]
      have HE1 : Hid (R = jd) := hide (by rw [HE.out, if_neg (by decide), if_pos hjd])
      go_wp2
      go_ret
      exact ⟨by rw [HE1.out]; rfl, HM3.out.below HB4.out, HO3.out.trans (Only.below HB4.out) (fun _ _ h => h)⟩
end Go.Proofs.YtkpgfhapffijkaaGreatDoor

/- Package rule: Check. -/
namespace Go.Proofs.YtkpgfhapffijkaaGreatDoor
open Go.ChangeShapes Go.WideShapes Go.ChangeAt Go.RowKit Go.DsMem Go.DsLx Go.DsJd Go.DsMk Go.DsMap
set_option linter.unusedVariables false
set_option linter.unusedSimpArgs false
/-- a source that is only read -/
structure SrcRd (w : World) (x : Srcp) (s : SSl) (gc gr gj oj : Nat) : Prop where
  cals : CalsAt w s.co s.cc x.cals gc 0 s.KC
  res : ResRd w s.ro s.rc x.res gr
  jcap : x.jobs.length ≤ s.jc
  jat : 0 < x.jobs.length → s.jo = some ⟨gj, oj, none⟩
  jrow : ∀ i (hi : i < x.jobs.length), w.rangeAt gj (oj + i * 24) (jC x.jobs[i] (s.KJ i)).toList
  jin : ∀ i (hi : i < x.jobs.length), JIn (fun _ => True) w (s.KJ i) x.jobs[i]
theorem SrcRd.mono {w w' : World} {x : Srcp} {s : SSl} {gc gr gj oj : Nat} (h : SrcRd w x s gc gr gj oj) (hc : ∀ a u, w.cell? a = some u → w'.cell? a = some u) : SrcRd w' x s gc gr gj oj :=
  ⟨h.cals.mono hc, h.res.mono hc, h.jcap, h.jat, fun i hi k v hv => hc _ _ (h.jrow i hi k v hv), fun i hi => (h.jin i hi).mono (fun b _ => trivial) (fun a u _ e => hc a u e)⟩
theorem SrcRd.grew {w w' : World} {x : Srcp} {s : SSl} {gc gr gj oj : Nat} (h : SrcRd w x s gc gr gj oj) (hb : Below w.heap.size w w') : SrcRd w' x s gc gr gj oj := h.mono fun _ _ hc => Below.keeps hb (Nat.le_refl _) hc
abbrev F3 := Int × Int × Int
def cJ (q : Except F3 Sl) : F3 := match q with | .error f => f | .ok _ => (0, 0, 0)
def cR (x : Srcp) (q : Except F3 Sl) : F3 := match q with | .error f => f | .ok S => cJ (goJ x.cals x.res x.jobs 0 S)
def cC (x : Srcp) (q : Except F3 Sl) : F3 := match q with | .error f => f | .ok S => cR x (goR x.res 0 S)
theorem checkF_eq (x : Srcp) : checkF x = if 99 < x.keep then (0, 0, 6) else cC x (goC x.cals x.cals 0 []) := rfl
theorem goC_step {cs l : List (ByteArray × Nd)} {i : Nat} (hi : i < l.length) (k : Nat) (S : Sl) : goC cs (l.drop i) k S = if calErr cs S l[i] = 0 then goC cs (l.drop (i + 1)) (k + 1) (S ++ [((1, (l[i].1, 0)), (k : Int))]) else .error (1, (k : Int), calErr cs S l[i]) := by
  rw [List.drop_eq_getElem_cons hi, goC]
theorem goR_step {l : List Rs} {i : Nat} (hi : i < l.length) (k : Nat) (S : Sl) : goR (l.drop i) k S = if resErr S l[i] = 0 then goR (l.drop (i + 1)) (k + 1) (S ++ [((2, (l[i].1, 0)), (k : Int))]) else .error (2, (k : Int), resErr S l[i]) := by
  rw [List.drop_eq_getElem_cons hi, goR]
theorem goJ_step {cs : List (ByteArray × Nd)} {res : List Rs} {l : List Jb} {i : Nat} (hi : i < l.length) (k : Nat) (S : Sl) : goJ cs res (l.drop i) k S = if jobErr cs res S l[i] = 0 then goJ cs res (l.drop (i + 1)) (k + 1) (S ++ [((3, (l[i].name, 0)), (k : Int))]) else .error (3, (k : Int), jobErr cs res S l[i]) := by
  rw [List.drop_eq_getElem_cons hi, goJ]
theorem calErr_tw {cs : List (ByteArray × Nd)} {S : Sl} {c : ByteArray × Nd} (h : calErr cs S c = 0) (i : Int) : twS S (1, (c.1, 0)) i = S ++ [((1, (c.1, 0)), i)] := by
  unfold calErr at h
  unfold twS
  split at h
  · cases h
  · rename_i e; rw [if_neg e]
theorem resErr_tw {S : Sl} {c : Rs} (h : resErr S c = 0) (i : Int) : twS S (2, (c.1, 0)) i = S ++ [((2, (c.1, 0)), i)] := by
  unfold resErr at h
  unfold twS
  split at h
  · cases h
  · rename_i e; rw [if_neg e]
theorem jobErr_tw {cs : List (ByteArray × Nd)} {res : List Rs} {S : Sl} {j : Jb} (h : jobErr cs res S j = 0) (i : Int) : twS S (3, (j.name, 0)) i = S ++ [((3, (j.name, 0)), i)] := by
  unfold jobErr at h
  unfold twS
  split at h
  · cases h
  · rename_i e; rw [if_neg e]
theorem resOk_res {S : Sl} {n : Nat} (h : ResOk S n) {nm : ByteArray} {i m : Nat} (hi : i < m) (hm : n ≤ m) : ResOk (S ++ [((2, (nm, 0)), (i : Int))]) m := fun a k ha => by
  rcases List.mem_append.1 ha with ha | ha
  · obtain ⟨q, h1, h2⟩ := h a k ha
    exact ⟨q, h1, by omega⟩
  · simp only [List.mem_singleton, Prod.mk.injEq] at ha
    exact ⟨i, ha.2, hi⟩
set_option maxHeartbeats 16000000 in
set_option maxRecDepth 20000 in
/-- rule.Check -/
theorem check_any {W w : World} (h : Gc W w) {x : Srcp} {s : SSl} {gc gr gj oj : Nat} (hx : SrcRd w x s gc gr gj oj) (hz : SrcS x) :
    Calls Tryz.prog 15 #[.agg #[.int .i64 x.start, .int .i64 x.keep, .slice s.co x.cals.length s.cc, .slice s.ro x.res.length s.rc, .slice s.jo x.jobs.length s.jc]] w fun e w' => e = .returned (.tuple #[.int .i64 (checkF x).1, .int .i64 (checkF x).2.1, .int .i64 (checkF x).2.2]) ∧ Below w.heap.size w w' := by
  have hg := h.here
  clear h
  obtain ⟨F, hF⟩ : ∃ F, checkF x = F := ⟨_, rfl⟩
  rw [hF]
  rw [checkF_eq] at hF
  have hl1 := hz.cals.1
  have hl2 := hz.res.1
  have hl3 := hz.jobs.1
  obtain ⟨w1, hw1⟩ : ∃ w1, w.alloc (.cells #[.int .i64 x.start, .int .i64 x.keep, .slice s.co x.cals.length s.cc, .slice s.ro x.res.length s.rc, .slice s.jo x.jobs.length s.jc] 26) = w1 := ⟨_, rfl⟩
  have hb1 : Below w.heap.size w w1 := by rw [← hw1]; exact (Below.refl _ _).alloc (Nat.le_refl _) _
  have f0 : w1.heap[w.heap.size]? = some (.cells #[.int .i64 x.start, .int .i64 x.keep, .slice s.co x.cals.length s.cc, .slice s.ro x.res.length s.rc, .slice s.jo x.jobs.length s.jc] 26 (0, 0)) := by rw [← hw1]; exact heap_alloc_new w _
  have hs1 : w1.heap.size = w.heap.size + 1 := by rw [← hw1]; simp
  have b0 : w1.cell? ⟨w.heap.size, 0, none⟩ = some (.int .i64 x.start) := by rw [cell_of f0]; rfl
  have b1 : w1.cell? ⟨w.heap.size, 1, none⟩ = some (.int .i64 x.keep) := by rw [cell_of f0]; rfl
  have b2 : w1.cell? ⟨w.heap.size, 2, none⟩ = some (.slice s.co x.cals.length s.cc) := by rw [cell_of f0]; rfl
  have b3 : w1.cell? ⟨w.heap.size, 3, none⟩ = some (.slice s.ro x.res.length s.rc) := by rw [cell_of f0]; rfl
  have b4 : w1.cell? ⟨w.heap.size, 4, none⟩ = some (.slice s.jo x.jobs.length s.jc) := by rw [cell_of f0]; rfl
  have HB1 := hide hb1
  have HG := hide hg
  have HX1 := hide (hx.grew hb1)
  have HZ := hide hz
  clear hb1 hx hg hz f0
  by_cases hk : 99 < x.keep
  · rw [if_pos hk] at hF
    subst hF
    generalize x.keep = kp at *
    go_enter Tryz.func15, Tryz.ntmps15
    go_upto_region 1 with fail
    try rw [hw1]
    clear hw1
    go_wp2
    go_ret3
    exact ⟨rfl, HB1.out⟩
  · rw [if_neg hk] at hF
    obtain ⟨w3, hw3⟩ : ∃ w3, (w1.alloc (.map #[] 0)).alloc (.cells #[.int .i64 x.start, .int .i64 x.keep, .slice s.co x.cals.length s.cc, .slice s.ro x.res.length s.rc, .slice s.jo x.jobs.length s.jc, .map (some (w.heap.size + 1))] 111) = w3 := ⟨_, rfl⟩
    have hb3 : Below w1.heap.size w1 w3 := by rw [← hw3]; exact ((Below.refl _ _).alloc (Nat.le_refl _) _).alloc (by simp) _
    have hs3 : w3.heap.size = w.heap.size + 3 := by rw [← hw3]; simp [hs1]
    have f3 : w3.heap[w.heap.size + 2]? = some (.cells #[.int .i64 x.start, .int .i64 x.keep, .slice s.co x.cals.length s.cc, .slice s.ro x.res.length s.rc, .slice s.jo x.jobs.length s.jc, .map (some (w.heap.size + 1))] 111 (0, 0)) := by
      rw [← hw3]
      have := heap_alloc_new (w1.alloc (.map #[] 0)) (.cells #[.int .i64 x.start, .int .i64 x.keep, .slice s.co x.cals.length s.cc, .slice s.ro x.res.length s.rc, .slice s.jo x.jobs.length s.jc, .map (some (w.heap.size + 1))] 111)
      simpa [hs1] using this
    have hm3 : MpT w3 (w.heap.size + 1) [] := by
      rw [← hw3, ← hs1]
      exact (Mp.made w1).below ((Below.refl _ _).alloc (Nat.le_refl _) _)
    have q3 := fun a u (hc : w1.cell? a = some u) => Below.keeps hb3 (Nat.le_refl _) hc
    have HBX : Hid (w3.cell? ⟨w.heap.size, 2, none⟩ = some (.slice s.co x.cals.length s.cc) ∧ w3.cell? ⟨w.heap.size, 3, none⟩ = some (.slice s.ro x.res.length s.rc) ∧ w3.cell? ⟨w.heap.size, 4, none⟩ = some (.slice s.jo x.jobs.length s.jc)) := hide ⟨q3 _ _ b2, q3 _ _ b3, q3 _ _ b4⟩
    have HCK : Hid (w3.cell? ⟨w.heap.size + 2, 0, none⟩ = some (.int .i64 x.start) ∧ w3.cell? ⟨w.heap.size + 2, 1, none⟩ = some (.int .i64 x.keep) ∧ w3.cell? ⟨w.heap.size + 2, 2, none⟩ = some (.slice s.co x.cals.length s.cc) ∧ w3.cell? ⟨w.heap.size + 2, 3, none⟩ = some (.slice s.ro x.res.length s.rc) ∧ w3.cell? ⟨w.heap.size + 2, 4, none⟩ = some (.slice s.jo x.jobs.length s.jc) ∧ w3.cell? ⟨w.heap.size + 2, 5, none⟩ = some (.map (some (w.heap.size + 1)))) :=
      hide ⟨by rw [cell_of f3]; rfl, by rw [cell_of f3]; rfl, by rw [cell_of f3]; rfl, by rw [cell_of f3]; rfl, by rw [cell_of f3]; rfl, by rw [cell_of f3]; rfl⟩
    have HB3 := hide (HB1.out.trans (hb3.mono (by omega)))
    have HX3 := hide (HX1.out.grew hb3)
    have HM3 := hide hm3
    have HQ : Hid (cC x (goC x.cals (x.cals.drop 0) 0 []) = F) := hide hF
    have HW : Hid (w.heap.size ≤ w.heap.size + 1) := hide (by omega)
    -- what one step of each loop does, at any world that differs from w3 by the map alone
    have HC1 : Hid (∀ wr S (i : Nat) (hi : i < x.cals.length), Only (· = w.heap.size + 1) w3 wr → MpT wr (w.heap.size + 1) S → S.length ≤ 1000 →
        Calls Tryz.prog 35 #[.agg #[.int .i64 x.start, .int .i64 x.keep, .slice s.co x.cals.length s.cc, .slice s.ro x.res.length s.rc, .slice s.jo x.jobs.length s.jc, .map (some (w.heap.size + 1))], .int .i64 i] wr fun e w' => e = .returned (.int .i64 (calErr x.cals S x.cals[i])) ∧ MpT w' (w.heap.size + 1) (twS S (1, (x.cals[i].1, 0)) i) ∧ Only (· = w.heap.size + 1) wr w') := hide (fun wr S i hi ho hmr hS =>
      ccal_any (Only.gcS HG.out ((Only.below (S := (· = w.heap.size + 1)) HB3.out).trans ho (fun _ _ h => h)) (fun k hk => by omega)) (HX3.out.mono (mpT_keep HM3.out ho)).cals x.start x.keep s.ro x.res.length s.rc s.jo x.jobs.length s.jc HW.out hmr (by omega) i hi (by have := (HZ.out.cals.2 _ (List.getElem_mem hi)).1; omega))
    have HC2 : Hid (∀ wr S (i : Nat) (hi : i < x.res.length), Only (· = w.heap.size + 1) w3 wr → MpT wr (w.heap.size + 1) S → S.length ≤ 1000 →
        Calls Tryz.prog 36 #[.agg #[.int .i64 x.start, .int .i64 x.keep, .slice s.co x.cals.length s.cc, .slice s.ro x.res.length s.rc, .slice s.jo x.jobs.length s.jc, .map (some (w.heap.size + 1))], .int .i64 i] wr fun e w' => e = .returned (.int .i64 (resErr S x.res[i])) ∧ MpT w' (w.heap.size + 1) (twS S (2, (x.res[i].1, 0)) i) ∧ Only (· = w.heap.size + 1) wr w') := hide (fun wr S i hi ho hmr hS =>
      cres_any (HX3.out.mono (mpT_keep HM3.out ho)).res x.start x.keep s.co x.cals.length s.cc s.jo x.jobs.length s.jc hmr (by omega) i hi (by have := HZ.out.res.2 _ (List.getElem_mem hi); omega) (by omega))
    have HC3 : Hid (∀ wr S (i : Nat) (hi : i < x.jobs.length), Only (· = w.heap.size + 1) w3 wr → MpT wr (w.heap.size + 1) S → S.length ≤ 1000 → ResOk S x.res.length →
        Calls Tryz.prog 37 #[.agg #[.int .i64 x.start, .int .i64 x.keep, .slice s.co x.cals.length s.cc, .slice s.ro x.res.length s.rc, .slice s.jo x.jobs.length s.jc, .map (some (w.heap.size + 1))], .int .i64 i] wr fun e w' => e = .returned (.int .i64 (jobErr x.cals x.res S x.jobs[i])) ∧ MpT w' (w.heap.size + 1) (twS S (3, (x.jobs[i].name, 0)) i) ∧ Only (· = w.heap.size + 1) wr w') := hide (fun wr S i hi ho hmr hS hok => by
      have hX := HX3.out.mono (mpT_keep HM3.out ho)
      have hat := hX.jat (by omega)
      have := cjob_any (Only.gcS HG.out ((Only.below (S := (· = w.heap.size + 1)) HB3.out).trans ho (fun _ _ h => h)) (fun k hk => by omega)) hX.cals hX.res x.start x.keep x.jobs.length s.jc gj oj HW.out hmr (by omega) hok (by omega) i hi (by omega) hX.jcap x.jobs[i] (s.KJ i) (hX.jrow i hi) (hX.jin i hi) (HZ.out.jobs.2 _ (List.getElem_mem hi))
      rw [← hat] at this
      exact this)
    have hok0 : ResOk [] x.res.length := fun nm k hk => by simp at hk
    have HOK0 := hide hok0
    clear hb3 f3 hm3 q3 hF HX1 hok0 HG HZ HW HX3
    generalize hp : w.heap.size = p at *
    generalize x.start = a0 at *
    generalize x.keep = a1 at *
    have hmm := @run_makeMap Tryz.prog
    go_enter Tryz.func15, Tryz.ntmps15
    go_upto_region 4 with fail
    try rw [hw1]
    try rw [hs1]
    try rw [hw3]
    clear hw1 hw3 b0 b1 b2 b3 b4
    obtain ⟨y2, y3, y4⟩ := HBX.out
    go_wp2
    clear y2 y3 y4
    go_loopw [21] (fun t wr => ∃ (i : Nat) (S : Sl), i ≤ x.cals.length ∧ t = .int .i64 i ∧ cC x (goC x.cals (x.cals.drop i) i S) = F ∧ S.length ≤ 0 + i ∧ (∀ q ∈ S, q.1.1 = 1) ∧ MpT wr (p + 1) S ∧ Only (· = p + 1) w3 wr) (fun t _ => x.cals.length - (intOf t).toNat)
    case atStart => exact ⟨0, [], Nat.zero_le _, rfl, HQ.out, by simp, by simp, HM3.out, Only.refl _ _⟩
    case round =>
      obtain ⟨i, S, hile, rfl, hq, hS, hinv, hmr, hor⟩ := hrel
      have HMR := hide hmr
      have HOR := hide hor
      have HQR := hide hq
      have HINV := hide hinv
      have q := mpT_keep HM3.out hor
      obtain ⟨z0, z1, z2, z3, z4, z5⟩ := HCK.out
      obtain ⟨y2, y3, y4⟩ := HBX.out
      have z0 := q _ _ z0
      have z1 := q _ _ z1
      have z2 := q _ _ z2
      have z3 := q _ _ z3
      have z4 := q _ _ z4
      have z5 := q _ _ z5
      have y2 := q _ _ y2
      have y3 := q _ _ y3
      have y4 := q _ _ y4
      by_cases hlt : i < x.cals.length
      · have HC := hide (HC1.out wr S i hlt hor hmr (by omega))
        rw [goC_step hlt] at HQR
        have HTW : Hid (calErr x.cals S x.cals[i] = 0 → twS S (1, (x.cals[i].1, 0)) (i : Int) = S ++ [((1, (x.cals[i].1, 0)), (i : Int))]) := hide (fun h => calErr_tw h _)
        clear hmr hor hq hinv q y2 y3 y4
        generalize calErr x.cals S x.cals[i] = er at *
        generalize twS S (1, (x.cals[i].1, 0)) (i : Int) = S' at *
        go_wp2_with fail
        refine HC.out.mono ?_
        rintro e w5 ⟨rfl, hm5, ho5⟩
        have HM5 := hide hm5
        have HO5 := hide (HOR.out.trans ho5 (fun _ _ h => h))
        have HB5 : Hid (Below p w w5) := hide (HB3.out.trans (HO5.out.toBelow (by omega) (fun i h => by omega)))
        clear hm5 ho5 HC HMR HOR z0 z1 z2 z3 z4 z5
        by_cases her : er = 0
        · have her' : (er != 0) = false := by simp [her]
          rw [if_pos her] at HQR
          have hS' := HTW.out her
          go_wp2
          go_roundw
          case rel => exact ⟨i + 1, _, by omega, by go_num, HQR.out, by simp; omega, fun q hq => by rcases List.mem_append.1 hq with hq | hq; exact HINV.out q hq; simp at hq; subst hq; rfl, by rw [← hS']; exact HM5.out, HO5.out⟩
          case measure => simp [intOf]; omega
        · have her' : (er != 0) = true := by simp [her]
          rw [if_neg her] at HQR
          go_wp2
          go_ret3
          exact ⟨by rw [← HQR.out]; rfl, HB5.out⟩
      · obtain rfl : i = x.cals.length := by omega
        rw [List.drop_length] at HQR
        clear hmr hor hq hinv q z0 z1 z2 z3 z4 z5 hlt hile
        rw [goC] at HQR
        have HQ2 : Hid (cR x (goR (x.res.drop 0) 0 S) = F) := hide HQR.out
        have HOK2 : Hid (ResOk S 0) := hide (fun nm k hk => by have := HINV.out _ hk; simp at this)
        clear HQR
        go_wp2
        clear y2 y3 y4
        go_loopw [35] (fun t wr => ∃ (i : Nat) (S : Sl), i ≤ x.res.length ∧ t = .int .i64 i ∧ cR x (goR (x.res.drop i) i S) = F ∧ S.length ≤ 24 + i ∧ ResOk S i ∧ MpT wr (p + 1) S ∧ Only (· = p + 1) w3 wr) (fun t _ => x.res.length - (intOf t).toNat)
        case atStart => exact ⟨0, S, Nat.zero_le _, rfl, HQ2.out, by omega, HOK2.out, HMR.out, HOR.out⟩
        case round =>
          obtain ⟨i, S, hile, rfl, hq, hS, hinv, hmr, hor⟩ := hrel
          have HMR := hide hmr
          have HOR := hide hor
          have HQR := hide hq
          have HINV := hide hinv
          have q := mpT_keep HM3.out hor
          obtain ⟨z0, z1, z2, z3, z4, z5⟩ := HCK.out
          obtain ⟨y2, y3, y4⟩ := HBX.out
          have z0 := q _ _ z0
          have z1 := q _ _ z1
          have z2 := q _ _ z2
          have z3 := q _ _ z3
          have z4 := q _ _ z4
          have z5 := q _ _ z5
          have y2 := q _ _ y2
          have y3 := q _ _ y3
          have y4 := q _ _ y4
          by_cases hlt : i < x.res.length
          · have HC := hide (HC2.out wr S i hlt hor hmr (by omega))
            rw [goR_step hlt] at HQR
            have HTW : Hid (resErr S x.res[i] = 0 → twS S (2, (x.res[i].1, 0)) (i : Int) = S ++ [((2, (x.res[i].1, 0)), (i : Int))]) := hide (fun h => resErr_tw h _)
            clear hmr hor hq hinv q y2 y3 y4
            generalize resErr S x.res[i] = er at *
            generalize twS S (2, (x.res[i].1, 0)) (i : Int) = S' at *
            go_wp2_with fail
            refine HC.out.mono ?_
            rintro e w5 ⟨rfl, hm5, ho5⟩
            have HM5 := hide hm5
            have HO5 := hide (HOR.out.trans ho5 (fun _ _ h => h))
            have HB5 : Hid (Below p w w5) := hide (HB3.out.trans (HO5.out.toBelow (by omega) (fun i h => by omega)))
            clear hm5 ho5 HC HMR HOR z0 z1 z2 z3 z4 z5
            by_cases her : er = 0
            · have her' : (er != 0) = false := by simp [her]
              rw [if_pos her] at HQR
              have hS' := HTW.out her
              go_wp2
              go_roundw
              case rel => exact ⟨i + 1, _, by omega, by go_num, HQR.out, by simp; omega, resOk_res HINV.out (by omega) (by omega), by rw [← hS']; exact HM5.out, HO5.out⟩
              case measure => simp [intOf]; omega
            · have her' : (er != 0) = true := by simp [her]
              rw [if_neg her] at HQR
              go_wp2
              go_ret3
              exact ⟨by rw [← HQR.out]; rfl, HB5.out⟩
          · obtain rfl : i = x.res.length := by omega
            rw [List.drop_length] at HQR
            clear hmr hor hq hinv q z0 z1 z2 z3 z4 z5 hlt hile
            rw [goR] at HQR
            have HQ3 : Hid (cJ (goJ x.cals x.res (x.jobs.drop 0) 0 S) = F) := hide HQR.out
            have HOK3 : Hid (ResOk S x.res.length) := hide HINV.out
            clear HQR
            go_wp2
            clear y2 y3 y4
            go_loopw [49] (fun t wr => ∃ (i : Nat) (S : Sl), i ≤ x.jobs.length ∧ t = .int .i64 i ∧ cJ (goJ x.cals x.res (x.jobs.drop i) i S) = F ∧ S.length ≤ 40 + i ∧ ResOk S x.res.length ∧ MpT wr (p + 1) S ∧ Only (· = p + 1) w3 wr) (fun t _ => x.jobs.length - (intOf t).toNat)
            case atStart => exact ⟨0, S, Nat.zero_le _, rfl, HQ3.out, by omega, HOK3.out, HMR.out, HOR.out⟩
            case round =>
              obtain ⟨i, S, hile, rfl, hq, hS, hinv, hmr, hor⟩ := hrel
              have HMR := hide hmr
              have HOR := hide hor
              have HQR := hide hq
              have HINV := hide hinv
              have q := mpT_keep HM3.out hor
              obtain ⟨z0, z1, z2, z3, z4, z5⟩ := HCK.out
              obtain ⟨y2, y3, y4⟩ := HBX.out
              have z0 := q _ _ z0
              have z1 := q _ _ z1
              have z2 := q _ _ z2
              have z3 := q _ _ z3
              have z4 := q _ _ z4
              have z5 := q _ _ z5
              have y2 := q _ _ y2
              have y3 := q _ _ y3
              have y4 := q _ _ y4
              by_cases hlt : i < x.jobs.length
              · have HC := hide (HC3.out wr S i hlt hor hmr (by omega) hinv)
                rw [goJ_step hlt] at HQR
                have HTW : Hid (jobErr x.cals x.res S x.jobs[i] = 0 → twS S (3, (x.jobs[i].name, 0)) (i : Int) = S ++ [((3, (x.jobs[i].name, 0)), (i : Int))]) := hide (fun h => jobErr_tw h _)
                clear hmr hor hq hinv q y2 y3 y4
                generalize jobErr x.cals x.res S x.jobs[i] = er at *
                generalize twS S (3, (x.jobs[i].name, 0)) (i : Int) = S' at *
                go_wp2_with fail
                refine HC.out.mono ?_
                rintro e w5 ⟨rfl, hm5, ho5⟩
                have HM5 := hide hm5
                have HO5 := hide (HOR.out.trans ho5 (fun _ _ h => h))
                have HB5 : Hid (Below p w w5) := hide (HB3.out.trans (HO5.out.toBelow (by omega) (fun i h => by omega)))
                clear hm5 ho5 HC HMR HOR z0 z1 z2 z3 z4 z5
                by_cases her : er = 0
                · have her' : (er != 0) = false := by simp [her]
                  rw [if_pos her] at HQR
                  have hS' := HTW.out her
                  go_wp2
                  go_roundw
                  case rel => exact ⟨i + 1, _, by omega, by go_num, HQR.out, by simp; omega, HINV.out.more (show (3 : Int) ≠ 2 by decide), by rw [← hS']; exact HM5.out, HO5.out⟩
                  case measure => simp [intOf]; omega
                · have her' : (er != 0) = true := by simp [her]
                  rw [if_neg her] at HQR
                  go_wp2
                  go_ret3
                  exact ⟨by rw [← HQR.out]; rfl, HB5.out⟩
              · obtain rfl : i = x.jobs.length := by omega
                rw [List.drop_length] at HQR
                clear hmr hor hq hinv q z0 z1 z2 z3 z4 z5 hlt hile
                rw [goJ] at HQR
                go_wp2
                go_ret3
                exact ⟨by rw [← HQR.out]; rfl, HB3.out.trans (HOR.out.toBelow (by omega) (fun i h => by omega))⟩
end Go.Proofs.YtkpgfhapffijkaaGreatDoor

/- Package rule, plain: jobs in another order, fewer jobs, a resource less. -/
namespace Go.Proofs.YtkpgfhapffijkaaGreatDoor
open Go.DsLx Go.DsJd Go.DsMk
set_option linter.unusedVariables false
def IsOk {α ε : Type} (q : Except ε α) : Prop := ∃ S, q = .ok S
def jobCore (cs : List (ByteArray × Nd)) (res : List Rs) (S : Sl) (j : Jb) : Int := if jobDaysF cs j ≠ 0 then jobDaysF cs j else if numsCan j = false then 6 else partsE S res j
theorem jobErr_eq (cs : List (ByteArray × Nd)) (res : List Rs) (S : Sl) (j : Jb) : jobErr cs res S j = if twF S (3, (j.name, 0)) then 22 else jobCore cs res S j := rfl
theorem core_more {cs : List (ByteArray × Nd)} {res : List Rs} {S : Sl} {k : Sk} {i : Int} (hk : k.1 ≠ 2) (j : Jb) : jobCore cs res (S ++ [(k, i)]) j = jobCore cs res S j := by
  unfold jobCore
  rw [parts_more hk]
theorem tw_more (S : Sl) (k m : Sk) (i : Int) : twF (S ++ [(k, i)]) m = (twF S m || decide (k = m)) := by
  unfold twF
  rw [List.any_append]
  simp
theorem jobErr_zero {cs : List (ByteArray × Nd)} {res : List Rs} {S : Sl} {j : Jb} : jobErr cs res S j = 0 ↔ twF S (3, (j.name, 0)) = false ∧ jobCore cs res S j = 0 := by
  rw [jobErr_eq]
  cases twF S (3, (j.name, 0)) with
  | true => simp
  | false => simp
theorem goJ_ok {cs : List (ByteArray × Nd)} {res : List Rs} : ∀ (l : List Jb) (i : Nat) (S : Sl), IsOk (goJ cs res l i S) ↔ (l.map (·.name)).Nodup ∧ (∀ j ∈ l, twF S (3, (j.name, 0)) = false) ∧ ∀ j ∈ l, jobCore cs res S j = 0
  | [], i, S => by
    rw [goJ]
    exact ⟨fun _ => ⟨by simp, by simp, by simp⟩, fun _ => ⟨S, rfl⟩⟩
  | j :: l, i, S => by
    rw [goJ]
    by_cases h : jobErr cs res S j = 0
    · rw [if_pos h, goJ_ok l (i + 1)]
      obtain ⟨h1, h2⟩ := jobErr_zero.1 h
      simp only [List.map_cons, List.nodup_cons, List.mem_cons, forall_eq_or_imp]
      constructor
      · rintro ⟨a, b, c⟩
        refine ⟨⟨fun hm => ?_, a⟩, ⟨h1, fun k hk => ?_⟩, h2, fun k hk => ?_⟩
        · obtain ⟨k, hk, e⟩ := List.mem_map.1 hm
          have := b k hk
          rw [tw_more, e] at this
          simp at this
        · have := b k hk
          rw [tw_more, Bool.or_eq_false_iff] at this
          exact this.1
        · have := c k hk
          rw [core_more (show (3 : Int) ≠ 2 by decide)] at this
          exact this
      · rintro ⟨⟨a1, a2⟩, ⟨b1, b2⟩, c1, c2⟩
        refine ⟨a2, fun k hk => ?_, fun k hk => ?_⟩
        · rw [tw_more, b2 k hk, Bool.false_or, decide_eq_false_iff_not]
          intro e
          exact a1 (List.mem_map.2 ⟨k, hk, by simpa using (congrArg (fun q : Sk => q.2.1) e).symm⟩)
        · rw [core_more (show (3 : Int) ≠ 2 by decide)]
          exact c2 k hk
    · rw [if_neg h]
      constructor
      · rintro ⟨S', e⟩; cases e
      · rintro ⟨_, b, c⟩
        exact absurd (jobErr_zero.2 ⟨b j (by simp), c j (by simp)⟩) h
theorem goJ_err {cs : List (ByteArray × Nd)} {res : List Rs} : ∀ (l : List Jb) (i : Nat) (S : Sl) (f : F3), goJ cs res l i S = .error f → f.1 = 3 ∧ f.2.2 ≠ 0
  | [], i, S, f, e => by rw [goJ] at e; cases e
  | j :: l, i, S, f, e => by
    rw [goJ] at e
    split at e
    · exact goJ_err l _ _ f e
    · rename_i h; cases e; exact ⟨rfl, h⟩
end Go.Proofs.YtkpgfhapffijkaaGreatDoor

/- Package rule, plain: without a job, and without the last resource. -/
namespace Go.Proofs.YtkpgfhapffijkaaGreatDoor
open Go.DsLx Go.DsJd Go.DsMk
set_option linter.unusedVariables false
theorem goC_err {cs : List (ByteArray × Nd)} : ∀ {l : List (ByteArray × Nd)} {i : Nat} {S : Sl} {f : F3}, goC cs l i S = .error f → f.2.2 ≠ 0
  | [], i, S, f, e => by rw [goC] at e; cases e
  | c :: l, i, S, f, e => by
    rw [goC] at e
    split at e
    · exact goC_err e
    · rename_i h; cases e; exact h
theorem goR_err : ∀ {l : List Rs} {i : Nat} {S : Sl} {f : F3}, goR l i S = .error f → f.2.2 ≠ 0
  | [], i, S, f, e => by rw [goR] at e; cases e
  | c :: l, i, S, f, e => by
    rw [goR] at e
    split at e
    · exact goR_err e
    · rename_i h; cases e; exact h
/-- what can be can be with fewer jobs -/
theorem goJ_fewer {cs : List (ByteArray × Nd)} {res : List Rs} {S : Sl} {l m : List Jb} (h : IsOk (goJ cs res l 0 S)) (hs : m.Sublist l) : IsOk (goJ cs res m 0 S) := by
  rw [goJ_ok] at h ⊢
  exact ⟨h.1.sublist (hs.map _), fun j hj => h.2.1 j (hs.subset hj), fun j hj => h.2.2 j (hs.subset hj)⟩
theorem goR_snoc {r : Rs} : ∀ (l : List Rs) (i : Nat) (S S2 : Sl), goR (l ++ [r]) i S = .ok S2 → ∃ S1, goR l i S = .ok S1 ∧ resErr S1 r = 0 ∧ S2 = S1 ++ [((2, (r.1, 0)), ((i + l.length : Nat) : Int))]
  | [], i, S, S2, e => by
    rw [List.nil_append, goR] at e
    split at e
    · rename_i h
      rw [goR] at e
      cases e
      exact ⟨S, rfl, h, by simp⟩
    · cases e
  | c :: l, i, S, S2, e => by
    rw [List.cons_append, goR] at e
    split at e
    · rename_i h
      obtain ⟨S1, h1, h2, h3⟩ := goR_snoc l (i + 1) _ S2 e
      refine ⟨S1, by rw [goR, if_pos h]; exact h1, h2, ?_⟩
      rw [h3, List.length_cons, show i + 1 + l.length = i + (l.length + 1) by omega]
    · cases e
theorem goR_resOk : ∀ (l : List Rs) (i : Nat) (S S2 : Sl), ResOk S i → goR l i S = .ok S2 → ResOk S2 (i + l.length)
  | [], i, S, S2, h, e => by rw [goR] at e; cases e; exact h
  | c :: l, i, S, S2, h, e => by
    rw [goR] at e
    split at e
    · have := goR_resOk l (i + 1) _ S2 (resOk_res h (i := i) (m := i + 1) (by omega) (by omega)) e
      rw [List.length_cons, show i + (l.length + 1) = i + 1 + l.length by omega]
      exact this
    · cases e
theorem goC_ones {cs : List (ByteArray × Nd)} : ∀ (l : List (ByteArray × Nd)) (i : Nat) (S S2 : Sl), (∀ q ∈ S, q.1.1 = 1) → goC cs l i S = .ok S2 → ∀ q ∈ S2, q.1.1 = 1
  | [], i, S, S2, h, e => by rw [goC] at e; cases e; exact h
  | c :: l, i, S, S2, h, e => by
    rw [goC] at e
    split at e
    · refine goC_ones l (i + 1) _ S2 (fun q hq => ?_) e
      rcases List.mem_append.1 hq with hq | hq
      · exact h q hq
      · simp at hq; subst hq; rfl
    · cases e
theorem look_snoc {S : Sl} {r : ByteArray} {n : ByteArray} {i : Int} : lookF (S ++ [((2, (r, 0)), i)]) (2, (n, 0)) = match lookF S (2, (n, 0)) with | some k => some k | none => if r = n then some i else none := by
  unfold lookF
  rw [List.find?_append]
  cases hf : S.find? (fun p => decide (p.1 = (2, (n, 0)))) with
  | some p => rfl
  | none =>
    simp only [Option.none_or, Option.map_none]
    by_cases h : r = n
    · subst h; simp
    · rw [if_neg h, List.find?_cons_of_neg (by simpa using h)]; rfl
/-- a need without the last resource -/
theorem need_less {S1 : Sl} {R : List Rs} {r : Rs} (hok : ResOk S1 R.length) (hr : resErr S1 r = 0) (n : Nv) (h0 : needErr (S1 ++ [((2, (r.1, 0)), (R.length : Int))]) (R ++ [r]) n = 0) : needErr S1 R n = if n.1 = r.1 then 21 else 0 := by
  have htw : twF S1 (2, (r.1, 0)) = false := by
    unfold resErr at hr
    split at hr
    · cases hr
    · rename_i h; simpa using h
  by_cases h : n.1 = r.1
  · rw [if_pos h]
    unfold needErr
    have : lookF S1 (2, (n.1, 0)) = none := by
      cases hl : lookF S1 (2, (n.1, 0)) with
      | none => rfl
      | some k => exact absurd (look_some hl) (by rw [h]; exact twF_not htw k)
    rw [this]
  · rw [if_neg h]
    unfold needErr at h0 ⊢
    rw [look_snoc] at h0
    cases hl : lookF S1 (2, (n.1, 0)) with
    | none =>
      rw [hl] at h0
      simp only at h0
      rw [if_neg (fun e => h e.symm)] at h0
      cases h0
    | some k =>
      rw [hl] at h0
      simp only at h0 ⊢
      obtain ⟨m, rfl, hm⟩ := hok _ _ (look_some hl)
      have e1 : (R ++ [r])[((m : Nat) : Int).toNat]? = R[((m : Nat) : Int).toNat]? := by
        simp only [Int.toNat_natCast]
        exact List.getElem?_append_left hm
      rw [e1] at h0
      exact h0
theorem goN_need {S : Sl} {res : List Rs} : ∀ (l : List Nv) (i : Nat) (M M2 : Sl), goN S res l i M = .ok M2 → ∀ n ∈ l, needErr S res n = 0
  | [], i, M, M2, e, n, hn => by simp at hn
  | a :: l, i, M, M2, e, n, hn => by
    rw [goN] at e
    split at e
    · cases e
    · rename_i h0
      split at e
      · cases e
      · split at e
        · cases e
        · rcases List.mem_cons.1 hn with rfl | hn
          · simpa using h0
          · exact goN_need l _ _ _ e n hn
/-- what a job needs, without the last resource -/
theorem goN_less {S1 : Sl} {R : List Rs} {r : Rs} (hok : ResOk S1 R.length) (hr : resErr S1 r = 0) : ∀ (l : List Nv) (i : Nat) (M M2 : Sl), goN (S1 ++ [((2, (r.1, 0)), (R.length : Int))]) (R ++ [r]) l i M = .ok M2 →
    goN S1 R l i M = if (∃ n ∈ l, n.1 = r.1) then .error 21 else .ok M2
  | [], i, M, M2, e => by
    rw [goN] at e
    cases e
    rw [goN, if_neg (by simp)]
  | a :: l, i, M, M2, e => by
    have h0 := goN_need _ _ _ _ e a (by simp)
    have hl := need_less hok hr a h0
    rw [goN, h0, if_neg (by simp)] at e
    rw [goN, hl]
    by_cases ha : a.1 = r.1
    · rw [if_pos ha, if_pos (by decide), if_pos ⟨a, by simp, ha⟩]
    · rw [if_neg ha, if_neg (by simp)]
      split at e
      · cases e
      · rename_i ht
        rw [if_neg ht]
        split at e
        · cases e
        · rename_i hz
          rw [if_neg hz, goN_less hok hr l _ _ _ e]
          by_cases hx : ∃ n ∈ l, n.1 = r.1
          · rw [if_pos hx, if_pos (by obtain ⟨n, h1, h2⟩ := hx; exact ⟨n, by simp [h1], h2⟩)]
          · rw [if_neg hx, if_neg (by rintro ⟨n, h1, h2⟩; rcases List.mem_cons.1 h1 with rfl | h1; exact ha h2; exact hx ⟨n, h1, h2⟩)]
theorem parts_less {S1 : Sl} {R : List Rs} {r : Rs} (hok : ResOk S1 R.length) (hr : resErr S1 r = 0) (j : Jb) (h : partsE (S1 ++ [((2, (r.1, 0)), (R.length : Int))]) (R ++ [r]) j = 0) (hpos : ∀ M e, goO j.outs 0 M = .error e → e ≠ 0) (hneg : ∀ e, goN (S1 ++ [((2, (r.1, 0)), (R.length : Int))]) (R ++ [r]) j.needs 0 [] = .error e → e ≠ 0) :
    partsE S1 R j = if (∃ n ∈ j.needs, n.1 = r.1) then 21 else 0 := by
  unfold partsE at h ⊢
  cases hN : goN (S1 ++ [((2, (r.1, 0)), (R.length : Int))]) (R ++ [r]) j.needs 0 [] with
  | error e => rw [hN] at h; exact absurd h (hneg e hN)
  | ok M2 =>
    rw [goN_less hok hr _ _ _ _ hN]
    rw [hN] at h
    by_cases hx : ∃ n ∈ j.needs, n.1 = r.1
    · rw [if_pos hx, if_pos hx]
    · rw [if_neg hx, if_neg hx]; exact h
theorem goO_err : ∀ (l : List Oc) (i : Nat) (M : Sl) (e : Int), goO l i M = .error e → e ≠ 0
  | [], i, M, e, h => by rw [goO] at h; cases h
  | o :: l, i, M, e, h => by
    rw [goO] at h
    split at h
    · cases h; decide
    · split at h
      · cases h; decide
      · exact goO_err l _ _ e h
theorem goN_err {S : Sl} {res : List Rs} : ∀ (l : List Nv) (i : Nat) (M : Sl) (e : Int), goN S res l i M = .error e → e ≠ 0
  | [], i, M, e, h => by rw [goN] at h; cases h
  | n :: l, i, M, e, h => by
    rw [goN] at h
    split at h
    · rename_i h0; cases h; exact h0
    · split at h
      · cases h; decide
      · split at h
        · cases h; decide
        · exact goN_err l _ _ e h
theorem core_less {cs : List (ByteArray × Nd)} {S1 : Sl} {R : List Rs} {r : Rs} (hok : ResOk S1 R.length) (hr : resErr S1 r = 0) (j : Jb) (h : jobCore cs (R ++ [r]) (S1 ++ [((2, (r.1, 0)), (R.length : Int))]) j = 0) :
    jobCore cs R S1 j = if (∃ n ∈ j.needs, n.1 = r.1) then 21 else 0 := by
  unfold jobCore at h ⊢
  by_cases h1 : jobDaysF cs j = 0
  · rw [if_neg (by simp [h1])] at h ⊢
    by_cases h2 : numsCan j = false
    · rw [if_pos h2] at h; cases h
    · rw [if_neg h2] at h ⊢
      exact parts_less hok hr j h (goO_err _ _) (fun e => goN_err _ _ _ e)
  · rw [if_pos h1] at h; exact absurd h h1
theorem goJ_less {cs : List (ByteArray × Nd)} {S1 : Sl} {R : List Rs} {r : Rs} (hok : ResOk S1 R.length) (hr : resErr S1 r = 0) : ∀ (l : List Jb) (i : Nat) (S : Sl), (∀ q ∈ S, q.1.1 ≠ 2) → (l.map (·.name)).Nodup → (∀ j ∈ l, twF (S1 ++ S) (3, (j.name, 0)) = false) → (∀ j ∈ l, jobCore cs (R ++ [r]) (S1 ++ [((2, (r.1, 0)), (R.length : Int))]) j = 0) → (∀ j, jobCore cs R (S1 ++ S) j = jobCore cs R S1 j) →
    (¬ (∃ j ∈ l, ∃ n ∈ j.needs, n.1 = r.1) → IsOk (goJ cs R l i (S1 ++ S))) ∧ ((∃ j ∈ l, ∃ n ∈ j.needs, n.1 = r.1) → ∃ k, goJ cs R l i (S1 ++ S) = .error (3, k, 21))
  | [], i, S, h2, hn, ht, hc, hm => ⟨fun _ => ⟨_, by rw [goJ]⟩, fun ⟨j, hj, _⟩ => by simp at hj⟩
  | j :: l, i, S, h2, hn, ht, hc, hm => by
    have hcl := core_less hok hr j (hc j (by simp))
    have htj := ht j (by simp)
    rw [goJ, jobErr_eq, htj, if_neg (by decide : ¬ (false = true)), hm j, hcl]
    by_cases hx : ∃ n ∈ j.needs, n.1 = r.1
    · rw [if_pos hx, if_neg (by decide)]
      exact ⟨fun h => absurd ⟨j, by simp, hx⟩ h, fun _ => ⟨_, rfl⟩⟩
    · rw [if_neg hx, if_pos rfl]
      rw [List.map_cons, List.nodup_cons] at hn
      have hrec := goJ_less hok hr l (i + 1) (S ++ [((3, (j.name, 0)), (i : Int))]) (fun q hq => by
          rcases List.mem_append.1 hq with hq | hq
          · exact h2 q hq
          · simp at hq; subst hq; show (3 : Int) ≠ 2; decide) hn.2 (fun k hk => by
          rw [← List.append_assoc, tw_more, ht k (by simp [hk]), Bool.false_or, decide_eq_false_iff_not]
          intro e
          exact hn.1 (List.mem_map.2 ⟨k, hk, by simpa using (congrArg (fun q : Sk => q.2.1) e).symm⟩)) (fun k hk => hc k (by simp [hk])) (fun k => by
          rw [← List.append_assoc, core_more (show (3 : Int) ≠ 2 by decide), hm k])
      rw [← List.append_assoc] at hrec
      refine ⟨fun h => hrec.1 (fun ⟨k, hk, hy⟩ => h ⟨k, by simp [hk], hy⟩), fun ⟨k, hk, hy⟩ => hrec.2 ?_⟩
      rcases List.mem_cons.1 hk with rfl | hk
      · exact absurd hy hx
      · exact ⟨k, hk, hy⟩
theorem checkF_ok {x : Srcp} : (checkF x).2.2 = 0 ↔ ¬ 99 < x.keep ∧ ∃ S S2, goC x.cals x.cals 0 [] = .ok S ∧ goR x.res 0 S = .ok S2 ∧ IsOk (goJ x.cals x.res x.jobs 0 S2) := by
  rw [checkF_eq]
  by_cases hk : 99 < x.keep
  · rw [if_pos hk]
    exact ⟨fun e => absurd (show (6 : Int) = 0 from e) (by decide), fun h => absurd hk h.1⟩
  · rw [if_neg hk]
    cases hC : goC x.cals x.cals 0 [] with
    | error f =>
      refine ⟨fun e => ?_, fun ⟨_, S, S2, h, _⟩ => by cases h⟩
      exact absurd e (goC_err hC)
    | ok S =>
      cases hR : goR x.res 0 S with
      | error f =>
        have e1 : cC x (.ok S) = f := by show cR x (goR x.res 0 S) = f; rw [hR]; rfl
        rw [e1]
        refine ⟨fun e => absurd e (goR_err hR), fun ⟨_, S', S2, h, h2, _⟩ => ?_⟩
        cases h
        rw [hR] at h2; cases h2
      | ok S2 =>
        have e1 : cC x (.ok S) = cJ (goJ x.cals x.res x.jobs 0 S2) := by show cR x (goR x.res 0 S) = _; rw [hR]; rfl
        rw [e1]
        cases hJ : goJ x.cals x.res x.jobs 0 S2 with
        | error f =>
          refine ⟨fun e => absurd e (goJ_err _ _ _ _ hJ).2, fun ⟨_, S', S2', h, h2, h3, h4⟩ => ?_⟩
          cases h
          rw [hR] at h2
          cases h2
          rw [hJ] at h4; cases h4
        | ok S3 => exact ⟨fun _ => ⟨hk, S, S2, rfl, hR, S3, hJ⟩, fun _ => rfl⟩
/-- with fewer jobs -/
theorem check_fewer {x : Srcp} (h : (checkF x).2.2 = 0) {l : List Jb} (hl : l.Sublist x.jobs) : (checkF { x with jobs := l }).2.2 = 0 := by
  obtain ⟨h1, S, S2, h2, h3, h4⟩ := checkF_ok.1 h
  exact checkF_ok.2 ⟨h1, S, S2, h2, h3, goJ_fewer h4 hl⟩
/-- without the last resource -/
theorem check_less {x : Srcp} (h : (checkF x).2.2 = 0) {R : List Rs} {r : Rs} (hR : x.res = R ++ [r]) :
    (¬ (∃ j ∈ x.jobs, ∃ n ∈ j.needs, n.1 = r.1) → (checkF { x with res := R }).2.2 = 0) ∧ ((∃ j ∈ x.jobs, ∃ n ∈ j.needs, n.1 = r.1) → (checkF { x with res := R }).1 = 3 ∧ (checkF { x with res := R }).2.2 = 21) := by
  obtain ⟨h1, S, S2, h2, h3, h4⟩ := checkF_ok.1 h
  rw [hR] at h3 h4
  obtain ⟨S1, g1, g2, g3⟩ := goR_snoc R 0 S S2 h3
  have hones := goC_ones _ _ _ _ (by simp) h2
  have hok := goR_resOk R 0 S S1 (fun nm i hi => by have := hones _ hi; simp at this) g1
  rw [Nat.zero_add] at g3 hok
  rw [g3, goJ_ok] at h4
  have htw : ∀ j ∈ x.jobs, twF (S1 ++ []) (3, (j.name, 0)) = false := fun j hj => by
    have := h4.2.1 j hj
    rw [tw_more, Bool.or_eq_false_iff] at this
    rw [List.append_nil]; exact this.1
  have hm := goJ_less (cs := x.cals) hok g2 x.jobs 0 [] (by simp) h4.1 htw h4.2.2 (fun j => by rw [List.append_nil])
  rw [List.append_nil] at hm
  refine ⟨fun hn => checkF_ok.2 ⟨h1, S, S1, h2, g1, hm.1 hn⟩, fun hy => ?_⟩
  obtain ⟨k, hk⟩ := hm.2 hy
  have e : checkF { x with res := R } = (3, k, 21) := by
    rw [checkF_eq]
    dsimp only
    rw [if_neg h1, h2]
    show cR { x with res := R } (goR R 0 S) = _
    rw [g1]
    show cJ (goJ x.cals R x.jobs 0 S1) = _
    rw [hk]; rfl
  rw [e]
  exact ⟨rfl, rfl⟩
end Go.Proofs.YtkpgfhapffijkaaGreatDoor
