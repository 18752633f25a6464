/- Package rule: a job's days, its numbers, its parts. -/
import Derived.Test.YtkpgfhapffijkaaGreatDoorR36
import Derived.Deep.MidRow
namespace Go.Proofs.YtkpgfhapffijkaaGreatDoor
open Go.ChangeShapes Go.WideShapes Go.ChangeAt Go.RowKit Go.DsMem Go.DsLx Go.DsJd Go.DsMk Go.DsMap
set_option linter.unusedVariables false
set_option linter.unusedSimpArgs false
set_option maxHeartbeats 4000000 in
set_option maxRecDepth 20000 in
/-- rule.numbersCanBe -/
theorem nums_any (j : Jb) (s : JSl) (w : World) : Calls Tryz.prog 56 #[.agg (jC j s)] w fun e w' => e = .returned (.bool (numsCan j)) ∧ Below w.heap.size w w' := by
  obtain ⟨w1, hw1⟩ : ∃ w1, w.alloc (.cells (jC j s) 56) = w1 := ⟨_, rfl⟩
  have hb1 : Below w.heap.size w w1 := by rw [← hw1]; exact (Below.refl _ _).alloc (Nat.le_refl _) _
  have f0 : w1.heap[w.heap.size]? = some (.cells (jC j s) 56 (0, 0)) := by rw [← hw1]; exact heap_alloc_new w _
  have x19 : w1.cell? ⟨w.heap.size, 19, none⟩ = some (.int .i64 j.prio) := by rw [cell_of f0]; rfl
  have x20 : w1.cell? ⟨w.heap.size, 20, none⟩ = some (.int .i64 j.wait) := by rw [cell_of f0]; rfl
  have x21 : w1.cell? ⟨w.heap.size, 21, none⟩ = some (.int .i64 j.every) := by rw [cell_of f0]; rfl
  have x22 : w1.cell? ⟨w.heap.size, 22, none⟩ = some (.int .i64 j.runs) := by rw [cell_of f0]; rfl
  have x23 : w1.cell? ⟨w.heap.size, 23, none⟩ = some (.int .i64 j.retry) := by rw [cell_of f0]; rfl
  have HB := hide hb1
  clear hb1 f0
  unfold numsCan
  generalize j.prio = n1 at *
  generalize j.wait = n2 at *
  generalize j.every = n3 at *
  generalize j.runs = n4 at *
  generalize j.retry = n5 at *
  generalize jC j s = cs at *
  generalize hp : w.heap.size = p at *
  go_enter Tryz.func56, Tryz.ntmps56
  go_upto_region 1 with fail
  try rw [hw1]
  clear hw1
  by_cases h1 : n1 ≤ 99
  · by_cases h2 : n2 ≤ 99
    · by_cases h3 : n3 ≤ 10080
      · by_cases h4 : 1 ≤ n4
        · by_cases h5 : n4 ≤ 99
          · by_cases h6 : n5 ≤ 99
            · go_wp2; go_ret; exact ⟨by simp [h1, h2, h3, h4, h5, h6] <;> omega, HB.out⟩
            · go_wp2; go_ret; exact ⟨by simp [h1, h2, h3, h4, h5, h6] <;> omega, HB.out⟩
          · go_wp2; go_ret; exact ⟨by simp [h1, h2, h3, h4, h5] <;> omega, HB.out⟩
        · go_wp2; go_ret; exact ⟨by simp [h1, h2, h3, h4] <;> omega, HB.out⟩
      · go_wp2; go_ret; exact ⟨by simp [h1, h2, h3] <;> omega, HB.out⟩
    · go_wp2; go_ret; exact ⟨by simp [h1, h2] <;> omega, HB.out⟩
  · go_wp2; go_ret; exact ⟨by simp [h1] <;> omega, HB.out⟩
theorem NdAt.op_eq {w : World} {v : NVal} {t : Nd} (h : NdAt w v t) : v.op = t.op := by cases h; rfl
set_option maxHeartbeats 8000000 in
set_option maxRecDepth 20000 in
/-- rule.checker.jobDays -/
theorem cjd_any {W w : World} (h : Gc W w) {cs : List (ByteArray × Nd)} {co : Option Addr} {cc g o : Nat} {V : Nat → NVal} (hc : CalsAt w co cc cs g o V) (a0 a1 : Int) (ro : Option Addr) (rn rc : Nat) (jo : Option Addr) (jn jc B : Nat) (j : Jb) (s : JSl)
    (hd : NdAt w s.dv j.days) (hw : NdAt w s.wv j.work) :
    Calls Tryz.prog 55 #[.agg #[.int .i64 a0, .int .i64 a1, .slice co cs.length cc, .slice ro rn rc, .slice jo jn jc, .map (some B)], .agg (jC j s)] w fun e w' => e = .returned (.int .i64 (jobDaysF cs j)) ∧ Below w.heap.size w w' := by
  obtain ⟨w1, hw1⟩ : ∃ w1, (w.alloc (.cells #[.int .i64 a0, .int .i64 a1, .slice co cs.length cc, .slice ro rn rc, .slice jo jn jc, .map (some B)] 111)).alloc (.cells (jC j s) 56) = w1 := ⟨_, rfl⟩
  have hb1 : Below w.heap.size w w1 := by rw [← hw1]; exact ((Below.refl _ _).alloc (Nat.le_refl _) _).alloc (by simp) _
  have f0 : w1.heap[w.heap.size]? = some (.cells #[.int .i64 a0, .int .i64 a1, .slice co cs.length cc, .slice ro rn rc, .slice jo jn jc, .map (some B)] 111 (0, 0)) := by rw [← hw1]; exact heap_keep (heap_alloc_new w _)
  have f1 : w1.heap[w.heap.size + 1]? = some (.cells (jC j s) 56 (0, 0)) := by
    rw [← hw1]
    have := heap_alloc_new (w.alloc (.cells #[.int .i64 a0, .int .i64 a1, .slice co cs.length cc, .slice ro rn rc, .slice jo jn jc, .map (some B)] 111)) (.cells (jC j s) 56)
    simpa using this
  have HB1 := hide hb1
  have HG1 := hide (h.more hb1)
  have HD := hide (cdays_any HG1.out.here (hc.grew hb1) (hd.grew hb1) a0 a1 ro rn rc jo jn jc B)
  have HW := hide (fun w2 (hb2 : Below w1.heap.size w1 w2) => cdays_any (HG1.out.more hb2).here ((hc.grew hb1).grew hb2) ((hw.grew hb1).grew hb2) a0 a1 ro rn rc jo jn jc B)
  have z0 : w1.cell? ⟨w.heap.size, 0, none⟩ = some (.int .i64 a0) := by rw [cell_of f0]; rfl
  have z1 : w1.cell? ⟨w.heap.size, 1, none⟩ = some (.int .i64 a1) := by rw [cell_of f0]; rfl
  have z2 : w1.cell? ⟨w.heap.size, 2, none⟩ = some (.slice co cs.length cc) := by rw [cell_of f0]; rfl
  have z3 : w1.cell? ⟨w.heap.size, 3, none⟩ = some (.slice ro rn rc) := by rw [cell_of f0]; rfl
  have z4 : w1.cell? ⟨w.heap.size, 4, none⟩ = some (.slice jo jn jc) := by rw [cell_of f0]; rfl
  have z5 : w1.cell? ⟨w.heap.size, 5, none⟩ = some (.map (some B)) := by rw [cell_of f0]; rfl
  have y1 : w1.cell? ⟨w.heap.size + 1, 1, none⟩ = some (.int .i64 s.dv.op) := by rw [cell_of f1]; rfl
  have y2 : w1.cell? ⟨w.heap.size + 1, 2, none⟩ = some (.slice s.dv.no s.dv.nl s.dv.nc) := by rw [cell_of f1]; rfl
  have y3 : w1.cell? ⟨w.heap.size + 1, 3, none⟩ = some (.slice s.dv.ko s.dv.kl s.dv.kc) := by rw [cell_of f1]; rfl
  have y4 : w1.cell? ⟨w.heap.size + 1, 4, none⟩ = some (.string s.dv.nm) := by rw [cell_of f1]; rfl
  have y5 : w1.cell? ⟨w.heap.size + 1, 5, none⟩ = some (.bool j.shift) := by rw [cell_of f1]; rfl
  have y7 : w1.cell? ⟨w.heap.size + 1, 7, none⟩ = some (.int .i64 s.wv.op) := by rw [cell_of f1]; rfl
  have y8 : w1.cell? ⟨w.heap.size + 1, 8, none⟩ = some (.slice s.wv.no s.wv.nl s.wv.nc) := by rw [cell_of f1]; rfl
  have y9 : w1.cell? ⟨w.heap.size + 1, 9, none⟩ = some (.slice s.wv.ko s.wv.kl s.wv.kc) := by rw [cell_of f1]; rfl
  have y10 : w1.cell? ⟨w.heap.size + 1, 10, none⟩ = some (.string s.wv.nm) := by rw [cell_of f1]; rfl
  have eop := hd.op_eq
  have HE : Hid (jobDaysF cs j = if j.days.op ≠ 0 ∧ refF cs j.days 1 ≠ 0 then refF cs j.days 1 else if j.shift = false then 0 else refF cs j.work 1) := hide rfl
  rw [← eop] at HE
  generalize jobDaysF cs j = R at *
  generalize refF cs j.days 1 = r1 at *
  generalize refF cs j.work 1 = r2 at *
  generalize jC j s = J at *
  generalize s.dv.op = dop at *
  generalize s.dv.no = dno at *
  generalize s.dv.nl = dnl at *
  generalize s.dv.nc = dnc at *
  generalize s.dv.ko = dko at *
  generalize s.dv.kl = dkl at *
  generalize s.dv.kc = dkc at *
  generalize s.dv.nm = dnm at *
  generalize s.wv.op = wop at *
  generalize s.wv.no = wno at *
  generalize s.wv.nl = wnl at *
  generalize s.wv.nc = wnc at *
  generalize s.wv.ko = wko at *
  generalize s.wv.kl = wkl at *
  generalize s.wv.kc = wkc at *
  generalize s.wv.nm = wnm at *
  generalize j.shift = sh at *
  have HZ := hide (And.intro z0 (And.intro z1 (And.intro z2 (And.intro z3 (And.intro z4 (And.intro z5 (And.intro y5 (And.intro y7 (And.intro y8 (And.intro y9 y10))))))))))
  clear h hc hd hw hb1 f0 f1 eop
  generalize hp : w.heap.size = p at *
  go_enter Tryz.func55, Tryz.ntmps55
  go_upto_region 1 with fail
  try rw [hw1]
  clear hw1
  have HFIN : Hid (∀ w2, Below w1.heap.size w1 w2 → Below p w w2) := hide (fun w2 hb => HB1.out.trans (hb.mono (by have := HB1.out.size; omega)))
  by_cases hop : dop = 0
  · subst hop
    cases sh with
    | false =>
      have HE1 : Hid (R = 0) := hide (by rw [HE.out, if_neg (by simp), if_pos rfl])
      go_wp2
      go_ret
      exact ⟨by rw [HE1.out]; rfl, HB1.out⟩
    | true =>
      have HE1 : Hid (R = r2) := hide (by rw [HE.out, if_neg (by simp), if_neg (by decide)])
      have HW2 := hide (HW.out w1 (Below.refl _ _))
      clear HW HD
      go_wp2_with fail
      refine HW2.out.mono ?_
      rintro e w3 ⟨rfl, hb3⟩
      have HB3 := hide (HFIN.out _ hb3)
      clear hb3
      go_wp2
      go_ret
      exact ⟨by rw [HE1.out]; rfl, HB3.out⟩
  · have hop' : (dop != 0) = true := by simpa using hop
    go_wp2_with fail
    refine HD.out.mono ?_
    rintro e w2 ⟨rfl, hb2⟩
    have HB2 := hide hb2
    have q := fun a u (hc : w1.cell? a = some u) => Below.keeps hb2 (Nat.le_refl _) hc
    obtain ⟨z0, z1, z2, z3, z4, z5, y5, y7, y8, y9, y10⟩ := HZ.out
    have z0 := q _ _ z0
    have z1 := q _ _ z1
    have z2 := q _ _ z2
    have z3 := q _ _ z3
    have z4 := q _ _ z4
    have z5 := q _ _ z5
    have y5 := q _ _ y5
    have y7 := q _ _ y7
    have y8 := q _ _ y8
    have y9 := q _ _ y9
    have y10 := q _ _ y10
    have HW2 := hide (HW.out w2 hb2)
    clear q hb2 HW HD HZ
    by_cases hr : r1 = 0
    · subst hr
      cases sh with
      | false =>
        have HE1 : Hid (R = 0) := hide (by rw [HE.out, if_neg (by simp), if_pos rfl])
        go_wp2
        go_ret
        exact ⟨by rw [HE1.out]; rfl, HFIN.out _ HB2.out⟩
      | true =>
        have HE1 : Hid (R = r2) := hide (by rw [HE.out, if_neg (by simp), if_neg (by decide)])
        go_wp2_with fail
        refine HW2.out.mono ?_
        rintro e w3 ⟨rfl, hb3⟩
        have HB3 := hide (HFIN.out _ (HB2.out.trans (hb3.mono HB2.out.size)))
        clear hb3
        go_wp2
        go_ret
        exact ⟨by rw [HE1.out]; rfl, HB3.out⟩
    · have hr' : (r1 != 0) = true := by simpa using hr
      have HE1 : Hid (R = r1) := hide (by rw [HE.out, if_pos ⟨hop, hr⟩])
      go_wp2
      go_ret
      exact ⟨by rw [HE1.out]; rfl, HFIN.out _ HB2.out⟩
end Go.Proofs.YtkpgfhapffijkaaGreatDoor

/- Package rule: what a job needs, and its outcomes. -/
namespace Go.Proofs.YtkpgfhapffijkaaGreatDoor
open Go.ChangeShapes Go.WideShapes Go.ChangeAt Go.RowKit Go.DsMem Go.DsLx Go.DsJd Go.DsMk Go.DsMap
set_option linter.unusedVariables false
set_option linter.unusedSimpArgs false
theorem flat_at {α : Type} (f : α → List Value) (n : Nat) (hf : ∀ a, (f a).length = n) : ∀ (l : List α) (i : Nat) (hi : i < l.length) (k : Nat), k < n → (l.flatMap f)[i * n + k]? = (f l[i])[k]?
  | [], i, hi, k, hk => absurd hi (by simp)
  | a :: l, 0, hi, k, hk => by
    rw [List.flatMap_cons, Nat.zero_mul, Nat.zero_add, List.getElem?_append_left (by rw [hf]; exact hk)]
    rfl
  | a :: l, i + 1, hi, k, hk => by
    have e : (i + 1) * n + k = n + (i * n + k) := by rw [Nat.add_mul]; omega
    rw [List.flatMap_cons, List.getElem?_append_right (by rw [hf, e]; omega), hf, e, Nat.add_sub_cancel_left]
    exact flat_at f n hf l i (by simpa using hi) k hk
theorem flat_ne {α : Type} (f : α → List Value) (n : Nat) (hf : ∀ a, (f a).length = n) (hn : 0 < n) {l : List α} (hl : 0 < l.length) : l.flatMap f ≠ [] := by
  cases l with
  | nil => simp at hl
  | cons a l =>
    intro e
    have := congrArg List.length e
    rw [List.flatMap_cons, List.length_append, hf] at this
    simp at this; omega
/-- a need's cells, and an outcome's -/
theorem need_cells {B : Nat → Prop} {w : World} {uo : Option Addr} {l : List Nv} (h : RowRd B w uo (nvRow l)) (h0 : 0 < l.length) : ∃ g, uo = some ⟨g, 0, none⟩ ∧ ∀ i (hi : i < l.length), w.cell? ⟨g, i * 3, none⟩ = some (.string l[i].1) ∧ w.cell? ⟨g, i * 3 + 1, none⟩ = some (.int .i64 l[i].2.1) ∧ w.cell? ⟨g, i * 3 + 2, none⟩ = some (.int .i64 l[i].2.2) := by
  obtain ⟨g, e, _, hr⟩ := h (flat_ne nvC3 3 (fun _ => rfl) (by decide) h0)
  refine ⟨g, e, fun i hi => ⟨?_, ?_, ?_⟩⟩
  · exact hr (i * 3 + 0) _ (by unfold nvRow; rw [flat_at nvC3 3 (fun _ => rfl) l i hi 0 (by decide)]; rfl)
  · exact hr (i * 3 + 1) _ (by unfold nvRow; rw [flat_at nvC3 3 (fun _ => rfl) l i hi 1 (by decide)]; rfl)
  · exact hr (i * 3 + 2) _ (by unfold nvRow; rw [flat_at nvC3 3 (fun _ => rfl) l i hi 2 (by decide)]; rfl)
theorem out_cells {B : Nat → Prop} {w : World} {uo : Option Addr} {l : List Oc} (h : RowRd B w uo (ocRow l)) (h0 : 0 < l.length) : ∃ g, uo = some ⟨g, 0, none⟩ ∧ ∀ i (hi : i < l.length), w.cell? ⟨g, i * 3, none⟩ = some (.bool (l[i].1 == 0)) ∧ w.cell? ⟨g, i * 3 + 1, none⟩ = some (.string l[i].2.1) ∧ w.cell? ⟨g, i * 3 + 2, none⟩ = some (.int .i64 l[i].2.2) := by
  obtain ⟨g, e, _, hr⟩ := h (flat_ne ocC 3 (fun _ => rfl) (by decide) h0)
  refine ⟨g, e, fun i hi => ⟨?_, ?_, ?_⟩⟩
  · exact hr (i * 3 + 0) _ (by unfold ocRow; rw [flat_at ocC 3 (fun _ => rfl) l i hi 0 (by decide)]; rfl)
  · exact hr (i * 3 + 1) _ (by unfold ocRow; rw [flat_at ocC 3 (fun _ => rfl) l i hi 1 (by decide)]; rfl)
  · exact hr (i * 3 + 2) _ (by unfold ocRow; rw [flat_at ocC 3 (fun _ => rfl) l i hi 2 (by decide)]; rfl)
theorem goN_step {S : Sl} {res : List Rs} {l : List Nv} {i : Nat} (hi : i < l.length) (k : Nat) (M : Sl) : goN S res (l.drop i) k M =
    if needErr S res l[i] ≠ 0 then .error (needErr S res l[i]) else if twF M (4, (l[i].1, 0)) then .error 22 else if l[i].2.2 = 0 ∧ (l[i].2.1 < 1 ∨ 1000 < l[i].2.1) then .error 6 else goN S res (l.drop (i + 1)) (k + 1) (M ++ [((4, (l[i].1, 0)), (k : Int))]) := by
  rw [List.drop_eq_getElem_cons hi, goN]
theorem goO_step {l : List Oc} {i : Nat} (hi : i < l.length) (k : Nat) (M : Sl) : goO (l.drop i) k M =
    if l[i].1 = 0 ∧ l[i].2.2 = 2 then .error 1 else if twF M (5, (l[i].2.1, l[i].2.2)) then .error 22 else goO (l.drop (i + 1)) (k + 1) (M ++ [((5, (l[i].2.1, l[i].2.2)), (k : Int))]) := by
  rw [List.drop_eq_getElem_cons hi, goO]
/-- what parts' second loop tells -/
def outsT (q : Except Int Sl) : Int := match q with | .error e => e | .ok _ => 0
/-- .. and its first -/
def needsT (os : List Oc) (q : Except Int Sl) : Int := match q with | .error e => e | .ok M => outsT (goO os 0 M)
set_option maxHeartbeats 16000000 in
set_option maxRecDepth 20000 in
/-- rule.checker.parts -/
theorem cparts_any {w : World} {res : List Rs} {ro : Option Addr} {rc g : Nat} (hr : ResRd w ro rc res g) (a0 a1 : Int) (co : Option Addr) (cn cc : Nat) (jo : Option Addr) (jn jc : Nat) {B : Nat} {S : Sl} (hm : MpT w B S)
    (hok : ResOk S res.length) (hlen : res.length ≤ 100000) (j : Jb) (s : JSl) (hj : JIn (fun _ => True) w s j) (hnn : ∀ n ∈ j.needs, n.1.size ≤ 140737488355000) (hon : ∀ o ∈ j.outs, o.2.1.size ≤ 140737488355000 ∧ 0 ≤ o.2.2 ∧ o.2.2 ≤ 100) :
    Calls Tryz.prog 57 #[.agg #[.int .i64 a0, .int .i64 a1, .slice co cn cc, .slice ro res.length rc, .slice jo jn jc, .map (some B)], .agg (jC j s)] w fun e w' => e = .returned (.int .i64 (partsE S res j)) ∧ Below w.heap.size w w' := by
  obtain ⟨w1, hw1⟩ : ∃ w1, (w.alloc (.cells #[.int .i64 a0, .int .i64 a1, .slice co cn cc, .slice ro res.length rc, .slice jo jn jc, .map (some B)] 111)).alloc (.cells (jC j s) 56) = w1 := ⟨_, rfl⟩
  have hb1 : Below w.heap.size w w1 := by rw [← hw1]; exact ((Below.refl _ _).alloc (Nat.le_refl _) _).alloc (by simp) _
  have hs1 : w1.heap.size = w.heap.size + 2 := by rw [← hw1]; simp
  have f0 : w1.heap[w.heap.size]? = some (.cells #[.int .i64 a0, .int .i64 a1, .slice co cn cc, .slice ro res.length rc, .slice jo jn jc, .map (some B)] 111 (0, 0)) := by rw [← hw1]; exact heap_keep (heap_alloc_new w _)
  have f1 : w1.heap[w.heap.size + 1]? = some (.cells (jC j s) 56 (0, 0)) := by
    rw [← hw1]
    have := heap_alloc_new (w.alloc (.cells #[.int .i64 a0, .int .i64 a1, .slice co cn cc, .slice ro res.length rc, .slice jo jn jc, .map (some B)] 111)) (.cells (jC j s) 56)
    simpa using this
  have HB1 := hide hb1
  have HM1 := hide (hm.below hb1)
  have HR1 := hide (hr.grew hb1)
  have HJ1 : Hid (JIn (fun _ => True) w1 s j) := hide (hj.mono (fun b _ => trivial) (fun a u _ hc => Below.keeps hb1 (Nat.le_refl _) hc))
  have n6 := hj.n6
  have o8 := hj.o8
  have HNN := hide hnn
  have HON := hide hon
  have HOK := hide hok
  have z0 : w1.cell? ⟨w.heap.size, 0, none⟩ = some (.int .i64 a0) := by rw [cell_of f0]; rfl
  have z1 : w1.cell? ⟨w.heap.size, 1, none⟩ = some (.int .i64 a1) := by rw [cell_of f0]; rfl
  have z2 : w1.cell? ⟨w.heap.size, 2, none⟩ = some (.slice co cn cc) := by rw [cell_of f0]; rfl
  have z3 : w1.cell? ⟨w.heap.size, 3, none⟩ = some (.slice ro res.length rc) := by rw [cell_of f0]; rfl
  have z4 : w1.cell? ⟨w.heap.size, 4, none⟩ = some (.slice jo jn jc) := by rw [cell_of f0]; rfl
  have z5 : w1.cell? ⟨w.heap.size, 5, none⟩ = some (.map (some B)) := by rw [cell_of f0]; rfl
  have y17 : w1.cell? ⟨w.heap.size + 1, 17, none⟩ = some (.slice s.oo j.outs.length s.oc) := by rw [cell_of f1]; rfl
  have y18 : w1.cell? ⟨w.heap.size + 1, 18, none⟩ = some (.slice s.no j.needs.length s.nc) := by rw [cell_of f1]; rfl
  have HNC := hide (need_cells HJ1.out.needs)
  have HOC := hide (out_cells HJ1.out.outs)
  have HQ : Hid (needsT j.outs (goN S res j.needs 0 []) = partsE S res j) := hide rfl
  generalize partsE S res j = R at *
  generalize jC j s = J at *
  generalize s.oo = oo at *
  generalize s.oc = oc at *
  generalize s.no = no at *
  generalize s.nc = nc at *
  generalize j.outs = outs at *
  generalize j.needs = needs at *
  clear hr hm hok hj hnn hon hb1 f0 f1 HJ1
  obtain ⟨w2, hw2⟩ : ∃ w2, w1.alloc (.map #[] 0) = w2 := ⟨_, rfl⟩
  have HB2 : Hid (Below w1.heap.size w1 w2) := hide (by rw [← hw2]; exact (Below.refl _ _).alloc (Nat.le_refl _) _)
  have HMM : Hid (MpT w2 w1.heap.size []) := hide (by rw [← hw2]; exact Mp.made w1)
  have Z5 := hide (And.intro z0 (And.intro z1 (And.intro z2 (And.intro z3 (And.intro z4 (And.intro z5 (And.intro y17 y18)))))))
  clear z0 z1 z2 z3 z4 z5
  have hmm := @run_makeMap Tryz.prog
  go_enter Tryz.func57, Tryz.ntmps57
  go_upto_region 1 with fail
  try rw [hw1]
  clear hw1
  generalize hp : w.heap.size = p at *
  have HPP : Hid (∀ w', Below p w w' → Below w.heap.size w w') := hide (fun w' h => by rw [hp]; exact h)
  go_upto_region 2 with fail
  try rw [hw2]
  rw [hs1] at HMM HB2
  try rw [hs1]
  have k18 := Below.keeps (hs1 ▸ HB2.out) (by omega) y18
  clear hw2 y17 y18
  go_wp2
  go_loopw [15] (fun t wr => ∃ (i : Nat) (M : Sl), i ≤ needs.length ∧ t = .int .i64 i ∧ needsT outs (goN S res (needs.drop i) i M) = R ∧ M.length ≤ i ∧ MpT wr (p + 2) M ∧ Below (p + 2) w1 wr) (fun t _ => needs.length - (intOf t).toNat)
  case atStart => exact ⟨0, [], Nat.zero_le _, rfl, HQ.out, Nat.zero_le _, HMM.out, HB2.out⟩
  case round =>
    obtain ⟨i, M, hile, rfl, hq, hM, hmr, hbr⟩ := hrel
    have HMR := hide hmr
    have HBR := hide hbr
    have HQR := hide hq
    clear hmr hbr hq
    have q := fun a u (hc : w1.cell? a = some u) => Below.keeps (hs1 ▸ HBR.out) (by omega) hc
    obtain ⟨z0, z1, z2, z3, z4, z5, y17, y18⟩ := Z5.out
    have z0 := q _ _ z0
    have z1 := q _ _ z1
    have z2 := q _ _ z2
    have z3 := q _ _ z3
    have z4 := q _ _ z4
    have z5 := q _ _ z5
    have y17 := q _ _ y17
    have y18 := q _ _ y18
    by_cases hlt : i < needs.length
    · obtain ⟨gn, rfl, hcn⟩ := HNC.out (by omega)
      obtain ⟨c0, c1, c2⟩ := hcn i hlt
      have c0 := q _ _ c0
      have c1 := q _ _ c1
      have c2 := q _ _ c2
      have hnm := HNN.out needs[i] (List.getElem_mem hlt)
      rw [goN_step hlt] at HQR
      generalize needs[i] = nd at *
      obtain ⟨nm, un, md⟩ := nd
      simp only at c0 c1 c2 hnm HQR
      have hfk := hide (fitK 4 nm 0 hnm (by decide) (by decide) (by decide) (by decide))
      have hbr' : Below w1.heap.size w1 wr := by rw [hs1]; exact HBR.out
      have hsr := hbr'.size
      obtain ⟨wA, hwA⟩ : ∃ wA, wr.alloc (.cells #[.string nm, .int .i64 un, .int .i64 md] 58) = wA := ⟨_, rfl⟩
      have hbA : Below wr.heap.size wr wA := by rw [← hwA]; exact (Below.refl _ _).alloc (Nat.le_refl _) _
      have hblk : wA.heap[wr.heap.size]? = some (.cells #[.string nm, .int .i64 un, .int .i64 md] 58 (0, 0)) := by rw [← hwA]; exact heap_alloc_new wr _
      have n0 : wA.cell? ⟨wr.heap.size, 0, none⟩ = some (.string nm) := by rw [cell_of hblk]; rfl
      have n1 : wA.cell? ⟨wr.heap.size, 1, none⟩ = some (.int .i64 un) := by rw [cell_of hblk]; rfl
      have n2 : wA.cell? ⟨wr.heap.size, 2, none⟩ = some (.int .i64 md) := by rw [cell_of hblk]; rfl
      have HND := hide (cneed_any ((HR1.out.grew hbr').grew hbA) a0 a1 co cn cc jo jn jc ((HM1.out.below hbr').below hbA) HOK.out hlen (nm, (un, md)) hnm)
      simp only at HND
      have HMA := hide (HMR.out.below hbA)
      have HBA := hide (HBR.out.trans (hbA.mono (by omega)))
      have qa := fun a u (hc : wr.cell? a = some u) => Below.keeps hbA (Nat.le_refl _) hc
      have z0 := qa _ _ z0
      have z1 := qa _ _ z1
      have z2 := qa _ _ z2
      have z3 := qa _ _ z3
      have z4 := qa _ _ z4
      have z5 := qa _ _ z5
      have hzA : wA.heap.size = wr.heap.size + 1 := by rw [← hwA]; simp
      have HN012 := hide (And.intro n0 (And.intro n1 n2))
      generalize needErr S res (nm, (un, md)) = ne at *
      clear q qa hbA hblk hbr' HNC HMR y17 y18
      generalize hq2 : wr.heap.size = q2 at *
      go_upto_region 5 with fail
      try rw [hwA]
      clear hwA
      go_wp2_with fail
      refine HND.out.mono ?_
      rintro e w3 ⟨rfl, hb3⟩
      have HB3 := hide (HBA.out.trans (hb3.mono (by omega)))
      have HM3 := hide (HMA.out.below hb3)
      obtain ⟨n0, n1, n2⟩ := HN012.out
      have n0 := Below.keeps hb3 (Nat.le_refl _) n0
      have n1 := Below.keeps hb3 (Nat.le_refl _) n1
      have n2 := Below.keeps hb3 (Nat.le_refl _) n2
      have HN3 := hide (And.intro n1 n2)
      clear hb3 HND HMA HN012 n1 n2 z0 z1 z2 z3 z4 z5
      by_cases hne : ne = 0
      · have hne' : (ne != 0) = false := by simp [hne]
        rw [if_neg (by simp [hne])] at HQR
        have HT := hide (twice_any HM3.out (4, (nm, 0)) hfk.out i (by omega))
        simp only at HT
        have HKP : Hid (∀ w4, Only (· = p + 2) w3 w4 → (∀ a u, w3.cell? a = some u → w4.cell? a = some u)) := hide (fun w4 ho => mpT_keep HM3.out ho)
        generalize htw : twF M (4, (nm, 0)) = tb at *
        have HS2 : Hid (tb = false → twS M (4, (nm, 0)) i = M ++ [((4, (nm, 0)), (i : Int))]) := hide (fun h => by unfold twS; rw [htw, h]; rfl)
        clear htw
        generalize twS M (4, (nm, 0)) i = M' at *
        have hs3 := HB3.out.size
        go_wp2_with fail
        refine HT.out.mono ?_
        rintro e w4 ⟨rfl, hm4, ho4⟩
        have HM4 := hide hm4
        have HB4 := hide (HB3.out.trans (ho4.toBelow (by omega) (fun i h => by omega)))
        obtain ⟨n1, n2⟩ := HN3.out
        have n1 := HKP.out w4 ho4 _ _ n1
        have n2 := HKP.out w4 ho4 _ _ n2
        clear hm4 ho4 HT HKP HN3
        cases tb with
        | true =>
          rw [if_pos rfl] at HQR
          go_wp2
          go_ret
          exact ⟨by rw [← HQR.out]; rfl, by first | exact HPP.out _ (HB1.out.trans (HB4.out.mono (by omega))) | exact HB1.out.trans (HB4.out.mono (by omega))⟩
        | false =>
          rw [if_neg (by decide)] at HQR
          have hM' := HS2.out rfl
          by_cases hmd : md = 0
          · have hmd' : (md == 0) = true := by simp [hmd]
            by_cases h1 : un < 1
            · rw [if_pos ⟨hmd, .inl h1⟩] at HQR
              go_wp2
              go_ret
              exact ⟨by rw [← HQR.out]; rfl, by first | exact HPP.out _ (HB1.out.trans (HB4.out.mono (by omega))) | exact HB1.out.trans (HB4.out.mono (by omega))⟩
            · by_cases h2 : 1000 < un
              · rw [if_pos ⟨hmd, .inr h2⟩] at HQR
                go_wp2
                go_ret
                exact ⟨by rw [← HQR.out]; rfl, by first | exact HPP.out _ (HB1.out.trans (HB4.out.mono (by omega))) | exact HB1.out.trans (HB4.out.mono (by omega))⟩
              · rw [if_neg (by omega)] at HQR
                go_wp2
                go_roundw
                case rel => exact ⟨i + 1, _, by omega, by go_num, HQR.out, by simp; omega, by rw [← hM']; exact HM4.out, HB4.out⟩
                case measure => simp [intOf]; omega
          · have hmd' : (md == 0) = false := by simp [hmd]
            rw [if_neg (by omega)] at HQR
            go_wp2
            go_roundw
            case rel => exact ⟨i + 1, _, by omega, by go_num, HQR.out, by simp; omega, by rw [← hM']; exact HM4.out, HB4.out⟩
            case measure => simp [intOf]; omega
      · have hne' : (ne != 0) = true := by simp [hne]
        rw [if_pos hne] at HQR
        go_wp2
        go_ret
        exact ⟨by rw [← HQR.out]; rfl, by first | exact HPP.out _ (HB1.out.trans (HB3.out.mono (by omega))) | exact HB1.out.trans (HB3.out.mono (by omega))⟩
    · obtain rfl : i = needs.length := by omega
      rw [List.drop_length, goN] at HQR
      have HQ2 : Hid (outsT (goO (outs.drop 0) 0 M) = R) := hide HQR.out
      have hM6 : M.length ≤ 6 := by omega
      clear z0 z1 z2 z3 z4 z5 y18 HNC HMM HQR q hile hlt hM
      go_wp2
      go_loopw [49] (fun t wz => ∃ (k : Nat) (M2 : Sl), k ≤ outs.length ∧ t = .int .i64 k ∧ outsT (goO (outs.drop k) k M2) = R ∧ M2.length ≤ 6 + k ∧ MpT wz (p + 2) M2 ∧ Below (p + 2) w1 wz) (fun t _ => outs.length - (intOf t).toNat)
      case atStart => exact ⟨0, M, Nat.zero_le _, rfl, HQ2.out, hM6, HMR.out, HBR.out⟩
      case round =>
        clear HMR HBR HQ2 y17
        rename World => wz
        obtain ⟨k, M2, hkle, rfl, hq2, hM2, hmz, hbz⟩ := hrel
        have HMZ := hide hmz
        have HBZ := hide hbz
        have HQZ := hide hq2
        clear hmz hbz hq2
        by_cases hlt : k < outs.length
        · obtain ⟨go, rfl, hco⟩ := HOC.out (by omega)
          have hbz' : Below w1.heap.size w1 wz := by rw [hs1]; exact HBZ.out
          obtain ⟨c0, c1, c2⟩ := hco k hlt
          have c0 := Below.keeps hbz' (Nat.le_refl _) c0
          have c1 := Below.keeps hbz' (Nat.le_refl _) c1
          have c2 := Below.keeps hbz' (Nat.le_refl _) c2
          obtain ⟨hnm, hw0, hw1'⟩ := HON.out outs[k] (List.getElem_mem hlt)
          rw [goO_step hlt] at HQZ
          generalize outs[k] = od at *
          obtain ⟨sg, nm, wh⟩ := od
          simp only at c0 c1 c2 hnm hw0 hw1' HQZ
          have hfk := hide (fitK 5 nm wh hnm (by decide) (by decide) hw0 hw1')
          have hsz := hbz'.size
          obtain ⟨b, hb⟩ : ∃ b, (sg == 0) = b := ⟨_, rfl⟩
          have HBO := hide hb
          rw [hb] at c0
          obtain ⟨wA, hwA⟩ : ∃ wA, wz.alloc (.cells #[.bool b, .string nm, .int .i64 wh] 88) = wA := ⟨_, rfl⟩
          have hbA : Below wz.heap.size wz wA := by rw [← hwA]; exact (Below.refl _ _).alloc (Nat.le_refl _) _
          have hblk : wA.heap[wz.heap.size]? = some (.cells #[.bool b, .string nm, .int .i64 wh] 88 (0, 0)) := by rw [← hwA]; exact heap_alloc_new wz _
          have n0 : wA.cell? ⟨wz.heap.size, 0, none⟩ = some (.bool b) := by rw [cell_of hblk]; rfl
          have n1 : wA.cell? ⟨wz.heap.size, 1, none⟩ = some (.string nm) := by rw [cell_of hblk]; rfl
          have n2 : wA.cell? ⟨wz.heap.size, 2, none⟩ = some (.int .i64 wh) := by rw [cell_of hblk]; rfl
          have HMA := hide (HMZ.out.below hbA)
          have HBA := hide (HBZ.out.trans (hbA.mono (by omega)))
          have hzA : wA.heap.size = wz.heap.size + 1 := by rw [← hwA]; simp
          have HT := hide (twice_any HMA.out (5, (nm, wh)) hfk.out k (by omega))
          simp only at HT
          generalize htw : twF M2 (5, (nm, wh)) = tb at *
          have HS2 : Hid (tb = false → twS M2 (5, (nm, wh)) k = M2 ++ [((5, (nm, wh)), (k : Int))]) := hide (fun h => by unfold twS; rw [htw, h]; rfl)
          clear htw hbA hblk hbz' HMZ hb
          generalize twS M2 (5, (nm, wh)) k = M' at *
          generalize hq3 : wz.heap.size = q3 at *
          go_upto_region 16 with fail
          try rw [hwA]
          clear hwA
          obtain ⟨bw, hbw⟩ : ∃ bw, (wh == 2) = bw := ⟨_, rfl⟩
          have HBW := hide hbw
          by_cases hbad : b = true ∧ bw = true
          · obtain ⟨rfl, rfl⟩ := hbad
            have e1 : sg = 0 := by simpa using HBO.out
            have e2 : wh = 2 := by simpa using HBW.out
            rw [if_pos ⟨e1, e2⟩] at HQZ
            clear e1 e2
            go_wp2
            go_ret
            exact ⟨by rw [← HQZ.out]; rfl, by first | exact HPP.out _ (HB1.out.trans (HBA.out.mono (by omega))) | exact HB1.out.trans (HBA.out.mono (by omega))⟩
          · have e3 : ¬ (sg = 0 ∧ wh = 2) := fun h => hbad ⟨by rw [← HBO.out, h.1]; rfl, by rw [← HBW.out, h.2]; rfl⟩
            rw [if_neg e3] at HQZ
            clear e3
            have hpick : b = false ∨ (b = true ∧ bw = false) := by
              cases b with
              | false => exact .inl rfl
              | true => cases bw with
                | false => exact .inr ⟨rfl, rfl⟩
                | true => exact absurd ⟨rfl, rfl⟩ hbad
            clear hbad
            have HFIN : Hid (∀ w4, Only (· = p + 2) wA w4 → Below (p + 2) w1 w4) := hide (fun w4 ho => HBA.out.trans (ho.toBelow (by omega) (fun i h => by omega)))
            rcases hpick with rfl | ⟨rfl, rfl⟩
            all_goals
              go_wp2_with fail
              refine HT.out.mono ?_
              rintro e w4 ⟨rfl, hm4, ho4⟩
              have HM4 := hide hm4
              have HB4 := hide (HFIN.out w4 ho4)
              clear hm4 ho4 HT HFIN
              cases tb with
              | true =>
                rw [if_pos rfl] at HQZ
                go_wp2
                go_ret
                exact ⟨by rw [← HQZ.out]; rfl, by first | exact HPP.out _ (HB1.out.trans (HB4.out.mono (by omega))) | exact HB1.out.trans (HB4.out.mono (by omega))⟩
              | false =>
                rw [if_neg (by decide)] at HQZ
                have hM' := HS2.out rfl
                go_wp2
                go_roundw
                case rel => exact ⟨k + 1, _, by omega, by go_num, HQZ.out, by simp; omega, by rw [← hM']; exact HM4.out, HB4.out⟩
                case measure => simp [intOf]; omega
        · obtain rfl : k = outs.length := by omega
          rw [List.drop_length, goO] at HQZ
          go_wp2
          go_ret
          exact ⟨by rw [← HQZ.out]; rfl, by first | exact HPP.out _ (HB1.out.trans (HBZ.out.mono (by omega))) | exact HB1.out.trans (HBZ.out.mono (by omega))⟩
end Go.Proofs.YtkpgfhapffijkaaGreatDoor
