/- Layer 9's law: check: what a source says, and what is at fault. -/
import Derived.Test.YtkpgfhapffijkaaGreatDoorR43
import Derived.Test.YtkpgfhapffijkaaGreatDoorR44
namespace Go.Proofs.YtkpgfhapffijkaaGreatDoor
open Go.ChangeShapes Go.WideShapes Go.ChangeAt Go.RowKit Go.DsMem Go.DsLx Go.DsJd Go.DsMk Go.DsMap
set_option linter.unusedVariables false
set_option linter.unusedSimpArgs false
theorem rowCal_at (K : Nat → NVal) : ∀ (a : Nat) (l : List (ByteArray × Nd)) (i : Nat) (hi : i < l.length) (k : Nat), k < 5 → (rowCal K a l)[i * 5 + k]? = (calC l[i] (K (a + i)))[k]?
  | a, [], i, hi, k, hk => absurd hi (by simp)
  | a, c :: l, 0, hi, k, hk => by
    rw [rowCal, Nat.zero_mul, Nat.zero_add, List.getElem?_append_left (by show k < 5; exact hk)]
    rfl
  | a, c :: l, i + 1, hi, k, hk => by
    have e : (i + 1) * 5 + k = 5 + (i * 5 + k) := by omega
    have hl : (calC c (K a)).length = 5 := rfl
    rw [rowCal, List.getElem?_append_right (by rw [hl, e]; omega), hl, e, Nat.add_sub_cancel_left]
    have := rowCal_at K (a + 1) l i (by simpa using hi) k hk
    rw [show a + 1 + i = a + (i + 1) by omega] at this
    exact this
theorem rowJ_at (K : Nat → JSl) : ∀ (a : Nat) (l : List Jb) (i : Nat) (hi : i < l.length) (k : Nat), k < 24 → (rowJ K a l)[i * 24 + k]? = (jC l[i] (K (a + i))).toList[k]?
  | a, [], i, hi, k, hk => absurd hi (by simp)
  | a, c :: l, 0, hi, k, hk => by
    rw [rowJ, Nat.zero_mul, Nat.zero_add, List.getElem?_append_left (by show k < 24; exact hk)]
    rfl
  | a, c :: l, i + 1, hi, k, hk => by
    have e : (i + 1) * 24 + k = 24 + (i * 24 + k) := by omega
    have hl : (jC c (K a)).toList.length = 24 := rfl
    rw [rowJ, List.getElem?_append_right (by rw [hl, e]; omega), hl, e, Nat.add_sub_cancel_left]
    have := rowJ_at K (a + 1) l i (by simpa using hi) k hk
    rw [show a + 1 + i = a + (i + 1) by omega] at this
    exact this
/-- a source of one's own can be read -/
theorem VSrc.rd {w w' : World} {x : Srcp} {v : Value} (h : VSrc w x v w') (hz : SrcS x) : ∃ (s : SSl) (gc gr gj : Nat), v = .agg (sC x s) ∧ SrcRd w' x s gc gr gj 0 := by
  obtain ⟨s, rfl, h1, h2, h3, h4, h5⟩ := h
  have hl1 := hz.cals.1
  have hl2 := hz.res.1
  have hl3 := hz.jobs.1
  obtain ⟨gc, c1, c2, c3⟩ : ∃ g, x.cals.length ≤ s.cc ∧ (0 < x.cals.length → s.co = some ⟨g, 0, none⟩) ∧ ∀ k u, (rowCal s.KC 0 x.cals)[k]? = some u → w'.cell? ⟨g, k, none⟩ = some u := by
    have hr := h1
    unfold sCals at hr
    rcases hr.2 with ⟨e, h0⟩ | ⟨g, cap, cur, e, hb, hg, hc2, _⟩
    · simp only [Value.slice.injEq] at e
      refine ⟨0, by omega, fun h => by omega, fun k u hu => ?_⟩
      have : x.cals = [] := List.eq_nil_of_length_eq_zero h0
      rw [this] at hu; simp [rowCal] at hu
    · simp only [Value.slice.injEq] at e
      refine ⟨g, by omega, fun _ => e.1, fun k u hu => ?_⟩
      have := hr.cells (g := g) (by rw [e.1]; rfl) k u hu
      rw [add_mk, Nat.zero_add] at this
      exact this
  obtain ⟨gr, r1, r2, r3⟩ : ∃ g, x.res.length ≤ s.rc ∧ (0 < x.res.length → s.ro = some ⟨g, 0, none⟩) ∧ ∀ k u, (rsRow x.res)[k]? = some u → w'.cell? ⟨g, k, none⟩ = some u := by
    have hr := h2
    unfold sRes at hr
    rcases hr.2 with ⟨e, h0⟩ | ⟨g, cap, cur, e, hb, hg, hc2, _⟩
    · simp only [Value.slice.injEq] at e
      refine ⟨0, by omega, fun h => by omega, fun k u hu => ?_⟩
      have : x.res = [] := List.eq_nil_of_length_eq_zero h0
      rw [this] at hu; simp [rsRow] at hu
    · simp only [Value.slice.injEq] at e
      refine ⟨g, by omega, fun _ => e.1, fun k u hu => ?_⟩
      have := hr.cells (g := g) (by rw [e.1]; rfl) k u hu
      rw [add_mk, Nat.zero_add] at this
      exact this
  obtain ⟨gj, j1, j2, j3⟩ : ∃ g, x.jobs.length ≤ s.jc ∧ (0 < x.jobs.length → s.jo = some ⟨g, 0, none⟩) ∧ ∀ k u, (rowJ s.KJ 0 x.jobs)[k]? = some u → w'.cell? ⟨g, k, none⟩ = some u := by
    have hr := h3
    unfold sJobs at hr
    rcases hr.2 with ⟨e, h0⟩ | ⟨g, cap, cur, e, hb, hg, hc2, _⟩
    · simp only [Value.slice.injEq] at e
      refine ⟨0, by omega, fun h => by omega, fun k u hu => ?_⟩
      have : x.jobs = [] := List.eq_nil_of_length_eq_zero h0
      rw [this] at hu; simp [rowJ] at hu
    · simp only [Value.slice.injEq] at e
      refine ⟨g, by omega, fun _ => e.1, fun k u hu => ?_⟩
      have := hr.cells (g := g) (by rw [e.1]; rfl) k u hu
      rw [add_mk, Nat.zero_add] at this
      exact this
  have kc : ∀ j (hj : j < x.cals.length) (k : Nat) (u : Value), k < 5 → (calC x.cals[j] (s.KC j))[k]? = some u → w'.cell? ⟨gc, j * 5 + k, none⟩ = some u := fun j hj k u hk hu => c3 _ _ (by rw [rowCal_at s.KC 0 x.cals j hj k hk, Nat.zero_add]; exact hu)
  have kr : ∀ j (hj : j < x.res.length) (k : Nat) (u : Value), k < 3 → (rsC x.res[j])[k]? = some u → w'.cell? ⟨gr, j * 3 + k, none⟩ = some u := fun j hj k u hk hu => r3 _ _ (by unfold rsRow; rw [flat_at rsC 3 (fun _ => rfl) x.res j hj k hk]; exact hu)
  refine ⟨s, gc, gr, gj, rfl, ⟨⟨by omega, c1, c2, fun j hj => ?_, fun j hj => ?_, fun j hj => (h4 j hj).at_⟩, ⟨r1, r2, fun j hj => kr j hj 0 _ (by decide) rfl, fun j hj => kr j hj 1 _ (by decide) rfl, fun j hj => kr j hj 2 _ (by decide) rfl⟩, j1, j2, fun j hj k u hu => ?_, fun j hj => (h5 j hj).mono (fun b _ => trivial) (fun _ _ _ hc => hc)⟩⟩
  · have := kc j hj 0 _ (by decide) rfl
    rw [Nat.zero_add]; exact this
  · rw [Nat.zero_add]
    exact ⟨kc j hj 1 _ (by decide) rfl, kc j hj 2 _ (by decide) rfl, kc j hj 3 _ (by decide) rfl, kc j hj 4 _ (by decide) rfl⟩
  · have hk : k < 24 := by
      have := (List.getElem?_eq_some_iff.1 hu).1
      exact this
    rw [Nat.zero_add]
    exact j3 _ _ (by rw [rowJ_at s.KJ 0 x.jobs j hj k hk, Nat.zero_add]; exact hu)
/-- how the law's check ends -/
def LC (q : Except Fl Srcp) (w : World) (e : Ending) (w' : World) : Prop := match q with
  | .error f => e = .returned (.tuple #[.agg #[.int .i64 0, .int .i64 0, .slice none 0 0, .slice none 0 0, .slice none 0 0], .int .i64 0, .int .i64 0, .int .i64 f.2, .bool false]) ∧ Below w.heap.size w w'
  | .ok x => ∃ v, e = .returned (.tuple #[v, .int .i64 (checkF x).1, .int .i64 (checkF x).2.1, .int .i64 (checkF x).2.2, .bool true]) ∧ VSrc w x v w' ∧ Below w.heap.size w w'
set_option maxHeartbeats 8000000 in
set_option maxRecDepth 20000 in
/-- dayshiftlaw09.check -/
theorem lcheck_any (s : ByteArray) {W w : World} (hs : s.size ≤ 140737488355000) (h : Gc W w) : Calls Tryz.prog 12 #[.string s] w (LC (parseP s) w) := by
  obtain ⟨wA, hwA⟩ : ∃ wA, w.alloc (.cells #[.int .i64 0, .int .i64 0, .slice none 0 0, .slice none 0 0, .slice none 0 0] 26) = wA := ⟨_, rfl⟩
  have hbA : Below w.heap.size w wA := by rw [← hwA]; exact (Below.refl _ _).alloc (Nat.le_refl _) _
  have hsA : wA.heap.size = w.heap.size + 1 := by rw [← hwA]; simp
  have fA : wA.heap[w.heap.size]? = some (.cells #[.int .i64 0, .int .i64 0, .slice none 0 0, .slice none 0 0, .slice none 0 0] 26 (0, 0)) := by rw [← hwA]; exact heap_alloc_new w _
  have HBA := hide hbA
  have HFA := hide fA
  have HP := hide (parse_any s wA hs (h.more hbA).lens (h.more hbA).lens.1)
  have HG := hide (h.more hbA)
  have HSM := hide (fun x (e : parseP s = .ok x) => parseP_small e)
  have HF0 := hide (fun f (e : parseP s = .error f) => parse_fl0 e)
  clear h hbA fA
  generalize parseP s = q at *
  cases q with
  | error f =>
    have hf := HF0.out f rfl
    have hf' : (f.2 != 0) = true := by simpa using hf
    unfold LC
    clear HF0 HSM HG
    dsimp only
    generalize hp : w.heap.size = p at *
    go_enter Tryz.func12, Tryz.ntmps12
    go_upto_region 1 with fail
    try rw [hwA]
    clear hwA
    go_wp2_with fail
    refine HP.out.mono ?_
    intro e w1 hz
    obtain ⟨rfl, hb1⟩ : _ ∧ _ := hz
    clear HP
    go_upto_region 2 with fail
    obtain ⟨w2, hw2⟩ : ∃ w2, w1.alloc (.cells #[.int .i64 0, .int .i64 0, .slice none 0 0, .slice none 0 0, .slice none 0 0] 26) = w2 := ⟨_, rfl⟩
    rw [hw2]
    have hb2 : Below w1.heap.size w1 w2 := by rw [← hw2]; exact (Below.refl _ _).alloc (Nat.le_refl _) _
    have fB : w2.heap[w1.heap.size]? = some (.cells #[.int .i64 0, .int .i64 0, .slice none 0 0, .slice none 0 0, .slice none 0 0] 26 (0, 0)) := by rw [← hw2]; exact heap_alloc_new w1 _
    have hs1 := hb1.size
    have HB2 := hide (HBA.out.trans ((hb1.trans (hb2.mono hb1.size)).mono (by omega)))
    have hr2 := (hb2.block p (by omega)).trans ((hb1.block p (by omega)).trans HFA.out)
    generalize hq : w1.heap.size = q1 at *
    have z0 : w2.cell? ⟨p, 0, none⟩ = some (.int .i64 0) := by rw [cell_of hr2]; rfl
    have z1 : w2.cell? ⟨p, 1, none⟩ = some (.int .i64 0) := by rw [cell_of hr2]; rfl
    have z2 : w2.cell? ⟨p, 2, none⟩ = some (.slice none 0 0) := by rw [cell_of hr2]; rfl
    have z3 : w2.cell? ⟨p, 3, none⟩ = some (.slice none 0 0) := by rw [cell_of hr2]; rfl
    have z4 : w2.cell? ⟨p, 4, none⟩ = some (.slice none 0 0) := by rw [cell_of hr2]; rfl
    have f0 : ∀ k, w2.frozen? ⟨p, k, none⟩ = false := fun k => frozen_of hr2
    have y0 : w2.cell? ⟨q1, 0, none⟩ = some (.int .i64 0) := by rw [cell_of fB]; rfl
    have y1 : w2.cell? ⟨q1, 1, none⟩ = some (.int .i64 0) := by rw [cell_of fB]; rfl
    have y2 : w2.cell? ⟨q1, 2, none⟩ = some (.slice none 0 0) := by rw [cell_of fB]; rfl
    have y3 : w2.cell? ⟨q1, 3, none⟩ = some (.slice none 0 0) := by rw [cell_of fB]; rfl
    have y4 : w2.cell? ⟨q1, 4, none⟩ = some (.slice none 0 0) := by rw [cell_of fB]; rfl
    clear hb1 hb2 hr2 fB hw2 hs1
    go_wp2
    refine bodyPost_ret (v := .tuple #[.agg #[.int .i64 0, .int .i64 0, .slice none 0 0, .slice none 0 0, .slice none 0 0], .int .i64 0, .int .i64 0, .int .i64 f.2, .bool false]) (by simp [results, Tryz.results12, go_sem, z0, z1, z2, z3, z4]) rfl ?_
    exact ⟨rfl, (((((HB2.out.setCell (Nat.le_refl _) _).setCell (Nat.le_refl _) _).setCell (Nat.le_refl _) _).setCell (Nat.le_refl _) _).setCell (Nat.le_refl _) _)⟩
  | ok x =>
    unfold LC
    dsimp only
    obtain ⟨F, hF⟩ : ∃ F, checkF x = F := ⟨_, rfl⟩
    rw [hF]
    have HSX := hide (HSM.out x rfl)
    have HFF := hide hF
    clear hF
    clear HF0 HSM
    go_enter Tryz.func12, Tryz.ntmps12
    go_upto_region 1 with fail
    try rw [hwA]
    clear hwA
    go_wp2_with fail
    refine HP.out.mono ?_
    intro e w1 hz
    obtain ⟨v, rfl, hv, hb1⟩ : ∃ v, _ ∧ _ ∧ _ := hz
    obtain ⟨s, gc, gr, gj, rfl, hrd⟩ := hv.rd HSX.out
    have HV := hide hv
    clear HP hv
    have hb1s := hb1.size
    have HCK : Hid (∀ w2, Below w1.heap.size w1 w2 → Calls Tryz.prog 15 #[.agg #[.int .i64 x.start, .int .i64 x.keep, .slice s.co x.cals.length s.cc, .slice s.ro x.res.length s.rc, .slice s.jo x.jobs.length s.jc]] w2 fun e w' => e = .returned (.tuple #[.int .i64 F.1, .int .i64 F.2.1, .int .i64 F.2.2]) ∧ Below w2.heap.size w2 w') := hide (fun w2 hb => by
      rw [← HFF.out]
      exact check_any ((HG.out.more hb1).more hb) (hrd.grew hb) HSX.out)
    clear hrd HFF
    unfold sC at HV ⊢
    generalize hA0 : x.start = a0 at *
    generalize hA1 : x.keep = a1 at *
    generalize hA2 : x.cals.length = n1 at *
    generalize hA3 : x.res.length = n2 at *
    generalize hA4 : x.jobs.length = n3 at *
    obtain ⟨so, sn, sro, srn, sjo, sjn, KC, KJ⟩ := s
    simp only at HCK HV ⊢
    obtain ⟨w2, hw2⟩ : ∃ w2, w1.alloc (.cells #[.int .i64 a0, .int .i64 a1, .slice so n1 sn, .slice sro n2 srn, .slice sjo n3 sjn] 26) = w2 := ⟨_, rfl⟩
    have hb2 : Below w1.heap.size w1 w2 := by rw [← hw2]; exact (Below.refl _ _).alloc (Nat.le_refl _) _
    have fB : w2.heap[w1.heap.size]? = some (.cells #[.int .i64 a0, .int .i64 a1, .slice so n1 sn, .slice sro n2 srn, .slice sjo n3 sjn] 26 (0, 0)) := by rw [← hw2]; exact heap_alloc_new w1 _
    have HB12 : Hid (Below w1.heap.size w1 w2) := hide hb2
    have HBw : Hid (Below w.heap.size w w1) := hide (HBA.out.trans (hb1.mono (by omega)))
    have hr2 := (hb2.block w.heap.size (by omega)).trans ((hb1.block w.heap.size (by omega)).trans HFA.out)
    have HC2 := hide (HCK.out w2 hb2)
    have HR2 := hide hr2
    have y0 : w2.cell? ⟨w1.heap.size, 0, none⟩ = some (.int .i64 a0) := by rw [cell_of fB]; rfl
    have y1 : w2.cell? ⟨w1.heap.size, 1, none⟩ = some (.int .i64 a1) := by rw [cell_of fB]; rfl
    have y2 : w2.cell? ⟨w1.heap.size, 2, none⟩ = some (.slice so n1 sn) := by rw [cell_of fB]; rfl
    have y3 : w2.cell? ⟨w1.heap.size, 3, none⟩ = some (.slice sro n2 srn) := by rw [cell_of fB]; rfl
    have y4 : w2.cell? ⟨w1.heap.size, 4, none⟩ = some (.slice sjo n3 sjn) := by rw [cell_of fB]; rfl
    have HFB := hide fB
    clear hb1 hb2 hr2 fB HCK
    go_upto_region 2 with fail
    try rw [hw2]
    clear hw2
    go_wp2_with fail
    refine HC2.out.mono ?_
    rintro e w3 ⟨rfl, hb3⟩
    have HB3 := hide hb3
    have hr3 := (hb3.block _ (block_lt HR2.out)).trans HR2.out
    have hB3 := (hb3.block _ (block_lt HFB.out)).trans HFB.out
    have z0 : w3.cell? ⟨w.heap.size, 0, none⟩ = some (.int .i64 0) := by rw [cell_of hr3]; rfl
    have z1 : w3.cell? ⟨w.heap.size, 1, none⟩ = some (.int .i64 0) := by rw [cell_of hr3]; rfl
    have z2 : w3.cell? ⟨w.heap.size, 2, none⟩ = some (.slice none 0 0) := by rw [cell_of hr3]; rfl
    have z3 : w3.cell? ⟨w.heap.size, 3, none⟩ = some (.slice none 0 0) := by rw [cell_of hr3]; rfl
    have z4 : w3.cell? ⟨w.heap.size, 4, none⟩ = some (.slice none 0 0) := by rw [cell_of hr3]; rfl
    have f0 : ∀ k, w3.frozen? ⟨w.heap.size, k, none⟩ = false := fun k => frozen_of hr3
    have y0 : w3.cell? ⟨w1.heap.size, 0, none⟩ = some (.int .i64 a0) := by rw [cell_of hB3]; rfl
    have y1 : w3.cell? ⟨w1.heap.size, 1, none⟩ = some (.int .i64 a1) := by rw [cell_of hB3]; rfl
    have y2 : w3.cell? ⟨w1.heap.size, 2, none⟩ = some (.slice so n1 sn) := by rw [cell_of hB3]; rfl
    have y3 : w3.cell? ⟨w1.heap.size, 3, none⟩ = some (.slice sro n2 srn) := by rw [cell_of hB3]; rfl
    have y4 : w3.cell? ⟨w1.heap.size, 4, none⟩ = some (.slice sjo n3 sjn) := by rw [cell_of hB3]; rfl
    have hne : ¬ w.heap.size = w1.heap.size := by omega
    clear hb3 hr3 hB3 HC2
    go_wp2
    refine bodyPost_ret (v := .tuple #[.agg #[.int .i64 a0, .int .i64 a1, .slice so n1 sn, .slice sro n2 srn, .slice sjo n3 sjn], .int .i64 F.1, .int .i64 F.2.1, .int .i64 F.2.2, .bool true]) (by simp [results, Tryz.results12, go_sem, z0, z1, z2, z3, z4]) rfl ?_
    have hO : Only (· = w.heap.size) w3 _ := ((((Only.set w3 w.heap.size 0 (.int .i64 a0)).trans (Only.set _ w.heap.size 1 (.int .i64 a1)) (fun _ _ e => e)).trans (Only.set _ w.heap.size 2 (.slice so n1 sn)) (fun _ _ e => e)).trans (Only.set _ w.heap.size 3 (.slice sro n2 srn)) (fun _ _ e => e)).trans (Only.set _ w.heap.size 4 (.slice sjo n3 sjn)) (fun _ _ e => e)
    have hB13 : Below w1.heap.size w1 w3 := HB12.out.trans (HB3.out.mono HB12.out.size)
    exact ⟨_, rfl, HV.out.moved ((Only.below (S := (· = w.heap.size)) hB13).trans hO (fun _ _ h => h)) (fun b hb => by omega) (by omega), (HBw.out.trans (hB13.mono HBw.out.size)).trans (hO.toBelow (by have := HBw.out.size; have := hB13.size; omega) (fun i h => by omega))⟩
end Go.Proofs.YtkpgfhapffijkaaGreatDoor
