/- Package jdl: an item of a source: job. Written by gen_item2.py. -/
import Derived.Test.YtkpgfhapffijkaaDoorJ23
import Derived.Deep.AppendLies
namespace Go.Proofs.YtkpgfhapffijkaaDoor
open Go.ChangeShapes Go.WideShapes Go.ChangeAt Go.RowKit Go.DsMem Go.DsLx Go.DsJd Go.DsMk
set_option linter.unusedVariables false
theorem infoJob : (Tryd.prog.info? 48).map (fun i => (i.size, i.bytes)) = some (24, 336) := by kernel_rfl
theorem infoJobZ : (Tryd.prog.info? 48).bind (fun i => i.zero) = some (.agg #[.string ⟨#[]⟩, .int .i64 0, .slice none 0 0, .slice none 0 0, .string ⟨#[]⟩, .bool false, .int .i64 0, .int .i64 0, .slice none 0 0, .slice none 0 0, .string ⟨#[]⟩, .int .i64 0, .int .i64 0, .int .i64 0, .string ⟨#[]⟩, .int .i64 0, .slice none 0 0, .slice none 0 0, .slice none 0 0, .int .i64 0, .int .i64 0, .int .i64 0, .int .i64 0, .int .i64 0]) := by kernel_rfl
theorem jC_one (x : Jb) (s : JSl) : ∀ u ∈ (jC x s).toList, u.oneCell' = true := by
  intro u hu
  simp only [jC, List.mem_cons, List.not_mem_nil, or_false] at hu
  rcases hu with rfl | rfl | rfl | rfl | rfl | rfl | rfl | rfl | rfl | rfl | rfl | rfl | rfl | rfl | rfl | rfl | rfl | rfl | rfl | rfl | rfl | rfl | rfl | rfl <;> rfl
theorem zipGo (l : List Value) : ∀ (k : Nat) (pre z : List Value), pre.length = k → z.length = l.length → List.foldl (fun (cs : Array Value) (x : Value × Nat) => cs.setIfInBounds x.snd x.fst) (pre ++ z).toArray (l.zipIdx k) = (pre ++ l).toArray := by
  induction l with
  | nil => intro k pre z hk hz; simp at hz; subst hz; rfl
  | cons a l ih =>
    intro k pre z hk hz
    cases z with
    | nil => simp at hz
    | cons b z =>
      simp only [List.zipIdx_cons, List.foldl_cons]
      have e : (pre ++ b :: z).toArray.setIfInBounds k a = ((pre ++ [a]) ++ z).toArray := by
        subst hk
        simp [List.setIfInBounds_toArray]
      rw [e, ih (k + 1) (pre ++ [a]) z (by simp [hk]) (by simpa using hz)]
      simp
theorem fold24 (cs z : Array Value) (h : cs.size = 24) (hz : z.size = 24) : Array.foldl (fun (cs : Array Value) (x : Value × Nat) => cs.setIfInBounds x.snd x.fst) z cs.zipIdx 0 24 = cs := by
  obtain ⟨l, rfl⟩ : ∃ l : List Value, cs = l.toArray := ⟨cs.toList, rfl⟩
  obtain ⟨y, rfl⟩ : ∃ l : List Value, z = l.toArray := ⟨z.toList, rfl⟩
  have h : l.length = 24 := by simpa using h
  have hz : y.length = 24 := by simpa using hz
  have e : (24 : Nat) = l.toArray.zipIdx.size := by simp [h]
  rw [e]
  rw [← Array.foldl_toList]
  have := zipGo l 0 [] y rfl (by omega)
  simpa using this
/-- what an item reads that is a job -/
noncomputable def jobS (E : Int) (S : List (Int × ByteArray)) (x : Srcp) (ws : List Tk) (q : Except Fl ((Jb × List (Int × ByteArray)) × List Tk)) : Except Fl ((Srcp × List (Int × ByteArray)) × List Tk) :=
  match roomP E ws x.jobs.length 48 with
  | .error f => .error f
  | .ok _ => match q with | .error f => .error f | .ok (p, r) => .ok (({ x with jobs := x.jobs ++ [p.1] }, p.2), r)
set_option maxHeartbeats 8000000 in
set_option maxRecDepth 20000 in
theorem itemJob {w : World} {R X b0 : Nat} {E : Int} {B N : Nat} {t : Tk} {r : List Tk} (h : Rdr w R E 0 B N (t :: r)) (hG : Few9 r) (hW : FitW r) (hc : t.text = wJob) {x : Srcp} {s : SSl} (hj : SrcAt b0 w X x s) (hNX : N ≤ X) (hBX : B < X) (S : List (Int × ByteArray)) (hs : StM w B S) (hS : S.length + r.length ≤ 100000) :
    Calls Tryd.prog 22 #[.pointer (some ⟨R, 0, none⟩), .pointer (some ⟨X, 0, none⟩)] w (PI R E B N X b0 (jobS E S x (t :: r) (jobP E (x.jobs.length + 1) S (t :: r))) w) := by
  obtain ⟨hN1, hN2⟩ := h.n
  have hlt := hj.lt
  have hle := hj.le
  have hmf : ∀ (fn : Fn) (first cap : Array Value) (w : World), (Instr.makeFunc fn first cap).run Tryd.prog w = .ok (.func fn first cap) w := fun _ _ _ _ => rfl
  obtain ⟨i0, hi0, hz1, hz2⟩ : ∃ i0, Tryd.prog.info? 48 = some i0 ∧ i0.size = 24 ∧ i0.bytes = 336 := by
    have := infoJob
    cases hh : Tryd.prog.info? 48 with
    | none => rw [hh] at this; cases this
    | some i => rw [hh] at this; simp at this; exact ⟨i, rfl, this.1, this.2⟩
  obtain ⟨z0, hzc, hz0⟩ : ∃ z0 : Value, z0.cells.size = 24 ∧ i0.zero = some z0 := ⟨.agg #[.string ⟨#[]⟩, .int .i64 0, .slice none 0 0, .slice none 0 0, .string ⟨#[]⟩, .bool false, .int .i64 0, .int .i64 0, .slice none 0 0, .slice none 0 0, .string ⟨#[]⟩, .int .i64 0, .int .i64 0, .int .i64 0, .string ⟨#[]⟩, .int .i64 0, .slice none 0 0, .slice none 0 0, .slice none 0 0, .int .i64 0, .int .i64 0, .int .i64 0, .int .i64 0, .int .i64 0], by rfl, by have := infoJobZ; rw [hi0] at this; exact this⟩
  have HBR : Hid (¬ B = R) := hide (fun e => by obtain ⟨es, clock, hm⟩ := hs.map; obtain ⟨uo, uc, o, h1, _⟩ := h; rw [e, h1] at hm; cases hm)
  have HT := hide (text_any h)
  simp only [textF] at HT
  rw [hc] at HT
  unfold wJob at HT
  have HRM := hide (room_any h x.jobs.length 48)
  have HS0 : Hid (x.jobs.length < 48 → Calls Tryd.prog 38 #[.pointer (some ⟨R, 0, none⟩), .int .i64 (x.jobs.length + 1)] w.drew (PJ R E B N (jobP E (x.jobs.length + 1) S (t :: r)) w.drew)) := hide (fun h48 => job_any h.drew hG hW (x.jobs.length + 1) (by omega) (by omega) S hs hS)
  have jc : w.cell? ⟨X, 4, none⟩ = some (.slice s.jo x.jobs.length s.jc) := (hj.cell 4).trans rfl
  have HX := hide hj
  have HSM := hide hs
  have hXs : X < w.heap.size := by omega
  obtain ⟨Q, hQ⟩ : ∃ Q, jobS E S x (t :: r) (jobP E (x.jobs.length + 1) S (t :: r)) = Q := ⟨_, rfl⟩
  rw [hQ]
  unfold jobS at hQ
  have HQ := hide hQ
  clear h hj hs hc hQ hG hW hS
  generalize (jobP E (x.jobs.length + 1) S (t :: r)) = q at *
  have HRM2 : Hid (Calls Tryd.prog 32 #[.pointer (some ⟨R, 0, none⟩), .int .i64 x.jobs.length, .int .i64 48] w fun e w' => ((∃ f, roomP E (t :: r) x.jobs.length 48 = .error f ∧ e = .panicked [{ v := flV f, recovered := false }] ∧ Only (· = R) w w') ∨ (roomP E (t :: r) x.jobs.length 48 = .ok () ∧ x.jobs.length < 48 ∧ e = .returned (.tuple #[]) ∧ w' = w))) := by
    refine hide (HRM.out.mono ?_)
    intro e w' hz
    cases hroom : roomP E (t :: r) x.jobs.length 48 with
    | error f => rw [hroom] at hz; exact .inl ⟨f, rfl, hz.1, hz.2⟩
    | ok u => rw [hroom] at hz; exact .inr ⟨rfl, by unfold roomP at hroom; split at hroom; cases hroom; omega, hz.1, hz.2⟩
  have HS2 : Hid (x.jobs.length < 48 → Calls Tryd.prog 38 #[.pointer (some ⟨R, 0, none⟩), .int .i64 (x.jobs.length + 1)] w.drew fun e w' => ((∃ f, q = .error f ∧ e = .panicked [{ v := flV f, recovered := false }] ∧ Only (fun i => i = R ∨ i = B) w.drew w') ∨ (∃ (p : Jb) (S' : List (Int × ByteArray)) (r' : List Tk) (js : JSl), q = .ok ((p, S'), r') ∧ (∃ cs : Array Value, cs = jC p js ∧ cs.size = 24 ∧ e = .returned (.agg cs)) ∧ JIn (fun b => w.heap.size ≤ b ∧ b < w'.heap.size) w' js p ∧ StM w' B S' ∧ Rdr w' R E 0 B N r' ∧ Only (fun i => i = R ∨ i = B) w.drew w'))) := by
    refine hide (fun h48 => (HS0.out h48).mono ?_)
    intro e w' hz
    cases q with
    | error f => exact .inl ⟨f, rfl, hz.1, hz.2⟩
    | ok pr =>
      obtain ⟨⟨p, S'⟩, r'⟩ := pr
      obtain ⟨v, rfl, hv, hsm, hr, ho⟩ := hz
      obtain ⟨js, rfl, hin⟩ := hv.inn
      exact .inr ⟨p, S', r', js, rfl, ⟨_, rfl, rfl, rfl⟩, hin, hsm, hr, ho⟩
  clear HRM HS0
  have KP : Hid (∀ w', Only (fun i => i = R ∨ i = B) w.drew w' → w'.cell? ⟨X, 4, none⟩ = some (.slice s.jo x.jobs.length s.jc)) := fun w' ho => ho.cell (w := w.drew) jc (fun e => by (try simp only at e); rcases e with e | e <;> omega)
  have KX : Hid (∀ w', Only (fun i => i = R ∨ i = B) w.drew w' → SrcAt b0 w' X x s) := fun w' ho => HX.out.drew.moved ho (fun b e => by (try simp only at e); rcases e with e | e <;> (constructor <;> omega))
  have KZ : Hid (∀ w', Only (fun i => i = R ∨ i = B) w.drew w' → w.heap.size ≤ w'.heap.size) := fun w' ho => ho.size
  have KROW : Hid (∀ w', Only (fun i => i = R ∨ i = B) w.drew w' → ∀ ob, (w'.alloc ob).ownsRow b0 48 24 (.slice s.jo x.jobs.length s.jc) x.jobs.length (rowJ s.KJ 0 x.jobs)) := fun w' ho ob => own_sameK (KX.out _ ho).jobs (fun k hk => by have := (KX.out _ ho).jobs.lt k hk; rw [((Below.refl w'.heap.size w').alloc (Nat.le_refl _) ob).block k (by omega)])
  have KY : Hid (∀ w', Only (fun i => i = R ∨ i = B) w.drew w' → ∀ w3 ob, (w'.alloc ob).grownBy w3 (sJobs x s).ownBlock → w3.cell? ⟨X, 4, none⟩ = some (.slice s.jo x.jobs.length s.jc) ∧ w3.frozen? ⟨X, 4, none⟩ = false ∧ X < w3.heap.size) := fun w' ho w3 ob hg => by
    have hA : Only (fun k => (sJobs x s).ownBlock = some k) w' w3 := (Only.alloc _ w' _).trans (Only.grown hg) (fun i _ hi => hi)
    have hn : ¬ (sJobs x s).ownBlock = some X := fun e => by have := ((KX.out _ ho).jobs.lt X e).1; omega
    have hXw := block_lt (KX.out _ ho).blk
    have hbX := (hA.block X hXw hn).trans (KX.out _ ho).blk
    exact ⟨by rw [cell_of hbX]; rfl, frozen_of hbX, block_lt hbX⟩
  go_enter Tryd.func22, Tryd.ntmps22
  go_wp2_with fail
  refine HT.out.mono ?_
  rintro e w1 ⟨rfl, hw⟩
  obtain rfl := hw.symm
  clear hw
  go_wp2_with fail
  refine HRM2.out.mono ?_
  intro e w2 hz
  rcases hz with ⟨f, hq, rfl, ho⟩ | ⟨hq1, hn48, rfl, hw⟩
  · have HO := hide (ho.mono (T := TJ R B X b0) (fun _ _ e => .inl e))
    rw [hq] at HQ
    clear ho
    go_wp2
    exact ⟨rfl, PI.bad HQ.out.symm HO.out⟩
  obtain rfl := hw.symm
  rw [hq1] at HQ
  clear hq1 hw
  have hwr : IntKind.i64.wrap ((x.jobs.length : Int) + 1) = (x.jobs.length : Int) + 1 := by rw [IntKind.wrap_i64]; omega
  go_wp2_with fail
  go_region_law
    (first
      | (refine step_append_lies _ (by rfl) _ _ _ (by rfl) b0 48 i0 _ 24 336 Tryd.underlying24 hi0 hz0 hz1 hz2 hzc (by omega) (.slice s.jo x.jobs.length s.jc) x.jobs.length (rowJ s.KJ 0 x.jobs) (by rfl) (HROW.out _)
              ⟨w2.heap.size, 0, none⟩ 1 1 cs.toList (by rfl) (by simpa using hcz) (World.news_of_block (cs := cs) (t := 48) (fr := (0, 0)) (heap_alloc_new w2 _)) HONE.out
              (by omega) (by unfold maxLen; omega) (by omega) (by simp; omega) (w2.heap.size + 1) (by simp) ?_; intro gg cap w3 hown3 hgrow hat hlt3; have hy3 := HY.out w3 _ hgrow; obtain ⟨y1, y2, y3⟩ := hy3)
      | (go_simp; go_wp2_with (go_at_call 38; refine (HS2.out hn48).mono ?_; intro e w2 hz; rcases hz with ⟨f, hq, rfl, ho⟩ | ⟨p, S', r', js, hq2, ⟨cs, hcs, hcz, rfl⟩, hon, hsm2, hr2, ho2⟩; (exact ⟨rfl, PI.bad (f := f) (by rw [← HQ.out, hq]) ((((Only.refl _ _).drew.trans ho (fun _ _ h => h)).mono (T := TJ R B X b0) (fun _ _ e => by rcases e with e | e; exact .inl e; exact .inr (.inl e))))⟩); have HQ2 := hide hq2; clear hq2; have HR2 := hide hr2; have HO2 := hide ho2; have hs2 := ho2.size; have HON := hide hon; clear hon; have hfold := fold24 cs #[.string ⟨#[]⟩, .int .i64 0, .slice none 0 0, .slice none 0 0, .string ⟨#[]⟩, .bool false, .int .i64 0, .int .i64 0, .slice none 0 0, .slice none 0 0, .string ⟨#[]⟩, .int .i64 0, .int .i64 0, .int .i64 0, .string ⟨#[]⟩, .int .i64 0, .slice none 0 0, .slice none 0 0, .slice none 0 0, .int .i64 0, .int .i64 0, .int .i64 0, .int .i64 0, .int .i64 0] hcz rfl; have HONE : Hid (∀ u ∈ cs.toList, u.oneCell' = true) := hide (by rw [hcs]; exact jC_one p js); have HCS := hide hcs; clear hcs; have HSM2 := hide hsm2; clear hsm2; have k0 := KP.out _ ho2; have HX2 := hide (KX.out _ ho2); have hs22 := KZ.out _ ho2; have HROW := hide (KROW.out _ ho2); have hle2 := (KX.out _ ho2).le; have hX2 : X < w2.heap.size := (by omega); have hX2n : ¬ X = w2.heap.size := (by omega); have HY := hide (KY.out _ ho2); clear hr2 ho2)))
  all_goals
    rw [HCS.out] at hown3
    have HAD := hide (HX2.out.addJob p js (HON.out.mono (fun b hb => HX.out.fresh hb) (fun _ _ _ h => h)) _ hown3 hgrow hat hlt3)
    have hA : Only (fun k => b0 ≤ k) w2 w3 := (Only.alloc _ w2 _).trans ((Only.grown hgrow).mono (fun i _ hi => (HX2.out.jobs.lt i hi).1)) (fun i _ hi => hi)
    have hB : Only (TJ R B X b0) w2 (w3.setCell ⟨X, 4, none⟩ (.slice (some ⟨gg, 0, none⟩) (x.jobs.length + 1) cap)) := (hA.mono (fun _ _ e => .inr (.inr (.inr e)))).trans (Only.set w3 X 4 _) (fun _ _ e => .inr (.inr (.inl e)))
    have HB := hide hB
    have HR3 : Hid (Rdr (w3.setCell ⟨X, 4, none⟩ (.slice (some ⟨gg, 0, none⟩) (x.jobs.length + 1) cap)) R E 0 B N r') := hide (HR2.out.only (((hA.mono (T := fun k => b0 ≤ k ∨ k = X) (fun _ _ e => .inl e)).trans (Only.set w3 X 4 _) (fun _ _ e => .inr e)).toBelow (by omega) (fun i e => by rcases e with e | e <;> omega)))
    have HS3 : Hid (StM (w3.setCell ⟨X, 4, none⟩ (.slice (some ⟨gg, 0, none⟩) (x.jobs.length + 1) cap)) B S') := hide (HSM2.out.only ((hA.mono (T := fun k => b0 ≤ k ∨ k = X) (fun _ _ e => .inl e)).trans (Only.set w3 X 4 _) (fun _ _ e => .inr e)) (fun e => by rcases e with e | e <;> omega))
    have HO3 := hide ((((Only.refl _ _).drew.trans HO2.out (fun _ _ h => h)).mono (T := TJ R B X b0) (fun _ _ e => by rcases e with e | e; exact .inl e; exact .inr (.inl e))).trans HB.out (fun _ _ h => h))
    clear hown3 hgrow hat hA hB
    go_wp2
    go_end0
    exact PI.good (by rw [← HQ.out, HQ2.out]) ⟨_, HAD.out⟩ HS3.out HR3.out HO3.out
end Go.Proofs.YtkpgfhapffijkaaDoor
