/- Package jdl: a part of a job: use. Written by gen_need.py. -/
import Derived.Test.YtkpgfhapffijkaaDoorJfL
namespace Go.Proofs.YtkpgfhapffijkaaDoor
open Go.ChangeShapes Go.WideShapes Go.ChangeAt Go.RowKit Go.DsMem Go.DsLx Go.DsJd Go.DsMk
set_option linter.unusedVariables false
set_option maxHeartbeats 8000000 in
set_option maxRecDepth 20000 in
theorem part_use {w : World} {R J b0 : Nat} {E : Int} {B N : Nat} {t : Tk} {r : List Tk} (h : Rdr w R E 0 B N (t :: r)) (hc : t.text = wUse) {x : Jb} {s : JSl} (hj : JbAt b0 w J x s) (hNJ : N ≤ J) (hBJ : B < J) (k : Int) (S : List (Int × ByteArray)) (hs : StM w B S) (hn6 : x.needs.length ≤ 6) :
    Calls Tryd.prog 48 #[.pointer (some ⟨R, 0, none⟩), .pointer (some ⟨J, 0, none⟩), .int .i64 k] w (PT R E B N J b0 (moreP E S x (fun p => (p.1, (0, p.2 + 1))) (t :: r) (thenP E ⟨#[59]⟩ (twoP (nameP E) (choiceP E modeL) r))) w) := by
  obtain ⟨hN1, hN2⟩ := h.n
  have hlt := hj.lt
  have hle := hj.le
  have hmf : ∀ (fn : Fn) (first cap : Array Value) (w : World), (Instr.makeFunc fn first cap).run Tryd.prog w = .ok (.func fn first cap) w := fun _ _ _ _ => rfl
  obtain ⟨i0, hi0, hz0, hz1, hz2⟩ := info_parts infoNeed
  have HBR : Hid (¬ B = R) := hide (fun e => by obtain ⟨es, clock, hm⟩ := hs.map; obtain ⟨uo, uc, o, h1, _⟩ := h; rw [e, h1] at hm; cases hm)
  obtain ⟨wb, hwb⟩ : ∃ wb, wb = w.alloc (.cells #[.pointer (some ⟨R, 0, none⟩)] 35) := ⟨_, rfl⟩
  have hOb : Only (fun _ => False) w wb := by rw [hwb]; exact Only.alloc _ _ _
  have bx : wb.cell? ⟨w.heap.size, 0, none⟩ = some (.pointer (some ⟨R, 0, none⟩)) := by rw [hwb, World.cell?_alloc_mark]; rfl
  have hsb : wb.heap.size = w.heap.size + 1 := by rw [hwb]; simp
  have hrb : Rdr wb R E 0 B N (t :: r) := by rw [hwb]; exact h.below (below_new4 _)
  have hjb := hj.moved hOb (fun b e => e.elim)
  have hsb2 : StM wb B S := by rw [hwb]; exact hs.below ((Below.refl _ _).alloc (Nat.le_refl _) _)
  have HT := hide (text_any hrb)
  simp only [textF] at HT
  rw [hc] at HT
  unfold wUse at HT
  have HRM := hide (room_any hrb.drew x.needs.length 6)
  have HS : Hid _ := hide (saidUse1 hrb.drew.drew)
  have j18 : wb.cell? ⟨J, 18, none⟩ = some (.slice s.no x.needs.length s.nc) := (hjb.cell 18).trans rfl
  have HJB := hide hjb
  have HSB := hide hsb2
  have HRB := hide hrb
  have HOB := hide (hOb.mono (T := TJ R B J b0) (fun _ _ e => e.elim))
  have hJb : J < wb.heap.size := by omega
  clear h hj hs hc hrb hjb hsb2 hOb
  generalize thenP E ⟨#[59]⟩ (twoP (nameP E) (choiceP E modeL) r) = q at *
  have HRM2 : Hid (Calls Tryd.prog 32 #[.pointer (some ⟨R, 0, none⟩), .int .i64 x.needs.length, .int .i64 6] wb.drew fun e w' => ((∃ f, roomP E (t :: r) x.needs.length 6 = .error f ∧ e = .panicked [{ v := flV f, recovered := false }] ∧ Only (· = R) wb.drew w') ∨ (roomP E (t :: r) x.needs.length 6 = .ok () ∧ e = .returned (.tuple #[]) ∧ w' = wb.drew))) := by
    refine hide (HRM.out.mono ?_)
    intro e w' hz
    cases hroom : roomP E (t :: r) x.needs.length 6 with
    | error f => rw [hroom] at hz; exact .inl ⟨f, rfl, hz.1, hz.2⟩
    | ok u => rw [hroom] at hz; exact .inr ⟨rfl, hz.1, hz.2⟩
  have HS2 : Hid (Calls Tryd.prog 56 #[.pointer (some ⟨R, 0, none⟩), .func (.func 58) #[.pointer (some ⟨R, 0, none⟩)] #[]] wb.drew.drew fun e w' => ((∃ f, q = .error f ∧ e = .panicked [{ v := flV f, recovered := false }] ∧ Only (· = R) wb.drew.drew w') ∨ (∃ (p : ByteArray × Int) (r' : List Tk), q = .ok (p, r') ∧ e = .returned (.agg #[.string p.1, .int .i64 0, .int .i64 (p.2 + 1)]) ∧ Rdr w' R E 0 B N r' ∧ Only (· = R) wb.drew.drew w'))) := by
    refine hide (HS.out.mono ?_)
    intro e w' hz
    cases q with
    | error f => exact .inl ⟨f, rfl, hz.1, hz.2⟩
    | ok pr =>
      obtain ⟨p, r'⟩ := pr
      obtain ⟨v, rfl, rfl, hr, ho⟩ := hz
      exact .inr ⟨p, r', rfl, rfl, hr, ho⟩
  clear HRM HS
  have KP : Hid (∀ w', Only (· = R) wb.drew.drew w' → w'.cell? ⟨w.heap.size, 0, none⟩ = some (.pointer (some ⟨R, 0, none⟩)) ∧ w'.cell? ⟨J, 18, none⟩ = some (.slice s.no x.needs.length s.nc)) := fun w' ho =>
    ⟨ho.cell (w := wb.drew.drew) bx (fun e => by change w.heap.size = _ at e; omega), ho.cell (w := wb.drew.drew) j18 (fun e => by change J = _ at e; omega)⟩
  have KJ : Hid (∀ w', Only (· = R) wb.drew.drew w' → JbAt b0 w' J x s) := fun w' ho => HJB.out.drew.drew.moved ho (fun b e => ⟨by omega, by omega⟩)
  have KS : Hid (∀ w', Only (· = R) wb.drew.drew w' → StM w' B S) := fun w' ho => (show StM wb.drew.drew B S from HSB.out).only ho HBR.out
  have KZ : Hid (∀ w', Only (· = R) wb.drew.drew w' → wb.heap.size ≤ w'.heap.size) := fun w' ho => ho.size
  have KROW : Hid (∀ w', Only (· = R) wb.drew.drew w' → ∀ ob, (w'.alloc ob).ownsRow b0 111 3 (.slice s.no x.needs.length s.nc) x.needs.length (nvRow x.needs)) := fun w' ho ob => own_sameK (KJ.out _ ho).needs (fun k hk => by have := (KJ.out _ ho).needs.lt k hk; rw [((Below.refl w'.heap.size w').alloc (Nat.le_refl _) ob).block k (by omega)])
  have KY : Hid (∀ w', Only (· = R) wb.drew.drew w' → ∀ w3 ob, (w'.alloc ob).grownBy w3 (jNeeds x s).ownBlock → w3.cell? ⟨J, 18, none⟩ = some (.slice s.no x.needs.length s.nc) ∧ w3.frozen? ⟨J, 18, none⟩ = false ∧ J < w3.heap.size) := fun w' ho w3 ob hg => by
    have hA : Only (fun k => (jNeeds x s).ownBlock = some k) w' w3 := (Only.alloc _ w' _).trans (Only.grown hg) (fun i _ hi => hi)
    have hn : ¬ (jNeeds x s).ownBlock = some J := fun e => by have := ((KJ.out _ ho).needs.lt J e).1; omega
    have hJw := block_lt (KJ.out _ ho).blk
    have hbJ := (hA.block J hJw hn).trans (KJ.out _ ho).blk
    exact ⟨by rw [cell_of hbJ]; rfl, frozen_of hbJ, block_lt hbJ⟩
  go_enter Tryd.func48, Tryd.ntmps48
  go_wp2_with fail
  rw [← hwb]
  clear hwb
  go_wp2_with fail
  refine HT.out.mono ?_
  rintro e w1 ⟨rfl, rfl⟩
  go_wp2_with fail
  go_region_law (go_simp; go_wp2_with (go_at_call 32; refine HRM2.out.mono ?_; intro e w2 hz; rcases hz with ⟨f, hq, rfl, ho⟩ | ⟨hq1, rfl, rfl⟩; (exact ⟨rfl, PT.bad (f := f) (by unfold moreP; rw [hq]) (HOB.out.trans (((Only.refl _ _).drew.trans ho (fun _ _ h => h)).mono (T := TJ R B J b0) (fun _ _ e => .inl e)) (fun _ _ h => h))⟩); have HQ1 := hide hq1; clear hq1))
  all_goals
    go_wp2_with fail
    go_region_law
      (first
        | (refine step_append_lies _ (by rfl) _ _ _ (by rfl) b0 111 i0 _ 3 32 Tryd.underlying46 hi0 hz0 hz1 hz2 rfl (by omega) (.slice s.no x.needs.length s.nc) x.needs.length (nvRow x.needs) (by rfl) (HROW.out _)
                ⟨w2.heap.size, 0, none⟩ 1 1 (nvC3 (p.1, (0, p.2 + 1))) (by rfl) (by rfl) (World.news_of_block (cs := (nvC3 (p.1, (0, p.2 + 1))).toArray) (t := 111) (fr := (0, 0)) (heap_alloc_new w2 _)) (nvC3_one (p.1, (0, p.2 + 1)))
                (by omega) (by unfold maxLen; omega) (by omega) (by simp; omega) (w2.heap.size + 1) (by simp) ?_; intro gg cap w3 hown3 hgrow hat hlt3; have hy3 := HY.out w3 _ hgrow; obtain ⟨y1, y2, y3⟩ := hy3)
        | (go_simp; go_wp2_with (go_at_call 56; refine HS2.out.mono ?_; intro e w2 hz; rcases hz with ⟨f, hq, rfl, ho⟩ | ⟨p, r', hq2, rfl, hr2, ho2⟩; (exact ⟨rfl, PT.bad (f := f) (by unfold moreP; rw [HQ1.out, hq]) (HOB.out.trans (((Only.refl _ _).drew.drew.trans ho (fun _ _ h => h)).mono (T := TJ R B J b0) (fun _ _ e => .inl e)) (fun _ _ h => h))⟩); have HQ2 := hide hq2; clear hq2; have HR2 := hide hr2; have HO2 := hide ho2; have hs2 := ho2.size; obtain ⟨k0, k1⟩ := KP.out _ ho2; have HJ2 := hide (KJ.out _ ho2); have hs22 := KZ.out _ ho2; have HROW := hide (KROW.out _ ho2); have hle2 := (KJ.out _ ho2).le; have hJ2 : J < w2.heap.size := (by omega); have hJ2n : ¬ J = w2.heap.size := (by omega); have HY := hide (KY.out _ ho2); clear hr2 ho2)))
    all_goals
      have HAD := hide (HJ2.out.addNeed (p.1, (0, p.2 + 1)) _ hown3 hgrow hat hlt3)
      have hA : Only (fun k => b0 ≤ k) w2 w3 := (Only.alloc _ w2 _).trans ((Only.grown hgrow).mono (fun i _ hi => (HJ2.out.needs.lt i hi).1)) (fun i _ hi => hi)
      have hB : Only (TJ R B J b0) w2 (w3.setCell ⟨J, 18, none⟩ (.slice (some ⟨gg, 0, none⟩) (x.needs.length + 1) cap)) := (hA.mono (fun _ _ e => .inr (.inr (.inr e)))).trans (Only.set w3 J 18 _) (fun _ _ e => .inr (.inr (.inl e)))
      have HB := hide hB
      have HR3 : Hid (Rdr (w3.setCell ⟨J, 18, none⟩ (.slice (some ⟨gg, 0, none⟩) (x.needs.length + 1) cap)) R E 0 B N r') := hide (HR2.out.only (((hA.mono (T := fun k => b0 ≤ k ∨ k = J) (fun _ _ e => .inl e)).trans (Only.set w3 J 18 _) (fun _ _ e => .inr e)).toBelow (by omega) (fun i e => by rcases e with e | e <;> omega)))
      have HS3 : Hid (StM (w3.setCell ⟨J, 18, none⟩ (.slice (some ⟨gg, 0, none⟩) (x.needs.length + 1) cap)) B S) := hide ((KS.out _ HO2.out).only ((hA.mono (T := fun k => b0 ≤ k ∨ k = J) (fun _ _ e => .inl e)).trans (Only.set w3 J 18 _) (fun _ _ e => .inr e)) (fun e => by rcases e with e | e <;> omega))
      have HO3 := hide ((HOB.out.trans (((Only.refl _ _).drew.drew.trans HO2.out (fun _ _ h => h)).mono (T := TJ R B J b0) (fun _ _ e => .inl e)) (fun _ _ h => h)).trans HB.out (fun _ _ h => h))
      clear hown3 hgrow hat hA hB
      go_wp2
      go_end0
      exact PT.good (by unfold moreP; rw [HQ1.out, HQ2.out]) ⟨_, HAD.out⟩ HS3.out HR3.out HO3.out
end Go.Proofs.YtkpgfhapffijkaaDoor
