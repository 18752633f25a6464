/- Package jdl: an item of a source: resource, lock. Written by gen_item2.py. -/
import Derived.Test.YtkpgfhapffijkaaDoorJ23
namespace Go.Proofs.YtkpgfhapffijkaaDoor
open Go.ChangeShapes Go.WideShapes Go.ChangeAt Go.RowKit Go.DsMem Go.DsLx Go.DsJd Go.DsMk
set_option linter.unusedVariables false
theorem infoRes : (Tryd.prog.info? 87).map (fun i => (i.zero, i.size, i.bytes)) = some (some (.agg #[.string ⟨#[]⟩, .int .i64 0, .bool false]), 3, 32) := by kernel_rfl
theorem rsC_one (p : Rs) : ∀ u ∈ rsC p, u.oneCell' = true := by
  intro u hu
  simp only [rsC, List.mem_cons, List.not_mem_nil, or_false] at hu
  rcases hu with rfl | rfl | rfl <;> rfl
theorem saidRes1 {w : World} {R : Nat} {E : Int} {B N : Nat} {t : Tk} {r : List Tk} (h : Rdr w R E 0 B N (t :: r)) :
    Calls Tryd.prog 35 #[.pointer (some ⟨R, 0, none⟩), .func (.func 36) #[.pointer (some ⟨R, 0, none⟩)] #[]] w (PE R E 0 B N (thenP E ⟨#[59]⟩ (twoP (nameP E) (numP E) r)) VRes w) := by
  refine saidRes h 36 #[.pointer (some ⟨R, 0, none⟩)] #[] (twoP (nameP E) (numP E)) VRes (cf_of Tryd.func36 (by decide +kernel) (by kernel_rfl)) ?_ ?_ ?_ (fun w h => resource_any h)
  · rintro wA a v w1 rfl
    exact ⟨_, _, _, rfl⟩
  · rintro wA a v w1 w2 hs rfl ho
    rfl
  · rintro wA wB a v w1 hs rfl
    rfl
theorem saidLock1 {w : World} {R : Nat} {E : Int} {B N : Nat} {t : Tk} {r : List Tk} (h : Rdr w R E 0 B N (t :: r)) :
    Calls Tryd.prog 35 #[.pointer (some ⟨R, 0, none⟩), .func (.func 37) #[.pointer (some ⟨R, 0, none⟩)] #[]] w (PE R E 0 B N (thenP E ⟨#[59]⟩ (nameP E r)) VLock w) := by
  refine saidRes h 37 #[.pointer (some ⟨R, 0, none⟩)] #[] (nameP E) VLock (cf_of Tryd.func37 (by decide +kernel) (by kernel_rfl)) ?_ ?_ ?_ (fun w h => lock_any h)
  · rintro wA a v w1 rfl
    exact ⟨_, _, _, rfl⟩
  · rintro wA a v w1 w2 hs rfl ho
    rfl
  · rintro wA wB a v w1 hs rfl
    rfl
set_option maxHeartbeats 8000000 in
set_option maxRecDepth 20000 in
theorem itemRes {w : World} {R X b0 : Nat} {E : Int} {B N : Nat} {t : Tk} {r : List Tk} (h : Rdr w R E 0 B N (t :: r)) (hc : t.text = wRes) {x : Srcp} {s : SSl} (hj : SrcAt b0 w X x s) (hNX : N ≤ X) (hBX : B < X) (S : List (Int × ByteArray)) (hs : StM w B S) :
    Calls Tryd.prog 22 #[.pointer (some ⟨R, 0, none⟩), .pointer (some ⟨X, 0, none⟩)] w (PI R E B N X b0 (moreS E S (t :: r) x.res.length 12 (fun p => { x with res := x.res ++ [(p.1, (p.2, false))] }) (thenP E ⟨#[59]⟩ (twoP (nameP E) (numP E) r))) w) := by
  obtain ⟨hN1, hN2⟩ := h.n
  have hlt := hj.lt
  have hle := hj.le
  have hmf : ∀ (fn : Fn) (first cap : Array Value) (w : World), (Instr.makeFunc fn first cap).run Tryd.prog w = .ok (.func fn first cap) w := fun _ _ _ _ => rfl
  obtain ⟨i0, hi0, hz0, hz1, hz2⟩ := info_parts infoRes
  have HBR : Hid (¬ B = R) := hide (fun e => by obtain ⟨es, clock, hm⟩ := hs.map; obtain ⟨uo, uc, o, h1, _⟩ := h; rw [e, h1] at hm; cases hm)
  have HT := hide (text_any h)
  simp only [textF] at HT
  rw [hc] at HT
  unfold wRes at HT
  have HRM := hide (room_any h x.res.length 12)
  have HS : Hid _ := hide (saidRes1 h.drew)
  have jc : w.cell? ⟨X, 3, none⟩ = some (.slice s.ro x.res.length s.rc) := (hj.cell 3).trans rfl
  have HX := hide hj
  have HSM := hide hs
  have hXs : X < w.heap.size := by omega
  obtain ⟨Q, hQ⟩ : ∃ Q, moreS E S (t :: r) x.res.length 12 (fun p => { x with res := x.res ++ [(p.1, (p.2, false))] }) (thenP E ⟨#[59]⟩ (twoP (nameP E) (numP E) r)) = Q := ⟨_, rfl⟩
  rw [hQ]
  unfold moreS at hQ
  have HQ := hide hQ
  clear h hj hs hc hQ
  generalize (thenP E ⟨#[59]⟩ (twoP (nameP E) (numP E) r)) = q at *
  have HRM2 : Hid (Calls Tryd.prog 32 #[.pointer (some ⟨R, 0, none⟩), .int .i64 x.res.length, .int .i64 12] w fun e w' => ((∃ f, roomP E (t :: r) x.res.length 12 = .error f ∧ e = .panicked [{ v := flV f, recovered := false }] ∧ Only (· = R) w w') ∨ (roomP E (t :: r) x.res.length 12 = .ok () ∧ x.res.length < 12 ∧ e = .returned (.tuple #[]) ∧ w' = w))) := by
    refine hide (HRM.out.mono ?_)
    intro e w' hz
    cases hroom : roomP E (t :: r) x.res.length 12 with
    | error f => rw [hroom] at hz; exact .inl ⟨f, rfl, hz.1, hz.2⟩
    | ok u => rw [hroom] at hz; exact .inr ⟨rfl, by unfold roomP at hroom; split at hroom; cases hroom; omega, hz.1, hz.2⟩
  have HS2 : Hid (Calls Tryd.prog 35 #[.pointer (some ⟨R, 0, none⟩), .func (.func 36) #[.pointer (some ⟨R, 0, none⟩)] #[]] w.drew fun e w' => ((∃ f, q = .error f ∧ e = .panicked [{ v := flV f, recovered := false }] ∧ Only (· = R) w.drew w') ∨ (∃ (p : ByteArray × Int) (r' : List Tk), q = .ok (p, r') ∧ e = .returned (.agg #[.string p.1, .int .i64 p.2, .bool false]) ∧ Rdr w' R E 0 B N r' ∧ Only (· = R) w.drew w'))) := by
    refine hide (HS.out.mono ?_)
    intro e w' hz
    cases q with
    | error f => exact .inl ⟨f, rfl, hz.1, hz.2⟩
    | ok pr =>
      obtain ⟨p, r'⟩ := pr
      obtain ⟨v, rfl, rfl, hr, ho⟩ := hz
      exact .inr ⟨p, r', rfl, rfl, hr, ho⟩
  clear HRM HS
  have KP : Hid (∀ w', Only ((· = R)) w.drew w' → w'.cell? ⟨X, 3, none⟩ = some (.slice s.ro x.res.length s.rc)) := fun w' ho => ho.cell (w := w.drew) jc (fun e => by (try simp only at e); omega)
  have KX : Hid (∀ w', Only ((· = R)) w.drew w' → SrcAt b0 w' X x s) := fun w' ho => HX.out.drew.moved ho (fun b e => by (try simp only at e); omega)
  have KZ : Hid (∀ w', Only ((· = R)) w.drew w' → w.heap.size ≤ w'.heap.size) := fun w' ho => ho.size
  have KROW : Hid (∀ w', Only ((· = R)) w.drew w' → ∀ ob, (w'.alloc ob).ownsRow b0 87 3 (.slice s.ro x.res.length s.rc) x.res.length (rsRow x.res)) := fun w' ho ob => own_sameK (KX.out _ ho).res (fun k hk => by have := (KX.out _ ho).res.lt k hk; rw [((Below.refl w'.heap.size w').alloc (Nat.le_refl _) ob).block k (by omega)])
  have KY : Hid (∀ w', Only ((· = R)) w.drew w' → ∀ w3 ob, (w'.alloc ob).grownBy w3 (sRes x s).ownBlock → w3.cell? ⟨X, 3, none⟩ = some (.slice s.ro x.res.length s.rc) ∧ w3.frozen? ⟨X, 3, none⟩ = false ∧ X < w3.heap.size) := fun w' ho w3 ob hg => by
    have hA : Only (fun k => (sRes x s).ownBlock = some k) w' w3 := (Only.alloc _ w' _).trans (Only.grown hg) (fun i _ hi => hi)
    have hn : ¬ (sRes x s).ownBlock = some X := fun e => by have := ((KX.out _ ho).res.lt X e).1; omega
    have hXw := block_lt (KX.out _ ho).blk
    have hbX := (hA.block X hXw hn).trans (KX.out _ ho).blk
    exact ⟨by rw [cell_of hbX]; rfl, frozen_of hbX, block_lt hbX⟩
  go_enter Tryd.func22, Tryd.ntmps22
  go_wp2_with fail
  refine HT.out.mono ?_
  rintro e w1 ⟨rfl, hw⟩
  obtain rfl := hw.symm
  clear hw
  go_wp2_with fail
  refine HRM2.out.mono ?_
  intro e w2 hz
  rcases hz with ⟨f, hq, rfl, ho⟩ | ⟨hq1, hn48, rfl, hw⟩
  · have HO := hide (ho.mono (T := TJ R B X b0) (fun _ _ e => .inl e))
    rw [hq] at HQ
    clear ho
    go_wp2
    exact ⟨rfl, PI.bad HQ.out.symm HO.out⟩
  obtain rfl := hw.symm
  rw [hq1] at HQ
  clear hq1 hw
  go_wp2_with fail
  go_region_law
    (first
      | (refine step_append_lies _ (by rfl) _ _ _ (by rfl) b0 87 i0 _ 3 32 Tryd.underlying23 hi0 hz0 hz1 hz2 rfl (by omega) (.slice s.ro x.res.length s.rc) x.res.length (rsRow x.res) (by rfl) (HROW.out _)
              ⟨w2.heap.size, 0, none⟩ 1 1 (rsC (p.1, (p.2, false))) (by rfl) (by rfl) (World.news_of_block (cs := (rsC (p.1, (p.2, false))).toArray) (t := 87) (fr := (0, 0)) (heap_alloc_new w2 _)) (rsC_one (p.1, (p.2, false)))
              (by omega) (by unfold maxLen; omega) (by omega) (by simp; omega) (w2.heap.size + 1) (by simp) ?_; intro gg cap w3 hown3 hgrow hat hlt3; have hy3 := HY.out w3 _ hgrow; obtain ⟨y1, y2, y3⟩ := hy3)
      | (go_simp; go_wp2_with (go_at_call 35; refine HS2.out.mono ?_; intro e w2 hz; rcases hz with ⟨f, hq, rfl, ho⟩ | ⟨p, r', hq2, rfl, hr2, ho2⟩; (exact ⟨rfl, PI.bad (f := f) (by rw [← HQ.out, hq]) ((((Only.refl _ _).drew.trans ho (fun _ _ h => h)).mono (T := TJ R B X b0) (fun _ _ e => .inl e)))⟩); have HQ2 := hide hq2; clear hq2; have HR2 := hide hr2; have HO2 := hide ho2; have hs2 := ho2.size; have k0 := KP.out _ ho2; have HX2 := hide (KX.out _ ho2); have hs22 := KZ.out _ ho2; have HROW := hide (KROW.out _ ho2); have hle2 := (KX.out _ ho2).le; have hX2 : X < w2.heap.size := (by omega); have hX2n : ¬ X = w2.heap.size := (by omega); have HY := hide (KY.out _ ho2); clear hr2 ho2)))
  all_goals
    have HAD := hide (HX2.out.addRes (p.1, (p.2, false)) _ hown3 hgrow hat hlt3)
    have hA : Only (fun k => b0 ≤ k) w2 w3 := (Only.alloc _ w2 _).trans ((Only.grown hgrow).mono (fun i _ hi => (HX2.out.res.lt i hi).1)) (fun i _ hi => hi)
    have hB : Only (TJ R B X b0) w2 (w3.setCell ⟨X, 3, none⟩ (.slice (some ⟨gg, 0, none⟩) (x.res.length + 1) cap)) := (hA.mono (fun _ _ e => .inr (.inr (.inr e)))).trans (Only.set w3 X 3 _) (fun _ _ e => .inr (.inr (.inl e)))
    have HB := hide hB
    have HR3 : Hid (Rdr (w3.setCell ⟨X, 3, none⟩ (.slice (some ⟨gg, 0, none⟩) (x.res.length + 1) cap)) R E 0 B N r') := hide (HR2.out.only (((hA.mono (T := fun k => b0 ≤ k ∨ k = X) (fun _ _ e => .inl e)).trans (Only.set w3 X 3 _) (fun _ _ e => .inr e)).toBelow (by omega) (fun i e => by rcases e with e | e <;> omega)))
    have HS3 : Hid (StM (w3.setCell ⟨X, 3, none⟩ (.slice (some ⟨gg, 0, none⟩) (x.res.length + 1) cap)) B S) := hide (((show StM w.drew B S from HSM.out).only HO2.out HBR.out).only ((hA.mono (T := fun k => b0 ≤ k ∨ k = X) (fun _ _ e => .inl e)).trans (Only.set w3 X 3 _) (fun _ _ e => .inr e)) (fun e => by rcases e with e | e <;> omega))
    have HO3 := hide ((((Only.refl _ _).drew.trans HO2.out (fun _ _ h => h)).mono (T := TJ R B X b0) (fun _ _ e => .inl e)).trans HB.out (fun _ _ h => h))
    clear hown3 hgrow hat hA hB
    go_wp2
    go_end0
    exact PI.good (by rw [← HQ.out, HQ2.out]) ⟨_, HAD.out⟩ HS3.out HR3.out HO3.out
set_option maxHeartbeats 8000000 in
set_option maxRecDepth 20000 in
theorem itemLock {w : World} {R X b0 : Nat} {E : Int} {B N : Nat} {t : Tk} {r : List Tk} (h : Rdr w R E 0 B N (t :: r)) (hc : t.text = wLock) {x : Srcp} {s : SSl} (hj : SrcAt b0 w X x s) (hNX : N ≤ X) (hBX : B < X) (S : List (Int × ByteArray)) (hs : StM w B S) :
    Calls Tryd.prog 22 #[.pointer (some ⟨R, 0, none⟩), .pointer (some ⟨X, 0, none⟩)] w (PI R E B N X b0 (moreS E S (t :: r) x.res.length 12 (fun p => { x with res := x.res ++ [(p, (0, true))] }) (thenP E ⟨#[59]⟩ (nameP E r))) w) := by
  obtain ⟨hN1, hN2⟩ := h.n
  have hlt := hj.lt
  have hle := hj.le
  have hmf : ∀ (fn : Fn) (first cap : Array Value) (w : World), (Instr.makeFunc fn first cap).run Tryd.prog w = .ok (.func fn first cap) w := fun _ _ _ _ => rfl
  obtain ⟨i0, hi0, hz0, hz1, hz2⟩ := info_parts infoRes
  have HBR : Hid (¬ B = R) := hide (fun e => by obtain ⟨es, clock, hm⟩ := hs.map; obtain ⟨uo, uc, o, h1, _⟩ := h; rw [e, h1] at hm; cases hm)
  have HT := hide (text_any h)
  simp only [textF] at HT
  rw [hc] at HT
  unfold wLock at HT
  have HRM := hide (room_any h x.res.length 12)
  have HS : Hid _ := hide (saidLock1 h.drew)
  have jc : w.cell? ⟨X, 3, none⟩ = some (.slice s.ro x.res.length s.rc) := (hj.cell 3).trans rfl
  have HX := hide hj
  have HSM := hide hs
  have hXs : X < w.heap.size := by omega
  obtain ⟨Q, hQ⟩ : ∃ Q, moreS E S (t :: r) x.res.length 12 (fun p => { x with res := x.res ++ [(p, (0, true))] }) (thenP E ⟨#[59]⟩ (nameP E r)) = Q := ⟨_, rfl⟩
  rw [hQ]
  unfold moreS at hQ
  have HQ := hide hQ
  clear h hj hs hc hQ
  generalize (thenP E ⟨#[59]⟩ (nameP E r)) = q at *
  have HRM2 : Hid (Calls Tryd.prog 32 #[.pointer (some ⟨R, 0, none⟩), .int .i64 x.res.length, .int .i64 12] w fun e w' => ((∃ f, roomP E (t :: r) x.res.length 12 = .error f ∧ e = .panicked [{ v := flV f, recovered := false }] ∧ Only (· = R) w w') ∨ (roomP E (t :: r) x.res.length 12 = .ok () ∧ x.res.length < 12 ∧ e = .returned (.tuple #[]) ∧ w' = w))) := by
    refine hide (HRM.out.mono ?_)
    intro e w' hz
    cases hroom : roomP E (t :: r) x.res.length 12 with
    | error f => rw [hroom] at hz; exact .inl ⟨f, rfl, hz.1, hz.2⟩
    | ok u => rw [hroom] at hz; exact .inr ⟨rfl, by unfold roomP at hroom; split at hroom; cases hroom; omega, hz.1, hz.2⟩
  have HS2 : Hid (Calls Tryd.prog 35 #[.pointer (some ⟨R, 0, none⟩), .func (.func 37) #[.pointer (some ⟨R, 0, none⟩)] #[]] w.drew fun e w' => ((∃ f, q = .error f ∧ e = .panicked [{ v := flV f, recovered := false }] ∧ Only (· = R) w.drew w') ∨ (∃ (p : ByteArray) (r' : List Tk), q = .ok (p, r') ∧ e = .returned (.agg #[.string p, .int .i64 0, .bool true]) ∧ Rdr w' R E 0 B N r' ∧ Only (· = R) w.drew w'))) := by
    refine hide (HS.out.mono ?_)
    intro e w' hz
    cases q with
    | error f => exact .inl ⟨f, rfl, hz.1, hz.2⟩
    | ok pr =>
      obtain ⟨p, r'⟩ := pr
      obtain ⟨v, rfl, rfl, hr, ho⟩ := hz
      exact .inr ⟨p, r', rfl, rfl, hr, ho⟩
  clear HRM HS
  have KP : Hid (∀ w', Only ((· = R)) w.drew w' → w'.cell? ⟨X, 3, none⟩ = some (.slice s.ro x.res.length s.rc)) := fun w' ho => ho.cell (w := w.drew) jc (fun e => by (try simp only at e); omega)
  have KX : Hid (∀ w', Only ((· = R)) w.drew w' → SrcAt b0 w' X x s) := fun w' ho => HX.out.drew.moved ho (fun b e => by (try simp only at e); omega)
  have KZ : Hid (∀ w', Only ((· = R)) w.drew w' → w.heap.size ≤ w'.heap.size) := fun w' ho => ho.size
  have KROW : Hid (∀ w', Only ((· = R)) w.drew w' → ∀ ob, (w'.alloc ob).ownsRow b0 87 3 (.slice s.ro x.res.length s.rc) x.res.length (rsRow x.res)) := fun w' ho ob => own_sameK (KX.out _ ho).res (fun k hk => by have := (KX.out _ ho).res.lt k hk; rw [((Below.refl w'.heap.size w').alloc (Nat.le_refl _) ob).block k (by omega)])
  have KY : Hid (∀ w', Only ((· = R)) w.drew w' → ∀ w3 ob, (w'.alloc ob).grownBy w3 (sRes x s).ownBlock → w3.cell? ⟨X, 3, none⟩ = some (.slice s.ro x.res.length s.rc) ∧ w3.frozen? ⟨X, 3, none⟩ = false ∧ X < w3.heap.size) := fun w' ho w3 ob hg => by
    have hA : Only (fun k => (sRes x s).ownBlock = some k) w' w3 := (Only.alloc _ w' _).trans (Only.grown hg) (fun i _ hi => hi)
    have hn : ¬ (sRes x s).ownBlock = some X := fun e => by have := ((KX.out _ ho).res.lt X e).1; omega
    have hXw := block_lt (KX.out _ ho).blk
    have hbX := (hA.block X hXw hn).trans (KX.out _ ho).blk
    exact ⟨by rw [cell_of hbX]; rfl, frozen_of hbX, block_lt hbX⟩
  go_enter Tryd.func22, Tryd.ntmps22
  go_wp2_with fail
  refine HT.out.mono ?_
  rintro e w1 ⟨rfl, hw⟩
  obtain rfl := hw.symm
  clear hw
  go_wp2_with fail
  refine HRM2.out.mono ?_
  intro e w2 hz
  rcases hz with ⟨f, hq, rfl, ho⟩ | ⟨hq1, hn48, rfl, hw⟩
  · have HO := hide (ho.mono (T := TJ R B X b0) (fun _ _ e => .inl e))
    rw [hq] at HQ
    clear ho
    go_wp2
    exact ⟨rfl, PI.bad HQ.out.symm HO.out⟩
  obtain rfl := hw.symm
  rw [hq1] at HQ
  clear hq1 hw
  go_wp2_with fail
  go_region_law
    (first
      | (refine step_append_lies _ (by rfl) _ _ _ (by rfl) b0 87 i0 _ 3 32 Tryd.underlying23 hi0 hz0 hz1 hz2 rfl (by omega) (.slice s.ro x.res.length s.rc) x.res.length (rsRow x.res) (by rfl) (HROW.out _)
              ⟨w2.heap.size, 0, none⟩ 1 1 (rsC (p, (0, true))) (by rfl) (by rfl) (World.news_of_block (cs := (rsC (p, (0, true))).toArray) (t := 87) (fr := (0, 0)) (heap_alloc_new w2 _)) (rsC_one (p, (0, true)))
              (by omega) (by unfold maxLen; omega) (by omega) (by simp; omega) (w2.heap.size + 1) (by simp) ?_; intro gg cap w3 hown3 hgrow hat hlt3; have hy3 := HY.out w3 _ hgrow; obtain ⟨y1, y2, y3⟩ := hy3)
      | (go_simp; go_wp2_with (go_at_call 35; refine HS2.out.mono ?_; intro e w2 hz; rcases hz with ⟨f, hq, rfl, ho⟩ | ⟨p, r', hq2, rfl, hr2, ho2⟩; (exact ⟨rfl, PI.bad (f := f) (by rw [← HQ.out, hq]) ((((Only.refl _ _).drew.trans ho (fun _ _ h => h)).mono (T := TJ R B X b0) (fun _ _ e => .inl e)))⟩); have HQ2 := hide hq2; clear hq2; have HR2 := hide hr2; have HO2 := hide ho2; have hs2 := ho2.size; have k0 := KP.out _ ho2; have HX2 := hide (KX.out _ ho2); have hs22 := KZ.out _ ho2; have HROW := hide (KROW.out _ ho2); have hle2 := (KX.out _ ho2).le; have hX2 : X < w2.heap.size := (by omega); have hX2n : ¬ X = w2.heap.size := (by omega); have HY := hide (KY.out _ ho2); clear hr2 ho2)))
  all_goals
    have HAD := hide (HX2.out.addRes (p, (0, true)) _ hown3 hgrow hat hlt3)
    have hA : Only (fun k => b0 ≤ k) w2 w3 := (Only.alloc _ w2 _).trans ((Only.grown hgrow).mono (fun i _ hi => (HX2.out.res.lt i hi).1)) (fun i _ hi => hi)
    have hB : Only (TJ R B X b0) w2 (w3.setCell ⟨X, 3, none⟩ (.slice (some ⟨gg, 0, none⟩) (x.res.length + 1) cap)) := (hA.mono (fun _ _ e => .inr (.inr (.inr e)))).trans (Only.set w3 X 3 _) (fun _ _ e => .inr (.inr (.inl e)))
    have HB := hide hB
    have HR3 : Hid (Rdr (w3.setCell ⟨X, 3, none⟩ (.slice (some ⟨gg, 0, none⟩) (x.res.length + 1) cap)) R E 0 B N r') := hide (HR2.out.only (((hA.mono (T := fun k => b0 ≤ k ∨ k = X) (fun _ _ e => .inl e)).trans (Only.set w3 X 3 _) (fun _ _ e => .inr e)).toBelow (by omega) (fun i e => by rcases e with e | e <;> omega)))
    have HS3 : Hid (StM (w3.setCell ⟨X, 3, none⟩ (.slice (some ⟨gg, 0, none⟩) (x.res.length + 1) cap)) B S) := hide (((show StM w.drew B S from HSM.out).only HO2.out HBR.out).only ((hA.mono (T := fun k => b0 ≤ k ∨ k = X) (fun _ _ e => .inl e)).trans (Only.set w3 X 3 _) (fun _ _ e => .inr e)) (fun e => by rcases e with e | e <;> omega))
    have HO3 := hide ((((Only.refl _ _).drew.trans HO2.out (fun _ _ h => h)).mono (T := TJ R B X b0) (fun _ _ e => .inl e)).trans HB.out (fun _ _ h => h))
    clear hown3 hgrow hat hA hB
    go_wp2
    go_end0
    exact PI.good (by rw [← HQ.out, HQ2.out]) ⟨_, HAD.out⟩ HS3.out HR3.out HO3.out
end Go.Proofs.YtkpgfhapffijkaaDoor
