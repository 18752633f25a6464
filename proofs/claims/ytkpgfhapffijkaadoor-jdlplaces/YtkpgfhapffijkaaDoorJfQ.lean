/- Package jdl: a job, walked. -/
import Derived.Test.YtkpgfhapffijkaaDoorJ21
import Derived.Deep.LoopGhost
import Derived.Laws.Tables
namespace Go.Proofs.YtkpgfhapffijkaaDoor
open Go.ChangeShapes Go.WideShapes Go.ChangeAt Go.RowKit Go.DsMem Go.DsLx Go.DsJd Go.DsMk
set_option linter.unusedVariables false
theorem setRow_alloc (w : World) (old cs : Array Value) (t : TypeId) (fr : Nat × Nat) : (w.alloc (.cells old t fr)).setRow w.heap.size cs = w.alloc (.cells cs t fr) := by
  unfold World.setRow World.alloc
  simp only
  congr 1
  apply Array.ext
  · simp
  · intro i h1 h2
    simp only [Array.getElem_modify, Array.getElem_push]
    by_cases e : w.heap.size = i
    · subst e; simp
    · have : i < w.heap.size := by simp at h2; omega
      simp [e, this]
theorem Only.setRow (w : World) (g : Nat) (cs : Array Value) : Only (· = g) w (w.setRow g cs) := by
  refine ⟨rfl, rfl, rfl, by simp [World.setRow], fun i hi hne => ?_⟩
  unfold World.setRow
  simp only
  rw [Array.getElem?_modify]
  have hgi : ¬ g = i := fun e => hne e.symm
  simp [hgi]
theorem heap_setRow {w : World} {g : Nat} {old : Array Value} {t : TypeId} {fr : Nat × Nat} (h : w.heap[g]? = some (.cells old t fr)) (cs : Array Value) : (w.setRow g cs).heap[g]? = some (.cells cs t fr) := by
  unfold World.setRow
  simp only
  rw [Array.getElem?_modify]
  simp [h]
/-- what stands behind a job's name -/
noncomputable def jobT (E : Int) (k : Int) (S : List (Int × ByteArray)) (n : ByteArray) (q : Except Fl (List Tk)) : Except Fl ((Jb × List (Int × ByteArray)) × List Tk) := match q with | .error f => .error f | .ok r1 => partsP E k (r1.length + 1) S (jb0 n) r1
/-- how job ends -/
def PJ (R : Nat) (E : Int) (B N : Nat) (q : Except Fl ((Jb × List (Int × ByteArray)) × List Tk)) (w : World) : Ending → World → Prop :=
  Ends q (fun w' => Only (fun i => i = R ∨ i = B) w w') fun p e w' => ∃ v, e = .returned v ∧ VJ w p.1.1 v w' ∧ StM w' B p.1.2 ∧ Rdr w' R E 0 B N p.2 ∧ Only (fun i => i = R ∨ i = B) w w'
theorem PJ.bad {w w' : World} {R : Nat} {E : Int} {B N : Nat} {q : Except Fl ((Jb × List (Int × ByteArray)) × List Tk)} {f : Fl} (hq : q = .error f) (ho : Only (fun i => i = R ∨ i = B) w w') : PJ R E B N q w (.panicked [{ v := flV f, recovered := false }]) w' := by
  subst hq
  exact ⟨rfl, ho⟩
theorem PJ.good {w w' : World} {R : Nat} {E : Int} {B N : Nat} {q : Except Fl ((Jb × List (Int × ByteArray)) × List Tk)} {x : Jb} {S : List (Int × ByteArray)} {r : List Tk} {v : Value} (hq : q = .ok ((x, S), r)) (hj : VJ w x v w') (hs : StM w' B S) (hr : Rdr w' R E 0 B N r) (ho : Only (fun i => i = R ∨ i = B) w w') : PJ R E B N q w (.returned v) w' := by
  subst hq
  exact ⟨v, rfl, hj, hs, hr, ho⟩
/-- a job in memory is a job as a value -/
theorem JbAt.val {b0 J : Nat} {w w' : World} {x : Jb} {s : JSl} (h : JbAt b0 w' J x s) (hb : w.heap.size ≤ b0) (h8 : x.outs.length ≤ 8) (h6 : x.needs.length ≤ 6) : VJ w x (.agg (jC x s)) w' := by
  have h1 : ∀ b, JR b0 w' x s b → (w.heap.size ≤ b ∧ b < w'.heap.size) := fun b hb' => ⟨Nat.le_trans hb hb'.1, hb'.2.1⟩
  exact ⟨s, rfl, h.days.mono h1 (fun _ _ _ hc => hc), h.work.mono h1 (fun _ _ _ hc => hc), h.inn.mono h1 (fun _ _ _ hc => hc), own_baseK h.outs hb, own_baseK h.needs hb, h8, h6⟩
set_option maxHeartbeats 8000000 in
set_option maxRecDepth 20000 in
/-- (*jdl.reader).job -/
theorem job_any {w : World} {R : Nat} {E : Int} {B N : Nat} {t : Tk} {r : List Tk} (h : Rdr w R E 0 B N (t :: r)) (hG : Few9 r) (hW : FitW r) (k : Int) (hk0 : 0 ≤ k) (hk1 : k ≤ 1000) (S : List (Int × ByteArray)) (hs : StM w B S) (hS : S.length + r.length ≤ 100000) :
    Calls Tryd.prog 38 #[.pointer (some ⟨R, 0, none⟩), .int .i64 k] w (PJ R E B N (jobP E k S (t :: r)) w) := by
  obtain ⟨hN1, hN2⟩ := h.n
  have hBw := hs.lt
  have HBR : Hid (¬ B = R) := hide (fun e => by obtain ⟨es, clock, hm⟩ := hs.map; obtain ⟨uo, uc, o, h1, _⟩ := h; rw [e, h1] at hm; cases hm)
  obtain ⟨wA, hwA⟩ : ∃ wA, wA = w.alloc (.cells #[.string ⟨#[]⟩, .int .i64 0, .slice none 0 0, .slice none 0 0, .string ⟨#[]⟩, .bool false, .int .i64 0, .int .i64 0, .slice none 0 0, .slice none 0 0, .string ⟨#[]⟩, .int .i64 0, .int .i64 0, .int .i64 0, .string ⟨#[]⟩, .int .i64 0, .slice none 0 0, .slice none 0 0, .slice none 0 0, .int .i64 0, .int .i64 0, .int .i64 0, .int .i64 0, .int .i64 0] 48) := ⟨_, rfl⟩
  have hOA : Only (fun _ => False) w wA := by rw [hwA]; exact Only.alloc _ _ _
  have hresA : wA.heap[w.heap.size]? = some (.cells #[.string ⟨#[]⟩, .int .i64 0, .slice none 0 0, .slice none 0 0, .string ⟨#[]⟩, .bool false, .int .i64 0, .int .i64 0, .slice none 0 0, .slice none 0 0, .string ⟨#[]⟩, .int .i64 0, .int .i64 0, .int .i64 0, .string ⟨#[]⟩, .int .i64 0, .slice none 0 0, .slice none 0 0, .slice none 0 0, .int .i64 0, .int .i64 0, .int .i64 0, .int .i64 0, .int .i64 0] 48 (0, 0)) := by rw [hwA]; exact heap_alloc_new w _
  have hsA : wA.heap.size = w.heap.size + 1 := by rw [hwA]; simp
  have hrA : Rdr wA R E 0 B N (t :: r) := by rw [hwA]; exact h.below (below_new4 _)
  have hsmA : StM wA B S := by rw [hwA]; exact hs.below ((Below.refl _ _).alloc (Nat.le_refl _) _)
  have HSK := hide (skip_any hrA)
  have HRES := hide hresA
  have HSM := hide hsmA
  have HOA := hide (hOA.mono (T := fun i => i = R ∨ i = B) (fun _ _ e => e.elim))
  have HG := hide hG
  have HW := hide hW
  have HNM := hide (fun (w : World) (h : Rdr w R E 0 B N r) => name_any h)
  have HMU := hide (fun (w : World) (r : List Tk) (h : Rdr w R E 0 B N r) => must_any ⟨#[123]⟩ h (by decide))
  clear h hG hW hs hresA hrA hsmA hOA
  obtain ⟨Q, hQ⟩ : ∃ Q, jobP E k S (t :: r) = Q := ⟨_, rfl⟩
  rw [hQ]
  unfold jobP at hQ
  simp only [List.tail_cons] at hQ
  have HQ := hide hQ
  clear hQ
  have HNS : Hid (∀ n r1, nameP E r = .ok (n, r1) → r1 <:+ r) := hide (fun n r1 h => nameP_suf h)
  unfold PE Ends at HNM
  generalize nameP E r = qn at *
  go_enter Tryd.func38, Tryd.ntmps38
  go_wp2_with fail
  rw [← hwA]
  refine HSK.out.mono ?_
  rintro e w1 ⟨rfl, hr1, ho1⟩
  have hs1 := ho1.size
  have HR1 := hide hr1
  have HO1 := hide (HOA.out.trans (ho1.mono (T := fun i => i = R ∨ i = B) (fun _ _ e => .inl e)) (fun _ _ h => h))
  have HRES1 := hide (heap_only HRES.out ho1 (by omega))
  have HSM1 := hide (HSM.out.only ho1 HBR.out)
  clear hr1 ho1 hwA
  go_wp2_with fail
  refine (HNM.out w1 HR1.out).mono ?_
  intro e w2 hz
  cases qn with
  | error f =>
    obtain ⟨rfl, ho2⟩ := hz
    have HO2 := hide (HO1.out.trans (ho2.mono (T := fun i => i = R ∨ i = B) (fun _ _ e => .inl e)) (fun _ _ h => h))
    clear ho2
    go_wp2
    exact ⟨rfl, PJ.bad HQ.out.symm HO2.out⟩
  | ok pn =>
    obtain ⟨n, r1⟩ := pn
    obtain ⟨v, rfl, rfl, hr2, ho2⟩ := hz
    have hsuf := HNS.out n r1 rfl
    have HSUF := hide hsuf
    have hs2 := ho2.size
    have hlen := hsuf.length_le
    have HLEN := hide hlen
    have HR2 := hide hr2
    have HO2 := hide (HO1.out.trans (ho2.mono (T := fun i => i = R ∨ i = B) (fun _ _ e => .inl e)) (fun _ _ h => h))
    have HRES2 := hide (heap_only HRES1.out ho2 (by omega))
    have HSM2 := hide (HSM1.out.only ho2 HBR.out)
    clear hr2 ho2 hsuf hlen
    obtain ⟨w3, hw3⟩ : ∃ w3, w3 = w2.alloc (.cells #[.string n, .int .i64 0, .slice none 0 0, .slice none 0 0, .string ⟨#[]⟩, .bool false, .int .i64 0, .int .i64 0, .slice none 0 0, .slice none 0 0, .string ⟨#[]⟩, .int .i64 0, .int .i64 1439, .int .i64 0, .string ⟨#[]⟩, .int .i64 0, .slice none 0 0, .slice none 0 0, .slice none 0 0, .int .i64 0, .int .i64 0, .int .i64 0, .int .i64 1, .int .i64 0] 48) := ⟨_, rfl⟩
    have ho3 : Only (fun _ => False) w2 w3 := by rw [hw3]; exact Only.alloc _ _ _
    have hs3 : w3.heap.size = w2.heap.size + 1 := by rw [hw3]; simp
    have hj3 : w3.heap[w2.heap.size]? = some (.cells #[.string n, .int .i64 0, .slice none 0 0, .slice none 0 0, .string ⟨#[]⟩, .bool false, .int .i64 0, .int .i64 0, .slice none 0 0, .slice none 0 0, .string ⟨#[]⟩, .int .i64 0, .int .i64 1439, .int .i64 0, .string ⟨#[]⟩, .int .i64 0, .slice none 0 0, .slice none 0 0, .slice none 0 0, .int .i64 0, .int .i64 0, .int .i64 0, .int .i64 1, .int .i64 0] 48 (0, 0)) := by rw [hw3]; exact heap_alloc_new w2 _
    have HJ3 : Hid (JbAt (w2.heap.size + 1) w3 w2.heap.size (jb0 n) js0) := hide (jb0_at n hj3 (by omega) (by omega))
    have HR3 : Hid (Rdr w3 R E 0 B N r1) := by rw [hw3]; exact HR2.out.below (below_new4 _)
    have HO3 := hide (HO2.out.trans (ho3.mono (T := fun i => i = R ∨ i = B) (fun _ _ e => e.elim)) (fun _ _ h => h))
    have HP3 : Hid (w3.heap[w.heap.size]? = some (.cells #[.string ⟨#[]⟩, .int .i64 0, .slice none 0 0, .slice none 0 0, .string ⟨#[]⟩, .bool false, .int .i64 0, .int .i64 0, .slice none 0 0, .slice none 0 0, .string ⟨#[]⟩, .int .i64 0, .int .i64 0, .int .i64 0, .string ⟨#[]⟩, .int .i64 0, .slice none 0 0, .slice none 0 0, .slice none 0 0, .int .i64 0, .int .i64 0, .int .i64 0, .int .i64 0, .int .i64 0] 48 (0, 0))) := hide ((ho3.block _ (by omega) (fun e => e)).trans HRES2.out)
    have HSM3 := hide (HSM2.out.only ho3 (fun e => e))
    clear ho3 hj3
    obtain ⟨qm, hqm⟩ : ∃ qm, mustP E ⟨#[123]⟩ r1 = qm := ⟨_, rfl⟩
    have HM := hide (HMU.out w3 r1 HR3.out)
    rw [hqm] at HM
    have HQ3 : Hid (jobT E k S n qm = Q) := hide (by rw [← HQ.out, ← hqm]; rfl)
    have HMS : Hid (∀ r2, qm = .ok r2 → r2 <:+ r1) := hide (fun r2 h => mustP_suf (hqm.trans h))
    clear hqm HMU HQ
    dsimp only
    refine (by assumption : ∀ (a : Act) (w : World), wpList Tryd.prog _ _ _ a w → _) _ _ ?_
    refine wpList_build rfl 48 _ rfl (by kernel_rfl) ?_
    generalize hX : (Tryd.prog.built 48 _).getD #[] = X
    obtain rfl : X = #[.string n, .int .i64 0, .slice none 0 0, .slice none 0 0, .string ⟨#[]⟩, .bool false, .int .i64 0, .int .i64 0, .slice none 0 0, .slice none 0 0, .string ⟨#[]⟩, .int .i64 0, .int .i64 1439, .int .i64 0, .string ⟨#[]⟩, .int .i64 0, .slice none 0 0, .slice none 0 0, .slice none 0 0, .int .i64 0, .int .i64 0, .int .i64 0, .int .i64 1, .int .i64 0] := by rw [← hX]; kernel_rfl
    clear hX
    refine wpList_plain rfl (fun K hK => ?_)
    go_simp
    refine hK _ _ ?_
    refine wpList_store_row rfl 48 _ _ rfl w2.heap.size #[.string n, .int .i64 0, .slice none 0 0, .slice none 0 0, .string ⟨#[]⟩, .bool false, .int .i64 0, .int .i64 0, .slice none 0 0, .slice none 0 0, .string ⟨#[]⟩, .int .i64 0, .int .i64 1439, .int .i64 0, .string ⟨#[]⟩, .int .i64 0, .slice none 0 0, .slice none 0 0, .slice none 0 0, .int .i64 0, .int .i64 0, .int .i64 0, .int .i64 1, .int .i64 0] rfl rfl 48 #[.string ⟨#[]⟩, .int .i64 0, .slice none 0 0, .slice none 0 0, .string ⟨#[]⟩, .bool false, .int .i64 0, .int .i64 0, .slice none 0 0, .slice none 0 0, .string ⟨#[]⟩, .int .i64 0, .int .i64 0, .int .i64 0, .string ⟨#[]⟩, .int .i64 0, .slice none 0 0, .slice none 0 0, .slice none 0 0, .int .i64 0, .int .i64 0, .int .i64 0, .int .i64 0, .int .i64 0] (heap_alloc_new w2 _) (by kernel_rfl) (by kernel_rfl) (by kernel_rfl) ?_
    rw [setRow_alloc]
    rw [← hw3]
    clear hw3 hK K
    go_wp2_with fail
    refine HM.out.mono ?_
    intro e w4 hz
    cases qm with
    | error f =>
      obtain ⟨rfl, ho4⟩ := hz
      have HO4 := hide (HO3.out.trans (ho4.mono (T := fun i => i = R ∨ i = B) (fun _ _ e => .inl e)) (fun _ _ h => h))
      clear ho4
      go_wp2
      exact ⟨rfl, PJ.bad HQ3.out.symm HO4.out⟩
    | ok r2 =>
      obtain ⟨rfl, hr4, ho4⟩ := hz
      have hsuf2 := HMS.out r2 rfl
      have hs4 := ho4.size
      have HJ4 := hide (HJ3.out.moved ho4 (fun b e => ⟨by omega, by omega⟩))
      have HR4 := hide hr4
      have HO4 := hide (HO3.out.trans (ho4.mono (T := fun i => i = R ∨ i = B) (fun _ _ e => .inl e)) (fun _ _ h => h))
      have HP4 := hide (heap_only HP3.out ho4 (by omega))
      have HSM4 := hide (HSM3.out.only ho4 HBR.out)
      have hlen2 := hsuf2.length_le
      have hG2 := HG.out.suf (hsuf2.trans HSUF.out)
      have hW2 := HW.out.suf (hsuf2.trans HSUF.out)
      have HG2 := hide hG2
      have HW2 := hide hW2
      have hlen := HLEN.out
      have HL2 : Hid (S.length + r2.length ≤ 100000) := hide (by omega)
      obtain ⟨J, hJ⟩ : ∃ J, J = w2.heap.size := ⟨_, rfl⟩
      rw [← hJ] at HJ4
      have hJ1 : w.heap.size + 1 ≤ J := by omega
      go_wp2_with fail
      rw [← hJ]
      have hNJ : N ≤ J := by omega
      have hJ4 : J < w4.heap.size := by omega
      clear hr4 ho4 hsuf2 hlen2 hlen hG2 hW2 HM HMS HNM HNS HSUF HLEN HG HW HJ3 HR3 HO3 HP3 HSM3 HRES2 HSM2 HR2 HO2 hJ
      go_loopg [] (r2.length + 1) (fun g wr => ∃ (x : Jb) (s : JSl) (S' : List (Int × ByteArray)) (us : List Tk), us.length < g ∧ partsP E k g S' x us = Q ∧ x.outs.length ≤ 8 ∧ x.needs.length ≤ 6 ∧ S'.length + us.length ≤ 100000 ∧ Few9 us ∧ FitW us ∧ JbAt (J + 1) wr J x s ∧ StM wr B S' ∧ Rdr wr R E 0 B N us ∧ Only (fun i => i = R ∨ i = B) w wr ∧ wr.heap[w.heap.size]? = some (.cells #[.string ⟨#[]⟩, .int .i64 0, .slice none 0 0, .slice none 0 0, .string ⟨#[]⟩, .bool false, .int .i64 0, .int .i64 0, .slice none 0 0, .slice none 0 0, .string ⟨#[]⟩, .int .i64 0, .int .i64 0, .int .i64 0, .string ⟨#[]⟩, .int .i64 0, .slice none 0 0, .slice none 0 0, .slice none 0 0, .int .i64 0, .int .i64 0, .int .i64 0, .int .i64 0, .int .i64 0] 48 (0, 0)))
      case atStart => exact ⟨jb0 n, js0, S, r2, by omega, HQ3.out, Nat.zero_le _, Nat.zero_le _, HL2.out, HG2.out, HW2.out, HJ4.out, HSM4.out, HR4.out, HO4.out, HP4.out⟩
      case round =>
        obtain ⟨x, s, S', us, hg, hq, h8, h6, hL, hGu, hWu, hj, hsm, hrd, ho, hp⟩ := hrel
        obtain ⟨g', rfl⟩ : ∃ g', gk = g' + 1 := ⟨gk - 1, by omega⟩
        have HJ := hide hj
        have HSM := hide hsm
        have HR := hide hrd
        have HO := hide ho
        have HP := hide hp
        have HGU := hide hGu
        have HWU := hide hWu
        have hsw := ho.size
        clear hj hsm hrd ho hp hGu hWu
        by_cases hend : textF us = ⟨#[125]⟩
        · have hQ2 : Q = .ok ((x, S'), us.tail) := by rw [← hq]; unfold partsP; rw [if_pos hend]
          have HQ2 := hide hQ2
          clear hq hQ2
          cases us with
          | nil => exact absurd hend (by decide)
          | cons t2 r' =>
            simp only [textF] at hend
            have HTK := hide (take_yes HR.out)
            rw [hend] at HTK
            clear hend
            go_wp2_with fail
            refine HTK.out.mono ?_
            rintro e w5 ⟨rfl, hr5, ho5⟩
            have HJ5 := hide (HJ.out.moved ho5 (fun b e => ⟨by omega, by omega⟩))
            have HP5 := hide (heap_only HP.out ho5 (by omega))
            have HSM5 := hide (HSM.out.only ho5 HBR.out)
            have HR5 := hide hr5
            have HO5 := hide (HO.out.trans (ho5.mono (T := fun i => i = R ∨ i = B) (fun _ _ e => .inl e)) (fun _ _ h => h))
            clear hr5 ho5
            go_upto_region 6 with fail
            have hres : Tryd.f38.results = #[.cell 4 48] := by kernel_rfl
            refine wp_region_list ?_
            refine wpList_load_row rfl 48 (.tmp 5) rfl J rfl 48 (jC x s) (0, 0) _ HJ5.out.blk Tryd.underlying48 rfl (by kernel_rfl) ?_
            refine wpList_store_row rfl 48 (.tmp 4) (.tmp 19) rfl w.heap.size (jC x s) rfl rfl 48 _ HP5.out (by kernel_rfl) (by kernel_rfl) (by kernel_rfl) ?_
            go_wp2
            have hO6 := Only.setRow w5 w.heap.size (jC x s)
            have hs5 := HO5.out.size
            refine bodyPost_ret (v := .agg (jC x s)) (results_cell_row hres _ _ w.heap.size 48 (jC x s) (0, 0) _ rfl (heap_setRow HP5.out _) Tryd.underlying48 rfl (by kernel_rfl)) rfl ?_
            exact PJ.good HQ2.out ((HJ5.out.moved hO6 (fun b e => ⟨by omega, by omega⟩)).val (by omega) h8 h6) (HSM5.out.only hO6 (fun e => by omega)) (HR5.out.only (hO6.toBelow (by omega) (fun i e => by omega))) (HO5.out.trans hO6 (fun i hi e => absurd e (by omega)))
        · have hq2 : (match partP E k S' x us with | .error f => .error f | .ok (p, r) => partsP E k g' p.2 p.1 r) = Q := by rw [← hq, partsP, if_neg hend]; cases partP E k S' x us <;> rfl
          have HTK := hide (take_no HR.out hend)
          have HPA := hide (part_any HR.out HGU.out HJ.out hNJ (by omega) k S' HSM.out (HWU.out.fit hk0 hk1) (by omega) h8 h6)
          have HPS : Hid (∀ x' S'' r', partP E k S' x us = .ok ((x', S''), r') → r' <:+ us.tail ∧ us ≠ [] ∧ x'.outs.length ≤ 8 ∧ x'.needs.length ≤ 6 ∧ S''.length ≤ S'.length + 1) := hide (fun x' S'' r' h => partP_suf h h8 h6)
          unfold PT at HPA
          clear hq hend
          generalize partP E k S' x us = qp at *
          have HQ2 := hide hq2
          clear hq2
          go_wp2_with fail
          refine HTK.out.mono ?_
          rintro e w5 ⟨rfl, rfl⟩
          go_wp2_with fail
          refine HPA.out.mono ?_
          intro e w6 hz
          cases qp with
          | error f =>
            obtain ⟨rfl, ho6⟩ := hz
            have HO6 := hide (HO.out.trans ho6 (fun i hi e => by rcases e with e | e | e | e; exact .inl e; exact .inr e; omega; omega))
            clear ho6
            go_wp2
            exact ⟨rfl, PJ.bad HQ2.out.symm HO6.out⟩
          | ok pp =>
            obtain ⟨⟨x', S''⟩, r'⟩ := pp
            obtain ⟨rfl, ⟨s', hj6⟩, hsm6, hr6, ho6⟩ := hz
            obtain ⟨hp1, hp2, hp3, hp4, hp5⟩ := HPS.out x' S'' r' rfl
            have hlt : r'.length < us.length := by
              have := hp1.length_le
              cases us with
              | nil => exact absurd rfl hp2
              | cons a b => simp at this ⊢; omega
            have hsu : r' <:+ us := hp1.trans (List.tail_suffix _)
            have HO6 := hide (HO.out.trans ho6 (fun i hi e => by rcases e with e | e | e | e; exact .inl e; exact .inr e; omega; omega))
            have HP6 := hide ((ho6.block _ (block_lt HP.out) (by rintro (e | e | e | e) <;> omega)).trans HP.out)
            have HJ6 := hide hj6
            have HSM6 := hide hsm6
            have HR6 := hide hr6
            have HGU6 := hide (HGU.out.suf hsu)
            have HWU6 := hide (HWU.out.suf hsu)
            clear hj6 hsm6 hr6 ho6 hp1 hp2 hsu HPS HPA HTK
            go_wp2
            go_roundg g'
            case measure => omega
            case rel => exact ⟨x', s', S'', r', by omega, HQ2.out, hp3, hp4, by omega, HGU6.out, HWU6.out, HJ6.out, HSM6.out, HR6.out, HO6.out, HP6.out⟩
end Go.Proofs.YtkpgfhapffijkaaDoor
