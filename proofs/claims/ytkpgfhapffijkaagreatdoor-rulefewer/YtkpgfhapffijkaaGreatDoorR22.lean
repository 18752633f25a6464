/- Package jdl: a job, walked. -/
import Derived.Test.YtkpgfhapffijkaaGreatDoorR21
import Derived.Deep.LoopGhost
import Derived.Laws.Tables
import Derived.Deep.AppendLies
namespace Go.Proofs.YtkpgfhapffijkaaGreatDoor
open Go.ChangeShapes Go.WideShapes Go.ChangeAt Go.RowKit Go.DsMem Go.DsLx Go.DsJd Go.DsMk
set_option linter.unusedVariables false
theorem setRow_alloc (w : World) (old cs : Array Value) (t : TypeId) (fr : Nat × Nat) : (w.alloc (.cells old t fr)).setRow w.heap.size cs = w.alloc (.cells cs t fr) := by
  unfold World.setRow World.alloc
  simp only
  congr 1
  apply Array.ext
  · simp
  · intro i h1 h2
    simp only [Array.getElem_modify, Array.getElem_push]
    by_cases e : w.heap.size = i
    · subst e; simp
    · have : i < w.heap.size := by simp at h2; omega
      simp [e, this]
theorem Only.setRow (w : World) (g : Nat) (cs : Array Value) : Only (· = g) w (w.setRow g cs) := by
  refine ⟨rfl, rfl, rfl, by simp [World.setRow], fun i hi hne => ?_⟩
  unfold World.setRow
  simp only
  rw [Array.getElem?_modify]
  have hgi : ¬ g = i := fun e => hne e.symm
  simp [hgi]
theorem heap_setRow {w : World} {g : Nat} {old : Array Value} {t : TypeId} {fr : Nat × Nat} (h : w.heap[g]? = some (.cells old t fr)) (cs : Array Value) : (w.setRow g cs).heap[g]? = some (.cells cs t fr) := by
  unfold World.setRow
  simp only
  rw [Array.getElem?_modify]
  simp [h]
/-- what stands behind a job's name -/
noncomputable def jobT (E : Int) (k : Int) (S : List (Int × ByteArray)) (n : ByteArray) (q : Except Fl (List Tk)) : Except Fl ((Jb × List (Int × ByteArray)) × List Tk) := match q with | .error f => .error f | .ok r1 => partsP E k (r1.length + 1) S (jb0 n) r1
/-- how job ends -/
def PJ (R : Nat) (E : Int) (B N : Nat) (q : Except Fl ((Jb × List (Int × ByteArray)) × List Tk)) (w : World) : Ending → World → Prop :=
  Ends q (fun w' => Only (fun i => i = R ∨ i = B) w w') fun p e w' => ∃ v, e = .returned v ∧ VJ w p.1.1 v w' ∧ StM w' B p.1.2 ∧ Rdr w' R E 0 B N p.2 ∧ Only (fun i => i = R ∨ i = B) w w'
theorem PJ.bad {w w' : World} {R : Nat} {E : Int} {B N : Nat} {q : Except Fl ((Jb × List (Int × ByteArray)) × List Tk)} {f : Fl} (hq : q = .error f) (ho : Only (fun i => i = R ∨ i = B) w w') : PJ R E B N q w (.panicked [{ v := flV f, recovered := false }]) w' := by
  subst hq
  exact ⟨rfl, ho⟩
theorem PJ.good {w w' : World} {R : Nat} {E : Int} {B N : Nat} {q : Except Fl ((Jb × List (Int × ByteArray)) × List Tk)} {x : Jb} {S : List (Int × ByteArray)} {r : List Tk} {v : Value} (hq : q = .ok ((x, S), r)) (hj : VJ w x v w') (hs : StM w' B S) (hr : Rdr w' R E 0 B N r) (ho : Only (fun i => i = R ∨ i = B) w w') : PJ R E B N q w (.returned v) w' := by
  subst hq
  exact ⟨v, rfl, hj, hs, hr, ho⟩
/-- a job in memory is a job as a value -/
theorem JbAt.val {b0 J : Nat} {w w' : World} {x : Jb} {s : JSl} (h : JbAt b0 w' J x s) (hb : w.heap.size ≤ b0) (h8 : x.outs.length ≤ 8) (h6 : x.needs.length ≤ 6) : VJ w x (.agg (jC x s)) w' := by
  have h1 : ∀ b, JR b0 w' x s b → (w.heap.size ≤ b ∧ b < w'.heap.size) := fun b hb' => ⟨Nat.le_trans hb hb'.1, hb'.2.1⟩
  exact ⟨s, rfl, h.days.mono h1 (fun _ _ _ hc => hc), h.work.mono h1 (fun _ _ _ hc => hc), h.inn.mono h1 (fun _ _ _ hc => hc), own_baseK h.outs hb, own_baseK h.needs hb, h8, h6⟩
set_option maxHeartbeats 8000000 in
set_option maxRecDepth 20000 in
/-- (*jdl.reader).job -/
theorem job_any {w : World} {R : Nat} {E : Int} {B N : Nat} {t : Tk} {r : List Tk} (h : Rdr w R E 0 B N (t :: r)) (hG : Few9 r) (hW : FitW r) (k : Int) (hk0 : 0 ≤ k) (hk1 : k ≤ 1000) (S : List (Int × ByteArray)) (hs : StM w B S) (hS : S.length + r.length ≤ 100000) :
    Calls Tryz.prog 106 #[.pointer (some ⟨R, 0, none⟩), .int .i64 k] w (PJ R E B N (jobP E k S (t :: r)) w) := by
  obtain ⟨hN1, hN2⟩ := h.n
  have hBw := hs.lt
  have HBR : Hid (¬ B = R) := hide (fun e => by obtain ⟨es, clock, hm⟩ := hs.map; obtain ⟨uo, uc, o, h1, _⟩ := h; rw [e, h1] at hm; cases hm)
  obtain ⟨wA, hwA⟩ : ∃ wA, wA = w.alloc (.cells #[.string ⟨#[]⟩, .int .i64 0, .slice none 0 0, .slice none 0 0, .string ⟨#[]⟩, .bool false, .int .i64 0, .int .i64 0, .slice none 0 0, .slice none 0 0, .string ⟨#[]⟩, .int .i64 0, .int .i64 0, .int .i64 0, .string ⟨#[]⟩, .int .i64 0, .slice none 0 0, .slice none 0 0, .slice none 0 0, .int .i64 0, .int .i64 0, .int .i64 0, .int .i64 0, .int .i64 0] 56) := ⟨_, rfl⟩
  have hOA : Only (fun _ => False) w wA := by rw [hwA]; exact Only.alloc _ _ _
  have hresA : wA.heap[w.heap.size]? = some (.cells #[.string ⟨#[]⟩, .int .i64 0, .slice none 0 0, .slice none 0 0, .string ⟨#[]⟩, .bool false, .int .i64 0, .int .i64 0, .slice none 0 0, .slice none 0 0, .string ⟨#[]⟩, .int .i64 0, .int .i64 0, .int .i64 0, .string ⟨#[]⟩, .int .i64 0, .slice none 0 0, .slice none 0 0, .slice none 0 0, .int .i64 0, .int .i64 0, .int .i64 0, .int .i64 0, .int .i64 0] 56 (0, 0)) := by rw [hwA]; exact heap_alloc_new w _
  have hsA : wA.heap.size = w.heap.size + 1 := by rw [hwA]; simp
  have hrA : Rdr wA R E 0 B N (t :: r) := by rw [hwA]; exact h.below (below_new4 _)
  have hsmA : StM wA B S := by rw [hwA]; exact hs.below ((Below.refl _ _).alloc (Nat.le_refl _) _)
  have HSK := hide (skip_any hrA)
  have HRES := hide hresA
  have HSM := hide hsmA
  have HOA := hide (hOA.mono (T := fun i => i = R ∨ i = B) (fun _ _ e => e.elim))
  have HG := hide hG
  have HW := hide hW
  have HNM := hide (fun (w : World) (h : Rdr w R E 0 B N r) => name_any h)
  have HMU := hide (fun (w : World) (r : List Tk) (h : Rdr w R E 0 B N r) => must_any ⟨#[123]⟩ h (by decide))
  clear h hG hW hs hresA hrA hsmA hOA
  obtain ⟨Q, hQ⟩ : ∃ Q, jobP E k S (t :: r) = Q := ⟨_, rfl⟩
  rw [hQ]
  unfold jobP at hQ
  simp only [List.tail_cons] at hQ
  have HQ := hide hQ
  clear hQ
  have HNS : Hid (∀ n r1, nameP E r = .ok (n, r1) → r1 <:+ r) := hide (fun n r1 h => nameP_suf h)
  unfold PE Ends at HNM
  generalize nameP E r = qn at *
  go_enter Tryz.func106, Tryz.ntmps106
  go_wp2_with fail
  rw [← hwA]
  refine HSK.out.mono ?_
  rintro e w1 ⟨rfl, hr1, ho1⟩
  have hs1 := ho1.size
  have HR1 := hide hr1
  have HO1 := hide (HOA.out.trans (ho1.mono (T := fun i => i = R ∨ i = B) (fun _ _ e => .inl e)) (fun _ _ h => h))
  have HRES1 := hide (heap_only HRES.out ho1 (by omega))
  have HSM1 := hide (HSM.out.only ho1 HBR.out)
  clear hr1 ho1 hwA
  go_wp2_with fail
  refine (HNM.out w1 HR1.out).mono ?_
  intro e w2 hz
  cases qn with
  | error f =>
    obtain ⟨rfl, ho2⟩ := hz
    have HO2 := hide (HO1.out.trans (ho2.mono (T := fun i => i = R ∨ i = B) (fun _ _ e => .inl e)) (fun _ _ h => h))
    clear ho2
    go_wp2
    exact ⟨rfl, PJ.bad HQ.out.symm HO2.out⟩
  | ok pn =>
    obtain ⟨n, r1⟩ := pn
    obtain ⟨v, rfl, rfl, hr2, ho2⟩ := hz
    have hsuf := HNS.out n r1 rfl
    have HSUF := hide hsuf
    have hs2 := ho2.size
    have hlen := hsuf.length_le
    have HLEN := hide hlen
    have HR2 := hide hr2
    have HO2 := hide (HO1.out.trans (ho2.mono (T := fun i => i = R ∨ i = B) (fun _ _ e => .inl e)) (fun _ _ h => h))
    have HRES2 := hide (heap_only HRES1.out ho2 (by omega))
    have HSM2 := hide (HSM1.out.only ho2 HBR.out)
    clear hr2 ho2 hsuf hlen
    obtain ⟨w3, hw3⟩ : ∃ w3, w3 = w2.alloc (.cells #[.string n, .int .i64 0, .slice none 0 0, .slice none 0 0, .string ⟨#[]⟩, .bool false, .int .i64 0, .int .i64 0, .slice none 0 0, .slice none 0 0, .string ⟨#[]⟩, .int .i64 0, .int .i64 1439, .int .i64 0, .string ⟨#[]⟩, .int .i64 0, .slice none 0 0, .slice none 0 0, .slice none 0 0, .int .i64 0, .int .i64 0, .int .i64 0, .int .i64 1, .int .i64 0] 56) := ⟨_, rfl⟩
    have ho3 : Only (fun _ => False) w2 w3 := by rw [hw3]; exact Only.alloc _ _ _
    have hs3 : w3.heap.size = w2.heap.size + 1 := by rw [hw3]; simp
    have hj3 : w3.heap[w2.heap.size]? = some (.cells #[.string n, .int .i64 0, .slice none 0 0, .slice none 0 0, .string ⟨#[]⟩, .bool false, .int .i64 0, .int .i64 0, .slice none 0 0, .slice none 0 0, .string ⟨#[]⟩, .int .i64 0, .int .i64 1439, .int .i64 0, .string ⟨#[]⟩, .int .i64 0, .slice none 0 0, .slice none 0 0, .slice none 0 0, .int .i64 0, .int .i64 0, .int .i64 0, .int .i64 1, .int .i64 0] 56 (0, 0)) := by rw [hw3]; exact heap_alloc_new w2 _
    have HJ3 : Hid (JbAt (w2.heap.size + 1) w3 w2.heap.size (jb0 n) js0) := hide (jb0_at n hj3 (by omega) (by omega))
    have HR3 : Hid (Rdr w3 R E 0 B N r1) := by rw [hw3]; exact HR2.out.below (below_new4 _)
    have HO3 := hide (HO2.out.trans (ho3.mono (T := fun i => i = R ∨ i = B) (fun _ _ e => e.elim)) (fun _ _ h => h))
    have HP3 : Hid (w3.heap[w.heap.size]? = some (.cells #[.string ⟨#[]⟩, .int .i64 0, .slice none 0 0, .slice none 0 0, .string ⟨#[]⟩, .bool false, .int .i64 0, .int .i64 0, .slice none 0 0, .slice none 0 0, .string ⟨#[]⟩, .int .i64 0, .int .i64 0, .int .i64 0, .string ⟨#[]⟩, .int .i64 0, .slice none 0 0, .slice none 0 0, .slice none 0 0, .int .i64 0, .int .i64 0, .int .i64 0, .int .i64 0, .int .i64 0] 56 (0, 0))) := hide ((ho3.block _ (by omega) (fun e => e)).trans HRES2.out)
    have HSM3 := hide (HSM2.out.only ho3 (fun e => e))
    clear ho3 hj3
    obtain ⟨qm, hqm⟩ : ∃ qm, mustP E ⟨#[123]⟩ r1 = qm := ⟨_, rfl⟩
    have HM := hide (HMU.out w3 r1 HR3.out)
    rw [hqm] at HM
    have HQ3 : Hid (jobT E k S n qm = Q) := hide (by rw [← HQ.out, ← hqm]; rfl)
    have HMS : Hid (∀ r2, qm = .ok r2 → r2 <:+ r1) := hide (fun r2 h => mustP_suf (hqm.trans h))
    clear hqm HMU HQ
    dsimp only
    refine (by assumption : ∀ (a : Act) (w : World), wpList Tryz.prog _ _ _ a w → _) _ _ ?_
    refine wpList_build rfl 56 _ rfl (by kernel_rfl) ?_
    generalize hX : (Tryz.prog.built 56 _).getD #[] = X
    obtain rfl : X = #[.string n, .int .i64 0, .slice none 0 0, .slice none 0 0, .string ⟨#[]⟩, .bool false, .int .i64 0, .int .i64 0, .slice none 0 0, .slice none 0 0, .string ⟨#[]⟩, .int .i64 0, .int .i64 1439, .int .i64 0, .string ⟨#[]⟩, .int .i64 0, .slice none 0 0, .slice none 0 0, .slice none 0 0, .int .i64 0, .int .i64 0, .int .i64 0, .int .i64 1, .int .i64 0] := by rw [← hX]; kernel_rfl
    clear hX
    refine wpList_plain rfl (fun K hK => ?_)
    go_simp
    refine hK _ _ ?_
    refine wpList_store_row rfl 56 _ _ rfl w2.heap.size #[.string n, .int .i64 0, .slice none 0 0, .slice none 0 0, .string ⟨#[]⟩, .bool false, .int .i64 0, .int .i64 0, .slice none 0 0, .slice none 0 0, .string ⟨#[]⟩, .int .i64 0, .int .i64 1439, .int .i64 0, .string ⟨#[]⟩, .int .i64 0, .slice none 0 0, .slice none 0 0, .slice none 0 0, .int .i64 0, .int .i64 0, .int .i64 0, .int .i64 1, .int .i64 0] rfl rfl 56 #[.string ⟨#[]⟩, .int .i64 0, .slice none 0 0, .slice none 0 0, .string ⟨#[]⟩, .bool false, .int .i64 0, .int .i64 0, .slice none 0 0, .slice none 0 0, .string ⟨#[]⟩, .int .i64 0, .int .i64 0, .int .i64 0, .string ⟨#[]⟩, .int .i64 0, .slice none 0 0, .slice none 0 0, .slice none 0 0, .int .i64 0, .int .i64 0, .int .i64 0, .int .i64 0, .int .i64 0] (heap_alloc_new w2 _) (by kernel_rfl) (by kernel_rfl) (by kernel_rfl) ?_
    rw [setRow_alloc]
    rw [← hw3]
    clear hw3 hK K
    go_wp2_with fail
    refine HM.out.mono ?_
    intro e w4 hz
    cases qm with
    | error f =>
      obtain ⟨rfl, ho4⟩ := hz
      have HO4 := hide (HO3.out.trans (ho4.mono (T := fun i => i = R ∨ i = B) (fun _ _ e => .inl e)) (fun _ _ h => h))
      clear ho4
      go_wp2
      exact ⟨rfl, PJ.bad HQ3.out.symm HO4.out⟩
    | ok r2 =>
      obtain ⟨rfl, hr4, ho4⟩ := hz
      have hsuf2 := HMS.out r2 rfl
      have hs4 := ho4.size
      have HJ4 := hide (HJ3.out.moved ho4 (fun b e => ⟨by omega, by omega⟩))
      have HR4 := hide hr4
      have HO4 := hide (HO3.out.trans (ho4.mono (T := fun i => i = R ∨ i = B) (fun _ _ e => .inl e)) (fun _ _ h => h))
      have HP4 := hide (heap_only HP3.out ho4 (by omega))
      have HSM4 := hide (HSM3.out.only ho4 HBR.out)
      have hlen2 := hsuf2.length_le
      have hG2 := HG.out.suf (hsuf2.trans HSUF.out)
      have hW2 := HW.out.suf (hsuf2.trans HSUF.out)
      have HG2 := hide hG2
      have HW2 := hide hW2
      have hlen := HLEN.out
      have HL2 : Hid (S.length + r2.length ≤ 100000) := hide (by omega)
      obtain ⟨J, hJ⟩ : ∃ J, J = w2.heap.size := ⟨_, rfl⟩
      rw [← hJ] at HJ4
      have hJ1 : w.heap.size + 1 ≤ J := by omega
      go_wp2_with fail
      rw [← hJ]
      have hNJ : N ≤ J := by omega
      have hJ4 : J < w4.heap.size := by omega
      clear hr4 ho4 hsuf2 hlen2 hlen hG2 hW2 HM HMS HNM HNS HSUF HLEN HG HW HJ3 HR3 HO3 HP3 HSM3 HRES2 HSM2 HR2 HO2 hJ
      go_loopg [] (r2.length + 1) (fun g wr => ∃ (x : Jb) (s : JSl) (S' : List (Int × ByteArray)) (us : List Tk), us.length < g ∧ partsP E k g S' x us = Q ∧ x.outs.length ≤ 8 ∧ x.needs.length ≤ 6 ∧ S'.length + us.length ≤ 100000 ∧ Few9 us ∧ FitW us ∧ JbAt (J + 1) wr J x s ∧ StM wr B S' ∧ Rdr wr R E 0 B N us ∧ Only (fun i => i = R ∨ i = B) w wr ∧ wr.heap[w.heap.size]? = some (.cells #[.string ⟨#[]⟩, .int .i64 0, .slice none 0 0, .slice none 0 0, .string ⟨#[]⟩, .bool false, .int .i64 0, .int .i64 0, .slice none 0 0, .slice none 0 0, .string ⟨#[]⟩, .int .i64 0, .int .i64 0, .int .i64 0, .string ⟨#[]⟩, .int .i64 0, .slice none 0 0, .slice none 0 0, .slice none 0 0, .int .i64 0, .int .i64 0, .int .i64 0, .int .i64 0, .int .i64 0] 56 (0, 0)))
      case atStart => exact ⟨jb0 n, js0, S, r2, by omega, HQ3.out, Nat.zero_le _, Nat.zero_le _, HL2.out, HG2.out, HW2.out, HJ4.out, HSM4.out, HR4.out, HO4.out, HP4.out⟩
      case round =>
        obtain ⟨x, s, S', us, hg, hq, h8, h6, hL, hGu, hWu, hj, hsm, hrd, ho, hp⟩ := hrel
        obtain ⟨g', rfl⟩ : ∃ g', gk = g' + 1 := ⟨gk - 1, by omega⟩
        have HJ := hide hj
        have HSM := hide hsm
        have HR := hide hrd
        have HO := hide ho
        have HP := hide hp
        have HGU := hide hGu
        have HWU := hide hWu
        have hsw := ho.size
        clear hj hsm hrd ho hp hGu hWu
        by_cases hend : textF us = ⟨#[125]⟩
        · have hQ2 : Q = .ok ((x, S'), us.tail) := by rw [← hq]; unfold partsP; rw [if_pos hend]
          have HQ2 := hide hQ2
          clear hq hQ2
          cases us with
          | nil => exact absurd hend (by decide)
          | cons t2 r' =>
            simp only [textF] at hend
            have HTK := hide (take_yes HR.out)
            rw [hend] at HTK
            clear hend
            go_wp2_with fail
            refine HTK.out.mono ?_
            rintro e w5 ⟨rfl, hr5, ho5⟩
            have HJ5 := hide (HJ.out.moved ho5 (fun b e => ⟨by omega, by omega⟩))
            have HP5 := hide (heap_only HP.out ho5 (by omega))
            have HSM5 := hide (HSM.out.only ho5 HBR.out)
            have HR5 := hide hr5
            have HO5 := hide (HO.out.trans (ho5.mono (T := fun i => i = R ∨ i = B) (fun _ _ e => .inl e)) (fun _ _ h => h))
            clear hr5 ho5
            go_upto_region 6 with fail
            have hres : Tryz.f106.results = #[.cell 4 56] := by kernel_rfl
            refine wp_region_list ?_
            refine wpList_load_row rfl 56 (.tmp 5) rfl J rfl 56 (jC x s) (0, 0) _ HJ5.out.blk Tryz.underlying56 rfl (by kernel_rfl) ?_
            refine wpList_store_row rfl 56 (.tmp 4) (.tmp 19) rfl w.heap.size (jC x s) rfl rfl 56 _ HP5.out (by kernel_rfl) (by kernel_rfl) (by kernel_rfl) ?_
            go_wp2
            have hO6 := Only.setRow w5 w.heap.size (jC x s)
            have hs5 := HO5.out.size
            refine bodyPost_ret (v := .agg (jC x s)) (results_cell_row hres _ _ w.heap.size 56 (jC x s) (0, 0) _ rfl (heap_setRow HP5.out _) Tryz.underlying56 rfl (by kernel_rfl)) rfl ?_
            exact PJ.good HQ2.out ((HJ5.out.moved hO6 (fun b e => ⟨by omega, by omega⟩)).val (by omega) h8 h6) (HSM5.out.only hO6 (fun e => by omega)) (HR5.out.only (hO6.toBelow (by omega) (fun i e => by omega))) (HO5.out.trans hO6 (fun i hi e => absurd e (by omega)))
        · have hq2 : (match partP E k S' x us with | .error f => .error f | .ok (p, r) => partsP E k g' p.2 p.1 r) = Q := by rw [← hq, partsP, if_neg hend]; cases partP E k S' x us <;> rfl
          have HTK := hide (take_no HR.out hend)
          have HPA := hide (part_any HR.out HGU.out HJ.out hNJ (by omega) k S' HSM.out (HWU.out.fit hk0 hk1) (by omega) h8 h6)
          have HPS : Hid (∀ x' S'' r', partP E k S' x us = .ok ((x', S''), r') → r' <:+ us.tail ∧ us ≠ [] ∧ x'.outs.length ≤ 8 ∧ x'.needs.length ≤ 6 ∧ S''.length ≤ S'.length + 1) := hide (fun x' S'' r' h => partP_suf h h8 h6)
          unfold PT at HPA
          clear hq hend
          generalize partP E k S' x us = qp at *
          have HQ2 := hide hq2
          clear hq2
          go_wp2_with fail
          refine HTK.out.mono ?_
          rintro e w5 ⟨rfl, rfl⟩
          go_wp2_with fail
          refine HPA.out.mono ?_
          intro e w6 hz
          cases qp with
          | error f =>
            obtain ⟨rfl, ho6⟩ := hz
            have HO6 := hide (HO.out.trans ho6 (fun i hi e => by rcases e with e | e | e | e; exact .inl e; exact .inr e; omega; omega))
            clear ho6
            go_wp2
            exact ⟨rfl, PJ.bad HQ2.out.symm HO6.out⟩
          | ok pp =>
            obtain ⟨⟨x', S''⟩, r'⟩ := pp
            obtain ⟨rfl, ⟨s', hj6⟩, hsm6, hr6, ho6⟩ := hz
            obtain ⟨hp1, hp2, hp3, hp4, hp5⟩ := HPS.out x' S'' r' rfl
            have hlt : r'.length < us.length := by
              have := hp1.length_le
              cases us with
              | nil => exact absurd rfl hp2
              | cons a b => simp at this ⊢; omega
            have hsu : r' <:+ us := hp1.trans (List.tail_suffix _)
            have HO6 := hide (HO.out.trans ho6 (fun i hi e => by rcases e with e | e | e | e; exact .inl e; exact .inr e; omega; omega))
            have HP6 := hide ((ho6.block _ (block_lt HP.out) (by rintro (e | e | e | e) <;> omega)).trans HP.out)
            have HJ6 := hide hj6
            have HSM6 := hide hsm6
            have HR6 := hide hr6
            have HGU6 := hide (HGU.out.suf hsu)
            have HWU6 := hide (HWU.out.suf hsu)
            clear hj6 hsm6 hr6 ho6 hp1 hp2 hsu HPS HPA HTK
            go_wp2
            go_roundg g'
            case measure => omega
            case rel => exact ⟨x', s', S'', r', by omega, HQ2.out, hp3, hp4, by omega, HGU6.out, HWU6.out, HJ6.out, HSM6.out, HR6.out, HO6.out, HP6.out⟩
end Go.Proofs.YtkpgfhapffijkaaGreatDoor

/- Package jdl: what a job leaves behind. -/
namespace Go.Proofs.YtkpgfhapffijkaaGreatDoor
open Go.ChangeShapes Go.WideShapes Go.ChangeAt Go.RowKit Go.DsMem Go.DsLx Go.DsJd Go.DsMk
set_option linter.unusedVariables false
theorem partsP_suf {E k : Int} : ∀ (g : Nat) (S S' : List (Int × ByteArray)) (x x' : Jb) (ws r : List Tk), partsP E k g S x ws = .ok ((x', S'), r) → x.outs.length ≤ 8 → x.needs.length ≤ 6 → r <:+ ws ∧ S'.length + r.length ≤ S.length + ws.length ∧ x'.outs.length ≤ 8 ∧ x'.needs.length ≤ 6
  | 0, S, S', x, x', ws, r, h, _, _ => by simp [partsP] at h
  | g + 1, S, S', x, x', ws, r, h, h8, h6 => by
    rw [partsP] at h
    by_cases hend : textF ws = ⟨#[125]⟩
    · rw [if_pos hend] at h
      cases h
      exact ⟨List.tail_suffix _, by simp, h8, h6⟩
    · rw [if_neg hend] at h
      cases hp : partP E k S x ws with
      | error f => rw [hp] at h; cases h
      | ok p =>
        obtain ⟨⟨x1, S1⟩, r1⟩ := p
        rw [hp] at h
        simp only at h
        obtain ⟨a, b, c, d, e⟩ := partP_suf hp h8 h6
        obtain ⟨a2, b2, c2, d2⟩ := partsP_suf g S1 S' x1 x' r1 r h c d
        have hl := a.length_le
        have : r1.length + 1 ≤ ws.length := by
          cases ws with
          | nil => exact absurd rfl b
          | cons u v => simp at hl ⊢; exact hl
        exact ⟨a2.trans (a.trans (List.tail_suffix _)), by omega, c2, d2⟩
theorem jobP_suf {E k : Int} {S S' : List (Int × ByteArray)} {x' : Jb} {t : Tk} {ws r : List Tk} (h : jobP E k S (t :: ws) = .ok ((x', S'), r)) : r <:+ ws ∧ S'.length + r.length ≤ S.length + ws.length ∧ x'.outs.length ≤ 8 ∧ x'.needs.length ≤ 6 := by
  unfold jobP at h
  simp only [List.tail_cons] at h
  cases hn : nameP E ws with
  | error f => rw [hn] at h; cases h
  | ok p =>
    obtain ⟨n, r1⟩ := p
    rw [hn] at h
    simp only at h
    cases hm : mustP E ⟨#[123]⟩ r1 with
    | error f => rw [hm] at h; cases h
    | ok r2 =>
      rw [hm] at h
      simp only at h
      have s1 := nameP_suf hn
      have s2 := mustP_suf hm
      obtain ⟨a, b, c, d⟩ := partsP_suf _ _ _ _ _ _ _ h (Nat.zero_le _) (Nat.zero_le _)
      have l1 := s1.length_le
      have l2 := s2.length_le
      exact ⟨a.trans (s2.trans s1), by omega, c, d⟩
end Go.Proofs.YtkpgfhapffijkaaGreatDoor

/- Package jdl: a new reader. -/
namespace Go.Proofs.YtkpgfhapffijkaaGreatDoor
open Go.ChangeShapes Go.WideShapes Go.ChangeAt Go.RowKit Go.DsMem Go.DsLx Go.DsJd Go.DsMk
set_option linter.unusedVariables false
set_option maxHeartbeats 2000000 in
set_option maxRecDepth 20000 in
/-- jdl.newReader -/
theorem newReader_any {w : World} {E : Int} {ws : List Tk} {uo : Option Addr} {uc o : Nat} (h : TkAt w uo uc o ws) (hu : ∀ a, uo = some a → a.block < w.heap.size) (hl : ws.length ≤ 8192) (ht : Dt.Tab w) (htl : 2 < w.heap.size) :
    Calls Tryz.prog 29 #[.slice uo ws.length uc, .int .i64 E] w fun e w' => e = .returned (.pointer (some ⟨w.heap.size + 1, 0, none⟩)) ∧ Rdr w' (w.heap.size + 1) E 0 w.heap.size (w.heap.size + 2) ws ∧ StM w' w.heap.size [] ∧ Below w.heap.size w w' := by
  have HT := hide h
  have HTB := hide ht
  have HU := hide hu
  clear h ht hu
  have hmm := @run_makeMap Tryz.prog
  go_enter Tryz.func29, Tryz.ntmps29
  go_wp2
  go_ret
  have hB : Below w.heap.size w ((w.alloc (.map #[] 0)).alloc (.cells #[.slice uo ws.length uc, .int .i64 E, .int .i64 0, .map (some w.heap.size)] 135)) := ((Below.refl _ _).alloc (Nat.le_refl _) _).alloc (by simp) _
  refine ⟨rfl, ⟨uo, uc, o, ?_, HT.out.keep hB.size (fun a u _ hc => Below.keeps hB (Nat.le_refl _) hc), fun a e => ?_, hl, by omega, by simp, ⟨⟨Nat.lt_of_lt_of_le HTB.out.1 hB.size, fun m m1 m2 => Below.keeps hB (Nat.le_refl _) (HTB.out.2 m m1 m2)⟩, by omega, by omega⟩⟩, ?_, hB⟩
  · have := heap_alloc_new (w.alloc (.map #[] 0)) (.cells #[.slice uo ws.length uc, .int .i64 E, .int .i64 0, .map (some w.heap.size)] 135)
    simpa using this
  · have := HU.out a e
    exact ⟨by omega, by omega⟩
  · exact (StM.made w).below ((Below.refl _ _).alloc (Nat.le_refl _) _)
end Go.Proofs.YtkpgfhapffijkaaGreatDoor

/- Package jdl: jobs that lie in a list: their trees and rows are only read. -/
namespace Go.Proofs.YtkpgfhapffijkaaGreatDoor
open Go.ChangeShapes Go.WideShapes Go.ChangeAt Go.RowKit Go.DsMem Go.DsLx Go.DsJd Go.DsMk
set_option linter.unusedVariables false
/-- a row of cells that is only read, in blocks of B -/
def RowRd (B : Nat → Prop) (w : World) (uo : Option Addr) (xs : List Value) : Prop := xs ≠ [] → ∃ g, uo = some ⟨g, 0, none⟩ ∧ B g ∧ ∀ j u, xs[j]? = some u → w.cell? ⟨g, j, none⟩ = some u
theorem RowRd.mono {B B' : Nat → Prop} {w w' : World} {uo : Option Addr} {xs : List Value} (h : RowRd B w uo xs) (hB : ∀ b, B b → B' b) (hc : ∀ a u, B a.block → w.cell? a = some u → w'.cell? a = some u) : RowRd B' w' uo xs := fun hx => by
  obtain ⟨g, e, hg, hr⟩ := h hx
  exact ⟨g, e, hB g hg, fun j u hu => hc ⟨g, j, none⟩ u hg (hr j u hu)⟩
theorem RowRd.own {w : World} {b0 : Nat} {e : TypeId} {k : Nat} {uo : Option Addr} {n uc : Nat} {xs : List Value} (h : w.ownsRow b0 e k (.slice uo n uc) n xs) (hk : 0 < k) : RowRd (fun b => b0 ≤ b ∧ b < w.heap.size) w uo xs := fun hx => by
  rcases h.2 with ⟨_, h0⟩ | ⟨g, cap, cur, hv, hb, hg, _⟩
  · have : xs.length = 0 := by rw [h.1, h0]; simp
    exact absurd (List.eq_nil_of_length_eq_zero this) hx
  · simp only [Value.slice.injEq] at hv
    obtain ⟨rfl, -, -⟩ := hv
    refine ⟨g, rfl, ⟨hb, block_lt hg⟩, fun j u hu => ?_⟩
    have := h.cells (g := g) rfl j u hu
    have hadd : (⟨g, 0, none⟩ : Addr).add j = ⟨g, j, none⟩ := by unfold Addr.add; split <;> simp_all
    rw [hadd] at this
    exact this
/-- a job whose parts lie in blocks of B -/
structure JIn (B : Nat → Prop) (w : World) (s : JSl) (x : Jb) : Prop where
  days : NdOn B w s.dv x.days
  work : NdOn B w s.wv x.work
  inn : ExOn B w s.iv x.inn
  outs : RowRd B w s.oo (ocRow x.outs)
  needs : RowRd B w s.no (nvRow x.needs)
  o8 : x.outs.length ≤ 8
  n6 : x.needs.length ≤ 6
theorem JIn.mono {B B' : Nat → Prop} {w w' : World} {s : JSl} {x : Jb} (h : JIn B w s x) (hB : ∀ b, B b → B' b) (hc : ∀ a u, B a.block → w.cell? a = some u → w'.cell? a = some u) : JIn B' w' s x :=
  ⟨h.days.mono hB hc, h.work.mono hB hc, h.inn.mono hB hc, h.outs.mono hB hc, h.needs.mono hB hc, h.o8, h.n6⟩
theorem VJ.inn {w w' : World} {x : Jb} {v : Value} (h : VJ w x v w') : ∃ s, v = .agg (jC x s) ∧ JIn (fun b => w.heap.size ≤ b ∧ b < w'.heap.size) w' s x := by
  obtain ⟨s, rfl, h1, h2, h3, h4, h5, h6, h7⟩ := h
  exact ⟨s, rfl, h1, h2, h3, RowRd.own h4 (by decide), RowRd.own h5 (by decide), h6, h7⟩
/-- the cells of jobs, one behind the other -/
def rowJ (K : Nat → JSl) : Nat → List Jb → List Value
  | _, [] => []
  | i, x :: l => (jC x (K i)).toList ++ rowJ K (i + 1) l
/-- the cells of calendars -/
def calC (p : ByteArray × Nd) (v : NVal) : List Value := [.string p.1, .int .i64 v.op, .slice v.no v.nl v.nc, .slice v.ko v.kl v.kc, .string v.nm]
def rowCal (K : Nat → NVal) : Nat → List (ByteArray × Nd) → List Value
  | _, [] => []
  | i, p :: l => calC p (K i) ++ rowCal K (i + 1) l
/-- a source's resources: their names, units, whether they are locks -/
abbrev Rs := ByteArray × (Int × Bool)
def rsC (p : Rs) : List Value := [.string p.1, .int .i64 p.2.1, .bool p.2.2]
def rsRow (l : List Rs) : List Value := l.flatMap rsC
/-- a source -/
structure Srcp where
  start : Int
  keep : Int
  cals : List (ByteArray × Nd)
  res : List Rs
  jobs : List Jb
theorem rowJ_snoc (K : Nat → JSl) (x : Jb) : ∀ (i : Nat) (l : List Jb), rowJ K i (l ++ [x]) = rowJ K i l ++ (jC x (K (i + l.length))).toList
  | i, [] => by simp [rowJ]
  | i, y :: l => by
    have e : i + 1 + l.length = i + (l.length + 1) := by omega
    simp only [List.cons_append, rowJ, rowJ_snoc K x (i + 1) l, List.length_cons, List.append_assoc, e]
theorem rowCal_snoc (K : Nat → NVal) (p : ByteArray × Nd) : ∀ (i : Nat) (l : List (ByteArray × Nd)), rowCal K i (l ++ [p]) = rowCal K i l ++ calC p (K (i + l.length))
  | i, [] => by simp [rowCal]
  | i, y :: l => by
    have e : i + 1 + l.length = i + (l.length + 1) := by omega
    simp only [List.cons_append, rowCal, rowCal_snoc K p (i + 1) l, List.length_cons, List.append_assoc, e]
end Go.Proofs.YtkpgfhapffijkaaGreatDoor

/- Package jdl: a source while it is read. -/
namespace Go.Proofs.YtkpgfhapffijkaaGreatDoor
open Go.ChangeShapes Go.WideShapes Go.ChangeAt Go.RowKit Go.DsMem Go.DsLx Go.DsJd Go.DsMk
set_option linter.unusedVariables false
/-- where a source's parts lie -/
structure SSl where
  co : Option Addr
  cc : Nat
  ro : Option Addr
  rc : Nat
  jo : Option Addr
  jc : Nat
  KC : Nat → NVal
  KJ : Nat → JSl
def sCals (x : Srcp) (s : SSl) : Value := .slice s.co x.cals.length s.cc
def sRes (x : Srcp) (s : SSl) : Value := .slice s.ro x.res.length s.rc
def sJobs (x : Srcp) (s : SSl) : Value := .slice s.jo x.jobs.length s.jc
def sC (x : Srcp) (s : SSl) : Array Value := #[.int .i64 x.start, .int .i64 x.keep, .slice s.co x.cals.length s.cc, .slice s.ro x.res.length s.rc, .slice s.jo x.jobs.length s.jc]
/-- blocks that hold a source's trees -/
def SR (b0 : Nat) (w : World) (x : Srcp) (s : SSl) (b : Nat) : Prop := b0 ≤ b ∧ b < w.heap.size ∧ (sCals x s).ownBlock ≠ some b ∧ (sRes x s).ownBlock ≠ some b ∧ (sJobs x s).ownBlock ≠ some b
/-- a source in block X, with all that it has behind b0 -/
structure SrcAt (b0 : Nat) (w : World) (X : Nat) (x : Srcp) (s : SSl) : Prop where
  blk : w.heap[X]? = some (.cells (sC x s) 26 (0, 0))
  lt : X < b0
  le : b0 ≤ w.heap.size
  cals : w.ownsRow b0 105 5 (sCals x s) x.cals.length (rowCal s.KC 0 x.cals)
  res : w.ownsRow b0 32 3 (sRes x s) x.res.length (rsRow x.res)
  jobs : w.ownsRow b0 56 24 (sJobs x s) x.jobs.length (rowJ s.KJ 0 x.jobs)
  ins : ∀ i (h : i < x.cals.length), NdOn (SR b0 w x s) w (s.KC i) (x.cals[i]).2
  inj : ∀ i (h : i < x.jobs.length), JIn (SR b0 w x s) w (s.KJ i) x.jobs[i]
  ap1 : ∀ k, (sCals x s).ownBlock = some k → (sRes x s).ownBlock ≠ some k ∧ (sJobs x s).ownBlock ≠ some k
  ap2 : ∀ k, (sRes x s).ownBlock = some k → (sJobs x s).ownBlock ≠ some k
/-- while nothing of the source turns -/
theorem SrcAt.moved {b0 X : Nat} {w w' : World} {x : Srcp} {s : SSl} {T : Nat → Prop} (h : SrcAt b0 w X x s) (ho : Only T w w') (hT : ∀ b, T b → b < b0 ∧ b ≠ X) : SrcAt b0 w' X x s := by
  have hl := h.lt
  have h1 : ∀ b, SR b0 w x s b → SR b0 w' x s b := fun b hb => ⟨hb.1, Nat.lt_of_lt_of_le hb.2.1 ho.size, hb.2.2⟩
  have h2 : ∀ a u, SR b0 w x s a.block → w.cell? a = some u → w'.cell? a = some u := fun a u hB hc => ho.cell hc (fun e => by have := (hT _ e).1; have := hB.1; omega)
  have h3 : ∀ {k : Nat}, b0 ≤ k → k < w.heap.size → w'.heap[k]? = w.heap[k]? := fun {k} a b => ho.block k b (fun e => by have := (hT _ e).1; omega)
  refine ⟨?_, hl, Nat.le_trans h.le ho.size, own_sameK h.cals (fun k hk => h3 (h.cals.lt k hk).1 (h.cals.lt k hk).2), own_sameK h.res (fun k hk => h3 (h.res.lt k hk).1 (h.res.lt k hk).2), own_sameK h.jobs (fun k hk => h3 (h.jobs.lt k hk).1 (h.jobs.lt k hk).2), fun i hi => (h.ins i hi).mono h1 h2, fun i hi => (h.inj i hi).mono h1 h2, h.ap1, h.ap2⟩
  rw [ho.block X (block_lt h.blk) (fun e => (hT _ e).2 rfl)]; exact h.blk
theorem SrcAt.drew {b0 X : Nat} {w : World} {x : Srcp} {s : SSl} (h : SrcAt b0 w X x s) : SrcAt b0 w.drew X x s := h.moved (T := fun _ => False) (Only.refl _ w).drew (fun b e => e.elim)
theorem SrcAt.cell {b0 X : Nat} {w : World} {x : Srcp} {s : SSl} (h : SrcAt b0 w X x s) (k : Nat) : w.cell? ⟨X, k, none⟩ = (sC x s)[k]? := by rw [cell_of h.blk]
theorem SrcAt.frozen {b0 X : Nat} {w : World} {x : Srcp} {s : SSl} (h : SrcAt b0 w X x s) (k : Nat) : w.frozen? ⟨X, k, none⟩ = false := frozen_of h.blk
/-- begin and keep turn -/
theorem SrcAt.put {b0 X : Nat} {w w' : World} {x : Srcp} {s : SSl} (h : SrcAt b0 w X x s) (a b : Int) (hh : w'.heap[X]? = some (.cells (sC { x with start := a, keep := b } s) 26 (0, 0))) (ho : Only (· = X) w w') : SrcAt b0 w' X { x with start := a, keep := b } s := by
  have hl := h.lt
  have h1 : ∀ b, SR b0 w x s b → SR b0 w' x s b := fun b hb => ⟨hb.1, Nat.lt_of_lt_of_le hb.2.1 ho.size, hb.2.2⟩
  have h2 : ∀ a u, SR b0 w x s a.block → w.cell? a = some u → w'.cell? a = some u := fun a u hB hc => ho.cell hc (fun e => by have := hB.1; omega)
  have h3 : ∀ {k : Nat}, b0 ≤ k → k < w.heap.size → w'.heap[k]? = w.heap[k]? := fun {k} a b => ho.block k b (fun e => by omega)
  exact ⟨hh, hl, Nat.le_trans h.le ho.size, own_sameK h.cals (fun k hk => h3 (h.cals.lt k hk).1 (h.cals.lt k hk).2), own_sameK h.res (fun k hk => h3 (h.res.lt k hk).1 (h.res.lt k hk).2), own_sameK h.jobs (fun k hk => h3 (h.jobs.lt k hk).1 (h.jobs.lt k hk).2), fun i hi => (h.ins i hi).mono h1 h2, fun i hi => (h.inj i hi).mono h1 h2, h.ap1, h.ap2⟩
/-- what was just read lies apart -/
theorem SrcAt.fresh {b0 X : Nat} {w w1 : World} {x : Srcp} {s : SSl} (h : SrcAt b0 w X x s) {b : Nat} (hb : w.heap.size ≤ b ∧ b < w1.heap.size) : SR b0 w1 x s b := by
  refine ⟨Nat.le_trans h.le hb.1, hb.2, fun e => ?_, fun e => ?_, fun e => ?_⟩
  · have := (h.cals.lt b e).2; omega
  · have := (h.res.lt b e).2; omega
  · have := (h.jobs.lt b e).2; omega
end Go.Proofs.YtkpgfhapffijkaaGreatDoor

/- Package jdl: a source gets a calendar, a resource, a job. Written by gen_add.py. -/
namespace Go.Proofs.YtkpgfhapffijkaaGreatDoor
open Go.ChangeShapes Go.WideShapes Go.ChangeAt Go.RowKit Go.DsMem Go.DsLx Go.DsJd Go.DsMk
set_option linter.unusedVariables false
theorem rsRow_snoc (l : List Rs) (p : Rs) : rsRow (l ++ [p]) = rsRow l ++ rsC p := by simp [rsRow]
theorem rowJ_cong {K K' : Nat → JSl} : ∀ (i : Nat) (l : List Jb), (∀ j, i ≤ j → j < i + l.length → K j = K' j) → rowJ K i l = rowJ K' i l
  | i, [], _ => rfl
  | i, y :: l, h => by
    simp only [rowJ]
    rw [h i (Nat.le_refl _) (by simp), rowJ_cong (i + 1) l (fun j h1 h2 => h j (by omega) (by simp; omega))]
theorem rowCal_cong {K K' : Nat → NVal} : ∀ (i : Nat) (l : List (ByteArray × Nd)), (∀ j, i ≤ j → j < i + l.length → K j = K' j) → rowCal K i l = rowCal K' i l
  | i, [], _ => rfl
  | i, y :: l, h => by
    simp only [rowCal]
    rw [h i (Nat.le_refl _) (by simp), rowCal_cong (i + 1) l (fun j h1 h2 => h j (by omega) (by simp; omega))]
theorem SrcAt.addCal {b0 X : Nat} {w2 w3 : World} {x : Srcp} {s : SSl} (h : SrcAt b0 w2 X x s) (a : ByteArray × Nd) (nv : NVal) (hin : NdOn (fun b => SR b0 w2 x s b) w2 nv a.2) (o : Obj) {g cap : Nat}
    (hown : w3.ownsRow b0 105 5 (.slice (some ⟨g, 0, none⟩) (x.cals.length + 1) cap) (x.cals.length + 1) (rowCal s.KC 0 x.cals ++ calC a nv))
    (hgr : (w2.alloc o).grownBy w3 (sCals x s).ownBlock) (hat : (sCals x s).ownBlock = some g ∨ g = w2.heap.size + 1) (hlt3 : g < w3.heap.size) :
    SrcAt b0 (w3.setCell ⟨X, 2, none⟩ (.slice (some ⟨g, 0, none⟩) (x.cals.length + 1) cap)) X { x with cals := x.cals ++ [a] } { s with co := some ⟨g, 0, none⟩, cc := cap, KC := fun j => if j = x.cals.length then nv else s.KC j } := by
  have hl := h.lt
  have hle := h.le
  have hA : Only (fun k => (sCals x s).ownBlock = some k) w2 w3 := (Only.alloc _ w2 o).trans (Only.grown hgr) (fun i _ hi => hi)
  have hrow := h.cals.lt
  have hB : Only (fun k => (sCals x s).ownBlock = some k ∨ k = X) w2 (w3.setCell ⟨X, 2, none⟩ (.slice (some ⟨g, 0, none⟩) (x.cals.length + 1) cap)) := (hA.mono (fun _ _ e => .inl e)).trans (Only.set w3 X 2 _) (fun _ _ e => .inr e)
  have hgX : g ≠ X := by
    rcases hat with c | c
    · have := (hrow _ c).1; omega
    · omega
  have hb3 : w3.heap[X]? = some (.cells (sC x s) 26 (0, 0)) := by
    rw [hA.block X (by omega) (fun e => by have := (hrow _ e).1; omega)]; exact h.blk
  have hl1 : (x.cals ++ [a]).length = x.cals.length + 1 := by simp
  have e2 : sCals { x with cals := x.cals ++ [a] } { s with co := some ⟨g, 0, none⟩, cc := cap, KC := fun j => if j = x.cals.length then nv else s.KC j } = .slice (some ⟨g, 0, none⟩) (x.cals.length + 1) cap := by unfold sCals; simp only; rw [hl1]
  have hne : ∀ b, b < w2.heap.size → (sCals x s).ownBlock ≠ some b → b ≠ g := fun b hb hn e => by
    rcases hat with c | c
    · exact hn (by rw [e]; exact c)
    · omega
  have e_res : sRes { x with cals := x.cals ++ [a] } { s with co := some ⟨g, 0, none⟩, cc := cap, KC := fun j => if j = x.cals.length then nv else s.KC j } = sRes x s := rfl
  have e_jobs : sJobs { x with cals := x.cals ++ [a] } { s with co := some ⟨g, 0, none⟩, cc := cap, KC := fun j => if j = x.cals.length then nv else s.KC j } = sJobs x s := rfl
  have h1 : ∀ b, SR b0 w2 x s b → SR b0 (w3.setCell ⟨X, 2, none⟩ (.slice (some ⟨g, 0, none⟩) (x.cals.length + 1) cap)) { x with cals := x.cals ++ [a] } { s with co := some ⟨g, 0, none⟩, cc := cap, KC := fun j => if j = x.cals.length then nv else s.KC j } b := fun b hb => by
    refine ⟨hb.1, Nat.lt_of_lt_of_le hb.2.1 hB.size, ?_, ?_, ?_⟩
    · rw [e2]
      intro e
      exact hne b hb.2.1 hb.2.2.1 (Option.some.inj e).symm
    · rw [e_res]; exact hb.2.2.2.1
    · rw [e_jobs]; exact hb.2.2.2.2
  have h2 : ∀ ad u, SR b0 w2 x s ad.block → w2.cell? ad = some u → (w3.setCell ⟨X, 2, none⟩ (.slice (some ⟨g, 0, none⟩) (x.cals.length + 1) cap)).cell? ad = some u := fun ad u hb hc => hB.cell hc (fun e => by
    rcases e with e | e
    · exact hb.2.2.1 e
    · have := hb.1; omega)
  have k_res : ∀ k, (sRes x s).ownBlock = some k → ¬ (sCals x s).ownBlock = some k := fun k hk e => (h.ap1 k e).1 hk
  have k_jobs : ∀ k, (sJobs x s).ownBlock = some k → ¬ (sCals x s).ownBlock = some k := fun k hk e => (h.ap1 k e).2 hk
  refine ⟨?_, hl, Nat.le_trans hle hB.size, ?_, ?_, ?_, ?_, ?_, ?_, ?_⟩
  · rw [hset_same hb3]
    unfold sC
    simp only [hl1]
    kernel_rfl
  · rw [e2]
    simp only
    have e : rowCal (fun j => if j = x.cals.length then nv else s.KC j) 0 (x.cals ++ [a]) = rowCal s.KC 0 x.cals ++ calC a nv := by
      rw [rowCal_snoc, rowCal_cong (K' := s.KC) 0 x.cals (fun j _ h => if_neg (by omega))]; simp
    rw [hl1, e]
    exact own_sameK hown (fun k hk => by
      have : g = k := Option.some.inj hk
      subst this
      exact (Only.set w3 X 2 _).block g hlt3 hgX)
  · rw [e_res]
    exact own_sameK h.res (fun k hk => hB.block k (h.res.lt k hk).2 (fun e => by
      rcases e with e | e
      · exact k_res k hk e
      · have := (h.res.lt k hk).1; omega))
  · rw [e_jobs]
    exact own_sameK h.jobs (fun k hk => hB.block k (h.jobs.lt k hk).2 (fun e => by
      rcases e with e | e
      · exact k_jobs k hk e
      · have := (h.jobs.lt k hk).1; omega))
  · intro i hi
    by_cases e : i = x.cals.length
    · subst e
      simp only [if_true, List.getElem_append_right (Nat.le_refl _), Nat.sub_self, List.getElem_cons_zero]
      exact hin.mono h1 h2
    · have hi' : i < x.cals.length := by simp only [hl1] at hi; omega
      simp only [if_neg e, List.getElem_append_left hi']
      exact (h.ins i hi').mono h1 h2
  · intro i hi
    exact (h.inj i hi).mono h1 h2
  · rw [e2, e_res, e_jobs]
    intro k hk
    have : g = k := Option.some.inj hk
    subst this
    exact ⟨fun c => hne g (h.res.lt g c).2 (k_res g c) rfl, fun c => hne g (h.jobs.lt g c).2 (k_jobs g c) rfl⟩
  · rw [e_res, e_jobs]; exact h.ap2
theorem SrcAt.addRes {b0 X : Nat} {w2 w3 : World} {x : Srcp} {s : SSl} (h : SrcAt b0 w2 X x s) (a : Rs) (o : Obj) {g cap : Nat}
    (hown : w3.ownsRow b0 32 3 (.slice (some ⟨g, 0, none⟩) (x.res.length + 1) cap) (x.res.length + 1) (rsRow x.res ++ rsC a))
    (hgr : (w2.alloc o).grownBy w3 (sRes x s).ownBlock) (hat : (sRes x s).ownBlock = some g ∨ g = w2.heap.size + 1) (hlt3 : g < w3.heap.size) :
    SrcAt b0 (w3.setCell ⟨X, 3, none⟩ (.slice (some ⟨g, 0, none⟩) (x.res.length + 1) cap)) X { x with res := x.res ++ [a] } { s with ro := some ⟨g, 0, none⟩, rc := cap } := by
  have hl := h.lt
  have hle := h.le
  have hA : Only (fun k => (sRes x s).ownBlock = some k) w2 w3 := (Only.alloc _ w2 o).trans (Only.grown hgr) (fun i _ hi => hi)
  have hrow := h.res.lt
  have hB : Only (fun k => (sRes x s).ownBlock = some k ∨ k = X) w2 (w3.setCell ⟨X, 3, none⟩ (.slice (some ⟨g, 0, none⟩) (x.res.length + 1) cap)) := (hA.mono (fun _ _ e => .inl e)).trans (Only.set w3 X 3 _) (fun _ _ e => .inr e)
  have hgX : g ≠ X := by
    rcases hat with c | c
    · have := (hrow _ c).1; omega
    · omega
  have hb3 : w3.heap[X]? = some (.cells (sC x s) 26 (0, 0)) := by
    rw [hA.block X (by omega) (fun e => by have := (hrow _ e).1; omega)]; exact h.blk
  have hl1 : (x.res ++ [a]).length = x.res.length + 1 := by simp
  have e2 : sRes { x with res := x.res ++ [a] } { s with ro := some ⟨g, 0, none⟩, rc := cap } = .slice (some ⟨g, 0, none⟩) (x.res.length + 1) cap := by unfold sRes; simp only; rw [hl1]
  have hne : ∀ b, b < w2.heap.size → (sRes x s).ownBlock ≠ some b → b ≠ g := fun b hb hn e => by
    rcases hat with c | c
    · exact hn (by rw [e]; exact c)
    · omega
  have e_cals : sCals { x with res := x.res ++ [a] } { s with ro := some ⟨g, 0, none⟩, rc := cap } = sCals x s := rfl
  have e_jobs : sJobs { x with res := x.res ++ [a] } { s with ro := some ⟨g, 0, none⟩, rc := cap } = sJobs x s := rfl
  have h1 : ∀ b, SR b0 w2 x s b → SR b0 (w3.setCell ⟨X, 3, none⟩ (.slice (some ⟨g, 0, none⟩) (x.res.length + 1) cap)) { x with res := x.res ++ [a] } { s with ro := some ⟨g, 0, none⟩, rc := cap } b := fun b hb => by
    refine ⟨hb.1, Nat.lt_of_lt_of_le hb.2.1 hB.size, ?_, ?_, ?_⟩
    · rw [e_cals]; exact hb.2.2.1
    · rw [e2]
      intro e
      exact hne b hb.2.1 hb.2.2.2.1 (Option.some.inj e).symm
    · rw [e_jobs]; exact hb.2.2.2.2
  have h2 : ∀ ad u, SR b0 w2 x s ad.block → w2.cell? ad = some u → (w3.setCell ⟨X, 3, none⟩ (.slice (some ⟨g, 0, none⟩) (x.res.length + 1) cap)).cell? ad = some u := fun ad u hb hc => hB.cell hc (fun e => by
    rcases e with e | e
    · exact hb.2.2.2.1 e
    · have := hb.1; omega)
  have k_cals : ∀ k, (sCals x s).ownBlock = some k → ¬ (sRes x s).ownBlock = some k := fun k hk e => (h.ap1 k hk).1 e
  have k_jobs : ∀ k, (sJobs x s).ownBlock = some k → ¬ (sRes x s).ownBlock = some k := fun k hk e => h.ap2 k e hk
  refine ⟨?_, hl, Nat.le_trans hle hB.size, ?_, ?_, ?_, ?_, ?_, ?_, ?_⟩
  · rw [hset_same hb3]
    unfold sC
    simp only [hl1]
    kernel_rfl
  · rw [e_cals]
    exact own_sameK h.cals (fun k hk => hB.block k (h.cals.lt k hk).2 (fun e => by
      rcases e with e | e
      · exact k_cals k hk e
      · have := (h.cals.lt k hk).1; omega))
  · rw [e2]
    simp only
    have e : rsRow (x.res ++ [a]) = rsRow x.res ++ rsC a := rsRow_snoc _ _
    rw [hl1, e]
    exact own_sameK hown (fun k hk => by
      have : g = k := Option.some.inj hk
      subst this
      exact (Only.set w3 X 3 _).block g hlt3 hgX)
  · rw [e_jobs]
    exact own_sameK h.jobs (fun k hk => hB.block k (h.jobs.lt k hk).2 (fun e => by
      rcases e with e | e
      · exact k_jobs k hk e
      · have := (h.jobs.lt k hk).1; omega))
  · intro i hi
    exact (h.ins i hi).mono h1 h2
  · intro i hi
    exact (h.inj i hi).mono h1 h2
  · rw [e2, e_cals, e_jobs]
    intro k hk
    refine ⟨fun c => ?_, (h.ap1 k hk).2⟩
    have : g = k := Option.some.inj c
    subst this
    exact hne g (h.cals.lt g hk).2 (k_cals g hk) rfl
  · rw [e2, e_jobs]
    intro k hk c
    have : g = k := Option.some.inj hk
    subst this
    exact hne g (h.jobs.lt g c).2 (k_jobs g c) rfl
theorem SrcAt.addJob {b0 X : Nat} {w2 w3 : World} {x : Srcp} {s : SSl} (h : SrcAt b0 w2 X x s) (a : Jb) (js : JSl) (hin : JIn (fun b => SR b0 w2 x s b) w2 js a) (o : Obj) {g cap : Nat}
    (hown : w3.ownsRow b0 56 24 (.slice (some ⟨g, 0, none⟩) (x.jobs.length + 1) cap) (x.jobs.length + 1) (rowJ s.KJ 0 x.jobs ++ (jC a js).toList))
    (hgr : (w2.alloc o).grownBy w3 (sJobs x s).ownBlock) (hat : (sJobs x s).ownBlock = some g ∨ g = w2.heap.size + 1) (hlt3 : g < w3.heap.size) :
    SrcAt b0 (w3.setCell ⟨X, 4, none⟩ (.slice (some ⟨g, 0, none⟩) (x.jobs.length + 1) cap)) X { x with jobs := x.jobs ++ [a] } { s with jo := some ⟨g, 0, none⟩, jc := cap, KJ := fun j => if j = x.jobs.length then js else s.KJ j } := by
  have hl := h.lt
  have hle := h.le
  have hA : Only (fun k => (sJobs x s).ownBlock = some k) w2 w3 := (Only.alloc _ w2 o).trans (Only.grown hgr) (fun i _ hi => hi)
  have hrow := h.jobs.lt
  have hB : Only (fun k => (sJobs x s).ownBlock = some k ∨ k = X) w2 (w3.setCell ⟨X, 4, none⟩ (.slice (some ⟨g, 0, none⟩) (x.jobs.length + 1) cap)) := (hA.mono (fun _ _ e => .inl e)).trans (Only.set w3 X 4 _) (fun _ _ e => .inr e)
  have hgX : g ≠ X := by
    rcases hat with c | c
    · have := (hrow _ c).1; omega
    · omega
  have hb3 : w3.heap[X]? = some (.cells (sC x s) 26 (0, 0)) := by
    rw [hA.block X (by omega) (fun e => by have := (hrow _ e).1; omega)]; exact h.blk
  have hl1 : (x.jobs ++ [a]).length = x.jobs.length + 1 := by simp
  have e2 : sJobs { x with jobs := x.jobs ++ [a] } { s with jo := some ⟨g, 0, none⟩, jc := cap, KJ := fun j => if j = x.jobs.length then js else s.KJ j } = .slice (some ⟨g, 0, none⟩) (x.jobs.length + 1) cap := by unfold sJobs; simp only; rw [hl1]
  have hne : ∀ b, b < w2.heap.size → (sJobs x s).ownBlock ≠ some b → b ≠ g := fun b hb hn e => by
    rcases hat with c | c
    · exact hn (by rw [e]; exact c)
    · omega
  have e_cals : sCals { x with jobs := x.jobs ++ [a] } { s with jo := some ⟨g, 0, none⟩, jc := cap, KJ := fun j => if j = x.jobs.length then js else s.KJ j } = sCals x s := rfl
  have e_res : sRes { x with jobs := x.jobs ++ [a] } { s with jo := some ⟨g, 0, none⟩, jc := cap, KJ := fun j => if j = x.jobs.length then js else s.KJ j } = sRes x s := rfl
  have h1 : ∀ b, SR b0 w2 x s b → SR b0 (w3.setCell ⟨X, 4, none⟩ (.slice (some ⟨g, 0, none⟩) (x.jobs.length + 1) cap)) { x with jobs := x.jobs ++ [a] } { s with jo := some ⟨g, 0, none⟩, jc := cap, KJ := fun j => if j = x.jobs.length then js else s.KJ j } b := fun b hb => by
    refine ⟨hb.1, Nat.lt_of_lt_of_le hb.2.1 hB.size, ?_, ?_, ?_⟩
    · rw [e_cals]; exact hb.2.2.1
    · rw [e_res]; exact hb.2.2.2.1
    · rw [e2]
      intro e
      exact hne b hb.2.1 hb.2.2.2.2 (Option.some.inj e).symm
  have h2 : ∀ ad u, SR b0 w2 x s ad.block → w2.cell? ad = some u → (w3.setCell ⟨X, 4, none⟩ (.slice (some ⟨g, 0, none⟩) (x.jobs.length + 1) cap)).cell? ad = some u := fun ad u hb hc => hB.cell hc (fun e => by
    rcases e with e | e
    · exact hb.2.2.2.2 e
    · have := hb.1; omega)
  have k_cals : ∀ k, (sCals x s).ownBlock = some k → ¬ (sJobs x s).ownBlock = some k := fun k hk e => (h.ap1 k hk).2 e
  have k_res : ∀ k, (sRes x s).ownBlock = some k → ¬ (sJobs x s).ownBlock = some k := fun k hk e => h.ap2 k hk e
  refine ⟨?_, hl, Nat.le_trans hle hB.size, ?_, ?_, ?_, ?_, ?_, ?_, ?_⟩
  · rw [hset_same hb3]
    unfold sC
    simp only [hl1]
    kernel_rfl
  · rw [e_cals]
    exact own_sameK h.cals (fun k hk => hB.block k (h.cals.lt k hk).2 (fun e => by
      rcases e with e | e
      · exact k_cals k hk e
      · have := (h.cals.lt k hk).1; omega))
  · rw [e_res]
    exact own_sameK h.res (fun k hk => hB.block k (h.res.lt k hk).2 (fun e => by
      rcases e with e | e
      · exact k_res k hk e
      · have := (h.res.lt k hk).1; omega))
  · rw [e2]
    simp only
    have e : rowJ (fun j => if j = x.jobs.length then js else s.KJ j) 0 (x.jobs ++ [a]) = rowJ s.KJ 0 x.jobs ++ (jC a js).toList := by
      rw [rowJ_snoc, rowJ_cong (K' := s.KJ) 0 x.jobs (fun j _ h => if_neg (by omega))]; simp
    rw [hl1, e]
    exact own_sameK hown (fun k hk => by
      have : g = k := Option.some.inj hk
      subst this
      exact (Only.set w3 X 4 _).block g hlt3 hgX)
  · intro i hi
    exact (h.ins i hi).mono h1 h2
  · intro i hi
    by_cases e : i = x.jobs.length
    · subst e
      simp only [if_true, List.getElem_append_right (Nat.le_refl _), Nat.sub_self, List.getElem_cons_zero]
      exact hin.mono h1 h2
    · have hi' : i < x.jobs.length := by simp only [hl1] at hi; omega
      simp only [if_neg e, List.getElem_append_left hi']
      exact (h.inj i hi').mono h1 h2
  · rw [e2, e_cals, e_res]
    intro k hk
    refine ⟨(h.ap1 k hk).1, fun c => ?_⟩
    have : g = k := Option.some.inj c
    subst this
    exact hne g (h.cals.lt g hk).2 (k_cals g hk) rfl
  · rw [e2, e_res]
    intro k hk c
    have : g = k := Option.some.inj c
    subst this
    exact hne g (h.res.lt g hk).2 (k_res g hk) rfl
end Go.Proofs.YtkpgfhapffijkaaGreatDoor
