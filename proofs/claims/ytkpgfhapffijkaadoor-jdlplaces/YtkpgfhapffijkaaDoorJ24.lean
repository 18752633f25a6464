/- Some parts of the proof, one behind the other. -/
import Derived.Test.YtkpgfhapffijkaaDoorJgC
import Derived.Test.YtkpgfhapffijkaaDoorJgD
import Derived.Deep.LoopGhost
/- Package jdl: an item of a source, whole. -/
namespace Go.Proofs.YtkpgfhapffijkaaDoor
open Go.ChangeShapes Go.WideShapes Go.ChangeAt Go.RowKit Go.DsMem Go.DsLx Go.DsJd Go.DsMk
set_option linter.unusedVariables false
set_option maxHeartbeats 8000000 in
set_option maxRecDepth 20000 in
theorem itemBad {w : World} {R X b0 : Nat} {E : Int} {B N : Nat} {ws : List Tk} (h : Rdr w R E 0 B N ws)
    (m1 : ¬ textF ws = wBegin) (m2 : ¬ textF ws = wKeep) (m3 : ¬ textF ws = wCal) (m4 : ¬ textF ws = wRes) (m5 : ¬ textF ws = wLock) (m6 : ¬ textF ws = wJob) :
    Calls Tryd.prog 22 #[.pointer (some ⟨R, 0, none⟩), .pointer (some ⟨X, 0, none⟩)] w (PI R E B N X b0 (.error (atF E ws, 20)) w) := by
  have HT := hide (text_any h)
  have HF := hide (fault_any h 20)
  have n1 := str_ne2 [98, 101, 103, 105, 110] m1
  have n2 := str_ne2 [107, 101, 101, 112] m2
  have n3 := str_ne2 [99, 97, 108, 101, 110, 100, 97, 114] m3
  have n4 := str_ne2 [114, 101, 115, 111, 117, 114, 99, 101] m4
  have n5 := str_ne2 [108, 111, 99, 107] m5
  have n6 := str_ne2 [106, 111, 98] m6
  clear h m1 m2 m3 m4 m5 m6
  unfold PI Ends
  simp only
  generalize textF ws = y at *
  go_enter Tryd.func22, Tryd.ntmps22
  go_wp2_with fail
  refine HT.out.mono ?_
  rintro e w1 ⟨rfl, rfl⟩
  go_wp2_with fail
  refine HF.out.mono ?_
  rintro e w2 ⟨rfl, hb⟩
  have HB := hide hb
  clear hb
  go_wp2
  exact ⟨rfl, rfl, Only.below HB.out⟩
/-- what item reads -/
noncomputable def itemP (E : Int) (S : List (Int × ByteArray)) (x : Srcp) (ws : List Tk) : Except Fl ((Srcp × List (Int × ByteArray)) × List Tk) :=
  if textF ws = wBegin then onceP E S ws (fun a => { x with start := a }) (thenP E ⟨#[59]⟩ (timeP E ws.tail))
  else if textF ws = wKeep then onceP E S ws (fun a => { x with keep := a }) (thenP E ⟨#[59]⟩ (numP E ws.tail))
  else if textF ws = wCal then moreS E S ws x.cals.length 24 (fun a => { x with cals := x.cals ++ [a] }) (thenP E ⟨#[59]⟩ (calP E ws.tail))
  else if textF ws = wRes then moreS E S ws x.res.length 12 (fun p => { x with res := x.res ++ [(p.1, (p.2, false))] }) (thenP E ⟨#[59]⟩ (twoP (nameP E) (numP E) ws.tail))
  else if textF ws = wLock then moreS E S ws x.res.length 12 (fun p => { x with res := x.res ++ [(p, (0, true))] }) (thenP E ⟨#[59]⟩ (nameP E ws.tail))
  else if textF ws = wJob then jobS E S x ws (jobP E (x.jobs.length + 1) S ws)
  else .error (atF E ws, 20)
/-- (*jdl.reader).item -/
theorem item_any {w : World} {R X b0 : Nat} {E : Int} {B N : Nat} {ws : List Tk} (h : Rdr w R E 0 B N ws) (hG : Few9 ws) (hW : FitW ws) {x : Srcp} {s : SSl} (hj : SrcAt b0 w X x s) (hNX : N ≤ X) (hBX : B < X) (S : List (Int × ByteArray)) (hs : StM w B S) (hS : S.length + ws.length ≤ 100000) :
    Calls Tryd.prog 22 #[.pointer (some ⟨R, 0, none⟩), .pointer (some ⟨X, 0, none⟩)] w (PI R E B N X b0 (itemP E S x ws) w) := by
  unfold itemP
  cases ws with
  | nil =>
    rw [if_neg (by decide), if_neg (by decide), if_neg (by decide), if_neg (by decide), if_neg (by decide), if_neg (by decide)]
    exact itemBad h (by decide) (by decide) (by decide) (by decide) (by decide) (by decide)
  | cons t r =>
    have hGr : Few9 r := hG.suf (List.suffix_cons t r)
    have hWr : FitW r := hW.suf (List.suffix_cons t r)
    simp only [List.length_cons] at hS
    simp only [List.tail_cons]
    by_cases c1 : textF (t :: r) = wBegin
    · rw [if_pos c1]; exact itemBegin h c1 hj hNX hBX S hs (by omega)
    rw [if_neg c1]
    by_cases c2 : textF (t :: r) = wKeep
    · rw [if_pos c2]; exact itemKeep h c2 hj hNX hBX S hs (by omega)
    rw [if_neg c2]
    by_cases c3 : textF (t :: r) = wCal
    · rw [if_pos c3]; exact itemCal h hGr c3 hj hNX hBX S hs
    rw [if_neg c3]
    by_cases c4 : textF (t :: r) = wRes
    · rw [if_pos c4]; exact itemRes h c4 hj hNX hBX S hs
    rw [if_neg c4]
    by_cases c5 : textF (t :: r) = wLock
    · rw [if_pos c5]; exact itemLock h c5 hj hNX hBX S hs
    rw [if_neg c5]
    by_cases c6 : textF (t :: r) = wJob
    · rw [if_pos c6]; exact itemJob h hGr hWr c6 hj hNX hBX S hs (by omega)
    rw [if_neg c6]
    exact itemBad h c1 c2 c3 c4 c5 c6
theorem onceP_suf {E : Int} {S S' : List (Int × ByteArray)} {ws r ws' : List Tk} {f : Int → Srcp} {q : Except Fl (Int × List Tk)} {x : Srcp} (hq : ∀ a r, q = .ok (a, r) → r <:+ ws') (h : onceP E S ws f q = .ok ((x, S'), r)) : r <:+ ws' ∧ S'.length = S.length + 1 := by
  unfold onceP at h
  split at h
  · cases h
  · cases q with
    | error f => cases h
    | ok p =>
      obtain ⟨a, r'⟩ := p
      cases h
      exact ⟨hq a _ rfl, by simp⟩
theorem moreS_suf {α : Type} {E : Int} {S S' : List (Int × ByteArray)} {ws r ws' : List Tk} {k m : Int} {f : α → Srcp} {q : Except Fl (α × List Tk)} {x : Srcp} (hq : ∀ a r, q = .ok (a, r) → r <:+ ws') (h : moreS E S ws k m f q = .ok ((x, S'), r)) : r <:+ ws' ∧ S' = S := by
  unfold moreS at h
  cases hr : roomP E ws k m with
  | error f => rw [hr] at h; cases h
  | ok u =>
    rw [hr] at h
    cases q with
    | error f => cases h
    | ok p =>
      obtain ⟨a, r'⟩ := p
      cases h
      exact ⟨hq a _ rfl, rfl⟩
theorem calP_suf {E : Int} {ws r : List Tk} {a : ByteArray × Nd} (h : calP E ws = .ok (a, r)) : r <:+ ws := by
  unfold calP at h
  cases e1 : thenP E ⟨#[61]⟩ (nameP E ws) with
  | error f => rw [e1] at h; cases h
  | ok p =>
    obtain ⟨n, r1⟩ := p
    rw [e1] at h
    simp only at h
    cases e2 : daysP E (oneP E 16) r1 with
    | error f => rw [e2] at h; cases h
    | ok p2 =>
      obtain ⟨t, r2⟩ := p2
      rw [e2] at h
      cases h
      exact (daysW_suf e2).trans (thenP_suf (fun a r h => nameP_suf h) e1)
/-- what an item leaves behind -/
theorem itemP_suf {E : Int} {S S' : List (Int × ByteArray)} {x x' : Srcp} {ws r : List Tk} (h : itemP E S x ws = .ok ((x', S'), r)) : r <:+ ws.tail ∧ ws ≠ [] ∧ S'.length + r.length ≤ S.length + ws.length := by
  have hn : ws ≠ [] := by
    rintro rfl
    unfold itemP at h
    rw [if_neg (by decide), if_neg (by decide), if_neg (by decide), if_neg (by decide), if_neg (by decide), if_neg (by decide)] at h
    cases h
  obtain ⟨t, l, rfl⟩ : ∃ t l, ws = t :: l := by
    cases ws with
    | nil => exact absurd rfl hn
    | cons t l => exact ⟨t, l, rfl⟩
  simp only [List.tail_cons, List.length_cons]
  unfold itemP at h
  simp only [List.tail_cons] at h
  split at h
  · obtain ⟨a, b⟩ := onceP_suf (fun a r h => thenP_suf (fun a r h => timeP_suf h) h) h
    have := a.length_le
    exact ⟨a, hn, by omega⟩
  split at h
  · obtain ⟨a, b⟩ := onceP_suf (fun a r h => thenP_suf (fun a r h => numP_suf h) h) h
    have := a.length_le
    exact ⟨a, hn, by omega⟩
  split at h
  · obtain ⟨a, b⟩ := moreS_suf (fun a r h => thenP_suf (fun a r h => calP_suf h) h) h
    have := a.length_le
    exact ⟨a, hn, by rw [b]; omega⟩
  split at h
  · obtain ⟨a, b⟩ := moreS_suf (fun a r h => thenP_suf (fun a r h => twoP_suf (fun ws a r h => nameP_suf h) (fun ws a r h => numP_suf h) h) h) h
    have := a.length_le
    exact ⟨a, hn, by rw [b]; omega⟩
  split at h
  · obtain ⟨a, b⟩ := moreS_suf (fun a r h => thenP_suf (fun a r h => nameP_suf h) h) h
    have := a.length_le
    exact ⟨a, hn, by rw [b]; omega⟩
  split at h
  · unfold jobS at h
    cases hr : roomP E (t :: l) x.jobs.length 48 with
    | error f => rw [hr] at h; cases h
    | ok u =>
      rw [hr] at h
      simp only at h
      cases hq : jobP E (x.jobs.length + 1) S (t :: l) with
      | error f => rw [hq] at h; cases h
      | ok p =>
        obtain ⟨⟨j, S1⟩, r1⟩ := p
        rw [hq] at h
        cases h
        obtain ⟨a, b, _, _⟩ := jobP_suf hq
        exact ⟨a, hn, by simp only; omega⟩
  · cases h
end Go.Proofs.YtkpgfhapffijkaaDoor

/- Package jdl: all items of a source. -/
namespace Go.Proofs.YtkpgfhapffijkaaDoor
open Go.ChangeShapes Go.WideShapes Go.ChangeAt Go.RowKit Go.DsMem Go.DsLx Go.DsJd Go.DsMk
set_option linter.unusedVariables false
/-- all items -/
noncomputable def itemsP (E : Int) : Nat → List (Int × ByteArray) → Srcp → List Tk → Except Fl (Srcp × List (Int × ByteArray))
  | 0, _, _, _ => .error (0, 0)
  | g + 1, S, x, ws => if ws = [] then .ok (x, S) else match itemP E S x ws with | .error f => .error f | .ok (p, r) => itemsP E g p.2 p.1 r
def src0 : Srcp := ⟨0, 7, [], [], []⟩
def ssl0 : SSl := ⟨none, 0, none, 0, none, 0, fun _ => zN, fun _ => js0⟩
/-- a source, from all its words -/
noncomputable def sourceP (E : Int) (ws : List Tk) : Except Fl Srcp := match itemsP E (ws.length + 1) [] src0 ws with | .error f => .error f | .ok (x, _) => .ok x
/-- a source of one's own -/
def VSrc (w : World) (x : Srcp) (v : Value) (w' : World) : Prop := ∃ s : SSl, v = .agg (sC x s) ∧
  w'.ownsRow w.heap.size 83 5 (sCals x s) x.cals.length (rowCal s.KC 0 x.cals) ∧ w'.ownsRow w.heap.size 87 3 (sRes x s) x.res.length (rsRow x.res) ∧ w'.ownsRow w.heap.size 48 24 (sJobs x s) x.jobs.length (rowJ s.KJ 0 x.jobs) ∧
  (∀ i (h : i < x.cals.length), NdOn (fun b => w.heap.size ≤ b ∧ b < w'.heap.size) w' (s.KC i) (x.cals[i]).2) ∧ (∀ i (h : i < x.jobs.length), JIn (fun b => w.heap.size ≤ b ∧ b < w'.heap.size) w' (s.KJ i) x.jobs[i])
theorem SrcAt.val {b0 X : Nat} {w w' : World} {x : Srcp} {s : SSl} (h : SrcAt b0 w' X x s) (hb : w.heap.size ≤ b0) : VSrc w x (.agg (sC x s)) w' := by
  have h1 : ∀ b, SR b0 w' x s b → (w.heap.size ≤ b ∧ b < w'.heap.size) := fun b hb' => ⟨Nat.le_trans hb hb'.1, hb'.2.1⟩
  exact ⟨s, rfl, own_baseK h.cals hb, own_baseK h.res hb, own_baseK h.jobs hb, fun i hi => (h.ins i hi).mono h1 (fun _ _ _ hc => hc), fun i hi => (h.inj i hi).mono h1 (fun _ _ _ hc => hc)⟩
theorem src0_at {b0 X : Nat} {w : World} (hb : w.heap[X]? = some (.cells (sC src0 ssl0) 26 (0, 0))) (h1 : X < b0) (h2 : b0 ≤ w.heap.size) : SrcAt b0 w X src0 ssl0 :=
  ⟨hb, h1, h2, World.ownsRow_nil _ _ _ _, World.ownsRow_nil _ _ _ _, World.ownsRow_nil _ _ _ _, fun i hi => by simp [src0] at hi, fun i hi => by simp [src0] at hi, (fun k hk => nomatch hk), (fun k hk => nomatch hk)⟩
/-- how source ends -/
def PS (R : Nat) (E : Int) (B : Nat) (q : Except Fl Srcp) (w : World) : Ending → World → Prop :=
  Ends q (fun w' => Only (fun i => i = R ∨ i = B) w w') fun x e w' => ∃ v, e = .returned v ∧ VSrc w x v w' ∧ Only (fun i => i = R ∨ i = B) w w'
theorem PS.bad {w w' : World} {R : Nat} {E : Int} {B : Nat} {q : Except Fl Srcp} {f : Fl} (hq : q = .error f) (ho : Only (fun i => i = R ∨ i = B) w w') : PS R E B q w (.panicked [{ v := flV f, recovered := false }]) w' := by
  subst hq
  exact ⟨rfl, ho⟩
theorem PS.good {w w' : World} {R : Nat} {E : Int} {B : Nat} {q : Except Fl Srcp} {x : Srcp} {v : Value} (hq : q = .ok x) (hv : VSrc w x v w') (ho : Only (fun i => i = R ∨ i = B) w w') : PS R E B q w (.returned v) w' := by
  subst hq
  exact ⟨v, rfl, hv, ho⟩
noncomputable def srcT (q : Except Fl (Srcp × List (Int × ByteArray))) : Except Fl Srcp := match q with | .error f => .error f | .ok (x, _) => .ok x
set_option maxHeartbeats 8000000 in
set_option maxRecDepth 20000 in
/-- (*jdl.reader).source -/
theorem source_any {w : World} {R : Nat} {E : Int} {B N : Nat} {ws : List Tk} (h : Rdr w R E 0 B N ws) (hG : Few9 ws) (hW : FitW ws) (hs : StM w B []) (hBN : B < N) :
    Calls Tryd.prog 14 #[.pointer (some ⟨R, 0, none⟩)] w (PS R E B (sourceP E ws) w) := by
  obtain ⟨hN1, hN2⟩ := h.n
  have hl8 : ws.length ≤ 8192 := by obtain ⟨_, _, _, _, _, _, h, _⟩ := h; exact h
  have hBw := hs.lt
  have HBR : Hid (¬ B = R) := hide (fun e => by obtain ⟨es, clock, hm⟩ := hs.map; obtain ⟨uo, uc, o, h1, _⟩ := h; rw [e, h1] at hm; cases hm)
  obtain ⟨wA, hwA⟩ : ∃ wA, wA = w.alloc (.cells #[.int .i64 0, .int .i64 0, .slice none 0 0, .slice none 0 0, .slice none 0 0] 26) := ⟨_, rfl⟩
  have hOA : Only (fun _ => False) w wA := by rw [hwA]; exact Only.alloc _ _ _
  have hresA : wA.heap[w.heap.size]? = some (.cells #[.int .i64 0, .int .i64 0, .slice none 0 0, .slice none 0 0, .slice none 0 0] 26 (0, 0)) := by rw [hwA]; exact heap_alloc_new w _
  have hsA : wA.heap.size = w.heap.size + 1 := by rw [hwA]; simp
  obtain ⟨w3, hw3⟩ : ∃ w3, w3 = wA.alloc (.cells (sC src0 ssl0) 26) := ⟨_, rfl⟩
  have hO3 : Only (fun _ => False) wA w3 := by rw [hw3]; exact Only.alloc _ _ _
  have hs3 : w3.heap.size = w.heap.size + 2 := by rw [hw3]; simp [hsA]
  have hX3 : w3.heap[w.heap.size + 1]? = some (.cells (sC src0 ssl0) 26 (0, 0)) := by rw [hw3, ← hsA]; exact heap_alloc_new wA _
  have hr3 : Rdr w3 R E 0 B N ws := by rw [hw3, hwA]; exact (h.below (below_new4 _)).below (below_new4 _)
  have hsm3 : StM w3 B [] := (hs.only hOA (fun e => e)).only hO3 (fun e => e)
  have HX := hide (src0_at (b0 := w.heap.size + 2) hX3 (by omega) (by omega))
  have HR := hide hr3
  have HSM := hide hsm3
  have HP := hide (heap_only (R := w.heap.size + 100) hresA (hO3.mono (fun _ _ e => e.elim)) (by omega))
  have HO := hide ((hOA.mono (T := fun i => i = R ∨ i = B) (fun _ _ e => e.elim)).trans (hO3.mono (T := fun i => i = R ∨ i = B) (fun _ _ e => e.elim)) (fun _ _ h => h))
  have HG := hide hG
  have HW := hide hW
  obtain ⟨Q, hQ⟩ : ∃ Q, sourceP E ws = Q := ⟨_, rfl⟩
  rw [hQ]
  have HQ : Hid (srcT (itemsP E (ws.length + 1) [] src0 ws) = Q) := hide (by rw [← hQ]; rfl)
  clear h hG hW hs hresA hOA hO3 hX3 hr3 hsm3 hQ
  unfold sC src0 ssl0 at hw3
  simp only [List.length_nil] at hw3
  go_enter Tryd.func14, Tryd.ntmps14
  go_wp2_with fail
  rw [← hwA, ← hw3]
  obtain ⟨X, hX⟩ : ∃ X, X = w.heap.size + 1 := ⟨_, rfl⟩
  have HXX : Hid (SrcAt (X + 1) w3 X src0 ssl0) := hide (by rw [hX]; exact HX.out)
  have hs3' : w3.heap.size = X + 1 := by omega
  have hz : wA.heap.size = X := by omega
  first
  | rw [hz]
  | rw [← hX]
  have hNX : N ≤ X := by omega
  have hBX : B < X := by omega
  clear hw3 hwA hX HX
  go_loopg [] (ws.length + 1) (fun g wr => ∃ (x : Srcp) (s : SSl) (S : List (Int × ByteArray)) (us : List Tk), us.length < g ∧ srcT (itemsP E g S x us) = Q ∧ S.length + us.length ≤ 100000 ∧ Few9 us ∧ FitW us ∧ SrcAt (X + 1) wr X x s ∧ StM wr B S ∧ Rdr wr R E 0 B N us ∧ Only (fun i => i = R ∨ i = B) w wr ∧ wr.heap[w.heap.size]? = some (.cells #[.int .i64 0, .int .i64 0, .slice none 0 0, .slice none 0 0, .slice none 0 0] 26 (0, 0)))
  case atStart => exact ⟨src0, ssl0, [], ws, by omega, HQ.out, by simp; omega, HG.out, HW.out, HXX.out, HSM.out, HR.out, HO.out, HP.out⟩
  case round =>
    obtain ⟨x, s, S, us, hg, hq, hL, hGu, hWu, hx, hsm, hrd, ho, hp⟩ := hrel
    obtain ⟨g', rfl⟩ : ∃ g', gk = g' + 1 := ⟨gk - 1, by omega⟩
    have HXR := hide hx
    have HSMR := hide hsm
    have HRR := hide hrd
    have HOR := hide ho
    have HPR := hide hp
    have HGU := hide hGu
    have HWU := hide hWu
    have hsw := ho.size
    have hXw : X < wr.heap.size := block_lt hx.blk
    obtain ⟨uo, uc, o, h1, _⟩ := hrd
    have x0 : wr.cell? ⟨R, 0, none⟩ = some (.slice uo us.length uc) := by rw [cell_of h1]; rfl
    have h8 : us.length ≤ 100000 := by omega
    clear hx hsm ho hp hGu hWu h1 HXX HSM HR HO HP HG HW HQ
    cases us with
    | nil =>
      have hQ2 : Q = .ok x := by rw [← hq]; unfold itemsP; rw [if_pos rfl]; rfl
      have HQ2 := hide hQ2
      clear hq hQ2
      simp only [List.length_nil] at x0
      go_upto_region 4 with fail
      have hres : Tryd.f14.results = #[.cell 2 26] := by kernel_rfl
      refine wp_region_list ?_
      refine wpList_load_row rfl 26 (.tmp 3) rfl X rfl 26 (sC x s) (0, 0) _ HXR.out.blk Tryd.underlying26 rfl (by kernel_rfl) ?_
      refine wpList_store_row rfl 26 (.tmp 2) (.tmp 13) rfl w.heap.size (sC x s) rfl rfl 26 _ HPR.out (by kernel_rfl) (by kernel_rfl) (by kernel_rfl) ?_
      go_wp2
      have hO6 := Only.setRow wr w.heap.size (sC x s)
      refine bodyPost_ret (v := .agg (sC x s)) (results_cell_row hres _ _ w.heap.size 26 (sC x s) (0, 0) _ rfl (heap_setRow HPR.out _) Tryd.underlying26 rfl (by kernel_rfl)) rfl ?_
      exact PS.good HQ2.out ((HXR.out.moved hO6 (fun b e => ⟨by omega, by omega⟩)).val (by omega)) (HOR.out.trans hO6 (fun i hi e => absurd e (by omega)))
    | cons t us' =>
      have hq2 : srcT (match itemP E S x (t :: us') with | .error f => .error f | .ok (p, r) => itemsP E g' p.2 p.1 r) = Q := by
        rw [← hq, itemsP, if_neg (by simp)]
      have HIT := hide (fun (h : StM wr B S) => item_any HRR.out HGU.out HWU.out HXR.out hNX hBX S h hL)
      have HIS : Hid (∀ x' S'' r', itemP E S x (t :: us') = .ok ((x', S''), r') → r' <:+ us' ∧ S''.length + r'.length ≤ S.length + (us'.length + 1)) := hide (fun x' S'' r' h => by obtain ⟨a, b, c⟩ := itemP_suf h; simp at a c; exact ⟨a, c⟩)
      unfold PI at HIT
      clear hq
      generalize itemP E S x (t :: us') = qp at *
      have HQ2 := hide hq2
      clear hq2
      simp only [List.length_cons] at x0 hg hL h8
      go_wp2_with fail
      refine (HIT.out HSMR.out).mono ?_
      intro e w6 hz
      cases qp with
      | error f =>
        obtain ⟨rfl, ho6⟩ := hz
        have HO6 := hide (HOR.out.trans ho6 (fun i hi e => by rcases e with e | e | e | e; exact .inl e; exact .inr e; omega; omega))
        clear ho6
        go_wp2
        exact ⟨rfl, PS.bad HQ2.out.symm HO6.out⟩
      | ok pp =>
        obtain ⟨⟨x', S''⟩, r'⟩ := pp
        obtain ⟨rfl, ⟨s', hx6⟩, hsm6, hr6, ho6⟩ := hz
        obtain ⟨hp1, hp2⟩ := HIS.out x' S'' r' rfl
        have hlt := hp1.length_le
        have hsu : r' <:+ (t :: us') := hp1.trans (List.suffix_cons t us')
        have HO6 := hide (HOR.out.trans ho6 (fun i hi e => by rcases e with e | e | e | e; exact .inl e; exact .inr e; omega; omega))
        have HP6 := hide ((ho6.block _ (block_lt HPR.out) (by rintro (e | e | e | e) <;> omega)).trans HPR.out)
        have HX6 := hide hx6
        have HSM6 := hide hsm6
        have HR6 := hide hr6
        have HGU6 := hide (HGU.out.suf hsu)
        have HWU6 := hide (HWU.out.suf hsu)
        clear hx6 hsm6 hr6 ho6 hp1 hsu HIS HIT
        go_wp2
        go_roundg g'
        case measure => omega
        case rel => exact ⟨x', s', S'', r', by omega, HQ2.out, by omega, HGU6.out, HWU6.out, HX6.out, HSM6.out, HR6.out, HO6.out, HP6.out⟩
end Go.Proofs.YtkpgfhapffijkaaDoor

