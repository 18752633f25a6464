/- Package jdl: a part of a job: out. Written by gen_out.py. -/
import Derived.Test.YtkpgfhapffijkaaDoorJfL
namespace Go.Proofs.YtkpgfhapffijkaaDoor
open Go.ChangeShapes Go.WideShapes Go.ChangeAt Go.RowKit Go.DsMem Go.DsLx Go.DsJd Go.DsMk
set_option linter.unusedVariables false
theorem ocRow_app (l m : List Oc) : ocRow (l ++ m) = ocRow l ++ ocRow m := by simp [ocRow]
theorem ocRow_len (l : List Oc) : (ocRow l).length = l.length * 3 := by
  induction l with
  | nil => rfl
  | cons a r ih => simp [ocRow, ocC] at ih ⊢; omega
theorem ocRow_one (l : List Oc) : ∀ u ∈ ocRow l, u.oneCell' = true := by
  intro u hu
  simp only [ocRow, List.mem_flatMap] at hu
  obtain ⟨p, _, hu⟩ := hu
  exact ocC_one p u hu
theorem JbAt.addOuts {b0 J : Nat} {w2 w3 : World} {x : Jb} {s : JSl} (h : JbAt b0 w2 J x s) (l : List Oc) {g cap : Nat}
    (hown : w3.ownsRow b0 50 3 (.slice (some ⟨g, 0, none⟩) (x.outs.length + l.length) cap) (x.outs.length + l.length) (ocRow x.outs ++ ocRow l))
    (hgr : w2.grownBy w3 (jOuts x s).ownBlock) (hat : (jOuts x s).ownBlock = some g ∨ g = w2.heap.size) (hlt3 : g < w3.heap.size) :
    JbAt b0 (w3.setCell ⟨J, 17, none⟩ (.slice (some ⟨g, 0, none⟩) (x.outs.length + l.length) cap)) J { x with outs := x.outs ++ l } { s with oo := some ⟨g, 0, none⟩, oc := cap } := by
  have hl := h.lt
  have hle := h.le
  have hA : Only (fun k => (jOuts x s).ownBlock = some k) w2 w3 := Only.grown hgr
  have hrow := h.outs.lt
  have hrow2 := h.needs.lt
  have hB : Only (fun k => (jOuts x s).ownBlock = some k ∨ k = J) w2 (w3.setCell ⟨J, 17, none⟩ (.slice (some ⟨g, 0, none⟩) (x.outs.length + l.length) cap)) := (hA.mono (fun _ _ e => .inl e)).trans (Only.set w3 J 17 _) (fun _ _ e => .inr e)
  have hgJ : g ≠ J := by
    rcases hat with c | c
    · have := (hrow _ c).1; omega
    · omega
  have hb3 : w3.heap[J]? = some (.cells (jC x s) 48 (0, 0)) := by
    rw [hA.block J (by omega) (fun e => by have := (hrow _ e).1; omega)]; exact h.blk
  have hl1 : (x.outs ++ l).length = x.outs.length + l.length := by simp
  have e1 : jNeeds { x with outs := x.outs ++ l } { s with oo := some ⟨g, 0, none⟩, oc := cap } = jNeeds x s := rfl
  have e2 : jOuts { x with outs := x.outs ++ l } { s with oo := some ⟨g, 0, none⟩, oc := cap } = .slice (some ⟨g, 0, none⟩) (x.outs.length + l.length) cap := by unfold jOuts; simp only; rw [hl1]
  have hne : ∀ b, b < w2.heap.size → (jOuts x s).ownBlock ≠ some b → b ≠ g := fun b hb hn e => by
    rcases hat with c | c
    · exact hn (by rw [e]; exact c)
    · omega
  have h1 : ∀ b, JR b0 w2 x s b → JR b0 (w3.setCell ⟨J, 17, none⟩ (.slice (some ⟨g, 0, none⟩) (x.outs.length + l.length) cap)) { x with outs := x.outs ++ l } { s with oo := some ⟨g, 0, none⟩, oc := cap } b := fun b hb => by
    refine ⟨hb.1, Nat.lt_of_lt_of_le hb.2.1 hB.size, ?_, ?_⟩
    · rw [e2]
      intro e
      exact hne b hb.2.1 hb.2.2.1 (Option.some.inj e).symm
    · rw [e1]; exact hb.2.2.2
  have h2 : ∀ ad u, JR b0 w2 x s ad.block → w2.cell? ad = some u → (w3.setCell ⟨J, 17, none⟩ (.slice (some ⟨g, 0, none⟩) (x.outs.length + l.length) cap)).cell? ad = some u := fun ad u hb hc => hB.cell hc (fun e => by
    rcases e with e | e
    · exact hb.2.2.1 e
    · have := hb.1; omega)
  refine ⟨?_, hl, Nat.le_trans hle hB.size, h.days.mono h1 h2, h.work.mono h1 h2, h.inn.mono h1 h2, ?_, ?_, ?_⟩
  · rw [hset_same hb3]
    unfold jC
    simp only [hl1]
    kernel_rfl
  · rw [e2]
    simp only
    rw [hl1, ocRow_app]
    exact own_sameK hown (fun k hk => by
      have : g = k := Option.some.inj hk
      subst this
      exact (Only.set w3 J 17 _).block g hlt3 hgJ)
  · rw [e1]
    exact own_sameK h.needs (fun k hk => hB.block k (hrow2 k hk).2 (fun e => by
      rcases e with e | e
      · exact h.apart k e hk
      · have := (hrow2 k hk).1; omega))
  · rw [e1, e2]
    intro k hk e
    have : g = k := Option.some.inj hk
    subst this
    exact hne g (hrow2 g e).2 (fun c => h.apart g c e) rfl
theorem listP_pos {α : Type} (E : Int) (sep : ByteArray) (part : List Tk → Except Fl (α × List Tk)) (n : Nat) (ws : List Tk) (l : List α) (r : List Tk) (h : listP E sep part n ws = .ok (l, r)) : 0 < l.length := by
  cases n with
  | zero => simp [listP] at h
  | succ n =>
    unfold listP at h
    split at h
    · cases h
    · split at h
      · split at h
        · cases h
        · cases h; simp
      · cases h; simp
theorem thenP_ok {α : Type} {E : Int} {x : ByteArray} {p : Except Fl (α × List Tk)} {a : α} {r : List Tk} (h : thenP E x p = .ok (a, r)) : ∃ r', p = .ok (a, r') := by
  unfold thenP at h
  split at h
  · cases h
  · split at h
    · cases h
    · cases h; exact ⟨_, rfl⟩
/-- what out reads -/
def outPP (S : List (Int × ByteArray)) (x : Jb) (q : Except Fl (List Oc × List Tk)) : Except Fl ((Jb × List (Int × ByteArray)) × List Tk) :=
  match q with | .error f => .error f | .ok (l, r) => .ok (({ x with outs := x.outs ++ l }, S), r)
set_option maxHeartbeats 8000000 in
set_option maxRecDepth 20000 in
theorem part_out {w : World} {R J b0 : Nat} {E : Int} {B N : Nat} {t : Tk} {r : List Tk} (h : Rdr w R E 0 B N (t :: r)) (hc : t.text = wOut) {x : Jb} {s : JSl} (hj : JbAt b0 w J x s) (hNJ : N ≤ J) (hBJ : B < J) (k : Int) (S : List (Int × ByteArray)) (hs : StM w B S) (hn8 : x.outs.length ≤ 8) :
    Calls Tryd.prog 48 #[.pointer (some ⟨R, 0, none⟩), .pointer (some ⟨J, 0, none⟩), .int .i64 k] w (PT R E B N J b0 (outPP S x (thenP E ⟨#[59]⟩ (outsP E (8 - x.outs.length) r))) w) := by
  obtain ⟨hN1, hN2⟩ := h.n
  have hlt := hj.lt
  have hle := hj.le
  have hmf : ∀ (fn : Fn) (first cap : Array Value) (w : World), (Instr.makeFunc fn first cap).run Tryd.prog w = .ok (.func fn first cap) w := fun _ _ _ _ => rfl
  obtain ⟨i0, hi0, hz0, hz1, hz2⟩ := info_parts infoOc
  have HBR : Hid (¬ B = R) := hide (fun e => by obtain ⟨es, clock, hm⟩ := hs.map; obtain ⟨uo, uc, o, h1, _⟩ := h; rw [e, h1] at hm; cases hm)
  have hsub : IntKind.i64.wrap ((8 : Int) - (x.outs.length : Int)) = ((8 - x.outs.length : Nat) : Int) := by rw [IntKind.wrap_i64]; omega
  obtain ⟨wb, hwb⟩ : ∃ wb, wb = w.alloc (.cells #[.pointer (some ⟨R, 0, none⟩)] 35) := ⟨_, rfl⟩
  have hOb : Only (fun _ => False) w wb := by rw [hwb]; exact Only.alloc _ _ _
  have bx : wb.cell? ⟨w.heap.size, 0, none⟩ = some (.pointer (some ⟨R, 0, none⟩)) := by rw [hwb, World.cell?_alloc_mark]; rfl
  have hsb : wb.heap.size = w.heap.size + 1 := by rw [hwb]; simp
  have hrb : Rdr wb R E 0 B N (t :: r) := by rw [hwb]; exact h.below (below_new4 _)
  have hjb := hj.moved hOb (fun b e => e.elim)
  have hsb2 : StM wb B S := by rw [hwb]; exact hs.below ((Below.refl _ _).alloc (Nat.le_refl _) _)
  have HT := hide (text_any hrb)
  simp only [textF] at HT
  rw [hc] at HT
  unfold wOut at HT
  have j17b : wb.cell? ⟨J, 17, none⟩ = some (.slice s.oo x.outs.length s.oc) := (hjb.cell 17).trans rfl
  obtain ⟨M, hM⟩ : ∃ M, M = 8 - x.outs.length := ⟨_, rfl⟩
  rw [← hM] at hsub ⊢
  have hM8 : x.outs.length + M ≤ 8 := by omega
  obtain ⟨wl, hwl⟩ : ∃ wl, wl = wb.alloc (.cells #[.int .i64 (M : Int)] 3) := ⟨_, rfl⟩
  have hOl : Only (fun _ => False) wb wl := by rw [hwl]; exact Only.alloc _ _ _
  have lx : wl.cell? ⟨wb.heap.size, 0, none⟩ = some (.int .i64 (M : Int)) := by rw [hwl, World.cell?_alloc_mark]; rfl
  have lx2 : wl.cell? ⟨w.heap.size + 1, 0, none⟩ = some (.int .i64 (M : Int)) := by rw [← hsb]; exact lx
  have lb : wl.cell? ⟨w.heap.size, 0, none⟩ = some (.pointer (some ⟨R, 0, none⟩)) := hOl.cell bx (fun e => e)
  have hsl : wl.heap.size = w.heap.size + 2 := by rw [hwl]; simp [hsb]
  have hrl : Rdr wl R E 0 B N (t :: r) := by rw [hwl]; exact hrb.below (below_new4 _)
  have hjl := hjb.moved hOl (fun b e => e.elim)
  have hsl2 : StM wl B S := by rw [hwl]; exact hsb2.below ((Below.refl _ _).alloc (Nat.le_refl _) _)
  have j17 : wl.cell? ⟨J, 17, none⟩ = some (.slice s.oo x.outs.length s.oc) := (hjl.cell 17).trans rfl
  have HS : Hid (Calls Tryd.prog 52 #[.pointer (some ⟨R, 0, none⟩), .func (.func 53) #[] #[.pointer (some ⟨w.heap.size, 0, none⟩), .pointer (some ⟨w.heap.size + 1, 0, none⟩)]] wl.drew (PE R E 0 B N (thenP E ⟨#[59]⟩ (outsP E M r)) VLO wl.drew)) :=
    hide (saidO hrl.drew 53 #[] #[.pointer (some ⟨w.heap.size, 0, none⟩), .pointer (some ⟨w.heap.size + 1, 0, none⟩)] (outsP E M) cf_part1 (fun w1 h1 ho1 => by
      have := part1_any h1 M (by omega) w.heap.size (w.heap.size + 1) (ho1.cell (w := wl.drew) lb (fun e => by change w.heap.size = _ at e; omega)) (ho1.cell (w := wl.drew) lx2 (fun e => by change w.heap.size + 1 = _ at e; omega))
      simpa using this))
  have HJL := hide hjl
  have HSL := hide hsl2
  have HOL := hide ((hOb.trans hOl (fun _ _ e => e)).mono (T := TJ R B J b0) (fun _ _ e => e.elim))
  have hJb : J < wb.heap.size := by omega
  have hJl : J < wl.heap.size := by omega
  clear h hj hs hc hrb hjb hsb2 hOb hOl hrl hjl hsl2 lx hM
  have HPOS : Hid (∀ l r', thenP E ⟨#[59]⟩ (outsP E M r) = .ok (l, r') → 0 < l.length ∧ l.length ≤ M) := hide (fun l r' h => by
    obtain ⟨r2, h2⟩ := thenP_ok h
    exact ⟨listP_pos _ _ _ _ _ _ _ h2, listP_len _ _ _ _ _ _ _ h2⟩)
  generalize thenP E ⟨#[59]⟩ (outsP E M r) = q at *
  have HS2 : Hid (Calls Tryd.prog 52 #[.pointer (some ⟨R, 0, none⟩), .func (.func 53) #[] #[.pointer (some ⟨w.heap.size, 0, none⟩), .pointer (some ⟨w.heap.size + 1, 0, none⟩)]] wl.drew fun e w' => ((∃ f, q = .error f ∧ e = .panicked [{ v := flV f, recovered := false }] ∧ Only (· = R) wl.drew w') ∨ (∃ (l : List Oc) (r' : List Tk) (gl cl : Nat), q = .ok (l, r') ∧ (0 < l.length ∧ l.length ≤ M) ∧ e = .returned (.slice (some ⟨gl, 0, none⟩) l.length cl) ∧ (∀ j u, (ocRow l)[j]? = some u → w'.cell? ((⟨gl, 0, none⟩ : Addr).add j) = some u) ∧ Rdr w' R E 0 B N r' ∧ Only (· = R) wl.drew w'))) := by
    refine hide (HS.out.mono ?_)
    intro e w' hz
    cases q with
    | error f => exact .inl ⟨f, rfl, hz.1, hz.2⟩
    | ok pr =>
      obtain ⟨l, r'⟩ := pr
      obtain ⟨v, rfl, ⟨uo, uc, rfl, hown⟩, hr, ho⟩ := hz
      have hp := HPOS.out l r' rfl
      rcases hown.2 with ⟨_, h0⟩ | ⟨g, cap, cur, e, _⟩
      · have := hp.1; simp only at h0; omega
      · simp only [Value.slice.injEq] at e
        obtain ⟨rfl, -, rfl⟩ := e
        exact .inr ⟨l, r', g, _, rfl, hp, rfl, hown.cells (g := g) rfl, hr, ho⟩
  clear HS
  have KP : Hid (∀ w', Only (· = R) wl.drew w' → w'.cell? ⟨w.heap.size, 0, none⟩ = some (.pointer (some ⟨R, 0, none⟩)) ∧ w'.cell? ⟨J, 17, none⟩ = some (.slice s.oo x.outs.length s.oc)) := fun w' ho =>
    ⟨ho.cell (w := wl.drew) lb (fun e => by change w.heap.size = _ at e; omega), ho.cell (w := wl.drew) j17 (fun e => by change J = _ at e; omega)⟩
  have KJ : Hid (∀ w', Only (· = R) wl.drew w' → JbAt b0 w' J x s) := fun w' ho => HJL.out.drew.moved ho (fun b e => ⟨by omega, by omega⟩)
  have KS : Hid (∀ w', Only (· = R) wl.drew w' → StM w' B S) := fun w' ho => (show StM wl.drew B S from HSL.out).only ho HBR.out
  have KY : Hid (∀ w', Only (· = R) wl.drew w' → ∀ w3, w'.grownBy w3 (jOuts x s).ownBlock → w3.cell? ⟨J, 17, none⟩ = some (.slice s.oo x.outs.length s.oc) ∧ w3.frozen? ⟨J, 17, none⟩ = false ∧ J < w3.heap.size) := fun w' ho w3 hg => by
    have hA : Only (fun k => (jOuts x s).ownBlock = some k) w' w3 := Only.grown hg
    have hn : ¬ (jOuts x s).ownBlock = some J := fun e => by have := ((KJ.out _ ho).outs.lt J e).1; omega
    have hJw := block_lt (KJ.out _ ho).blk
    have hbJ := (hA.block J hJw hn).trans (KJ.out _ ho).blk
    exact ⟨by rw [cell_of hbJ]; rfl, frozen_of hbJ, block_lt hbJ⟩
  go_enter Tryd.func48, Tryd.ntmps48
  go_wp2_with fail
  rw [← hwb]
  clear hwb
  go_wp2_with fail
  refine HT.out.mono ?_
  rintro e w1 ⟨rfl, rfl⟩
  go_wp2_with fail
  try rw [hsub]
  rw [← hwl]
  clear hwl
  go_region_law
    (first
      | (refine step_append_lies _ (by rfl) _ _ _ (by rfl) b0 50 i0 _ 3 32 Tryd.underlying45 hi0 hz0 hz1 hz2 rfl (by omega) (.slice s.oo x.outs.length s.oc) x.outs.length (ocRow x.outs) (by rfl) (by exact HJ2.out.outs)
              ⟨gl, 0, none⟩ l.length cl (ocRow l) (by rfl) (ocRow_len l) HC2.out (ocRow_one l)
              hpos.1 (by unfold maxLen; omega) (by omega) hle2 w2.heap.size rfl ?_; intro gg cap w3 hown3 hgrow hat hlt3; have hy3 := HY.out w3 hgrow; obtain ⟨y1, y2, y3⟩ := hy3)
      | (go_simp; go_wp2_with (go_at_call 52; refine HS2.out.mono ?_; intro e w2 hz; rcases hz with ⟨f, hq, rfl, ho⟩ | ⟨l, r', gl, cl, hq2, hpos, rfl, hc2, hr2, ho2⟩; (exact ⟨rfl, PT.bad (f := f) (by unfold outPP; rw [hq]) (HOL.out.trans (((Only.refl _ _).drew.trans ho (fun _ _ h => h)).mono (T := TJ R B J b0) (fun _ _ e => .inl e)) (fun _ _ h => h))⟩); have HQ2 := hide hq2; clear hq2; have HC2 := hide hc2; have HR2 := hide hr2; have HO2 := hide ho2; have hs2 := ho2.size; obtain ⟨k0, k1⟩ := KP.out _ ho2; have HJ2 := hide (KJ.out _ ho2); have hle2 := (KJ.out _ ho2).le; have hJ2 : J < w2.heap.size := (by omega); have hJ2n : ¬ J = w2.heap.size := (by omega); have HY := hide (KY.out _ ho2); clear hr2 ho2 hc2)))
  all_goals
    have HAD := hide (HJ2.out.addOuts l hown3 hgrow hat hlt3)
    have hA : Only (fun k => b0 ≤ k) w2 w3 := (Only.grown hgrow).mono (fun i _ hi => (HJ2.out.outs.lt i hi).1)
    have hB : Only (TJ R B J b0) w2 (w3.setCell ⟨J, 17, none⟩ (.slice (some ⟨gg, 0, none⟩) (x.outs.length + l.length) cap)) := (hA.mono (fun _ _ e => .inr (.inr (.inr e)))).trans (Only.set w3 J 17 _) (fun _ _ e => .inr (.inr (.inl e)))
    have HB := hide hB
    have HR3 : Hid (Rdr (w3.setCell ⟨J, 17, none⟩ (.slice (some ⟨gg, 0, none⟩) (x.outs.length + l.length) cap)) R E 0 B N r') := hide (HR2.out.only (((hA.mono (T := fun k => b0 ≤ k ∨ k = J) (fun _ _ e => .inl e)).trans (Only.set w3 J 17 _) (fun _ _ e => .inr e)).toBelow (by omega) (fun i e => by rcases e with e | e <;> omega)))
    have HS3 : Hid (StM (w3.setCell ⟨J, 17, none⟩ (.slice (some ⟨gg, 0, none⟩) (x.outs.length + l.length) cap)) B S) := hide ((KS.out _ HO2.out).only ((hA.mono (T := fun k => b0 ≤ k ∨ k = J) (fun _ _ e => .inl e)).trans (Only.set w3 J 17 _) (fun _ _ e => .inr e)) (fun e => by rcases e with e | e <;> omega))
    have HO3 := hide ((HOL.out.trans (((Only.refl _ _).drew.trans HO2.out (fun _ _ h => h)).mono (T := TJ R B J b0) (fun _ _ e => .inl e)) (fun _ _ h => h)).trans HB.out (fun _ _ h => h))
    clear hown3 hgrow hat hA hB
    go_wp2
    go_end0
    exact PT.good (by unfold outPP; rw [HQ2.out]) ⟨_, HAD.out⟩ HS3.out HR3.out HO3.out
end Go.Proofs.YtkpgfhapffijkaaDoor
