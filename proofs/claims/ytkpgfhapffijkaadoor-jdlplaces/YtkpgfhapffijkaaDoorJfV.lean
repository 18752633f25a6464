/- Package jdl: a source gets a calendar, a resource, a job. Written by gen_add.py. -/
import Derived.Test.YtkpgfhapffijkaaDoorJ22
import Derived.Deep.AppendLies
namespace Go.Proofs.YtkpgfhapffijkaaDoor
open Go.ChangeShapes Go.WideShapes Go.ChangeAt Go.RowKit Go.DsMem Go.DsLx Go.DsJd Go.DsMk
set_option linter.unusedVariables false
theorem rsRow_snoc (l : List Rs) (p : Rs) : rsRow (l ++ [p]) = rsRow l ++ rsC p := by simp [rsRow]
theorem rowJ_cong {K K' : Nat → JSl} : ∀ (i : Nat) (l : List Jb), (∀ j, i ≤ j → j < i + l.length → K j = K' j) → rowJ K i l = rowJ K' i l
  | i, [], _ => rfl
  | i, y :: l, h => by
    simp only [rowJ]
    rw [h i (Nat.le_refl _) (by simp), rowJ_cong (i + 1) l (fun j h1 h2 => h j (by omega) (by simp; omega))]
theorem rowCal_cong {K K' : Nat → NVal} : ∀ (i : Nat) (l : List (ByteArray × Nd)), (∀ j, i ≤ j → j < i + l.length → K j = K' j) → rowCal K i l = rowCal K' i l
  | i, [], _ => rfl
  | i, y :: l, h => by
    simp only [rowCal]
    rw [h i (Nat.le_refl _) (by simp), rowCal_cong (i + 1) l (fun j h1 h2 => h j (by omega) (by simp; omega))]
theorem SrcAt.addCal {b0 X : Nat} {w2 w3 : World} {x : Srcp} {s : SSl} (h : SrcAt b0 w2 X x s) (a : ByteArray × Nd) (nv : NVal) (hin : NdOn (fun b => SR b0 w2 x s b) w2 nv a.2) (o : Obj) {g cap : Nat}
    (hown : w3.ownsRow b0 83 5 (.slice (some ⟨g, 0, none⟩) (x.cals.length + 1) cap) (x.cals.length + 1) (rowCal s.KC 0 x.cals ++ calC a nv))
    (hgr : (w2.alloc o).grownBy w3 (sCals x s).ownBlock) (hat : (sCals x s).ownBlock = some g ∨ g = w2.heap.size + 1) (hlt3 : g < w3.heap.size) :
    SrcAt b0 (w3.setCell ⟨X, 2, none⟩ (.slice (some ⟨g, 0, none⟩) (x.cals.length + 1) cap)) X { x with cals := x.cals ++ [a] } { s with co := some ⟨g, 0, none⟩, cc := cap, KC := fun j => if j = x.cals.length then nv else s.KC j } := by
  have hl := h.lt
  have hle := h.le
  have hA : Only (fun k => (sCals x s).ownBlock = some k) w2 w3 := (Only.alloc _ w2 o).trans (Only.grown hgr) (fun i _ hi => hi)
  have hrow := h.cals.lt
  have hB : Only (fun k => (sCals x s).ownBlock = some k ∨ k = X) w2 (w3.setCell ⟨X, 2, none⟩ (.slice (some ⟨g, 0, none⟩) (x.cals.length + 1) cap)) := (hA.mono (fun _ _ e => .inl e)).trans (Only.set w3 X 2 _) (fun _ _ e => .inr e)
  have hgX : g ≠ X := by
    rcases hat with c | c
    · have := (hrow _ c).1; omega
    · omega
  have hb3 : w3.heap[X]? = some (.cells (sC x s) 26 (0, 0)) := by
    rw [hA.block X (by omega) (fun e => by have := (hrow _ e).1; omega)]; exact h.blk
  have hl1 : (x.cals ++ [a]).length = x.cals.length + 1 := by simp
  have e2 : sCals { x with cals := x.cals ++ [a] } { s with co := some ⟨g, 0, none⟩, cc := cap, KC := fun j => if j = x.cals.length then nv else s.KC j } = .slice (some ⟨g, 0, none⟩) (x.cals.length + 1) cap := by unfold sCals; simp only; rw [hl1]
  have hne : ∀ b, b < w2.heap.size → (sCals x s).ownBlock ≠ some b → b ≠ g := fun b hb hn e => by
    rcases hat with c | c
    · exact hn (by rw [e]; exact c)
    · omega
  have e_res : sRes { x with cals := x.cals ++ [a] } { s with co := some ⟨g, 0, none⟩, cc := cap, KC := fun j => if j = x.cals.length then nv else s.KC j } = sRes x s := rfl
  have e_jobs : sJobs { x with cals := x.cals ++ [a] } { s with co := some ⟨g, 0, none⟩, cc := cap, KC := fun j => if j = x.cals.length then nv else s.KC j } = sJobs x s := rfl
  have h1 : ∀ b, SR b0 w2 x s b → SR b0 (w3.setCell ⟨X, 2, none⟩ (.slice (some ⟨g, 0, none⟩) (x.cals.length + 1) cap)) { x with cals := x.cals ++ [a] } { s with co := some ⟨g, 0, none⟩, cc := cap, KC := fun j => if j = x.cals.length then nv else s.KC j } b := fun b hb => by
    refine ⟨hb.1, Nat.lt_of_lt_of_le hb.2.1 hB.size, ?_, ?_, ?_⟩
    · rw [e2]
      intro e
      exact hne b hb.2.1 hb.2.2.1 (Option.some.inj e).symm
    · rw [e_res]; exact hb.2.2.2.1
    · rw [e_jobs]; exact hb.2.2.2.2
  have h2 : ∀ ad u, SR b0 w2 x s ad.block → w2.cell? ad = some u → (w3.setCell ⟨X, 2, none⟩ (.slice (some ⟨g, 0, none⟩) (x.cals.length + 1) cap)).cell? ad = some u := fun ad u hb hc => hB.cell hc (fun e => by
    rcases e with e | e
    · exact hb.2.2.1 e
    · have := hb.1; omega)
  have k_res : ∀ k, (sRes x s).ownBlock = some k → ¬ (sCals x s).ownBlock = some k := fun k hk e => (h.ap1 k e).1 hk
  have k_jobs : ∀ k, (sJobs x s).ownBlock = some k → ¬ (sCals x s).ownBlock = some k := fun k hk e => (h.ap1 k e).2 hk
  refine ⟨?_, hl, Nat.le_trans hle hB.size, ?_, ?_, ?_, ?_, ?_, ?_, ?_⟩
  · rw [hset_same hb3]
    unfold sC
    simp only [hl1]
    kernel_rfl
  · rw [e2]
    simp only
    have e : rowCal (fun j => if j = x.cals.length then nv else s.KC j) 0 (x.cals ++ [a]) = rowCal s.KC 0 x.cals ++ calC a nv := by
      rw [rowCal_snoc, rowCal_cong (K' := s.KC) 0 x.cals (fun j _ h => if_neg (by omega))]; simp
    rw [hl1, e]
    exact own_sameK hown (fun k hk => by
      have : g = k := Option.some.inj hk
      subst this
      exact (Only.set w3 X 2 _).block g hlt3 hgX)
  · rw [e_res]
    exact own_sameK h.res (fun k hk => hB.block k (h.res.lt k hk).2 (fun e => by
      rcases e with e | e
      · exact k_res k hk e
      · have := (h.res.lt k hk).1; omega))
  · rw [e_jobs]
    exact own_sameK h.jobs (fun k hk => hB.block k (h.jobs.lt k hk).2 (fun e => by
      rcases e with e | e
      · exact k_jobs k hk e
      · have := (h.jobs.lt k hk).1; omega))
  · intro i hi
    by_cases e : i = x.cals.length
    · subst e
      simp only [if_true, List.getElem_append_right (Nat.le_refl _), Nat.sub_self, List.getElem_cons_zero]
      exact hin.mono h1 h2
    · have hi' : i < x.cals.length := by simp only [hl1] at hi; omega
      simp only [if_neg e, List.getElem_append_left hi']
      exact (h.ins i hi').mono h1 h2
  · intro i hi
    exact (h.inj i hi).mono h1 h2
  · rw [e2, e_res, e_jobs]
    intro k hk
    have : g = k := Option.some.inj hk
    subst this
    exact ⟨fun c => hne g (h.res.lt g c).2 (k_res g c) rfl, fun c => hne g (h.jobs.lt g c).2 (k_jobs g c) rfl⟩
  · rw [e_res, e_jobs]; exact h.ap2
theorem SrcAt.addRes {b0 X : Nat} {w2 w3 : World} {x : Srcp} {s : SSl} (h : SrcAt b0 w2 X x s) (a : Rs) (o : Obj) {g cap : Nat}
    (hown : w3.ownsRow b0 87 3 (.slice (some ⟨g, 0, none⟩) (x.res.length + 1) cap) (x.res.length + 1) (rsRow x.res ++ rsC a))
    (hgr : (w2.alloc o).grownBy w3 (sRes x s).ownBlock) (hat : (sRes x s).ownBlock = some g ∨ g = w2.heap.size + 1) (hlt3 : g < w3.heap.size) :
    SrcAt b0 (w3.setCell ⟨X, 3, none⟩ (.slice (some ⟨g, 0, none⟩) (x.res.length + 1) cap)) X { x with res := x.res ++ [a] } { s with ro := some ⟨g, 0, none⟩, rc := cap } := by
  have hl := h.lt
  have hle := h.le
  have hA : Only (fun k => (sRes x s).ownBlock = some k) w2 w3 := (Only.alloc _ w2 o).trans (Only.grown hgr) (fun i _ hi => hi)
  have hrow := h.res.lt
  have hB : Only (fun k => (sRes x s).ownBlock = some k ∨ k = X) w2 (w3.setCell ⟨X, 3, none⟩ (.slice (some ⟨g, 0, none⟩) (x.res.length + 1) cap)) := (hA.mono (fun _ _ e => .inl e)).trans (Only.set w3 X 3 _) (fun _ _ e => .inr e)
  have hgX : g ≠ X := by
    rcases hat with c | c
    · have := (hrow _ c).1; omega
    · omega
  have hb3 : w3.heap[X]? = some (.cells (sC x s) 26 (0, 0)) := by
    rw [hA.block X (by omega) (fun e => by have := (hrow _ e).1; omega)]; exact h.blk
  have hl1 : (x.res ++ [a]).length = x.res.length + 1 := by simp
  have e2 : sRes { x with res := x.res ++ [a] } { s with ro := some ⟨g, 0, none⟩, rc := cap } = .slice (some ⟨g, 0, none⟩) (x.res.length + 1) cap := by unfold sRes; simp only; rw [hl1]
  have hne : ∀ b, b < w2.heap.size → (sRes x s).ownBlock ≠ some b → b ≠ g := fun b hb hn e => by
    rcases hat with c | c
    · exact hn (by rw [e]; exact c)
    · omega
  have e_cals : sCals { x with res := x.res ++ [a] } { s with ro := some ⟨g, 0, none⟩, rc := cap } = sCals x s := rfl
  have e_jobs : sJobs { x with res := x.res ++ [a] } { s with ro := some ⟨g, 0, none⟩, rc := cap } = sJobs x s := rfl
  have h1 : ∀ b, SR b0 w2 x s b → SR b0 (w3.setCell ⟨X, 3, none⟩ (.slice (some ⟨g, 0, none⟩) (x.res.length + 1) cap)) { x with res := x.res ++ [a] } { s with ro := some ⟨g, 0, none⟩, rc := cap } b := fun b hb => by
    refine ⟨hb.1, Nat.lt_of_lt_of_le hb.2.1 hB.size, ?_, ?_, ?_⟩
    · rw [e_cals]; exact hb.2.2.1
    · rw [e2]
      intro e
      exact hne b hb.2.1 hb.2.2.2.1 (Option.some.inj e).symm
    · rw [e_jobs]; exact hb.2.2.2.2
  have h2 : ∀ ad u, SR b0 w2 x s ad.block → w2.cell? ad = some u → (w3.setCell ⟨X, 3, none⟩ (.slice (some ⟨g, 0, none⟩) (x.res.length + 1) cap)).cell? ad = some u := fun ad u hb hc => hB.cell hc (fun e => by
    rcases e with e | e
    · exact hb.2.2.2.1 e
    · have := hb.1; omega)
  have k_cals : ∀ k, (sCals x s).ownBlock = some k → ¬ (sRes x s).ownBlock = some k := fun k hk e => (h.ap1 k hk).1 e
  have k_jobs : ∀ k, (sJobs x s).ownBlock = some k → ¬ (sRes x s).ownBlock = some k := fun k hk e => h.ap2 k e hk
  refine ⟨?_, hl, Nat.le_trans hle hB.size, ?_, ?_, ?_, ?_, ?_, ?_, ?_⟩
  · rw [hset_same hb3]
    unfold sC
    simp only [hl1]
    kernel_rfl
  · rw [e_cals]
    exact own_sameK h.cals (fun k hk => hB.block k (h.cals.lt k hk).2 (fun e => by
      rcases e with e | e
      · exact k_cals k hk e
      · have := (h.cals.lt k hk).1; omega))
  · rw [e2]
    simp only
    have e : rsRow (x.res ++ [a]) = rsRow x.res ++ rsC a := rsRow_snoc _ _
    rw [hl1, e]
    exact own_sameK hown (fun k hk => by
      have : g = k := Option.some.inj hk
      subst this
      exact (Only.set w3 X 3 _).block g hlt3 hgX)
  · rw [e_jobs]
    exact own_sameK h.jobs (fun k hk => hB.block k (h.jobs.lt k hk).2 (fun e => by
      rcases e with e | e
      · exact k_jobs k hk e
      · have := (h.jobs.lt k hk).1; omega))
  · intro i hi
    exact (h.ins i hi).mono h1 h2
  · intro i hi
    exact (h.inj i hi).mono h1 h2
  · rw [e2, e_cals, e_jobs]
    intro k hk
    refine ⟨fun c => ?_, (h.ap1 k hk).2⟩
    have : g = k := Option.some.inj c
    subst this
    exact hne g (h.cals.lt g hk).2 (k_cals g hk) rfl
  · rw [e2, e_jobs]
    intro k hk c
    have : g = k := Option.some.inj hk
    subst this
    exact hne g (h.jobs.lt g c).2 (k_jobs g c) rfl
theorem SrcAt.addJob {b0 X : Nat} {w2 w3 : World} {x : Srcp} {s : SSl} (h : SrcAt b0 w2 X x s) (a : Jb) (js : JSl) (hin : JIn (fun b => SR b0 w2 x s b) w2 js a) (o : Obj) {g cap : Nat}
    (hown : w3.ownsRow b0 48 24 (.slice (some ⟨g, 0, none⟩) (x.jobs.length + 1) cap) (x.jobs.length + 1) (rowJ s.KJ 0 x.jobs ++ (jC a js).toList))
    (hgr : (w2.alloc o).grownBy w3 (sJobs x s).ownBlock) (hat : (sJobs x s).ownBlock = some g ∨ g = w2.heap.size + 1) (hlt3 : g < w3.heap.size) :
    SrcAt b0 (w3.setCell ⟨X, 4, none⟩ (.slice (some ⟨g, 0, none⟩) (x.jobs.length + 1) cap)) X { x with jobs := x.jobs ++ [a] } { s with jo := some ⟨g, 0, none⟩, jc := cap, KJ := fun j => if j = x.jobs.length then js else s.KJ j } := by
  have hl := h.lt
  have hle := h.le
  have hA : Only (fun k => (sJobs x s).ownBlock = some k) w2 w3 := (Only.alloc _ w2 o).trans (Only.grown hgr) (fun i _ hi => hi)
  have hrow := h.jobs.lt
  have hB : Only (fun k => (sJobs x s).ownBlock = some k ∨ k = X) w2 (w3.setCell ⟨X, 4, none⟩ (.slice (some ⟨g, 0, none⟩) (x.jobs.length + 1) cap)) := (hA.mono (fun _ _ e => .inl e)).trans (Only.set w3 X 4 _) (fun _ _ e => .inr e)
  have hgX : g ≠ X := by
    rcases hat with c | c
    · have := (hrow _ c).1; omega
    · omega
  have hb3 : w3.heap[X]? = some (.cells (sC x s) 26 (0, 0)) := by
    rw [hA.block X (by omega) (fun e => by have := (hrow _ e).1; omega)]; exact h.blk
  have hl1 : (x.jobs ++ [a]).length = x.jobs.length + 1 := by simp
  have e2 : sJobs { x with jobs := x.jobs ++ [a] } { s with jo := some ⟨g, 0, none⟩, jc := cap, KJ := fun j => if j = x.jobs.length then js else s.KJ j } = .slice (some ⟨g, 0, none⟩) (x.jobs.length + 1) cap := by unfold sJobs; simp only; rw [hl1]
  have hne : ∀ b, b < w2.heap.size → (sJobs x s).ownBlock ≠ some b → b ≠ g := fun b hb hn e => by
    rcases hat with c | c
    · exact hn (by rw [e]; exact c)
    · omega
  have e_cals : sCals { x with jobs := x.jobs ++ [a] } { s with jo := some ⟨g, 0, none⟩, jc := cap, KJ := fun j => if j = x.jobs.length then js else s.KJ j } = sCals x s := rfl
  have e_res : sRes { x with jobs := x.jobs ++ [a] } { s with jo := some ⟨g, 0, none⟩, jc := cap, KJ := fun j => if j = x.jobs.length then js else s.KJ j } = sRes x s := rfl
  have h1 : ∀ b, SR b0 w2 x s b → SR b0 (w3.setCell ⟨X, 4, none⟩ (.slice (some ⟨g, 0, none⟩) (x.jobs.length + 1) cap)) { x with jobs := x.jobs ++ [a] } { s with jo := some ⟨g, 0, none⟩, jc := cap, KJ := fun j => if j = x.jobs.length then js else s.KJ j } b := fun b hb => by
    refine ⟨hb.1, Nat.lt_of_lt_of_le hb.2.1 hB.size, ?_, ?_, ?_⟩
    · rw [e_cals]; exact hb.2.2.1
    · rw [e_res]; exact hb.2.2.2.1
    · rw [e2]
      intro e
      exact hne b hb.2.1 hb.2.2.2.2 (Option.some.inj e).symm
  have h2 : ∀ ad u, SR b0 w2 x s ad.block → w2.cell? ad = some u → (w3.setCell ⟨X, 4, none⟩ (.slice (some ⟨g, 0, none⟩) (x.jobs.length + 1) cap)).cell? ad = some u := fun ad u hb hc => hB.cell hc (fun e => by
    rcases e with e | e
    · exact hb.2.2.2.2 e
    · have := hb.1; omega)
  have k_cals : ∀ k, (sCals x s).ownBlock = some k → ¬ (sJobs x s).ownBlock = some k := fun k hk e => (h.ap1 k hk).2 e
  have k_res : ∀ k, (sRes x s).ownBlock = some k → ¬ (sJobs x s).ownBlock = some k := fun k hk e => h.ap2 k hk e
  refine ⟨?_, hl, Nat.le_trans hle hB.size, ?_, ?_, ?_, ?_, ?_, ?_, ?_⟩
  · rw [hset_same hb3]
    unfold sC
    simp only [hl1]
    kernel_rfl
  · rw [e_cals]
    exact own_sameK h.cals (fun k hk => hB.block k (h.cals.lt k hk).2 (fun e => by
      rcases e with e | e
      · exact k_cals k hk e
      · have := (h.cals.lt k hk).1; omega))
  · rw [e_res]
    exact own_sameK h.res (fun k hk => hB.block k (h.res.lt k hk).2 (fun e => by
      rcases e with e | e
      · exact k_res k hk e
      · have := (h.res.lt k hk).1; omega))
  · rw [e2]
    simp only
    have e : rowJ (fun j => if j = x.jobs.length then js else s.KJ j) 0 (x.jobs ++ [a]) = rowJ s.KJ 0 x.jobs ++ (jC a js).toList := by
      rw [rowJ_snoc, rowJ_cong (K' := s.KJ) 0 x.jobs (fun j _ h => if_neg (by omega))]; simp
    rw [hl1, e]
    exact own_sameK hown (fun k hk => by
      have : g = k := Option.some.inj hk
      subst this
      exact (Only.set w3 X 4 _).block g hlt3 hgX)
  · intro i hi
    exact (h.ins i hi).mono h1 h2
  · intro i hi
    by_cases e : i = x.jobs.length
    · subst e
      simp only [if_true, List.getElem_append_right (Nat.le_refl _), Nat.sub_self, List.getElem_cons_zero]
      exact hin.mono h1 h2
    · have hi' : i < x.jobs.length := by simp only [hl1] at hi; omega
      simp only [if_neg e, List.getElem_append_left hi']
      exact (h.inj i hi').mono h1 h2
  · rw [e2, e_cals, e_res]
    intro k hk
    refine ⟨(h.ap1 k hk).1, fun c => ?_⟩
    have : g = k := Option.some.inj c
    subst this
    exact hne g (h.cals.lt g hk).2 (k_cals g hk) rfl
  · rw [e2, e_res]
    intro k hk c
    have : g = k := Option.some.inj c
    subst this
    exact hne g (h.res.lt g hk).2 (k_res g hk) rfl
end Go.Proofs.YtkpgfhapffijkaaDoor
