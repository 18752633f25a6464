/- Package cal: days of every node that can be asked. -/
import Derived.Test.YthbfjkdklnffjaaDoorCeH
namespace Go.Proofs.YthbfjkdklnffjaaDoor
open Go.ChangeShapes Go.WideShapes Go.ChangeAt Go.RowKit Go.DsMem Go.DsMk
set_option linter.unusedVariables false

theorem shape_at {op : Int} {nl kl : Nat} {nm : ByteArray} (h : shapeB op nl kl nm = true) : (1 ≤ op ∧ op ≤ 10) ∧ (shpN op).1 ≤ (nl : Int) ∧ (nl : Int) ≤ (shpN op).2.1 ∧ (shpN op).2.2.1 ≤ (kl : Int) ∧ (kl : Int) ≤ (shpN op).2.2.2.1 := by
  unfold shapeB at h
  simp only [Bool.and_eq_true, decide_eq_true_eq] at h
  obtain ⟨h1, ⟨⟨⟨h3, h4⟩, h5⟩, h6⟩, _⟩ := h
  exact ⟨h1, h3, h4, h5, h6⟩
theorem rightB_bd {k : Int} (h : DsCal.rightB k = true) : 1 ≤ k ∧ k ≤ 3652059 := by
  unfold DsCal.rightB at h; simpa using h

set_option maxHeartbeats 4000000 in
theorem days_step (k : Nat) (ih : DaysOk k) : DaysOk (k + 1) := by
  intro t v M n W w B co cc cs g o V h hp hv hc h24 hm hM hok hn
  obtain ⟨op, ns, kids, nm, no, nc, ko, kc, kg, kO, K, hnn, hnl, hkl, hkc, hko, hcs, hks⟩ := hv
  obtain ⟨⟨hs, hnu⟩, h5, hne⟩ := hok
  obtain ⟨⟨o1, o10⟩, s1, s2, s3, s4⟩ := shape_at hs
  have hrw : RdI w (.slice no ns.length nc) ns := hnn.below h.below
  have hcase : op = 1 ∨ op = 2 ∨ op = 3 ∨ op = 4 ∨ op = 5 ∨ op = 6 ∨ op = 7 ∨ op = 8 ∨ op = 9 ∨ op = 10 := by omega
  show Calls _ _ #[_, ndV op no ns.length nc ko kids.length kc nm, _] _ _
  rcases hcase with rfl | rfl | rfl | rfl | rfl | rfl | rfl | rfl | rfl | rfl
  · simp [shpN] at s1 s2 s3 s4
    have hl : ns.length = 1 := by omega
    have e1 := one_num hl
    have hb : 0 ≤ ns.getD 0 0 ∧ ns.getD 0 0 ≤ 127 := by
      rw [e1] at hnu; simpa [numsB, betB] using hnu
    obtain ⟨x, hx⟩ := Int.eq_ofNat_of_zero_le hb.1
    rw [hx] at e1
    rw [hl]
    rw [e1] at hrw
    have := h.here.days1 co cs.length cc B x no nc ko kids.length kc nm M hM (by simpa using hrw) (by omega)
    refine dayd_of_gc hm (by omega) ?_
    have er : daysF cs M (k + 1) (.mk 1 ns kids nm) = weekN x ((M.f - 1) % 7) M.s := by simp only [daysF, if_true]; rw [hx]; rfl
    rw [er]; exact this
  · simp [shpN] at s1 s2 s3 s4
    have hb : ∀ q ∈ ns, 1 ≤ q ∧ q ≤ 3652059 := fun q hq => by
      simp [numsB] at hnu; exact rightB_bd (hnu q hq)
    refine dayd_of_gc hm (by omega) ?_
    have er : daysF cs M (k + 1) (.mk 2 ns kids nm) = theseN M.f M.s ns := by simp [daysF]
    rw [er]; exact h.here.days2 co cs.length cc B ns no nc ko kids.length kc nm M hM hrw (by omega) hb
  · simp [shpN] at s1 s2 s3 s4
    have hb : ∀ q ∈ ns, -31 ≤ q ∧ q ≤ 31 := fun q hq => by
      simp [numsB, endB] at hnu; have := hnu q hq; omega
    refine dayd_of_gc hm (by omega) ?_
    have er : daysF cs M (k + 1) (.mk 3 ns kids nm) = daysN M.s ns := by simp [daysF]
    rw [er]; exact h.here.days3 co cs.length cc B ns no nc ko kids.length kc nm M hM hrw (by omega) hb
  · simp [shpN] at s1 s2 s3 s4
    have hl : ns.length = 2 := by omega
    have e1 := two_num hl
    have hb : DsCal.okA (ns.getD 0 0) (ns.getD 1 0) := by
      simp [numsB, betB, endB] at hnu
      simp only [List.getD_eq_getElem?_getD]
      unfold DsCal.okA; omega
    rw [hl]
    rw [e1] at hrw
    refine dayd_of_gc hm (by omega) ?_
    have er : daysF cs M (k + 1) (.mk 4 ns kids nm) = theseN M.f M.s [(DsCal.nres M.f M.s (ns.getD 0 0) (ns.getD 1 0)).1] := by simp [daysF]
    rw [er]; exact h.here.days4 co cs.length cc B _ _ no nc ko kids.length kc nm M hM (by simpa using hrw) hb
  · simp [shpN] at s1 s2 s3 s4
    have hl : ns.length = 1 := by omega
    have e1 := one_num hl
    obtain ⟨t', ht', hk'⟩ := h5 (.inl rfl)
    have hb : -31 ≤ ns.getD 0 0 ∧ ns.getD 0 0 ≤ 31 := by
      rw [e1] at hnu; simp [numsB, endB] at hnu
      simp only [List.getD_eq_getElem?_getD]; omega
    have er : daysF cs M (k + 1) (.mk 5 ns kids nm) = daysN M.s [(nthL (dl (daysF cs M k t')) (ns.getD 0 0) : Int)] := by simp [daysF, ht']
    have ec : costF cs (k + 1) (.mk 5 ns kids nm) = 1 + costF cs k t' := by simp [costF, ht']
    rw [er, ec]
    rw [ec] at hn
    exact days5 k ih (ns.getD 0 0) no ns.length nc ko kids.length kc nm t' M n W w B co cc cs g o V h hp hc h24 hm hM ht' (by rw [← e1]; exact hnn) hb.1 hb.2 hk' hn
  · simp [shpN] at s1 s2 s3 s4
    have hl : ns.length = 2 := by omega
    have e1 := two_num hl
    have hb : okP (ns.getD 0 0) ∧ 1 ≤ ns.getD 1 0 ∧ ns.getD 1 0 ≤ 12 := by
      simp [numsB, betB, oneB] at hnu
      simp only [List.getD_eq_getElem?_getD]
      exact ⟨hnu.1, hnu.2⟩
    rw [hl]
    rw [e1] at hrw
    refine dayd_of_gc hm (by omega) ?_
    have er : daysF cs M (k + 1) (.mk 6 ns kids nm) = fisN M.y M.f M.s (ns.getD 0 0) (ns.getD 1 0) := by simp [daysF]
    rw [er]; exact h.here.days6 co cs.length cc B _ _ no nc ko kids.length kc nm M hM (by simpa using hrw) hb.1 hb.2.1 hb.2.2
  · simp [shpN] at s1 s2 s3 s4
    match kids, hkl, hkc, hko, hcs, hks, hne, s3, s4, hs, hn with
    | c0 :: rest, hkl, hkc, hko, hcs, hks, hne, _, s4, hs, hn =>
      have er : daysF cs M (k + 1) (.mk 7 ns (c0 :: rest) nm) = joinL7 cs M k c0 rest := by simp [daysF, joinL7]
      have ec : costF cs (k + 1) (.mk 7 ns (c0 :: rest) nm) = costL cs k (c0 :: rest) := by simp [costF, costL]
      rw [er, ec]
      rw [ec] at hn
      simp only [List.length_cons] at s4 hkc hcs hks
      have hko' := hko (by simp)
      subst hko'
      refine days78 7 (by omega) _ _ n W w B co cc cs no ns.length nc _ (c0 :: rest).length kc nm M (fun w1 hb => ?_)
      exact joined7 k ih c0 rest K kg kO no ns.length nc kc nm M n W w1 B co cc cs g o V (h.more hb) hp hc h24 (hm.below hb) hM (by omega) hkc hcs (hks 0 (by omega)) (fun j hj => hks (j + 1) (by omega)) (hne (by omega) c0 (by simp)) (fun c hc => hne (by omega) c (by simp [hc])) hn
  · simp [shpN] at s1 s2 s3 s4
    match kids, hkl, hkc, hko, hcs, hks, hne, s3, s4, hs, hn with
    | c0 :: rest, hkl, hkc, hko, hcs, hks, hne, _, s4, hs, hn =>
      have er : daysF cs M (k + 1) (.mk 8 ns (c0 :: rest) nm) = joinL8 cs M k c0 rest := by simp [daysF, joinL8]
      have ec : costF cs (k + 1) (.mk 8 ns (c0 :: rest) nm) = costL cs k (c0 :: rest) := by simp [costF, costL]
      rw [er, ec]
      rw [ec] at hn
      simp only [List.length_cons] at s4 hkc hcs hks
      have hko' := hko (by simp)
      subst hko'
      refine days78 8 (by omega) _ _ n W w B co cc cs no ns.length nc _ (c0 :: rest).length kc nm M (fun w1 hb => ?_)
      exact joined8 k ih c0 rest K kg kO no ns.length nc kc nm M n W w1 B co cc cs g o V (h.more hb) hp hc h24 (hm.below hb) hM (by omega) hkc hcs (hks 0 (by omega)) (fun j hj => hks (j + 1) (by omega)) (hne (by omega) c0 (by simp)) (fun c hc => hne (by omega) c (by simp [hc])) hn
  · simp [shpN] at s1 s2 s3 s4
    match kids, hkl, hkc, hko, hcs, hks, hne, s3, s4, hs, hn with
    | [c], hkl, hkc, hko, hcs, hks, hne, _, _, hs, hn =>
      have er : daysF cs M (k + 1) (.mk 9 ns [c] nm) = difN (allN M.s) (daysF cs M k c) := by simp [daysF]
      have ec : costF cs (k + 1) (.mk 9 ns [c] nm) = 1 + costF cs k c := by simp [costF]
      rw [er, ec]
      rw [ec] at hn
      exact days9 k ih (K 0) kg kO no ns.length nc ko 1 kc nm c M n W w B co cc cs g o V h hp hc h24 hm hM (hko (by simp)) rfl hkc (by simpa using hcs 0 (by simp)) (hks 0 (by simp)) (hne (by omega) c (by simp)) hn
  · obtain ⟨t', ht', hk'⟩ := h5 (.inr rfl)
    have er : daysF cs M (k + 1) (.mk 10 ns kids nm) = daysF cs M k t' := by simp [daysF, ht']
    have ec : costF cs (k + 1) (.mk 10 ns kids nm) = 1 + costF cs k t' := by simp [costF, ht']
    rw [er, ec]
    rw [ec] at hn
    exact days10 k ih no ns.length nc ko kids.length kc nm t' M n W w B co cc cs g o V h hp hc h24 hm hM ht' hk' hn
/-- cal.asker.days -/
theorem days_any2 : ∀ k, DaysOk k
  | 0 => fun t v M n W w B co cc cs g o V _ _ _ _ _ _ _ hok _ => hok.elim
  | k + 1 => days_step k (days_any2 k)
end Go.Proofs.YthbfjkdklnffjaaDoor
