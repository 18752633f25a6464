/- Plain: a word that is read somewhere is read again wherever it stands by itself. -/
import Derived.Test.YtfbkcipjfjoifaaLyA
namespace Go.Proofs.Ytfbkcipjfjoifaa
open Go.ChangeShapes Go.WideShapes Go.ChangeAt Go.RowKit Go.DsMem Go.DsLx
set_option linter.unusedVariables false
theorem endE_is {p : Int → Bool} {x : ByteArray} : ∀ (n d : Nat), d + n ≤ x.size → (∀ j, j < n → p (bAt x (d + j)) = true) → ¬ (d + n < x.size ∧ p (bAt x (d + n)) = true) → endE p x d = d + n
  | 0, d, _, _, h => endE_stop h
  | n + 1, d, hs, ha, h => by
    have h0 := ha 0 (by omega)
    rw [Nat.add_zero] at h0
    rw [endE_step (by omega) h0, endE_is n (d + 1) (by omega) (fun j hj => by have := ha (j + 1) (by omega); rw [show d + 1 + j = d + (j + 1) by omega]; exact this) (by rw [show d + 1 + n = d + (n + 1) by omega]; exact h)]
    omega
theorem endE_all {p : Int → Bool} {s : ByteArray} {k j : Nat} (h1 : k ≤ j) (h2 : j < endE p s k) : p (bAt s j) = true := runE_all _ k j h1 h2
theorem bAt_ext (s : ByteArray) (k e j : Nat) (hj : k + j < e) : bAt (s.extract k e) j = bAt s (k + j) := by
  unfold bAt
  rw [ext_toList, List.getD, List.getD, List.getElem?_take, if_pos (by omega), List.getElem?_drop]
theorem bAt_fold (x : ByteArray) (j : Nat) (hj : j < x.size) : bAt (foldS x) j = foldN (bAt x j) := by
  have hl : j < x.data.toList.length := by simpa using hj
  unfold bAt
  rw [← foldB_N]
  show (((foldL x.data.toList).toArray.toList.getD j 0).toNat : Int) = _
  rw [List.getD, List.getD]
  simp only [foldL, List.getElem?_map, List.getElem?_eq_getElem hl, Option.map_some, Option.getD_some]
theorem clsF_fold (b : Int) : clsF (foldN b) = clsF b := by
  unfold foldN
  split
  · rename_i h
    unfold clsF
    rw [if_pos (Or.inl ⟨by omega, by omega⟩), if_pos (Or.inr h)]
  · rfl
theorem inB_fold (b : Int) : DsLx.inB (foldN b) = DsLx.inB b := by unfold DsLx.inB; rw [clsF_fold]
theorem foldS_idem (x : ByteArray) : foldS (foldS x) = foldS x := by
  apply foldS_id
  intro c hc
  have hc' : c ∈ foldL x.data.toList := by simpa [foldS] using hc
  unfold foldL at hc'
  obtain ⟨b, _, rfl⟩ := List.mem_map.1 hc'
  rw [foldB_N]
  unfold foldN
  split <;> omega
/-- W stands at d in x, and nothing or a blank behind it -/
structure Starts (x : ByteArray) (d : Nat) (W : ByteArray) : Prop where
  le : d + W.size ≤ x.size
  at_ : ∀ j, j < W.size → bAt x (d + j) = bAt W j
  ext : x.extract d (d + W.size) = W
  fin : d + W.size = x.size ∨ bAt x (d + W.size) = 32
theorem Starts.stop {x : ByteArray} {d : Nat} {W : ByteArray} (h : Starts x d W) {p : Int → Bool} (hp : p 32 = false) : ¬ (d + W.size < x.size ∧ p (bAt x (d + W.size)) = true) := by
  rintro ⟨a, b⟩
  rcases h.fin with c | c
  · omega
  · rw [c, hp] at b; cases b
theorem inB_32 : DsLx.inB 32 = false := by decide
theorem dgB_32 : DsLx.dgB 32 = false := by decide
theorem dgB_58 : DsLx.dgB 58 = false := by decide
def Again (t : Tk) : Prop := 1 ≤ t.text.size ∧ (clsF (bAt t.text 0) = 1 ∨ clsF (bAt t.text 0) = 2 ∨ clsF (bAt t.text 0) = 4) ∧ ∀ x d, Starts x d t.text → rdF x d = ({ t with at_ := d }, true)
theorem colB_no {x : ByteArray} {d : Nat} (h : clsF (bAt x d) ≠ 2) : colB x d = false := by
  unfold colB
  rw [endE_stop (fun c => by have := c.2; unfold DsLx.dgB at this; simp at this; exact h this)]
  simp
theorem kindF_cls (f : Int) (b : Bool) : (kindF f b = 1 → f = 1) ∧ (kindF f b = 2 → f = 2 ∧ b = false) ∧ (kindF f b = 3 → f = 2 ∧ b = true) ∧ (kindF f b = 4 → f = 4) := by
  unfold kindF
  refine ⟨fun h => ?_, fun h => ?_, fun h => ?_, fun h => ?_⟩
  all_goals
    split at h
    · simp_all
    · split at h
      · simp_all
      · split at h
        · simp_all
        · split at h <;> simp_all
theorem numV_same {s x : ByteArray} {k d : Nat} : ∀ i, (∀ j, j < i → bAt x (d + j) = bAt s (k + j)) → numV x d i = numV s k i
  | 0, _ => rfl
  | i + 1, h => by
    unfold numV
    rw [numV_same i (fun j hj => h j (by omega)), h i (by omega)]
theorem name_again {s : ByteArray} {k : Nat} (hk : k < s.size) (hc : clsF (bAt s k) = 1) (hr : (nameF s k).2 = true) : Again (nameF s k).1 := by
  have hin : DsLx.inB (bAt s k) = true := by unfold DsLx.inB; simp [hc]
  have e := endE_step hk hin
  have hb := endE_bd DsLx.inB s (k + 1) (by omega)
  rw [← e] at hb
  unfold nameF at hr ⊢
  split at hr
  · cases hr
  rename_i c2
  rw [if_neg c2]
  have hsz : (s.extract k (endE DsLx.inB s k)).size = endE DsLx.inB s k - k := by rw [ByteArray.size_extract]; omega
  have hn : (foldS (s.extract k (endE DsLx.inB s k))).size = endE DsLx.inB s k - k := by rw [foldS_size, hsz]
  have hat : ∀ j, j < endE DsLx.inB s k - k → bAt (foldS (s.extract k (endE DsLx.inB s k))) j = foldN (bAt s (k + j)) := fun j hj => by
    rw [bAt_fold _ _ (by omega), bAt_ext _ _ _ _ (by omega)]
  have h0 : clsF (bAt (foldS (s.extract k (endE DsLx.inB s k))) 0) = 1 := by rw [hat 0 (by omega), clsF_fold]; exact hc
  have hid : foldS (foldS (s.extract k (endE DsLx.inB s k))) = foldS (s.extract k (endE DsLx.inB s k)) := foldS_idem _
  have hall : ∀ j, j < endE DsLx.inB s k - k → DsLx.inB (bAt (foldS (s.extract k (endE DsLx.inB s k))) j) = true := fun j hj => by
    rw [hat j hj, inB_fold]; exact endE_all (k := k) (by omega) (by omega)
  refine ⟨by simp only; omega, .inl h0, fun x d hst => ?_⟩
  simp only at hst ⊢
  generalize foldS (s.extract k (endE DsLx.inB s k)) = W at *
  have hx0 : bAt x d = bAt W 0 := by have := hst.at_ 0 (by omega); rw [Nat.add_zero] at this; exact this
  have hcx : clsF (bAt x d) = 1 := by rw [hx0]; exact h0
  have hE : endE DsLx.inB x d = d + W.size := endE_is _ _ hst.le (fun j hj => by rw [hst.at_ j hj]; exact hall j (by omega)) (hst.stop inB_32)
  unfold rdF readF
  rw [hcx, colB_no (by rw [hcx]; decide)]
  rw [if_pos (by decide)]
  unfold nameF
  rw [hE, if_neg (by omega), hst.ext, hid]
theorem num_again {s : ByteArray} {k : Nat} (hk : k < s.size) (hc : clsF (bAt s k) = 2) (hr : (numF s k).2 = true) : Again (numF s k).1 := by
  have hin : DsLx.dgB (bAt s k) = true := by unfold DsLx.dgB; simp [hc]
  have e := endE_step hk hin
  have hb := endE_bd DsLx.dgB s (k + 1) (by omega)
  rw [← e] at hb
  unfold numF at hr ⊢
  split at hr
  · cases hr
  rename_i c2
  rw [if_neg c2]
  have hn : (s.extract k (endE DsLx.dgB s k)).size = endE DsLx.dgB s k - k := by rw [ByteArray.size_extract]; omega
  have hat : ∀ j, j < endE DsLx.dgB s k - k → bAt (s.extract k (endE DsLx.dgB s k)) j = bAt s (k + j) := fun j hj => bAt_ext _ _ _ _ (by omega)
  have h0 : clsF (bAt (s.extract k (endE DsLx.dgB s k)) 0) = 2 := by rw [hat 0 (by omega)]; exact hc
  refine ⟨by simp only; omega, .inr (.inl h0), fun x d hst => ?_⟩
  simp only at hst ⊢
  have hall : ∀ j, j < endE DsLx.dgB s k - k → DsLx.dgB (bAt s (k + j)) = true := fun j hj => endE_all (k := k) (by omega) (by omega)
  generalize hW : s.extract k (endE DsLx.dgB s k) = W at *
  have hx0 : bAt x d = bAt W 0 := by have := hst.at_ 0 (by omega); rw [Nat.add_zero] at this; exact this
  have hcx : clsF (bAt x d) = 2 := by rw [hx0]; exact h0
  have hE : endE DsLx.dgB x d = d + W.size := endE_is _ _ hst.le (fun j hj => by rw [hst.at_ j hj, hat j (by omega)]; exact hall j (by omega)) (hst.stop dgB_32)
  have hcol : colB x d = false := by
    unfold colB
    rw [hE]
    simp only [decide_eq_false_iff_not]
    rintro ⟨a, b, c⟩
    rcases hst.fin with f | f
    · omega
    · rw [show d + 2 = d + W.size by omega, f] at c
      cases c
  unfold rdF readF
  rw [hcx, hcol, if_neg (by decide), if_pos (by decide)]
  unfold numF
  rw [hE, if_neg, hst.ext, show d + W.size - d = endE DsLx.dgB s k - k by omega, numV_same (s := s) (k := k) _ (fun j hj => by rw [hst.at_ j (by omega), hat j hj])]
  rintro (a | a)
  · exact c2 (.inl (by omega))
  · exact hst.stop inB_32 a
theorem time_again {s : ByteArray} {k : Nat} (hk : k < s.size) (hc : clsF (bAt s k) = 2) (hcol : colB s k = true) (hr : (timeF s k).2 = true) : Again (timeF s k).1 := by
  unfold colB at hcol
  simp only [decide_eq_true_eq] at hcol
  obtain ⟨g1, g2, g3⟩ := hcol
  have d1 : DsLx.dgB (bAt s (k + 1)) = true := endE_all (p := DsLx.dgB) (k := k) (by omega) (by omega)
  have d0 : DsLx.dgB (bAt s k) = true := endE_all (p := DsLx.dgB) (k := k) (by omega) (by omega)
  unfold timeF at hr ⊢
  split at hr
  · cases hr
  rename_i c2
  rw [if_neg c2]
  have h5 : (s.extract k (min (k + 5) s.size)).size = 5 := by
    apply Decidable.byContradiction
    intro hne
    apply c2
    left
    rw [DsCal.tmres_size _ hne]
    decide
  have hle : k + 5 ≤ s.size := by rw [ByteArray.size_extract] at h5; omega
  rw [Nat.min_eq_left hle] at *
  have hat : ∀ j, j < 5 → bAt (s.extract k (k + 5)) j = bAt s (k + j) := fun j hj => bAt_ext _ _ _ _ (by omega)
  have h0 : clsF (bAt (s.extract k (k + 5)) 0) = 2 := by rw [hat 0 (by omega)]; exact hc
  refine ⟨by simp only; omega, .inr (.inl h0), fun x d hst => ?_⟩
  simp only at hst ⊢
  have ht : (DsCal.tmres (s.extract k (k + 5))).2 = 0 := Decidable.byContradiction fun h => c2 (.inl h)
  generalize hW : s.extract k (k + 5) = W at *
  have hx0 : bAt x d = bAt s k := by have := hst.at_ 0 (by omega); rw [Nat.add_zero] at this; rw [this, hat 0 (by omega), Nat.add_zero]
  have hx1 : bAt x (d + 1) = bAt s (k + 1) := by rw [hst.at_ 1 (by omega), hat 1 (by omega)]
  have hx2 : bAt x (d + 2) = 58 := by rw [hst.at_ 2 (by omega), hat 2 (by omega)]; exact g3
  have hcx : clsF (bAt x d) = 2 := by rw [hx0]; exact hc
  have hle := hst.le
  have hE : endE DsLx.dgB x d = d + 2 := endE_is 2 d (by omega) (fun j hj => by
    rcases (show j = 0 ∨ j = 1 by omega) with rfl | rfl
    · rw [Nat.add_zero, hx0]; exact d0
    · rw [hx1]; exact d1) (fun c => by have := c.2; rw [hx2, dgB_58] at this; cases this)
  have hcolx : colB x d = true := by
    unfold colB
    simp only [decide_eq_true_eq]
    exact ⟨hE, by omega, hx2⟩
  unfold rdF readF
  rw [hcx, hcolx, if_neg (by decide), if_neg (by decide), if_pos (by decide)]
  unfold timeF
  have hm : min (d + 5) x.size = d + W.size := by omega
  rw [hm, hst.ext, if_neg]
  rintro (a | a)
  · exact a ht
  · exact hst.stop inB_32 a
theorem sign_again {s : ByteArray} {k : Nat} (hk : k < s.size) (hc : clsF (bAt s k) = 4) : Again ⟨4, s.extract k (k + 1), 0, k⟩ := by
  have hn : (s.extract k (k + 1)).size = 1 := by rw [ByteArray.size_extract]; omega
  have hat : bAt (s.extract k (k + 1)) 0 = bAt s k := by rw [bAt_ext _ _ _ _ (by omega), Nat.add_zero]
  have h0 : clsF (bAt (s.extract k (k + 1)) 0) = 4 := by rw [hat]; exact hc
  refine ⟨by simp only; omega, .inr (.inr h0), fun x d hst => ?_⟩
  simp only at hst ⊢
  generalize hW : s.extract k (k + 1) = W at *
  have hx0 : bAt x d = bAt W 0 := by have := hst.at_ 0 (by omega); rw [Nat.add_zero] at this; exact this
  have hcx : clsF (bAt x d) = 4 := by rw [hx0]; exact h0
  have he := hst.ext
  rw [hn] at he
  unfold rdF readF
  rw [hcx, colB_no (by rw [hcx]; decide), if_neg (by decide), if_neg (by decide), if_neg (by decide), if_pos (by decide), he]
theorem rdF_again {s : ByteArray} {k : Nat} (hk : k < s.size) (hr : (rdF s k).2 = true) : Again (rdF s k).1 := by
  obtain ⟨q1, q2, q3, q4⟩ := kindF_cls (clsF (bAt s k)) (colB s k)
  unfold rdF readF at *
  split at hr
  · rename_i c; rw [if_pos c]; exact name_again hk (q1 c) hr
  · rename_i c1
    rw [if_neg c1]
    split at hr
    · rename_i c; rw [if_pos c]; exact num_again hk (q2 c).1 hr
    · rename_i c2
      rw [if_neg c2]
      split at hr
      · rename_i c; rw [if_pos c]; exact time_again hk (q3 c).1 (q3 c).2 hr
      · rename_i c3
        rw [if_neg c3]
        split at hr
        · rename_i c; rw [if_pos c]; exact sign_again hk (q4 c)
        · cases hr
end Go.Proofs.Ytfbkcipjfjoifaa
