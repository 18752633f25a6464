/- Plain: the words of a source that stands behind something else. -/
import Derived.Test.YtfbkcipjfjoifaaLxQ
namespace Go.Proofs.Ytfbkcipjfjoifaa
open Go.ChangeShapes Go.WideShapes Go.ChangeAt Go.RowKit Go.DsMem Go.DsLx
/-- s' ends in t, which begins at d -/
structure Post (t s' : ByteArray) (d : Nat) : Prop where
  size : s'.size = t.size + d
  at_ : ∀ k, bAt s' (k + d) = bAt t k
  ext : ∀ a b, b ≤ t.size → s'.extract (a + d) (b + d) = t.extract a b
def sh (d : Nat) (t : Tk) : Tk := { t with at_ := t.at_ + d }
def shB (d : Nat) (z : Tk × Bool) : Tk × Bool := if z.2 = true then (sh d z.1, true) else (tk0, false)
theorem runE_post {p : Int → Bool} {t s' : ByteArray} {d : Nat} (h : Post t s' d) : ∀ (f k : Nat), runE p s' f (k + d) = runE p t f k + d
  | 0, _ => rfl
  | f + 1, k => by
    rw [runE, runE, h.at_, h.size]
    by_cases c : k < t.size ∧ p (bAt t k) = true
    · rw [if_pos c, if_pos ⟨by omega, c.2⟩, show k + d + 1 = (k + 1) + d by omega]
      exact runE_post h f (k + 1)
    · rw [if_neg c, if_neg (fun x => c ⟨by omega, x.2⟩)]
theorem endE_post {p : Int → Bool} {t s' : ByteArray} {d : Nat} (h : Post t s' d) (k : Nat) : endE p s' (k + d) = endE p t k + d := by
  unfold endE
  rw [h.size, show t.size + d - (k + d) = t.size - k by omega]
  exact runE_post h _ k
theorem nameF_post {t s' : ByteArray} {d k : Nat} (h : Post t s' d) (hk : k ≤ t.size) : nameF s' (k + d) = shB d (nameF t k) := by
  have hb := endE_bd DsLx.inB t k hk
  unfold nameF
  rw [endE_post h, h.ext _ _ hb.2, show endE DsLx.inB t k + d - (k + d) = endE DsLx.inB t k - k by omega]
  split <;> rfl
theorem numV_post {t s' : ByteArray} {d k : Nat} (h : Post t s' d) : ∀ i, numV s' (k + d) i = numV t k i
  | 0 => rfl
  | i + 1 => by
    unfold numV
    rw [numV_post h i, show k + d + i = (k + i) + d by omega, h.at_]
theorem numF_post {t s' : ByteArray} {d k : Nat} (h : Post t s' d) (hk : k ≤ t.size) : numF s' (k + d) = shB d (numF t k) := by
  have hb := endE_bd DsLx.dgB t k hk
  unfold numF
  rw [endE_post h, h.ext _ _ hb.2, h.at_, h.size, show endE DsLx.dgB t k + d - (k + d) = endE DsLx.dgB t k - k by omega, numV_post h]
  simp only [Nat.add_lt_add_iff_right]
  split <;> rfl
theorem timeF_post {t s' : ByteArray} {d k : Nat} (h : Post t s' d) : timeF s' (k + d) = shB d (timeF t k) := by
  unfold timeF
  rw [h.size, show min (k + d + 5) (t.size + d) = min (k + 5) t.size + d by omega, h.ext _ _ (Nat.min_le_right _ _), h.at_]
  simp only [Nat.add_lt_add_iff_right]
  split <;> rfl
theorem colB_post {t s' : ByteArray} {d k : Nat} (h : Post t s' d) : colB s' (k + d) = colB t k := by
  unfold colB
  rw [endE_post h, h.size, show k + d + 2 = (k + 2) + d by omega, h.at_]
  apply decide_eq_decide.2
  constructor
  · rintro ⟨a, b, c⟩; exact ⟨by omega, by omega, c⟩
  · rintro ⟨a, b, c⟩; exact ⟨by omega, by omega, c⟩
theorem rdF_post {t s' : ByteArray} {d k : Nat} (h : Post t s' d) (hk : k < t.size) : rdF s' (k + d) = shB d (rdF t k) := by
  unfold rdF readF
  rw [h.at_, colB_post h, nameF_post h (by omega), numF_post h (by omega), timeF_post h, show k + d + 1 = (k + 1) + d by omega, h.ext _ _ (by omega)]
  split
  · rfl
  · split
    · rfl
    · split
      · rfl
      · split <;> rfl
theorem wordF_post {t s' : ByteArray} {d : Nat} (h : Post t s' d) : ∀ (f k : Nat), wordF s' f (k + d) = wordF t f k + d
  | 0, _ => rfl
  | f + 1, k => by
    rw [wordF, wordF, h.at_, h.size]
    simp only [Nat.add_lt_add_iff_right]
    split
    · split
      · unfold lineE
        rw [endE_post h]; exact wordF_post h f _
      · split
        · rw [show k + d + 1 = (k + 1) + d by omega]; exact wordF_post h f _
        · rfl
    · rfl
theorem wordE_post {t s' : ByteArray} {d : Nat} (h : Post t s' d) (k : Nat) : wordE s' (k + d) = wordE t k + d := by
  unfold wordE
  rw [h.size, show t.size + d - (k + d) = t.size - k by omega]
  exact wordF_post h _ k
/-- the words behind -/
theorem tokG_post {t s' : ByteArray} {d : Nat} (h : Post t s' d) (a0 : List Tk) : ∀ (f k : Nat) (acc : List Tk), (tokG s' f (k + d) (a0 ++ acc.map (sh d))).2.2 = (tokG t f k acc).2.2 ∧
    ((tokG t f k acc).2.2 = 0 → (tokG s' f (k + d) (a0 ++ acc.map (sh d))).1 = a0 ++ (tokG t f k acc).1.map (sh d))
  | 0, _, _ => ⟨rfl, fun _ => rfl⟩
  | f + 1, k, acc => by
    rw [tokG, tokG, h.size]
    by_cases c : k < t.size
    · rw [if_pos c, if_pos (show k + d < t.size + d by omega), rdF_post h c]
      cases hr : (rdF t k).2 with
      | true =>
        have e : shB d (rdF t k) = (sh d (rdF t k).1, true) := by unfold shB; rw [if_pos hr]
        rw [e, if_pos rfl, if_pos rfl]
        have := tokG_post h a0 f (wordE t (k + (rdF t k).1.text.size)) (acc ++ [(rdF t k).1])
        rw [← wordE_post h] at this
        rw [show k + (rdF t k).1.text.size + d = k + d + (sh d (rdF t k).1).text.size by unfold sh; simp only; omega] at this
        simpa using this
      | false =>
        have e : shB d (rdF t k) = (tk0, false) := by unfold shB; rw [if_neg (by rw [hr]; decide)]
        rw [e, if_neg (by decide), if_neg (by decide)]
        exact ⟨rfl, fun x => by cases x⟩
    · rw [if_neg c, if_neg (by omega)]
      exact ⟨rfl, fun _ => rfl⟩
end Go.Proofs.Ytfbkcipjfjoifaa
