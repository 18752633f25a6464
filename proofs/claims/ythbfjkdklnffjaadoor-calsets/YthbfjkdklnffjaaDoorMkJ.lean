/- The walk of MaskGoes. -/
import Derived.Test.YthbfjkdklnffjaaDoorMkG
namespace Go.DsMk
/-- the j-th from the end, 0 if there is none -/
def rv (l : List Nat) (j : Nat) : Nat := l.reverse[j]?.getD 0
/-- the j-th, 0 if there is none -/
def fw (l : List Nat) (j : Nat) : Nat := l[j]?.getD 0
theorem fw_lt (l : List Nat) (j : Nat) (h : j < l.length) : fw l j = l[j] := by unfold fw; rw [List.getElem?_eq_getElem h]; rfl
theorem fw_ge (l : List Nat) (j : Nat) (h : l.length ≤ j) : fw l j = 0 := by unfold fw; rw [List.getElem?_eq_none h]; rfl
theorem rv_lt (l : List Nat) (j : Nat) (h : j < l.length) : rv l j = l[l.length - 1 - j] := by
  unfold rv; rw [List.getElem?_eq_getElem (by simpa using h), Option.getD_some, List.getElem_reverse]
theorem rv_ge (l : List Nat) (j : Nat) (h : l.length ≤ j) : rv l j = 0 := by unfold rv; rw [List.getElem?_eq_none (by simpa using h)]; rfl
theorem prev_idx (l : List Nat) (hs : l.Pairwise (· < ·)) (j : Nat) (hj : j < l.length) : prevL l (l[j] : Int) = if j = 0 then 0 else fw l (j - 1) := by
  unfold prevL
  have e : l.filter (fun z : Nat => decide ((z : Int) < (l[j] : Int))) = l.take j := by
    have hA : ∀ z ∈ l.take j, z < l[j] := by
      intro z hz
      obtain ⟨i, hi, rfl⟩ := List.getElem_of_mem hz
      rw [List.length_take] at hi
      rw [List.getElem_take]
      exact List.pairwise_iff_getElem.1 hs i j (by omega) hj (by omega)
    have hB : ∀ z ∈ l.drop j, ¬ z < l[j] := by
      intro z hz hlt
      obtain ⟨i, hi, rfl⟩ := List.getElem_of_mem hz
      rw [List.length_drop] at hi
      rw [List.getElem_drop] at hlt
      rcases Nat.eq_zero_or_pos i with rfl | h
      · simp at hlt
      · have := List.pairwise_iff_getElem.1 hs j (j + i) hj (by omega) (by omega); omega
    have e1 : (l.take j).filter (fun z : Nat => decide ((z : Int) < (l[j] : Int))) = l.take j := List.filter_eq_self.2 (fun z hz => by have := hA z hz; simp; omega)
    have e2 : (l.drop j).filter (fun z : Nat => decide ((z : Int) < (l[j] : Int))) = [] := List.filter_eq_nil_iff.2 (fun z hz => by have := hB z hz; simp; omega)
    have := List.filter_append (p := fun z : Nat => decide ((z : Int) < (l[j] : Int))) (l.take j) (l.drop j)
    rw [List.take_append_drop, e1, e2, List.append_nil] at this
    exact this
  rw [e]
  split
  · rename_i h; subst h; rfl
  · rename_i h
    rw [List.getLast?_eq_getElem?, List.length_take, Nat.min_eq_left (by omega), List.getElem?_take, if_pos (by omega)]
    rfl
theorem prev_rv (l : List Nat) (hs : l.Pairwise (· < ·)) (j : Nat) (hj : j < l.length) : prevL l (rv l j : Int) = rv l (j + 1) := by
  rw [rv_lt l j hj, prev_idx l hs _ (by omega)]
  split
  · rw [rv_ge l (j + 1) (by omega)]
  · rw [rv_lt l (j + 1) (by omega), fw_lt l _ (by omega)]
    congr 1
theorem prev_end (l : List Nat) (h : ∀ z ∈ l, 1 ≤ z ∧ z ≤ 31) : prevL l 32 = rv l 0 := by
  unfold prevL rv
  rw [List.filter_eq_self.2 (fun z hz => by have := h z hz; simp; omega), List.getLast?_eq_getElem?]
  by_cases h0 : l.length = 0
  · rw [List.eq_nil_of_length_eq_zero h0]; rfl
  · rw [List.getElem?_reverse (by omega), Nat.sub_zero]
theorem next_fw (l : List Nat) (j : Nat) : (l[j]?).getD 0 = fw l j := rfl
theorem nth_fw (l : List Nat) (j : Nat) : nthL l ((j : Int) + 1) = fw l j := by
  rw [nthL_up _ _ (by omega)]; unfold fw; congr 2; omega
theorem nth_rv (l : List Nat) (j : Nat) (h : j < l.length) : nthL l (-1 - (j : Int)) = rv l j := by
  rw [nthL_down _ _ (by omega) (by omega), rv_lt l j h]
  rw [show ((-1 - (j : Int)) + (l.length + 1) - 1).toNat = l.length - 1 - j by omega, List.getElem?_eq_getElem (by omega)]; rfl
theorem nth_zero (l : List Nat) : nthL l 0 = 0 := nthL_no _ _ (.inl rfl)
theorem has_fw (x j : Nat) (h : j < (dl x).length) : hasB x (fw (dl x) j : Int) = true := by
  rw [has_mem, decide_eq_true_eq, fw_lt _ _ h]
  exact ⟨by omega, by simp⟩
end Go.DsMk
namespace Go.Proofs.YthbfjkdklnffjaaDoor
open Go.ChangeShapes Go.WideShapes Go.ChangeAt Go.RowKit Go.DsMem Go.DsMk
set_option linter.unusedVariables false

theorem ints_len (l : List Nat) : (ints l).length = l.length := by simp [ints]
theorem ints_at (l : List Nat) (j : Nat) (h : j < l.length) : (ints l)[j]? = some (fw l j : Int) := by
  rw [fw_lt l j h]; simp [ints, List.getElem?_eq_getElem h]

end Go.Proofs.YthbfjkdklnffjaaDoor
