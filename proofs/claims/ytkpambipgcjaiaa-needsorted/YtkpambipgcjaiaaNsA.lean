/- Package need: the order of needs; what a sort's rows hold. -/
import Derived.Test.YtkpambipgcjaiaaNdP
import Derived.Test.YtkpambipgcjaiaaPlL
import Derived.Test.YtkpambipgcjaiaaPmE
namespace Go.DsPl
open Go.DsCo
set_option linter.unusedVariables false
/-- the one does not stand behind the other -/
def leN (a b : Ne) : Prop := ¬ b.nm.data.toList < a.nm.data.toList
theorem leN_of {a b : Ne} (h : a.nm.data.toList < b.nm.data.toList) : leN a b := fun h' => k_irrefl _ (k_trans h h')
theorem leN_trans {a b c : Ne} (h : leN a b) (h' : leN b c) : leN a c := fun hc => by
  rcases k_total a.nm.data.toList b.nm.data.toList with h1 | h1 | h1
  · rcases k_total b.nm.data.toList c.nm.data.toList with h2 | h2 | h2
    · exact k_irrefl _ (k_trans (k_trans h1 h2) hc)
    · rw [h2] at h1; exact k_irrefl _ (k_trans h1 hc)
    · exact h' h2
  · rw [h1] at hc
    exact h' hc
  · exact h h1
def SortedN (l : List Ne) : Prop := l.Pairwise leN
/-- one put at its place -/
theorem sorted_put {A B : List Ne} {x : Ne} (h : SortedN (A ++ B)) (ha : ∀ y, A.getLast? = some y → leN y x) (hb : ∀ b ∈ B, leN x b) : SortedN (A ++ x :: B) := by
  unfold SortedN at *
  rw [List.pairwise_append] at h ⊢
  obtain ⟨h1, h2, h3⟩ := h
  have hA : ∀ a ∈ A, leN a x := fun a hm => by
    cases hl : A.getLast? with
    | none => rw [List.getLast?_eq_none_iff] at hl; rw [hl] at hm; simp at hm
    | some y =>
      obtain ⟨A', rfl⟩ := List.getLast?_eq_some_iff.1 hl
      have hy := ha y hl
      rcases List.mem_append.1 hm with hm | hm
      · exact leN_trans ((List.pairwise_append.1 h1).2.2 a hm y (by simp)) hy
      · simp at hm; rw [hm]; exact hy
  refine ⟨h1, List.pairwise_cons.2 ⟨hb, h2⟩, fun a hm b hb' => ?_⟩
  rcases List.mem_cons.1 hb' with rfl | hb'
  · exact hA a hm
  · exact h3 a hm b hb'
end Go.DsPl
namespace Go.Proofs.Ytkpambipgcjaiaa
open Go.ChangeShapes Go.WideShapes Go.ChangeAt Go.RowKit Go.DsMem Go.DsCo Go.DsPl Go.DsMap
set_option linter.unusedVariables false
set_option linter.unusedSimpArgs false
theorem cmpS_neg (a b : ByteArray) : cmpS a b < 0 ↔ a.data.toList < b.data.toList := by
  unfold cmpS
  by_cases h1 : a.data.toList < b.data.toList
  · simp [h1]
  · by_cases h2 : b.data.toList < a.data.toList
    · simp [h1, h2]
    · simp [h1, h2]
/-- need.Sorted$1 -/
theorem nby_any (a b : Ne) (w : World) : Calls Try.prog 71 #[.agg #[.string a.nm, .int .i64 a.n, .int .i64 a.md], .agg #[.string b.nm, .int .i64 b.n, .int .i64 b.md]] w fun e w' => e = .returned (.int .i64 (cmpS a.nm b.nm)) ∧ Below w.heap.size w w' := by
  have HC := hide (fun w => ccmpS_any a.nm b.nm w)
  obtain ⟨an, ax, ay⟩ := a
  obtain ⟨bn, bx, bY⟩ := b
  simp only at HC ⊢
  go_enter Try.func71, Try.ntmps71
  go_wp2_with fail
  refine (HC.out _).mono ?_
  rintro e w1 ⟨rfl, rfl⟩
  go_wp2
  go_ret
  exact ⟨rfl, ((Below.refl _ _).alloc (Nat.le_refl _) _).alloc (by simp) _⟩
/-- needs in a block of one's own -/
def SoAt (w : World) (g N : Nat) (M : List Ne) : Prop := ∃ arr : Array Value, w.heap[g]? = some (.cells arr 61 (0, 0)) ∧ arr.size = N ∧ 3 * M.length ≤ N ∧ ∀ j (hj : j < M.length), arr[j * 3]? = some (.string M[j].nm) ∧ arr[j * 3 + 1]? = some (.int .i64 M[j].n) ∧ arr[j * 3 + 2]? = some (.int .i64 M[j].md)
theorem SoAt.cells {w : World} {g N : Nat} {M : List Ne} (h : SoAt w g N M) (j : Nat) (hj : j < M.length) : w.cell? ⟨g, j * 3, none⟩ = some (.string M[j].nm) ∧ w.cell? ⟨g, j * 3 + 1, none⟩ = some (.int .i64 M[j].n) ∧ w.cell? ⟨g, j * 3 + 2, none⟩ = some (.int .i64 M[j].md) := by
  obtain ⟨arr, hb, hs, hl, hc⟩ := h
  obtain ⟨a0, a1, a2⟩ := hc j hj
  exact ⟨by rw [cell_of hb]; exact a0, by rw [cell_of hb]; exact a1, by rw [cell_of hb]; exact a2⟩
theorem SoAt.frozen {w : World} {g N : Nat} {M : List Ne} (h : SoAt w g N M) (k : Nat) : w.frozen? ⟨g, k, none⟩ = false := by
  obtain ⟨arr, hb, _⟩ := h
  exact frozen_of hb
theorem SoAt.lt {w : World} {g N : Nat} {M : List Ne} (h : SoAt w g N M) : g < w.heap.size := by
  obtain ⟨arr, hb, _⟩ := h
  exact block_lt hb
theorem SoAt.below {w w' : World} {g N : Nat} {M : List Ne} (h : SoAt w g N M) (hb : Below w.heap.size w w') : SoAt w' g N M := by
  obtain ⟨arr, h1, r⟩ := h
  exact ⟨arr, by rw [hb.block g (block_lt h1)]; exact h1, r⟩
/-- two neighbours change their places -/
theorem SoAt.swap {w : World} {g N : Nat} {A C : List Ne} {x y : Ne} (h : SoAt w g N (A ++ y :: x :: C)) {w' : World}
    (hw : ∀ arr : Array Value, w.heap[g]? = some (.cells arr 61 (0, 0)) → w'.heap[g]? = some (.cells ((((((arr.setIfInBounds ((A.length + 1) * 3) (.string y.nm)).setIfInBounds ((A.length + 1) * 3 + 1) (.int .i64 y.n)).setIfInBounds ((A.length + 1) * 3 + 2) (.int .i64 y.md)).setIfInBounds (A.length * 3) (.string x.nm)).setIfInBounds (A.length * 3 + 1) (.int .i64 x.n)).setIfInBounds (A.length * 3 + 2) (.int .i64 x.md)) 61 (0, 0))) :
    SoAt w' g N (A ++ x :: y :: C) := by
  obtain ⟨arr, hb, hs, hl, hc⟩ := h
  refine ⟨_, hw arr hb, by simp [hs], by simpa using hl, fun j hj => ?_⟩
  have hjl : j < (A ++ y :: x :: C).length := by simpa using hj
  have hlen : 3 * (A.length + (C.length + 1 + 1)) ≤ arr.size := by simpa [hs] using hl
  obtain ⟨c0, c1, c2⟩ := hc j hjl
  simp only [Array.getElem?_setIfInBounds, Array.size_setIfInBounds]
  by_cases h1 : j = A.length
  · subst h1
    have e : (A ++ x :: y :: C)[A.length] = x := by simp
    rw [e]
    refine ⟨?_, ?_, ?_⟩ <;> simp (disch := omega) [show A.length * 3 < arr.size by omega, show A.length * 3 + 1 < arr.size by omega, show A.length * 3 + 2 < arr.size by omega]
  · by_cases h2 : j = A.length + 1
    · subst h2
      have e : (A ++ x :: y :: C)[A.length + 1] = y := by simp
      rw [e]
      refine ⟨?_, ?_, ?_⟩
      · rw [if_neg (by omega), if_neg (by omega), if_neg (by omega), if_neg (by omega), if_neg (by omega), if_pos rfl, if_pos (by omega)]
      · rw [if_neg (by omega), if_neg (by omega), if_neg (by omega), if_neg (by omega), if_pos rfl, if_pos (by omega)]
      · rw [if_neg (by omega), if_neg (by omega), if_neg (by omega), if_pos rfl, if_pos (by omega)]
    · have e : (A ++ x :: y :: C)[j] = (A ++ y :: x :: C)[j] := by
        rw [List.getElem_append, List.getElem_append]
        by_cases h3 : j < A.length
        · rw [dif_pos h3, dif_pos h3]
        · rw [dif_neg h3, dif_neg h3]
          obtain ⟨q, hq⟩ : ∃ q, j - A.length = q + 2 := ⟨j - A.length - 2, by omega⟩
          simp only [hq, List.getElem_cons_succ]
      rw [e]
      refine ⟨?_, ?_, ?_⟩ <;> (rw [if_neg (by omega), if_neg (by omega), if_neg (by omega), if_neg (by omega), if_neg (by omega), if_neg (by omega)]; assumption)
end Go.Proofs.Ytkpambipgcjaiaa
