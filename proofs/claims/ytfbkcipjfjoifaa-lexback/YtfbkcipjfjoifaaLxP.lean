/- Plain: words look no further than a line's end. -/
import Derived.Test.YtfbkcipjfjoifaaLxN
namespace Go.Proofs.Ytfbkcipjfjoifaa
open Go.ChangeShapes Go.WideShapes Go.ChangeAt Go.RowKit Go.DsMem Go.DsLx
/-- s' is s, a line's end, and more -/
structure Pre (s s' : ByteArray) : Prop where
  lt : s.size < s'.size
  at_ : ∀ k, k < s.size → bAt s' k = bAt s k
  nl : bAt s' s.size = 10
  ext : ∀ a b, b ≤ s.size → s'.extract a b = s.extract a b
theorem endE_pre {p : Int → Bool} {s s' : ByteArray} (h : Pre s s') (hp : p 10 = false) : ∀ (f k : Nat), s.size - k ≤ f → k ≤ s.size → endE p s' k = endE p s k := by
  intro f
  induction f with
  | zero =>
    intro k hf hk
    have e : k = s.size := by omega
    subst e
    rw [endE_stop (fun c => absurd c.1 (Nat.lt_irrefl _)), endE_stop]
    rintro ⟨_, c⟩
    rw [h.nl, hp] at c
    cases c
  | succ f ih =>
    intro k hf hk
    by_cases c : k < s.size ∧ p (bAt s k) = true
    · rw [endE_step c.1 c.2, endE_step (by have := h.lt; omega) (by rw [h.at_ k c.1]; exact c.2)]
      exact ih (k + 1) (by omega) (by omega)
    · rw [endE_stop c, endE_stop]
      rintro ⟨_, c2⟩
      by_cases d : k < s.size
      · rw [h.at_ k d] at c2; exact c ⟨d, c2⟩
      · have e : k = s.size := by omega
        subst e
        rw [h.nl, hp] at c2
        cases c2
theorem inB_nl : DsLx.inB 10 = false := by decide
theorem dgB_nl : DsLx.dgB 10 = false := by decide
theorem nameF_pre {s s' : ByteArray} (h : Pre s s') {k : Nat} (hk : k ≤ s.size) : nameF s' k = nameF s k := by
  have hb := endE_bd DsLx.inB s k hk
  unfold nameF
  rw [endE_pre h inB_nl _ k (Nat.le_refl _) hk, h.ext _ _ hb.2]
theorem more_pre {s s' : ByteArray} (h : Pre s s') {E : Nat} (hE : E ≤ s.size) : (E < s'.size ∧ DsLx.inB (bAt s' E) = true) ↔ (E < s.size ∧ DsLx.inB (bAt s E) = true) := by
  have := h.lt
  by_cases d : E < s.size
  · rw [h.at_ E d]
    exact ⟨fun x => ⟨d, x.2⟩, fun x => ⟨by omega, x.2⟩⟩
  · have e : E = s.size := by omega
    subst e
    rw [h.nl, inB_nl]
    simp
theorem numV_pre {s s' : ByteArray} (h : Pre s s') (k : Nat) : ∀ i, k + i ≤ s.size → numV s' k i = numV s k i
  | 0, _ => rfl
  | i + 1, hi => by
    unfold numV
    rw [numV_pre h k i (by omega), h.at_ (k + i) (by omega)]
theorem numF_pre {s s' : ByteArray} (h : Pre s s') {k : Nat} (hk : k ≤ s.size) : numF s' k = numF s k := by
  have hb := endE_bd DsLx.dgB s k hk
  unfold numF
  rw [endE_pre h dgB_nl _ k (Nat.le_refl _) hk, h.ext _ _ hb.2, numV_pre h k _ (by omega)]
  simp only [more_pre h hb.2]
theorem colB_pre {s s' : ByteArray} (h : Pre s s') {k : Nat} (hk : k ≤ s.size) : colB s' k = colB s k := by
  have hb := endE_bd DsLx.dgB s k hk
  have hlt := h.lt
  unfold colB
  rw [endE_pre h dgB_nl _ k (Nat.le_refl _) hk]
  apply decide_eq_decide.2
  constructor
  · rintro ⟨a, b, c⟩
    by_cases d : k + 2 < s.size
    · rw [h.at_ _ d] at c; exact ⟨a, d, c⟩
    · have e : k + 2 = s.size := by omega
      rw [e, h.nl] at c
      cases c
  · rintro ⟨a, b, c⟩
    exact ⟨a, by omega, by rw [h.at_ _ b]; exact c⟩
theorem tm_range {s : ByteArray} (h : (DsCal.tmres s).2 = 0) : ∀ c ∈ s.data.toList, 48 ≤ (c.toNat : Int) ∧ (c.toNat : Int) ≤ 58 := by
  unfold DsCal.tmres at h
  split at h
  · rename_i h5
    unfold DsCal.tmOf at h
    split at h
    · rename_i h2
      intro c hc
      have A := td_small h2.1
      have B := td_small h2.2
      rw [ext_toList] at A B
      have hl : s.data.toList.length = 5 := by simpa using h5.1
      generalize s.data.toList = L at *
      match L, hl with
      | [a, b, x, d, e], _ =>
        simp only [h5.1] at A B
        simp at A B hc h5
        rcases hc with rfl | rfl | rfl | rfl | rfl
        · have := A.1; omega
        · have := A.2; omega
        · rw [h5.2]; decide
        · have := B.1; omega
        · have := B.2; omega
    · cases h
  · cases h
theorem ext_has {s : ByteArray} {a b j : Nat} (h1 : a ≤ j) (h2 : j < b) (h3 : j < s.size) : ∃ c ∈ (s.extract a b).data.toList, (c.toNat : Int) = bAt s j := by
  have hl : j < s.data.toList.length := by simpa using h3
  refine ⟨s.data.toList[j], ?_, ?_⟩
  · rw [ext_toList]
    apply List.mem_iff_getElem?.2
    refine ⟨j - a, ?_⟩
    rw [List.getElem?_take, if_pos (by omega), List.getElem?_drop, show a + (j - a) = j by omega, List.getElem?_eq_getElem hl]
  · unfold bAt
    rw [List.getD, List.getElem?_eq_getElem hl]; rfl
theorem timeF_pre {s s' : ByteArray} (h : Pre s s') {k : Nat} (hk : k ≤ s.size) : timeF s' k = timeF s k := by
  have hlt := h.lt
  unfold timeF
  by_cases c : k + 5 ≤ s.size
  · rw [Nat.min_eq_left c, Nat.min_eq_left (show k + 5 ≤ s'.size by omega), h.ext _ _ c]
    simp only [more_pre h c]
  · rw [if_pos, if_pos]
    · left
      rw [DsCal.tmres_size]
      · decide
      · rw [ByteArray.size_extract]; omega
    · left
      intro h0
      obtain ⟨x, hx, e⟩ := ext_has (s := s') (a := k) (b := min (k + 5) s'.size) (j := s.size) hk (by omega) hlt
      have := (tm_range h0 x hx).1
      rw [e, h.nl] at this
      omega
/-- what stands at a place is read alike -/
theorem rdF_pre {s s' : ByteArray} (h : Pre s s') {k : Nat} (hk : k < s.size) : rdF s' k = rdF s k := by
  unfold rdF readF
  rw [h.at_ k hk, colB_pre h (by omega), nameF_pre h (by omega), numF_pre h (by omega), timeF_pre h (by omega), h.ext _ _ (by omega)]
end Go.Proofs.Ytfbkcipjfjoifaa
