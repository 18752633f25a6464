/- Layer 7's law: known. -/
import Derived.Test.YtkpgfhapffijkaaGreatDoorR09
namespace Go.Proofs.YtkpgfhapffijkaaGreatDoor
open Go.ChangeShapes Go.WideShapes Go.ChangeAt Go.RowKit Go.DsMem Go.DsLx
set_option linter.unusedVariables false
theorem tkRow_at : ∀ (l : List Tk) (j k : Nat) (t : Tk), k < 4 → l[j]? = some t → (tkRow l)[j * 4 + k]? = (tkC t)[k]?
  | [], j, k, t, _, h => by simp at h
  | a :: l, 0, k, t, hk, h => by
    simp at h; subst h
    show (tkC a ++ tkRow l)[0 * 4 + k]? = _
    rw [List.getElem?_append_left (by simp [tkC]; omega)]
    congr 1; omega
  | a :: l, j + 1, k, t, hk, h => by
    show (tkC a ++ tkRow l)[(j + 1) * 4 + k]? = _
    rw [List.getElem?_append_right (by simp [tkC]; omega)]
    have e : (j + 1) * 4 + k - (tkC a).length = j * 4 + k := by simp [tkC]; omega
    rw [e]
    exact tkRow_at l j k t hk (by simpa using h)
theorem tk_cells {w : World} {B : Nat} {uo : Option Addr} {uc n : Nat} {l : List Tk} (h : w.ownsRow B 127 4 (.slice uo n uc) n (tkRow l)) (hn : 0 < n) : ∃ g, uo = some ⟨g, 0, none⟩ ∧ n ≤ uc ∧ g < w.heap.size ∧ ∀ j t, l[j]? = some t → w.cell? ⟨g, j * 4, none⟩ = some (.int .i64 t.kind) ∧ w.cell? ⟨g, j * 4 + 1, none⟩ = some (.string t.text) ∧ w.cell? ⟨g, j * 4 + 2, none⟩ = some (.int .i64 t.n) ∧ w.cell? ⟨g, j * 4 + 3, none⟩ = some (.int .i64 t.at_) := by
  rcases h.2 with ⟨_, h0⟩ | ⟨g, cap, cur, e, hb, hg, hc, _⟩
  · omega
  · simp only [Value.slice.injEq] at e
    obtain ⟨rfl, -, rfl⟩ := e
    refine ⟨g, rfl, hc, block_lt hg, fun j t ht => ?_⟩
    have key : ∀ k u, k < 4 → (tkC t)[k]? = some u → w.cell? ⟨g, j * 4 + k, none⟩ = some u := fun k u hk hu => by
      have := h.cells (g := g) rfl (j * 4 + k) u (by rw [tkRow_at l j k t hk ht]; exact hu)
      rw [add_mk, Nat.zero_add] at this
      exact this
    exact ⟨key 0 _ (by decide) rfl, key 1 _ (by decide) rfl, key 2 _ (by decide) rfl, key 3 _ (by decide) rfl⟩
end Go.Proofs.YtkpgfhapffijkaaGreatDoor

/- Plain: a word's text stands at its place, but for great letters. -/
namespace Go.Proofs.YtkpgfhapffijkaaGreatDoor
open Go.ChangeShapes Go.WideShapes Go.ChangeAt Go.RowKit Go.DsMem Go.DsLx
theorem foldB_id {c : UInt8} (h : ¬ (65 ≤ (c.toNat : Int) ∧ (c.toNat : Int) ≤ 90)) : foldB c = c := by
  apply UInt8.toNat_inj.1
  have := foldB_N c
  unfold foldN at this
  rw [if_neg h] at this
  omega
theorem foldS_id {s : ByteArray} (h : ∀ c ∈ s.data.toList, ¬ (65 ≤ (c.toNat : Int) ∧ (c.toNat : Int) ≤ 90)) : foldS s = s := by
  unfold foldS foldL
  have e : s.data.toList.map foldB = s.data.toList := by
    conv => rhs; rw [← List.map_id s.data.toList]
    exact List.map_congr_left fun c hc => foldB_id (h c hc)
  rw [e]
theorem ext_toList (s : ByteArray) (a b : Nat) : (s.extract a b).data.toList = (s.data.toList.drop a).take (b - a) := by
  rw [ByteArray.data_extract, Array.toList_extract, List.extract_eq_take_drop]
theorem mem_ext {s : ByteArray} {a b : Nat} {c : UInt8} (h : c ∈ (s.extract a b).data.toList) : ∃ j, a ≤ j ∧ j < b ∧ j < s.size ∧ (c.toNat : Int) = bAt s j := by
  rw [ext_toList] at h
  obtain ⟨i, hi⟩ := List.mem_iff_getElem?.1 h
  rw [List.getElem?_take] at hi
  split at hi
  · rename_i c1
    rw [List.getElem?_drop] at hi
    refine ⟨a + i, by omega, by omega, ?_, ?_⟩
    · have := (List.getElem?_eq_some_iff.1 hi).1
      simpa using this
    · unfold bAt
      rw [List.getD, hi]; rfl
  · cases hi
theorem ext_over (s : ByteArray) (a b : Nat) (h : b ≤ s.size) (hab : a ≤ b) : s.extract a (a + (s.extract a b).size) = s.extract a b := by
  congr 1
  rw [ByteArray.size_extract]; omega
theorem td_small {s : ByteArray} (h : (DsCal.tdres s).2 = true) : ∀ c ∈ s.data.toList, 48 ≤ (c.toNat : Int) ∧ (c.toNat : Int) ≤ 57 := by
  unfold DsCal.tdres at h
  split at h
  · rename_i a
    intro c hc
    have := List.all_eq_true.1 a c hc
    simpa [DsCal.dgB] using this
  · cases h
theorem tm_small {s : ByteArray} (h : (DsCal.tmres s).2 = 0) : ∀ c ∈ s.data.toList, ¬ (65 ≤ (c.toNat : Int) ∧ (c.toNat : Int) ≤ 90) := by
  unfold DsCal.tmres at h
  split at h
  · rename_i h5
    unfold DsCal.tmOf at h
    split at h
    · rename_i h2
      intro c hc
      have A := td_small h2.1
      have B := td_small h2.2
      rw [ext_toList] at A B
      have hl : s.data.toList.length = 5 := by simpa using h5.1
      generalize s.data.toList = L at *
      match L, hl with
      | [a, b, x, d, e], _ =>
        simp only [h5.1] at A B
        simp at A B hc h5
        rcases hc with rfl | rfl | rfl | rfl | rfl
        · have := A.1; omega
        · have := A.2; omega
        · rw [h5.2]; decide
        · have := B.1; omega
        · have := B.2; omega
    · cases h
  · cases h
/-- a word that can be: its text stands at its place, but for great letters -/
theorem rdF_place {s : ByteArray} {k : Nat} (hk : k < s.size) (h : (rdF s k).2 = true) : (rdF s k).1.at_ = k ∧ foldS (s.extract k (k + (rdF s k).1.text.size)) = (rdF s k).1.text := by
  unfold rdF readF at *
  have hcls4 : kindF (clsF (bAt s k)) (colB s k) = 4 → clsF (bAt s k) = 4 := by
    unfold kindF
    intro h
    split at h
    · omega
    · split at h
      · omega
      · split at h
        · omega
        · split at h
          · rename_i c; exact c.1
          · omega
  split at h
  · rename_i c
    rw [if_pos c]
    unfold nameF at *
    split at h
    · cases h
    · rename_i c2
      rw [if_neg c2]
      have hb := endE_bd DsLx.inB s k (by omega)
      refine ⟨rfl, ?_⟩
      show foldS (s.extract k (k + (foldS _).size)) = foldS _
      rw [foldS_size, ext_over _ _ _ hb.2 hb.1]
  · rename_i c
    rw [if_neg c]
    split at h
    · rename_i c2
      rw [if_pos c2]
      unfold numF at *
      split at h
      · cases h
      · rename_i c3
        rw [if_neg c3]
        have hb := endE_bd DsLx.dgB s k (by omega)
        refine ⟨rfl, ?_⟩
        show foldS (s.extract k (k + (s.extract k _).size)) = s.extract k _
        rw [ext_over _ _ _ hb.2 hb.1]
        refine foldS_id fun x hx => ?_
        obtain ⟨j, j1, j2, j3, j4⟩ := mem_ext hx
        have := dg_bd (runE_all (p := DsLx.dgB) (s := s) (s.size - k) k j j1 j2)
        omega
    · rename_i c2
      rw [if_neg c2]
      split at h
      · rename_i c3
        rw [if_pos c3]
        unfold timeF at *
        split at h
        · cases h
        · rename_i c4
          rw [if_neg c4]
          refine ⟨rfl, ?_⟩
          show foldS (s.extract k (k + (s.extract k _).size)) = s.extract k _
          rw [ext_over _ _ _ (Nat.min_le_right _ _) (by omega)]
          exact foldS_id (tm_small (Classical.byContradiction fun x => c4 (Or.inl x)))
      · rename_i c3
        rw [if_neg c3]
        split at h
        · rename_i c4
          rw [if_pos c4]
          refine ⟨rfl, ?_⟩
          show foldS (s.extract k (k + (s.extract k _).size)) = s.extract k _
          rw [ext_over _ _ _ (by omega) (by omega)]
          refine foldS_id fun x hx => ?_
          obtain ⟨j, j1, j2, j3, j4⟩ := mem_ext hx
          have e : j = k := by omega
          subst e
          have := hcls4 c4
          rw [j4]
          intro hh
          unfold clsF at this
          rw [if_pos (Or.inr hh)] at this
          omega
        · cases h
/-- the words of a list stand one behind the other -/
def Placed (s : ByteArray) : Nat → List Tk → Prop
  | _, [] => True
  | at_, t :: l => at_ ≤ t.at_ ∧ 1 ≤ t.text.size ∧ t.at_ + t.text.size ≤ s.size ∧ foldS (s.extract t.at_ (t.at_ + t.text.size)) = t.text ∧ Placed s (t.at_ + t.text.size) l
def endOf : Nat → List Tk → Nat
  | a, [] => a
  | _, t :: l => endOf (t.at_ + t.text.size) l
theorem Placed.snoc {s : ByteArray} {t : Tk} : ∀ {a : Nat} {l : List Tk}, Placed s a l → endOf a l ≤ t.at_ → 1 ≤ t.text.size → t.at_ + t.text.size ≤ s.size → foldS (s.extract t.at_ (t.at_ + t.text.size)) = t.text → Placed s a (l ++ [t])
  | _, [], _, h1, h2, h3, h4 => ⟨h1, h2, h3, h4, trivial⟩
  | _, _ :: _, h, h1, h2, h3, h4 => ⟨h.1, h.2.1, h.2.2.1, h.2.2.2.1, Placed.snoc h.2.2.2.2 h1 h2 h3 h4⟩
theorem endOf_snoc {t : Tk} : ∀ (a : Nat) (l : List Tk), endOf a (l ++ [t]) = t.at_ + t.text.size
  | _, [] => rfl
  | _, x :: l => endOf_snoc (x.at_ + x.text.size) l
theorem tokG_placed (s : ByteArray) : ∀ (f k : Nat) (acc : List Tk), Placed s 0 acc → endOf 0 acc ≤ k → (tokG s f k acc).2.2 = 0 → Placed s 0 (tokG s f k acc).1
  | 0, _, _, h, _, _ => h
  | f + 1, k, acc, h, he, h0 => by
    rw [tokG] at *
    split at h0
    · rename_i c
      rw [if_pos c]
      split at h0
      · rename_i d
        rw [if_pos d]
        have hsz := rdF_size c d
        have hpl := rdF_place c d
        have hw := wordE_bd s (k + (rdF s k).1.text.size) hsz.2
        refine tokG_placed s f _ _ (h.snoc (by omega) hsz.1 (by omega) (by rw [hpl.1]; exact hpl.2)) ?_ h0
        rw [endOf_snoc]; omega
      · cases h0
    · rename_i c
      rw [if_neg c]; exact h
theorem tokens_placed {s : ByteArray} (h : (tokensF s).2.2 = 0) : Placed s 0 (tokensF s).1 := by
  unfold tokensF tokW at *
  split at h
  · cases h
  · rename_i c
    rw [if_neg c]
    exact tokG_placed s _ _ _ trivial (Nat.zero_le _) h
end Go.Proofs.YtkpgfhapffijkaaGreatDoor
