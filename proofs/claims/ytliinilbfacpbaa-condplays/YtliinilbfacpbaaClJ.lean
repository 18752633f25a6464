/- Package cond: rows of conditions in memory; rows that were sorted. -/
import Derived.Test.YtliinilbfacpbaaClI
import Derived.Deep.AppendLies
namespace Go.Proofs.Ytliinilbfacpbaa
open Go.ChangeShapes Go.WideShapes Go.ChangeAt Go.RowKit Go.DsMem Go.DsCo
open Go.Sort (grow grow_grow alloc_eq_grow SWO PermIn SortedIn mapBlock onCells putCells putRow Holds flatK get_flatK size_flatK HoldsK putRowK)
set_option linter.unusedVariables false
/-- the cells of a list of conditions -/
def cnRows (l : List Cn) : List Value := l.flatMap encC
theorem cnRows_snoc (l : List Cn) (c : Cn) : cnRows (l ++ [c]) = cnRows l ++ encC c := by simp [cnRows]
theorem cnRows_len (l : List Cn) : (cnRows l).length = l.length * 2 := by
  induction l with
  | nil => rfl
  | cons a l ih => simp [cnRows, encC] at ih ⊢; omega
theorem encC_one (c : Cn) : ∀ u ∈ encC c, u.oneCell' = true := by
  intro u hu
  simp only [encC, List.mem_cons, List.not_mem_nil, or_false] at hu
  rcases hu with rfl | rfl <;> rfl
theorem cnRows_get : ∀ (l : List Cn) (t : Nat), t < l.length * 2 → (cnRows l)[t]? = (encC l[t / 2]!)[t % 2]?
  | [], t, h => by simp at h
  | a :: l, t, h => by
    have e : cnRows (a :: l) = encC a ++ cnRows l := by simp [cnRows]
    rw [e]
    by_cases h2 : t < 2
    · have h0 : t / 2 = 0 := by omega
      have h1 : t % 2 = t := by omega
      rw [List.getElem?_append_left (by simpa [encC] using h2), h0, h1]
      rfl
    · rw [List.getElem?_append_right (by simp [encC]; omega), show (encC a).length = 2 from rfl, cnRows_get l (t - 2) (by simp at h; omega)]
      have h0 : t / 2 = (t - 2) / 2 + 1 := by omega
      have h1 : t % 2 = (t - 2) % 2 := by omega
      rw [h0, h1]
      simp
theorem flat_rows (d : Array Cn) (t : Nat) (h : t < d.size * 2) : some ((flatK encC 2 d)[t]!) = (cnRows d.toList)[t]? := by
  rw [get_flatK encC 2 d t h, cnRows_get d.toList t (by simpa using h)]
  have e : d.toList[t / 2]! = d[t / 2]! := by
    have ht : t / 2 < d.size := by omega
    rw [getElem!_pos d _ ht, getElem!_pos d.toList _ (by simpa using ht)]
    simp
  rw [e]
  have h2 : t % 2 = 0 ∨ t % 2 = 1 := by omega
  rcases h2 with h2 | h2 <;> rw [h2] <;> rfl
theorem infoCn : (Try.prog.info? 24).map (fun i => (i.zero, i.size, i.bytes)) = some (some (.agg #[.string ⟨#[]⟩, .int .i64 0]), 2, 24) := by kernel_rfl

/-- the list l lies in the row of block g, the call's own from block b on -/
def CnRow (w : World) (b g cap : Nat) (l : List Cn) : Prop := w.ownsRow b 24 2 (.slice (some ⟨g, 0, none⟩) l.length cap) l.length (cnRows l)
theorem CnRow.block {w : World} {b g cap : Nat} {l : List Cn} (h : CnRow w b g cap l) : ∃ cur : Array Value, w.heap[g]? = some (.cells cur 24 (0, 0)) ∧ b ≤ g ∧ l.length ≤ cap ∧ cap ≤ maxLen ∧ cur.size = cap * 2 ∧ cur.toList.take (l.length * 2) = cnRows l := by
  rcases h.2 with ⟨h0, _⟩ | ⟨g', cap', cur, hv, hb, hg, h1, h2, h3, h4⟩
  · cases h0
  · simp at hv
    obtain ⟨rfl, rfl⟩ := hv
    exact ⟨cur, hg, hb, h1, h2, h3, h4⟩
theorem CnRow.lt {w : World} {b g cap : Nat} {l : List Cn} (h : CnRow w b g cap l) : g < w.heap.size := by
  obtain ⟨cur, hg, _⟩ := h.block
  exact block_lt hg
theorem CnRow.ge {w : World} {b g cap : Nat} {l : List Cn} (h : CnRow w b g cap l) : b ≤ g := by
  obtain ⟨cur, hg, hb, _⟩ := h.block
  exact hb
theorem CnRow.same {w w' : World} {b g cap : Nat} {l : List Cn} (h : CnRow w b g cap l) (hb : w'.heap[g]? = w.heap[g]?) : CnRow w' b g cap l := by
  obtain ⟨cur, hg, r⟩ := h.block
  exact ⟨by rw [cnRows_len], .inr ⟨g, cap, cur, rfl, r.1, by rw [hb]; exact hg, r.2⟩⟩
theorem CnRow.only {S : Nat → Prop} {w w' : World} {b g cap : Nat} {l : List Cn} (h : CnRow w b g cap l) (ho : Only S w w') (hs : ¬ S g) : CnRow w' b g cap l := h.same (ho.block g h.lt hs)
theorem CnRow.holds {w : World} {b g cap : Nat} {l : List Cn} (h : CnRow w b g cap l) : HoldsK encC 2 w g 0 l.toArray := by
  obtain ⟨cur, hg, hb, h1, h2, h3, h4⟩ := h.block
  intro j hj
  simp only [size_flatK, List.size_toArray] at hj
  refine ⟨?_, by rw [Nat.zero_add]; exact frozen_of hg⟩
  rw [Nat.zero_add, cell_of hg]
  have e := flat_rows l.toArray j (by simpa using hj)
  rw [show id (flatK encC 2 l.toArray)[j]! = (flatK encC 2 l.toArray)[j]! from rfl, e]
  simp only [← h4, List.getElem?_take]
  rw [if_pos hj]
  simp
theorem sort_only (w : World) (g n : Nat) (d : Array Cn) (os : Array Obj) : Only (· = g) w (sortWorldK encC 2 w g 0 n d os) := by
  unfold sortWorldK putRowK putRow
  refine ⟨rfl, rfl, rfl, by simp [mapBlock, grow, Go.Sort.ahead], fun i hi hne => ?_⟩
  simp only [mapBlock, grow, Go.Sort.ahead]
  rw [Array.getElem?_append_left (by simpa using hi), Array.getElem?_modify]
  simp
  intro e
  exact absurd e.symm hne
theorem sort_row {w : World} {b g cap : Nat} {l l' : List Cn} (h : CnRow w b g cap l) (hl : l'.length = l.length) (n : Nat) (os : Array Obj) : CnRow (sortWorldK encC 2 w g 0 n l'.toArray os) b g cap l' := by
  have hh : HoldsK encC 2 (sortWorldK encC 2 w g 0 n l'.toArray os) g 0 l'.toArray := holdsK_sortWorldK_c encC 2 w g 0 l.toArray l'.toArray n os h.holds h.lt (by simpa using hl)
  obtain ⟨cur, hg, hb, h1, h2, h3, h4⟩ := h.block
  have hg' : (sortWorldK encC 2 w g 0 n l'.toArray os).heap[g]? = some (.cells (putCells id 0 (flatK encC 2 l'.toArray) cur) 24 (0, 0)) := by
    unfold sortWorldK putRowK putRow mapBlock grow
    simp only [Go.Sort.ahead]
    rw [Array.getElem?_append_left (by simpa using h.lt), Array.getElem?_modify, hg]
    simp [onCells]
  refine ⟨by rw [cnRows_len], .inr ⟨g, cap, _, by rw [hl], hb, hg', by omega, h2, by simp [putCells, h3], ?_⟩⟩
  refine List.ext_getElem? fun t => ?_
  by_cases ht : t < l'.length * 2
  · have := (hh t (by simpa using ht)).1
    rw [Nat.zero_add, cell_of hg'] at this
    have e := flat_rows l'.toArray t (by simpa using ht)
    rw [show id (flatK encC 2 l'.toArray)[t]! = (flatK encC 2 l'.toArray)[t]! from rfl, e] at this
    rw [List.getElem?_take, if_pos ht]
    simpa using this
  · rw [List.getElem?_take, if_neg ht, List.getElem?_eq_none (by rw [cnRows_len]; omega)]
/-- a permutation in order is the list in order -/
theorem sorted_is {L M : List Cn} (hL : Up L) (hM : M.Nodup) (hm : ∀ c, c ∈ M ↔ c ∈ L) (d' : Array Cn) (hp : PermIn 0 M.toArray.size M.toArray d') (hs : SortedIn (ltOf cmpC) 0 M.toArray.size d') : d'.toList = L := by
  obtain ⟨h1, h2, h3⟩ := hp
  have h3 : d'.toList.Perm M := by
    have e : (d'.extract 0 M.toArray.size) = d' := by rw [← h1]; simp
    rw [e] at h3
    simpa using h3
  refine up_ext ?_ hL fun c => (h3.mem_iff).trans (hm c)
  have hnd : d'.toList.Nodup := h3.nodup_iff.2 hM
  refine List.pairwise_iff_getElem.2 fun i j hi hj hij => ?_
  have := lt_false.1 (hs i j (Nat.zero_le _) hij (by rw [← h1]; simpa using hj))
  have ei : d'[i]! = d'.toList[i] := by rw [getElem!_pos d' i (by simpa using hi)]; simp
  have ej : d'[j]! = d'.toList[j] := by rw [getElem!_pos d' j (by simpa using hj)]; simp
  rw [ei, ej] at this
  rcases ahead_total d'.toList[i] d'.toList[j] with a | a | a
  · exact a
  · exact absurd ((List.getElem_inj hnd).1 a) (by omega)
  · exact absurd a this
theorem Rng.iter {w : World} {B r : Nat} {L T : List Cn} (h : Rng w B r L T) : ∃ a b c d, w.heap[r]? = some (.mapIter a b c d) := by
  obtain ⟨⟨D, n, lf, cnt, ⟨es, clock, since, seen, c0, a1, a2, a3, a4, a5, a6⟩, h2⟩, h3⟩ := h
  exact ⟨_, _, _, _, a5⟩
theorem Rng.neRow {w : World} {B r b g cap : Nat} {L T l : List Cn} (h : Rng w B r L T) (h' : CnRow w b g cap l) : ¬ r = g := fun e => by
  obtain ⟨_, _, _, _, h1⟩ := h.iter
  obtain ⟨cur, h2, _⟩ := h'.block
  rw [e, h2] at h1
  cases h1
end Go.Proofs.Ytliinilbfacpbaa
