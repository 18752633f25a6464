/- Package pool: rows of holders in memory; rows that were sorted. Written by gen_pl.py. -/
import Derived.Test.YtkpambipgcjaiaaPlM
import Derived.Deep.AppendLies
namespace Go.Proofs.Ytkpambipgcjaiaa
open Go.ChangeShapes Go.WideShapes Go.ChangeAt Go.RowKit Go.DsMem Go.DsCo Go.DsPl Go.DsMap
open Go.Sort (grow grow_grow alloc_eq_grow SWO PermIn SortedIn mapBlock onCells putCells putRow Holds flatK get_flatK size_flatK HoldsK putRowK)
set_option linter.unusedVariables false
/-- the cells of a list of holders -/
def hdRows (l : List Hd) : List Value := l.flatMap encH
theorem hdRows_snoc (l : List Hd) (c : Hd) : hdRows (l ++ [c]) = hdRows l ++ encH c := by simp [hdRows]
theorem hdRows_len (l : List Hd) : (hdRows l).length = l.length * 4 := by
  induction l with
  | nil => rfl
  | cons a l ih => simp [hdRows, encH] at ih ⊢; omega
theorem encH_one (c : Hd) : ∀ u ∈ encH c, u.oneCell' = true := by
  intro u hu
  simp only [encH, List.mem_cons, List.not_mem_nil, or_false] at hu
  rcases hu with rfl | rfl | rfl | rfl <;> rfl
theorem hdRows_get : ∀ (l : List Hd) (t : Nat), t < l.length * 4 → (hdRows l)[t]? = (encH l[t / 4]!)[t % 4]?
  | [], t, h => by simp at h
  | a :: l, t, h => by
    have e : hdRows (a :: l) = encH a ++ hdRows l := by simp [hdRows]
    rw [e]
    by_cases h2 : t < 4
    · have h0 : t / 4 = 0 := by omega
      have h1 : t % 4 = t := by omega
      rw [List.getElem?_append_left (by simpa [encH] using h2), h0, h1]
      rfl
    · rw [List.getElem?_append_right (by simp [encH]; omega), show (encH a).length = 4 from rfl, hdRows_get l (t - 4) (by simp at h; omega)]
      have h0 : t / 4 = (t - 4) / 4 + 1 := by omega
      have h1 : t % 4 = (t - 4) % 4 := by omega
      rw [h0, h1]
      simp
theorem flat_rows (d : Array Hd) (t : Nat) (h : t < d.size * 4) : some ((flatK encH 4 d)[t]!) = (hdRows d.toList)[t]? := by
  rw [get_flatK encH 4 d t h, hdRows_get d.toList t (by simpa using h)]
  have e : d.toList[t / 4]! = d[t / 4]! := by
    have ht : t / 4 < d.size := by omega
    rw [getElem!_pos d _ ht, getElem!_pos d.toList _ (by simpa using ht)]
    simp
  rw [e]
  have h2 : t % 4 = 0 ∨ t % 4 = 1 ∨ t % 4 = 2 ∨ t % 4 = 3 := by omega
  rcases h2 with h2 | h2 | h2 | h2 <;> rw [h2] <;> rfl
theorem infoHd : (Try.prog.info? 89).map (fun i => (i.zero, i.size, i.bytes)) = some (some (.agg #[.int .i64 0, .string ⟨#[]⟩, .int .i64 0, .int .i64 0]), 4, 40) := by kernel_rfl

/-- the list l lies in the row of block g, the call's own from block b on -/
def HdRow (w : World) (b g cap : Nat) (l : List Hd) : Prop := w.ownsRow b 89 4 (.slice (some ⟨g, 0, none⟩) l.length cap) l.length (hdRows l)
theorem HdRow.block {w : World} {b g cap : Nat} {l : List Hd} (h : HdRow w b g cap l) : ∃ cur : Array Value, w.heap[g]? = some (.cells cur 89 (0, 0)) ∧ b ≤ g ∧ l.length ≤ cap ∧ cap ≤ maxLen ∧ cur.size = cap * 4 ∧ cur.toList.take (l.length * 4) = hdRows l := by
  rcases h.2 with ⟨h0, _⟩ | ⟨g', cap', cur, hv, hb, hg, h1, h2, h3, h4⟩
  · cases h0
  · simp at hv
    obtain ⟨rfl, rfl⟩ := hv
    exact ⟨cur, hg, hb, h1, h2, h3, h4⟩
theorem HdRow.lt {w : World} {b g cap : Nat} {l : List Hd} (h : HdRow w b g cap l) : g < w.heap.size := by
  obtain ⟨cur, hg, _⟩ := h.block
  exact block_lt hg
theorem HdRow.ge {w : World} {b g cap : Nat} {l : List Hd} (h : HdRow w b g cap l) : b ≤ g := by
  obtain ⟨cur, hg, hb, _⟩ := h.block
  exact hb
theorem HdRow.same {w w' : World} {b g cap : Nat} {l : List Hd} (h : HdRow w b g cap l) (hb : w'.heap[g]? = w.heap[g]?) : HdRow w' b g cap l := by
  obtain ⟨cur, hg, r⟩ := h.block
  exact ⟨by rw [hdRows_len], .inr ⟨g, cap, cur, rfl, r.1, by rw [hb]; exact hg, r.2⟩⟩
theorem HdRow.only {S : Nat → Prop} {w w' : World} {b g cap : Nat} {l : List Hd} (h : HdRow w b g cap l) (ho : Only S w w') (hs : ¬ S g) : HdRow w' b g cap l := h.same (ho.block g h.lt hs)
theorem HdRow.holds {w : World} {b g cap : Nat} {l : List Hd} (h : HdRow w b g cap l) : HoldsK encH 4 w g 0 l.toArray := by
  obtain ⟨cur, hg, hb, h1, h2, h3, h4⟩ := h.block
  intro j hj
  simp only [size_flatK, List.size_toArray] at hj
  refine ⟨?_, by rw [Nat.zero_add]; exact frozen_of hg⟩
  rw [Nat.zero_add, cell_of hg]
  have e := flat_rows l.toArray j (by simpa using hj)
  rw [show id (flatK encH 4 l.toArray)[j]! = (flatK encH 4 l.toArray)[j]! from rfl, e]
  simp only [← h4, List.getElem?_take]
  rw [if_pos hj]
  simp
theorem sort_only (w : World) (g n : Nat) (d : Array Hd) (os : Array Obj) : Only (· = g) w (sortWorldK encH 4 w g 0 n d os) := by
  unfold sortWorldK putRowK putRow
  refine ⟨rfl, rfl, rfl, by simp [mapBlock, grow, Go.Sort.ahead], fun i hi hne => ?_⟩
  simp only [mapBlock, grow, Go.Sort.ahead]
  rw [Array.getElem?_append_left (by simpa using hi), Array.getElem?_modify]
  simp
  intro e
  exact absurd e.symm hne
theorem sort_row {w : World} {b g cap : Nat} {l l' : List Hd} (h : HdRow w b g cap l) (hl : l'.length = l.length) (n : Nat) (os : Array Obj) : HdRow (sortWorldK encH 4 w g 0 n l'.toArray os) b g cap l' := by
  have hh : HoldsK encH 4 (sortWorldK encH 4 w g 0 n l'.toArray os) g 0 l'.toArray := holdsK_sortWorldK_c encH 4 w g 0 l.toArray l'.toArray n os h.holds h.lt (by simpa using hl)
  obtain ⟨cur, hg, hb, h1, h2, h3, h4⟩ := h.block
  have hg' : (sortWorldK encH 4 w g 0 n l'.toArray os).heap[g]? = some (.cells (putCells id 0 (flatK encH 4 l'.toArray) cur) 89 (0, 0)) := by
    unfold sortWorldK putRowK putRow mapBlock grow
    simp only [Go.Sort.ahead]
    rw [Array.getElem?_append_left (by simpa using h.lt), Array.getElem?_modify, hg]
    simp [onCells]
  refine ⟨by rw [hdRows_len], .inr ⟨g, cap, _, by rw [hl], hb, hg', by omega, h2, by simp [putCells, h3], ?_⟩⟩
  refine List.ext_getElem? fun t => ?_
  by_cases ht : t < l'.length * 4
  · have := (hh t (by simpa using ht)).1
    rw [Nat.zero_add, cell_of hg'] at this
    have e := flat_rows l'.toArray t (by simpa using ht)
    rw [show id (flatK encH 4 l'.toArray)[t]! = (flatK encH 4 l'.toArray)[t]! from rfl, e] at this
    rw [List.getElem?_take, if_pos ht]
    simpa using this
  · rw [List.getElem?_take, if_neg ht, List.getElem?_eq_none (by rw [hdRows_len]; omega)]
/-- a permutation in order is the list in order -/
theorem sorted_is {L M : List Hd} (hL : UpH L) (hp0 : M.Perm L) (d' : Array Hd) (hp : PermIn 0 M.toArray.size M.toArray d') (hs : SortedIn (ltOf cmpH) 0 M.toArray.size d') : d'.toList = L := by
  obtain ⟨h1, h2, h3⟩ := hp
  have h3 : d'.toList.Perm M := by
    have e : (d'.extract 0 M.toArray.size) = d' := by rw [← h1]; simp
    rw [e] at h3
    simpa using h3
  refine upH_ext ?_ hL (h3.trans hp0)
  have hnd : (d'.toList.map (·.1)).Nodup := (((h3.trans hp0).map _).nodup_iff).2 hL.nodup
  refine List.pairwise_iff_getElem.2 fun i j hi hj hij => ?_
  have := lt_false.1 (hs i j (Nat.zero_le _) hij (by rw [← h1]; simpa using hj))
  have ei : d'[i]! = d'.toList[i] := by rw [getElem!_pos d' i (by simpa using hi)]; simp
  have ej : d'[j]! = d'.toList[j] := by rw [getElem!_pos d' j (by simpa using hj)]; simp
  rw [ei, ej] at this
  rcases aheadH_total d'.toList[i].1 d'.toList[j].1 with a | a | a
  · exact a
  · have := (List.getElem_inj (i := i) (j := j) (h₀ := by simpa using hi) (h₁ := by simpa using hj) hnd).1 (by simpa using a)
    omega
  · exact absurd a this
theorem Rg.iterH {P : Program} {k : TypeId} {κ ν : Type} {kv : κ → Value} {ev : ν → Value} {fit : κ → Prop} {w : World} {B r : Nat} {L T : List (κ × ν)} (h : Rg P k kv ev fit w B r L T) : ∃ a b c d, w.heap[r]? = some (.mapIter a b c d) := by
  obtain ⟨⟨D, n, lf, cnt, ⟨es, clock, since, seen, c0, a1, a2, a3, a4, a5, a6⟩, h2⟩, h3⟩ := h
  exact ⟨_, _, _, _, a5⟩
theorem rg_neRow {P : Program} {k : TypeId} {κ ν : Type} {kv : κ → Value} {ev : ν → Value} {fit : κ → Prop} {w : World} {B r b g cap : Nat} {L T : List (κ × ν)} {l : List Hd} (h : Rg P k kv ev fit w B r L T) (h' : HdRow w b g cap l) : ¬ r = g := fun e => by
  obtain ⟨_, _, _, _, h1⟩ := Rg.iterH h
  obtain ⟨cur, h2, _⟩ := h'.block
  rw [e, h2] at h1
  cases h1
end Go.Proofs.Ytkpambipgcjaiaa
