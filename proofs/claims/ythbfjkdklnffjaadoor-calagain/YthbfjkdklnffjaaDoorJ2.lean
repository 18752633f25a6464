/- Some parts of the proof, one behind the other. -/
import Derived.Test.YthbfjkdklnffjaaDoorJ1
import Derived.Laws.MakeOwn
import Derived.Deep.RegionHeld3
import Derived.Deep.RegionLaw
/- The walks of dayshiftref05's None and Of: days as a row of Bools. -/
namespace Go.Proofs.YthbfjkdklnffjaaDoor
open Go.ChangeShapes Go.WideShapes Go.ChangeAt Go.RowKit Go.DsMem Go.DsMk
set_option linter.unusedVariables false

/-- the value v is the days f (which of 1 to 31) of the reference, its row in the block g -/
structure RAt (w : World) (v : Value) (g : Nat) (f : Nat → Bool) : Prop where
  val : v = .agg #[.slice (some ⟨g, 0, none⟩) 32 32]
  row : ∃ cs : Array Value, w.heap[g]? = some (.cells cs 4 (0, 0)) ∧ cs.size = 32 ∧ ∀ d, 1 ≤ d → d ≤ 31 → cs[d]? = some (.bool (f d))
theorem RAt.below {w w' : World} {v : Value} {g : Nat} {f : Nat → Bool} (h : RAt w v g f) (hb : Below w.heap.size w w') : RAt w' v g f := by
  obtain ⟨hv, cs, hr, hs, hc⟩ := h
  exact ⟨hv, cs, by rw [hb.block g (block_lt hr)]; exact hr, hs, hc⟩
theorem RAt.cell {w : World} {v : Value} {g : Nat} {f : Nat → Bool} (h : RAt w v g f) (d : Nat) (h1 : 1 ≤ d) (h2 : d ≤ 31) : w.cell? ⟨g, d, none⟩ = some (.bool (f d)) := by
  obtain ⟨hv, cs, hr, hs, hc⟩ := h
  rw [cell_of hr]; exact hc d h1 h2

/-- a call at w has made the days f, in memory of their own -/
def Made (w : World) (f : Nat → Bool) (e : Ending) (w' : World) : Prop := ∃ v g, e = .returned v ∧ w.heap.size ≤ g ∧ RAt w' v g f ∧ Below w.heap.size w w'
theorem Made.of {w w' : World} {f : Nat → Bool} {e : Ending} (h : ∃ v g, e = .returned v ∧ w.heap.size ≤ g ∧ RAt w' v g f ∧ Below w.heap.size w w') : Made w f e w' := h
theorem infoB : (Tryd.prog.info? 4).map (fun i => (i.zero, i.size, i.bytes)) = some (some (.bool false), 1, 1) := by kernel_rfl
theorem heap_keep {w : World} {o : Obj} {k : Nat} {x : Obj} (h : w.heap[k]? = some x) : (w.alloc o).heap[k]? = some x := by
  have hk := block_lt h
  rw [((Below.refl w.heap.size w).alloc (Nat.le_refl _) o).block k hk]; exact h
theorem heap_set_ne {w : World} {p q k : Nat} {x : Value} (h : p ≠ q) : (w.setCell ⟨p, k, none⟩ x).heap[q]? = w.heap[q]? := Below.heap_setCell _ _ _ _ (fun e => h e.symm)
theorem set_fill {cs : Array Value} {f : Nat → Bool} {k : Nat} (hs : cs.size = 32) (hk : k ≤ 31) (h : ∀ d, 1 ≤ d → d < k → cs[d]? = some (.bool (f d))) {b : Bool} (hb : b = f k) :
    ∀ d, 1 ≤ d → d < k + 1 → (cs.setIfInBounds k (.bool b))[d]? = some (.bool (f d)) := by
  intro d h1 h2
  rw [Array.getElem?_setIfInBounds]
  split
  · rename_i e; subst e; rw [if_pos (by omega), hb]
  · exact h d h1 (by omega)

theorem bit_and (x k : Nat) (hx : x < 4294967296) : bits .and .u32 ((x : Int) / 2 ^ k) 1 = if x.testBit k then 1 else 0 := by
  have e : (x : Int) / 2 ^ k = ((x / 2 ^ k : Nat) : Int) := by rw [pow_cast]; omega
  have hl : x / 2 ^ k < 4294967296 := Nat.lt_of_le_of_lt (Nat.div_le_self _ _) hx
  rw [e, show (1 : Int) = ((1 : Nat) : Int) by rfl, and32 _ 1 hl (by decide), Nat.and_one_is_mod, Nat.testBit_eq_decide_div_mod_eq]
  by_cases h : x / 2 ^ k % 2 = 1
  · simp [h]
  · simp [h]; omega

end Go.Proofs.YthbfjkdklnffjaaDoor

/- The walks of dayshiftref05's All, Week, Bits, Has. -/
namespace Go.Proofs.YthbfjkdklnffjaaDoor
open Go.ChangeShapes Go.WideShapes Go.ChangeAt Go.RowKit Go.DsMem Go.DsMk
set_option linter.unusedVariables false

theorem allN_day (n : Int) (d : Nat) (h1 : 1 ≤ d) (h2 : d ≤ 31) : (allN n).testBit (d - 1) = decide ((d : Int) ≤ n) := by
  rw [allN_bit, decide_eq_decide]; omega
theorem bit_and8 (x k : Nat) (hx : x < 256) : bits .and .u8 ((x : Int) / 2 ^ k) 1 = if x.testBit k then 1 else 0 := by
  have e : (x : Int) / 2 ^ k = ((x / 2 ^ k : Nat) : Int) := by rw [pow_cast]; omega
  have hl : x / 2 ^ k < 256 := Nat.lt_of_le_of_lt (Nat.div_le_self _ _) hx
  rw [e, show (1 : Int) = ((1 : Nat) : Int) by rfl, and8 _ 1 hl (by decide), Nat.and_one_is_mod, Nat.testBit_eq_decide_div_mod_eq]
  by_cases h : x / 2 ^ k % 2 = 1
  · simp [h]
  · simp [h]; omega
theorem set_fill2 {cs : Array Value} {f : Nat → Bool} {k : Nat} (hs : cs.size = 32) (hk : k ≤ 31) (h : ∀ d, 1 ≤ d → d ≤ 31 → cs[d]? = some (.bool (decide (d < k) && f d))) {b : Bool} (hb : b = f k) :
    ∀ d, 1 ≤ d → d ≤ 31 → (cs.setIfInBounds k (.bool b))[d]? = some (.bool (decide (d < k + 1) && f d)) := by
  intro d h1 h2
  rw [Array.getElem?_setIfInBounds]
  split
  · rename_i e; subst e; rw [if_pos (by omega), hb]; simp
  · rw [h d h1 h2, show decide (d < k) = decide (d < k + 1) by rw [decide_eq_decide]; omega]
theorem weekN_day (bits : Nat) (first n : Int) (d : Nat) (h1 : 1 ≤ d) (h2 : d ≤ 31) : (weekN bits first n).testBit (d - 1) = (decide ((d : Int) ≤ n) && bits.testBit ((first + d - 1) % 7).toNat) := by
  rw [weekN_bit, show first + ((d - 1 : Nat) : Int) = first + d - 1 by omega, show decide (((d - 1 : Nat) : Int) < n ∧ d - 1 < 31) = decide ((d : Int) ≤ n) by rw [decide_eq_decide]; omega]

end Go.Proofs.YthbfjkdklnffjaaDoor

/- The walks of dayshiftref05's Bits, Has, List, Count. -/
namespace Go.DsMk
theorem mod_step (x k : Nat) : x % 2 ^ (k + 1) = x % 2 ^ k ||| (if x.testBit k then 2 ^ k else 0) := by
  apply Nat.eq_of_testBit_eq
  intro i
  rw [Nat.testBit_or, Nat.testBit_mod_two_pow, Nat.testBit_mod_two_pow]
  by_cases hb : x.testBit k = true
  · rw [if_pos hb, Nat.testBit_two_pow]
    by_cases hi : k = i
    · subst hi; simp [hb]
    · rw [decide_eq_false hi, Bool.or_false, show decide (i < k + 1) = decide (i < k) by rw [decide_eq_decide]; omega]
  · rw [if_neg hb, Nat.zero_testBit, Bool.or_false]
    by_cases hi : k = i
    · subst hi; simp [Bool.not_eq_true] at hb; simp [hb]
    · rw [show decide (i < k + 1) = decide (i < k) by rw [decide_eq_decide]; omega]
/-- the days below k -/
def dlUp (x k : Nat) : List Nat := (dl x).filter fun z => decide (z < k)
theorem dlUp_step (x k : Nat) (h1 : 1 ≤ k) (h2 : k ≤ 31) : dlUp x (k + 1) = dlUp x k ++ if x.testBit (k - 1) then [k] else [] := by
  unfold dlUp
  apply sorted_ext _ _ ((dl_sorted x).filter _)
  · rw [List.pairwise_append]
    refine ⟨(dl_sorted x).filter _, by split <;> simp, fun a ha b hb => ?_⟩
    rw [List.mem_filter, decide_eq_true_eq] at ha
    split at hb
    · simp at hb; omega
    · simp at hb
  · intro d
    rw [List.mem_append, List.mem_filter, List.mem_filter, decide_eq_true_eq, decide_eq_true_eq]
    constructor
    · rintro ⟨hm, hd⟩
      by_cases hk : d = k
      · subst hk; right; rw [if_pos ((dl_mem x d).1 hm).2.2]; simp
      · left; exact ⟨hm, by omega⟩
    · rintro (⟨hm, hd⟩ | hm)
      · exact ⟨hm, by omega⟩
      · split at hm
        · rename_i hb; simp at hm; subst hm; exact ⟨(dl_mem x d).2 ⟨h1, h2, hb⟩, by omega⟩
        · simp at hm
theorem dlUp_one (x : Nat) : dlUp x 1 = [] := by
  unfold dlUp
  rw [List.filter_eq_nil_iff]
  intro z hz
  have := dl_pos x z hz
  simp; omega
theorem dlUp_end (x : Nat) : dlUp x 32 = dl x := by
  unfold dlUp
  rw [List.filter_eq_self]
  intro z hz
  have := dl_pos x z hz
  simp; omega
theorem dlUp_le (x k : Nat) : (dlUp x k).length ≤ 31 := Nat.le_trans (List.length_filter_le _ _) (dl_le x)
end Go.DsMk
namespace Go.Proofs.YthbfjkdklnffjaaDoor
open Go.ChangeShapes Go.WideShapes Go.ChangeAt Go.RowKit Go.DsMem Go.DsMk
set_option linter.unusedVariables false

/-- the reference's value of the days x -/
def RMonth (w : World) (v : Value) (x : Nat) : Prop := ∃ g, RAt w v g (fun d => x.testBit (d - 1))
theorem RMonth.below {w w' : World} {v : Value} {x : Nat} (h : RMonth w v x) (hb : Below w.heap.size w w') : RMonth w' v x := let ⟨g, hg⟩ := h; ⟨g, hg.below hb⟩

end Go.Proofs.YthbfjkdklnffjaaDoor

/- The walk of MaskGoes. -/
namespace Go.DsMk
/-- the j-th from the end, 0 if there is none -/
def rv (l : List Nat) (j : Nat) : Nat := l.reverse[j]?.getD 0
/-- the j-th, 0 if there is none -/
def fw (l : List Nat) (j : Nat) : Nat := l[j]?.getD 0
theorem fw_lt (l : List Nat) (j : Nat) (h : j < l.length) : fw l j = l[j] := by unfold fw; rw [List.getElem?_eq_getElem h]; rfl
theorem fw_ge (l : List Nat) (j : Nat) (h : l.length ≤ j) : fw l j = 0 := by unfold fw; rw [List.getElem?_eq_none h]; rfl
theorem rv_lt (l : List Nat) (j : Nat) (h : j < l.length) : rv l j = l[l.length - 1 - j] := by
  unfold rv; rw [List.getElem?_eq_getElem (by simpa using h), Option.getD_some, List.getElem_reverse]
theorem rv_ge (l : List Nat) (j : Nat) (h : l.length ≤ j) : rv l j = 0 := by unfold rv; rw [List.getElem?_eq_none (by simpa using h)]; rfl
theorem prev_idx (l : List Nat) (hs : l.Pairwise (· < ·)) (j : Nat) (hj : j < l.length) : prevL l (l[j] : Int) = if j = 0 then 0 else fw l (j - 1) := by
  unfold prevL
  have e : l.filter (fun z : Nat => decide ((z : Int) < (l[j] : Int))) = l.take j := by
    have hA : ∀ z ∈ l.take j, z < l[j] := by
      intro z hz
      obtain ⟨i, hi, rfl⟩ := List.getElem_of_mem hz
      rw [List.length_take] at hi
      rw [List.getElem_take]
      exact List.pairwise_iff_getElem.1 hs i j (by omega) hj (by omega)
    have hB : ∀ z ∈ l.drop j, ¬ z < l[j] := by
      intro z hz hlt
      obtain ⟨i, hi, rfl⟩ := List.getElem_of_mem hz
      rw [List.length_drop] at hi
      rw [List.getElem_drop] at hlt
      rcases Nat.eq_zero_or_pos i with rfl | h
      · simp at hlt
      · have := List.pairwise_iff_getElem.1 hs j (j + i) hj (by omega) (by omega); omega
    have e1 : (l.take j).filter (fun z : Nat => decide ((z : Int) < (l[j] : Int))) = l.take j := List.filter_eq_self.2 (fun z hz => by have := hA z hz; simp; omega)
    have e2 : (l.drop j).filter (fun z : Nat => decide ((z : Int) < (l[j] : Int))) = [] := List.filter_eq_nil_iff.2 (fun z hz => by have := hB z hz; simp; omega)
    have := List.filter_append (p := fun z : Nat => decide ((z : Int) < (l[j] : Int))) (l.take j) (l.drop j)
    rw [List.take_append_drop, e1, e2, List.append_nil] at this
    exact this
  rw [e]
  split
  · rename_i h; subst h; rfl
  · rename_i h
    rw [List.getLast?_eq_getElem?, List.length_take, Nat.min_eq_left (by omega), List.getElem?_take, if_pos (by omega)]
    rfl
theorem prev_rv (l : List Nat) (hs : l.Pairwise (· < ·)) (j : Nat) (hj : j < l.length) : prevL l (rv l j : Int) = rv l (j + 1) := by
  rw [rv_lt l j hj, prev_idx l hs _ (by omega)]
  split
  · rw [rv_ge l (j + 1) (by omega)]
  · rw [rv_lt l (j + 1) (by omega), fw_lt l _ (by omega)]
    congr 1
theorem prev_end (l : List Nat) (h : ∀ z ∈ l, 1 ≤ z ∧ z ≤ 31) : prevL l 32 = rv l 0 := by
  unfold prevL rv
  rw [List.filter_eq_self.2 (fun z hz => by have := h z hz; simp; omega), List.getLast?_eq_getElem?]
  by_cases h0 : l.length = 0
  · rw [List.eq_nil_of_length_eq_zero h0]; rfl
  · rw [List.getElem?_reverse (by omega), Nat.sub_zero]
theorem next_fw (l : List Nat) (j : Nat) : (l[j]?).getD 0 = fw l j := rfl
theorem nth_fw (l : List Nat) (j : Nat) : nthL l ((j : Int) + 1) = fw l j := by
  rw [nthL_up _ _ (by omega)]; unfold fw; congr 2; omega
theorem nth_rv (l : List Nat) (j : Nat) (h : j < l.length) : nthL l (-1 - (j : Int)) = rv l j := by
  rw [nthL_down _ _ (by omega) (by omega), rv_lt l j h]
  rw [show ((-1 - (j : Int)) + (l.length + 1) - 1).toNat = l.length - 1 - j by omega, List.getElem?_eq_getElem (by omega)]; rfl
theorem nth_zero (l : List Nat) : nthL l 0 = 0 := nthL_no _ _ (.inl rfl)
theorem has_fw (x j : Nat) (h : j < (dl x).length) : hasB x (fw (dl x) j : Int) = true := by
  rw [has_mem, decide_eq_true_eq, fw_lt _ _ h]
  exact ⟨by omega, by simp⟩
end Go.DsMk
namespace Go.Proofs.YthbfjkdklnffjaaDoor
open Go.ChangeShapes Go.WideShapes Go.ChangeAt Go.RowKit Go.DsMem Go.DsMk
set_option linter.unusedVariables false

theorem ints_len (l : List Nat) : (ints l).length = l.length := by simp [ints]
theorem ints_at (l : List Nat) (j : Nat) (h : j < l.length) : (ints l)[j]? = some (fw l j : Int) := by
  rw [fw_lt l j h]; simp [ints, List.getElem?_eq_getElem h]

end Go.Proofs.YthbfjkdklnffjaaDoor

/- The walks of dayshiftref05's Nth, Next, Prev. -/
namespace Go.DsMk
theorem nextL_at (l : List Nat) (d : Int) (i : Nat) (hi : i < l.length) (hb : ∀ j (hj : j < l.length), j < i → ¬ d < (l[j] : Int)) (hd : d < (l[i] : Int)) : nextL l d = fw l i := by
  unfold nextL
  have e : l = l.take i ++ l[i] :: l.drop (i + 1) := by rw [List.getElem_cons_drop]; exact (List.take_append_drop i l).symm
  have e1 : (l.take i).filter (fun z : Nat => decide (d < (z : Int))) = [] := by
    rw [List.filter_eq_nil_iff]
    intro z hz
    obtain ⟨j, hj, rfl⟩ := List.getElem_of_mem hz
    rw [List.length_take] at hj
    rw [List.getElem_take]
    have := hb j (by omega) (by omega)
    simpa using this
  have e2 : l.filter (fun z : Nat => decide (d < (z : Int))) = l[i] :: (l.drop (i + 1)).filter (fun z : Nat => decide (d < (z : Int))) := by
    conv => lhs; rw [e]
    rw [List.filter_append, e1, List.nil_append, List.filter_cons_of_pos (by simpa using hd)]
  rw [e2, fw_lt l i hi]; rfl
theorem nextL_none (l : List Nat) (d : Int) (hb : ∀ j (hj : j < l.length), ¬ d < (l[j] : Int)) : nextL l d = 0 := by
  unfold nextL
  rw [List.filter_eq_nil_iff.2]; rfl
  intro z hz
  obtain ⟨j, hj, rfl⟩ := List.getElem_of_mem hz
  simpa using hb j hj
theorem prevL_at (l : List Nat) (d : Int) (i : Nat) (hi : i < l.length) (hb : ∀ j (hj : j < l.length), i < j → ¬ (l[j] : Int) < d) (hd : (l[i] : Int) < d) : prevL l d = fw l i := by
  unfold prevL
  have e : l = (l.take i ++ [l[i]]) ++ l.drop (i + 1) := by rw [← List.take_succ_eq_append_getElem hi, List.take_append_drop]
  have e1 : (l.drop (i + 1)).filter (fun z : Nat => decide ((z : Int) < d)) = [] := by
    rw [List.filter_eq_nil_iff]
    intro z hz
    obtain ⟨j, hj, rfl⟩ := List.getElem_of_mem hz
    rw [List.length_drop] at hj
    rw [List.getElem_drop]
    have := hb (i + 1 + j) (by omega) (by omega)
    simpa using this
  have e2 : l.filter (fun z : Nat => decide ((z : Int) < d)) = (l.take i).filter (fun z : Nat => decide ((z : Int) < d)) ++ [l[i]] := by
    conv => lhs; rw [e]
    rw [List.filter_append, List.filter_append, e1, List.append_nil, List.filter_cons_of_pos (by simpa using hd)]; rfl
  rw [e2, List.getLast?_append, fw_lt l i hi]; rfl
theorem prevL_none (l : List Nat) (d : Int) (hb : ∀ j (hj : j < l.length), ¬ (l[j] : Int) < d) : prevL l d = 0 := by
  unfold prevL
  rw [List.filter_eq_nil_iff.2]; rfl
  intro z hz
  obtain ⟨j, hj, rfl⟩ := List.getElem_of_mem hz
  simpa using hb j hj
theorem nth_back (l : List Nat) (i : Nat) (h : i < l.length) : nthL l ((i : Int) - l.length) = fw l i := by
  rw [nthL_down _ _ (by omega) (by omega)]; unfold fw; congr 2; omega
end Go.DsMk
namespace Go.Proofs.YthbfjkdklnffjaaDoor
open Go.ChangeShapes Go.WideShapes Go.ChangeAt Go.RowKit Go.DsMem Go.DsMk
set_option linter.unusedVariables false

/-- a list of the days, out of a call: where its cells lie -/
theorem list_open {w : World} {B n : Nat} {ao : Option Addr} {cap : Nat} {l : List Nat} (h : w.ownsRow B 2 1 (.slice ao n cap) n (i64s (ints l))) : n = l.length ∧ ∀ j, j < l.length → ∃ a, ao = some a ∧ w.cell? (a.add j) = some (.int .i64 (fw l j)) := by
  have hn : n = l.length := by have := h.1; simp [i64s, ints] at this; omega
  refine ⟨hn, fun j hj => ?_⟩
  obtain ⟨ao', cap', hv, hlc, hnil, hrd⟩ := RdI.own h
  simp only [Value.slice.injEq] at hv
  obtain ⟨rfl, -, rfl⟩ := hv
  cases ao with
  | none => have := hnil rfl; rw [ints_len] at this; omega
  | some a => exact ⟨a, rfl, hrd a rfl j _ (ints_at l j hj)⟩

end Go.Proofs.YthbfjkdklnffjaaDoor

/- The walks of dayshiftref05's Not and of dayshiftlaw05's days and same. -/
namespace Go.Proofs.YthbfjkdklnffjaaDoor
open Go.ChangeShapes Go.WideShapes Go.ChangeAt Go.RowKit Go.DsMem Go.DsMk
set_option linter.unusedVariables false

theorem set_fill3 {cs : Array Value} {f h : Nat → Bool} {k : Nat} (hs : cs.size = 32) (hk : k ≤ 31) (hc : ∀ d, 1 ≤ d → d ≤ 31 → cs[d]? = some (.bool (if d < k then f d else h d))) {b : Bool} (hb : b = f k) :
    ∀ d, 1 ≤ d → d ≤ 31 → (cs.setIfInBounds k (.bool b))[d]? = some (.bool (if d < k + 1 then f d else h d)) := by
  intro d h1 h2
  rw [Array.getElem?_setIfInBounds]
  split
  · rename_i e; subst e; rw [if_pos (by omega), hb, if_pos (by omega)]
  · rw [hc d h1 h2]
    by_cases hd : d < k
    · rw [if_pos hd, if_pos (by omega)]
    · rw [if_neg hd, if_neg (by omega)]

theorem cell_set_ne {w : World} {p q i j : Nat} {x : Value} (h : ¬ q = p) : (w.setCell ⟨p, i, none⟩ x).cell? ⟨q, j, none⟩ = w.cell? ⟨q, j, none⟩ := by
  exact World.cell?_of_block (heap_set_ne (fun e => h e.symm))
theorem cell_set_drew {w : World} {p q i j : Nat} {x : Value} (h : ¬ q = p) : (w.setCell ⟨p, i, none⟩ x).drew.cell? ⟨q, j, none⟩ = w.cell? ⟨q, j, none⟩ := cell_set_ne h
theorem Made.up {w wA w' : World} {f : Nat → Bool} {e : Ending} (hb : Below w.heap.size w wA) (h : Made wA f e w') : Made w f e w' := by
  obtain ⟨v, g, he, hg, hr, hB⟩ := h
  exact ⟨v, g, he, Nat.le_trans hb.size hg, hr, hb.trans (hB.mono hb.size)⟩
end Go.Proofs.YthbfjkdklnffjaaDoor

/- The walk of MaskNots. -/
namespace Go.DsMk
theorem bit_high (x i : Nat) (hx : x < 2147483648) (hi : 31 ≤ i) : x.testBit i = false := Nat.testBit_lt_two_pow (Nat.lt_of_lt_of_le hx (by have := Nat.pow_le_pow_right (n := 2) (by decide) hi; omega))
theorem not_not (x : Nat) (n : Int) (hx : x < 4294967296) : difN (allN n) (difN (allN n) x) = x % 2147483648 &&& allN n % 2147483648 := by
  have hall := allN_lt n
  have h1 := difN_lt31 (allN n) x hall
  apply Nat.eq_of_testBit_eq
  intro i
  rw [difN_bit _ _ (by omega) (by omega), difN_bit _ _ (by omega) hx, Nat.testBit_and, show (2147483648 : Nat) = 2 ^ 31 by decide, Nat.testBit_mod_two_pow, Nat.testBit_mod_two_pow]
  by_cases hi : i < 31
  · rw [decide_eq_true hi]; cases (allN n).testBit i <;> cases x.testBit i <;> rfl
  · rw [bit_high _ i hall (by omega)]; simp
theorem not_cnt (x : Nat) (n : Int) (hx : x < 4294967296) : (dl (difN (allN n) x)).length + (dl (difN (allN n) (difN (allN n) x))).length = (dl (allN n)).length := by
  have hall := allN_lt n
  have h1 := difN_lt31 (allN n) x hall
  have h := cnt_four (difN (allN n) x) (difN (allN n) (difN (allN n) x)) (allN n) 0 (fun i _ => by
    rw [difN_bit (allN n) (difN (allN n) x) (by omega) (by omega), difN_bit (allN n) x (by omega) hx, Nat.zero_testBit]
    cases (allN n).testBit i <;> cases x.testBit i <;> rfl)
  have h0 : (dl 0).length = 0 := by decide
  omega
end Go.DsMk
namespace Go.Proofs.YthbfjkdklnffjaaDoor
open Go.ChangeShapes Go.WideShapes Go.ChangeAt Go.RowKit Go.DsMem Go.DsMk
set_option linter.unusedVariables false

theorem RMonth.struct {w : World} {v : Value} {x : Nat} (h : RMonth w v x) : ∃ g, v = .agg #[.slice (some ⟨g, 0, none⟩) 32 32] := let ⟨g, hg⟩ := h; ⟨g, hg.val⟩

end Go.Proofs.YthbfjkdklnffjaaDoor

/- The walks of dayshiftref05.Days and of dayshiftlaw05.same. -/
namespace Go.DsMk
/-- whether the number x asks for the day d, of n days -/
def hitB (n x : Int) (d : Nat) : Bool := decide (x = (d : Int)) || decide (x < 0 ∧ x = (d : Int) - 1 - n)
/-- the days that numbers ask for -/
def hitsB (n : Int) (l : List Int) (d : Nat) : Bool := decide ((d : Int) ≤ n) && l.any fun x => hitB n x d
theorem hitsB_snoc (n : Int) (l : List Int) (x : Int) (d : Nat) : hitsB n (l ++ [x]) d = (hitsB n l d || (decide ((d : Int) ≤ n) && hitB n x d)) := by
  unfold hitsB; rw [List.any_append]; simp only [List.any_cons, List.any_nil, Bool.or_false]
  cases decide ((d : Int) ≤ n) <;> simp
theorem daysN_day (n : Int) (l : List Int) (d : Nat) (h1 : 1 ≤ d) (h2 : d ≤ 31) (hn : -9223372036854775808 ≤ n ∧ n ≤ 9223372036854775807) (hl : ∀ k ∈ l, -9223372036854775808 ≤ k ∧ k ≤ 9223372036854775807) :
    (daysN n l).testBit (d - 1) = hitsB n l d := by
  rw [daysN_bit n l _ hn hl]
  unfold hitsB hitB
  rw [Bool.eq_iff_iff, Bool.and_eq_true, decide_eq_true_eq, decide_eq_true_eq, List.any_eq_true]
  constructor
  · rintro ⟨a, b, k, hk, hc⟩
    refine ⟨by omega, k, hk, ?_⟩
    rw [Bool.or_eq_true, decide_eq_true_eq, decide_eq_true_eq]
    rcases hc with hc | hc
    · left; omega
    · right; omega
  · rintro ⟨a, k, hk, hc⟩
    rw [Bool.or_eq_true, decide_eq_true_eq, decide_eq_true_eq] at hc
    refine ⟨by omega, by omega, k, hk, ?_⟩
    rcases hc with hc | hc
    · left; omega
    · right; omega
end Go.DsMk
namespace Go.Proofs.YthbfjkdklnffjaaDoor
open Go.ChangeShapes Go.WideShapes Go.ChangeAt Go.RowKit Go.DsMem Go.DsMk
set_option linter.unusedVariables false

theorem set_hit {cs : Array Value} {p h : Nat → Bool} {k : Nat} (hs : cs.size = 32) (hk : k ≤ 31) (hc : ∀ d, 1 ≤ d → d ≤ 31 → cs[d]? = some (.bool (p d || (decide (d < k) && h d)))) (hh : h k = true) :
    ∀ d, 1 ≤ d → d ≤ 31 → (cs.setIfInBounds k (.bool true))[d]? = some (.bool (p d || (decide (d < k + 1) && h d))) := by
  intro d h1 h2
  rw [Array.getElem?_setIfInBounds]
  split
  · rename_i e; subst e; rw [if_pos (by omega), hh]; simp
  · rw [hc d h1 h2, show decide (d < k) = decide (d < k + 1) by rw [decide_eq_decide]; omega]
theorem keep_hit {cs : Array Value} {p h : Nat → Bool} {k : Nat} (hc : ∀ d, 1 ≤ d → d ≤ 31 → cs[d]? = some (.bool (p d || (decide (d < k) && h d)))) (hh : h k = false) :
    ∀ d, 1 ≤ d → d ≤ 31 → cs[d]? = some (.bool (p d || (decide (d < k + 1) && h d))) := by
  intro d h1 h2
  rw [hc d h1 h2]
  by_cases e : d = k
  · subst e; rw [hh]; simp
  · rw [show decide (d < k) = decide (d < k + 1) by rw [decide_eq_decide]; omega]

end Go.Proofs.YthbfjkdklnffjaaDoor

/- The walk of MaskMakes. -/
namespace Go.Proofs.YthbfjkdklnffjaaDoor
open Go.ChangeShapes Go.WideShapes Go.ChangeAt Go.RowKit Go.DsMem Go.DsMk
set_option linter.unusedVariables false

theorem rdi_in {W w : World} {sl : Value} {ns : List Int} (h : RdI W sl ns) (hb : Below W.heap.size W w) : RdI w sl ns := h.mono fun _ _ hc => Below.keeps hb (Nat.le_refl _) hc
/-- numbers behind a row of numbers, from a slice that reads as them -/
theorem run_append_rdi {P : Program} {w : World} {base : Nat} {t e : TypeId} (ty : TypeId) (ht : P.underlying t = some (.slice e)) (hinfo : (P.info? e).map (fun i => (i.zero, i.size, i.bytes)) = some (some (.int .i64 0), 1, 8))
    {v : Value} {n : Nat} {l : List Int} (hown : w.ownsRow base e 1 v n (i64s l)) {sl : Value} {b : List Int} (hrd : RdI w sl b) (hbytes : n + b.length ≤ 17592186044416) (hbase : base ≤ w.heap.size) :
    ∃ v' w', (Builtin.append_ #[t, t] ty #[v, sl]).run P w = .ok v' w' ∧ w'.ownsRow base e 1 v' (n + b.length) (i64s (l ++ b)) ∧ w.grownBy w' v.ownBlock := by
  obtain ⟨i0, hi, hz0, hz1, hz2⟩ := info_parts hinfo
  obtain ⟨ao, cap, rfl, hlc, hnil, hr⟩ := hrd
  cases ao with
  | none =>
    obtain ⟨h0, rfl⟩ := hnil rfl
    obtain rfl : b = [] := List.eq_nil_of_length_eq_zero h0
    exact ⟨v, w, run_append_owned_none (P := P) w base t ty e i0 1 ht hi v n _ hown, by simpa using hown, World.grownBy.refl _ _⟩
  | some a =>
    obtain ⟨v', w', h1, h2, h3, _⟩ := run_append_own (P := P) w base t ty e i0 _ 1 8 ht hi hz0 hz1 hz2 rfl (by decide) v n _ hown a b.length cap (i64s b) (by simp [i64s])
      (fun j u hj => by simp only [i64s, List.getElem?_map] at hj; obtain ⟨x, hx, rfl⟩ := Option.map_eq_some_iff.1 hj; exact hr a rfl j x hx) (by intro u hu; simp [i64s] at hu; obtain ⟨x, _, rfl⟩ := hu; rfl) (by unfold maxLen; omega) (by omega) hbase
    exact ⟨v', w', h1, by simpa [i64s] using h2, h3⟩
theorem wpList_append_rdi {P : Program} {w : World} {ops : Array Oper} {rest : List Oper} {o : Oper} {a : Act} {Q : Exit → Act → World → Prop}
    (hg : o.guard = none) (s x : Operand) (t : TypeId) (hop : o.op = Op.call { callee := Callee.builtin Builtin.append, args := #[s, x], argTypes := #[t, t] })
    (e : TypeId) (ht : P.underlying t = some (.slice e)) (hinfo : (P.info? e).map (fun i => (i.zero, i.size, i.bytes)) = some (some (.int .i64 0), 1, 8))
    (base : Nat) (v : Value) (n : Nat) (l : List Int) (hs : a.eval s = v) (hown : w.ownsRow base e 1 v n (i64s l)) (sl : Value) (b : List Int) (hx : a.eval x = sl) (hrd : RdI w sl b)
    (hbytes : n + b.length ≤ 17592186044416) (hbase : base ≤ w.heap.size)
    (hK : ∀ v' w', w'.ownsRow base e 1 v' (n + b.length) (i64s (l ++ b)) → w.grownBy w' v.ownBlock → wpList P ops Q rest (a.put o.dst v') w') : wpList P ops Q (o :: rest) a w := by
  refine wpList_plain hg fun K hK' => ?_
  obtain ⟨v', w', hr, h2, h3⟩ := run_append_rdi (P := P) o.type ht hinfo hown hrd hbytes hbase
  unfold Oper.wp execOp
  simp only [hop, resolve, invoke, builtin, Sem.run_bind, Sem.run_pure, Result.andThen_ok, List.map_toArray, List.map_cons, List.map_nil, hs, hx, hr]
  exact hK' _ _ (hK v' w' h2 h3)

end Go.Proofs.YthbfjkdklnffjaaDoor

