/- Some parts of the proof, one behind the other. -/
import Derived.Test.YthbfjkdklnffjaaDoorMkG
import Derived.Laws.MakeOwn
/- The walks of dayshiftref05's None and Of: days as a row of Bools. -/
namespace Go.Proofs.YthbfjkdklnffjaaDoor
open Go.ChangeShapes Go.WideShapes Go.ChangeAt Go.RowKit Go.DsMem Go.DsMk
set_option linter.unusedVariables false

/-- the value v is the days f (which of 1 to 31) of the reference, its row in the block g -/
structure RAt (w : World) (v : Value) (g : Nat) (f : Nat → Bool) : Prop where
  val : v = .agg #[.slice (some ⟨g, 0, none⟩) 32 32]
  row : ∃ cs : Array Value, w.heap[g]? = some (.cells cs 4 (0, 0)) ∧ cs.size = 32 ∧ ∀ d, 1 ≤ d → d ≤ 31 → cs[d]? = some (.bool (f d))
theorem RAt.below {w w' : World} {v : Value} {g : Nat} {f : Nat → Bool} (h : RAt w v g f) (hb : Below w.heap.size w w') : RAt w' v g f := by
  obtain ⟨hv, cs, hr, hs, hc⟩ := h
  exact ⟨hv, cs, by rw [hb.block g (block_lt hr)]; exact hr, hs, hc⟩
theorem RAt.cell {w : World} {v : Value} {g : Nat} {f : Nat → Bool} (h : RAt w v g f) (d : Nat) (h1 : 1 ≤ d) (h2 : d ≤ 31) : w.cell? ⟨g, d, none⟩ = some (.bool (f d)) := by
  obtain ⟨hv, cs, hr, hs, hc⟩ := h
  rw [cell_of hr]; exact hc d h1 h2

/-- a call at w has made the days f, in memory of their own -/
def Made (w : World) (f : Nat → Bool) (e : Ending) (w' : World) : Prop := ∃ v g, e = .returned v ∧ w.heap.size ≤ g ∧ RAt w' v g f ∧ Below w.heap.size w w'
theorem Made.of {w w' : World} {f : Nat → Bool} {e : Ending} (h : ∃ v g, e = .returned v ∧ w.heap.size ≤ g ∧ RAt w' v g f ∧ Below w.heap.size w w') : Made w f e w' := h
theorem infoB : (Tryd.prog.info? 4).map (fun i => (i.zero, i.size, i.bytes)) = some (some (.bool false), 1, 1) := by kernel_rfl
theorem heap_keep {w : World} {o : Obj} {k : Nat} {x : Obj} (h : w.heap[k]? = some x) : (w.alloc o).heap[k]? = some x := by
  have hk := block_lt h
  rw [((Below.refl w.heap.size w).alloc (Nat.le_refl _) o).block k hk]; exact h
theorem heap_set_ne {w : World} {p q k : Nat} {x : Value} (h : p ≠ q) : (w.setCell ⟨p, k, none⟩ x).heap[q]? = w.heap[q]? := Below.heap_setCell _ _ _ _ (fun e => h e.symm)
theorem set_fill {cs : Array Value} {f : Nat → Bool} {k : Nat} (hs : cs.size = 32) (hk : k ≤ 31) (h : ∀ d, 1 ≤ d → d < k → cs[d]? = some (.bool (f d))) {b : Bool} (hb : b = f k) :
    ∀ d, 1 ≤ d → d < k + 1 → (cs.setIfInBounds k (.bool b))[d]? = some (.bool (f d)) := by
  intro d h1 h2
  rw [Array.getElem?_setIfInBounds]
  split
  · rename_i e; subst e; rw [if_pos (by omega), hb]
  · exact h d h1 (by omega)

theorem bit_and (x k : Nat) (hx : x < 4294967296) : bits .and .u32 ((x : Int) / 2 ^ k) 1 = if x.testBit k then 1 else 0 := by
  have e : (x : Int) / 2 ^ k = ((x / 2 ^ k : Nat) : Int) := by rw [pow_cast]; omega
  have hl : x / 2 ^ k < 4294967296 := Nat.lt_of_le_of_lt (Nat.div_le_self _ _) hx
  rw [e, show (1 : Int) = ((1 : Nat) : Int) by rfl, and32 _ 1 hl (by decide), Nat.and_one_is_mod, Nat.testBit_eq_decide_div_mod_eq]
  by_cases h : x / 2 ^ k % 2 = 1
  · simp [h]
  · simp [h]; omega

end Go.Proofs.YthbfjkdklnffjaaDoor

/- The walks of dayshiftref05's All, Week, Bits, Has. -/
namespace Go.Proofs.YthbfjkdklnffjaaDoor
open Go.ChangeShapes Go.WideShapes Go.ChangeAt Go.RowKit Go.DsMem Go.DsMk
set_option linter.unusedVariables false

theorem allN_day (n : Int) (d : Nat) (h1 : 1 ≤ d) (h2 : d ≤ 31) : (allN n).testBit (d - 1) = decide ((d : Int) ≤ n) := by
  rw [allN_bit, decide_eq_decide]; omega
theorem bit_and8 (x k : Nat) (hx : x < 256) : bits .and .u8 ((x : Int) / 2 ^ k) 1 = if x.testBit k then 1 else 0 := by
  have e : (x : Int) / 2 ^ k = ((x / 2 ^ k : Nat) : Int) := by rw [pow_cast]; omega
  have hl : x / 2 ^ k < 256 := Nat.lt_of_le_of_lt (Nat.div_le_self _ _) hx
  rw [e, show (1 : Int) = ((1 : Nat) : Int) by rfl, and8 _ 1 hl (by decide), Nat.and_one_is_mod, Nat.testBit_eq_decide_div_mod_eq]
  by_cases h : x / 2 ^ k % 2 = 1
  · simp [h]
  · simp [h]; omega
theorem set_fill2 {cs : Array Value} {f : Nat → Bool} {k : Nat} (hs : cs.size = 32) (hk : k ≤ 31) (h : ∀ d, 1 ≤ d → d ≤ 31 → cs[d]? = some (.bool (decide (d < k) && f d))) {b : Bool} (hb : b = f k) :
    ∀ d, 1 ≤ d → d ≤ 31 → (cs.setIfInBounds k (.bool b))[d]? = some (.bool (decide (d < k + 1) && f d)) := by
  intro d h1 h2
  rw [Array.getElem?_setIfInBounds]
  split
  · rename_i e; subst e; rw [if_pos (by omega), hb]; simp
  · rw [h d h1 h2, show decide (d < k) = decide (d < k + 1) by rw [decide_eq_decide]; omega]
theorem weekN_day (bits : Nat) (first n : Int) (d : Nat) (h1 : 1 ≤ d) (h2 : d ≤ 31) : (weekN bits first n).testBit (d - 1) = (decide ((d : Int) ≤ n) && bits.testBit ((first + d - 1) % 7).toNat) := by
  rw [weekN_bit, show first + ((d - 1 : Nat) : Int) = first + d - 1 by omega, show decide (((d - 1 : Nat) : Int) < n ∧ d - 1 < 31) = decide ((d : Int) ≤ n) by rw [decide_eq_decide]; omega]

end Go.Proofs.YthbfjkdklnffjaaDoor

/- The walks of dayshiftref05's Bits, Has, List, Count. -/
namespace Go.DsMk
theorem mod_step (x k : Nat) : x % 2 ^ (k + 1) = x % 2 ^ k ||| (if x.testBit k then 2 ^ k else 0) := by
  apply Nat.eq_of_testBit_eq
  intro i
  rw [Nat.testBit_or, Nat.testBit_mod_two_pow, Nat.testBit_mod_two_pow]
  by_cases hb : x.testBit k = true
  · rw [if_pos hb, Nat.testBit_two_pow]
    by_cases hi : k = i
    · subst hi; simp [hb]
    · rw [decide_eq_false hi, Bool.or_false, show decide (i < k + 1) = decide (i < k) by rw [decide_eq_decide]; omega]
  · rw [if_neg hb, Nat.zero_testBit, Bool.or_false]
    by_cases hi : k = i
    · subst hi; simp [Bool.not_eq_true] at hb; simp [hb]
    · rw [show decide (i < k + 1) = decide (i < k) by rw [decide_eq_decide]; omega]
/-- the days below k -/
def dlUp (x k : Nat) : List Nat := (dl x).filter fun z => decide (z < k)
theorem dlUp_step (x k : Nat) (h1 : 1 ≤ k) (h2 : k ≤ 31) : dlUp x (k + 1) = dlUp x k ++ if x.testBit (k - 1) then [k] else [] := by
  unfold dlUp
  apply sorted_ext _ _ ((dl_sorted x).filter _)
  · rw [List.pairwise_append]
    refine ⟨(dl_sorted x).filter _, by split <;> simp, fun a ha b hb => ?_⟩
    rw [List.mem_filter, decide_eq_true_eq] at ha
    split at hb
    · simp at hb; omega
    · simp at hb
  · intro d
    rw [List.mem_append, List.mem_filter, List.mem_filter, decide_eq_true_eq, decide_eq_true_eq]
    constructor
    · rintro ⟨hm, hd⟩
      by_cases hk : d = k
      · subst hk; right; rw [if_pos ((dl_mem x d).1 hm).2.2]; simp
      · left; exact ⟨hm, by omega⟩
    · rintro (⟨hm, hd⟩ | hm)
      · exact ⟨hm, by omega⟩
      · split at hm
        · rename_i hb; simp at hm; subst hm; exact ⟨(dl_mem x d).2 ⟨h1, h2, hb⟩, by omega⟩
        · simp at hm
theorem dlUp_one (x : Nat) : dlUp x 1 = [] := by
  unfold dlUp
  rw [List.filter_eq_nil_iff]
  intro z hz
  have := dl_pos x z hz
  simp; omega
theorem dlUp_end (x : Nat) : dlUp x 32 = dl x := by
  unfold dlUp
  rw [List.filter_eq_self]
  intro z hz
  have := dl_pos x z hz
  simp; omega
theorem dlUp_le (x k : Nat) : (dlUp x k).length ≤ 31 := Nat.le_trans (List.length_filter_le _ _) (dl_le x)
end Go.DsMk
namespace Go.Proofs.YthbfjkdklnffjaaDoor
open Go.ChangeShapes Go.WideShapes Go.ChangeAt Go.RowKit Go.DsMem Go.DsMk
set_option linter.unusedVariables false

/-- the reference's value of the days x -/
def RMonth (w : World) (v : Value) (x : Nat) : Prop := ∃ g, RAt w v g (fun d => x.testBit (d - 1))
theorem RMonth.below {w w' : World} {v : Value} {x : Nat} (h : RMonth w v x) (hb : Below w.heap.size w w') : RMonth w' v x := let ⟨g, hg⟩ := h; ⟨g, hg.below hb⟩

end Go.Proofs.YthbfjkdklnffjaaDoor

