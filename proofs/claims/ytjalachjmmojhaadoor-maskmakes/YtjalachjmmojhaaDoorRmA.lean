/- The walks of dayshiftref05's None and Of: days as a row of Bools. -/
import Derived.Test.YtjalachjmmojhaaDoorMkG
import Derived.Laws.MakeOwn
namespace Go.Proofs.YtjalachjmmojhaaDoor
open Go.ChangeShapes Go.WideShapes Go.ChangeAt Go.RowKit Go.DsMem Go.DsMk
set_option linter.unusedVariables false

/-- the value v is the days f (which of 1 to 31) of the reference, its row in the block g -/
structure RAt (w : World) (v : Value) (g : Nat) (f : Nat → Bool) : Prop where
  val : v = .agg #[.slice (some ⟨g, 0, none⟩) 32 32]
  row : ∃ cs : Array Value, w.heap[g]? = some (.cells cs 4 (0, 0)) ∧ cs.size = 32 ∧ ∀ d, 1 ≤ d → d ≤ 31 → cs[d]? = some (.bool (f d))
theorem RAt.below {w w' : World} {v : Value} {g : Nat} {f : Nat → Bool} (h : RAt w v g f) (hb : Below w.heap.size w w') : RAt w' v g f := by
  obtain ⟨hv, cs, hr, hs, hc⟩ := h
  exact ⟨hv, cs, by rw [hb.block g (block_lt hr)]; exact hr, hs, hc⟩
theorem RAt.cell {w : World} {v : Value} {g : Nat} {f : Nat → Bool} (h : RAt w v g f) (d : Nat) (h1 : 1 ≤ d) (h2 : d ≤ 31) : w.cell? ⟨g, d, none⟩ = some (.bool (f d)) := by
  obtain ⟨hv, cs, hr, hs, hc⟩ := h
  rw [cell_of hr]; exact hc d h1 h2

/-- a call at w has made the days f, in memory of their own -/
def Made (w : World) (f : Nat → Bool) (e : Ending) (w' : World) : Prop := ∃ v g, e = .returned v ∧ w.heap.size ≤ g ∧ RAt w' v g f ∧ Below w.heap.size w w'
theorem Made.of {w w' : World} {f : Nat → Bool} {e : Ending} (h : ∃ v g, e = .returned v ∧ w.heap.size ≤ g ∧ RAt w' v g f ∧ Below w.heap.size w w') : Made w f e w' := h
theorem infoB : (Tryd.prog.info? 4).map (fun i => (i.zero, i.size, i.bytes)) = some (some (.bool false), 1, 1) := by kernel_rfl
theorem make32 : ∃ R : Array Value, (R.size = 32 ∧ ∀ d, d < 32 → R[d]? = some (.bool false)) ∧ ∀ w : World, (Instr.makeSlice 30 (.int .i64 32) (.int .i64 32)).run Tryd.prog w = .ok (.slice (some ⟨w.heap.size, 0, none⟩) 32 32) (w.alloc (.cells R 4)) := by
  obtain ⟨i0, hi, hz0, hz1, hz2⟩ := info_parts infoB
  refine ⟨madeCells (Value.bool false).cells (32 * 1), ⟨by rw [size_madeCells], ?_⟩, fun w => ?_⟩
  · intro d hd
    have e : (Value.bool false).cells = #[Value.bool false] := rfl
    rw [e]
    simp [madeCells, hd, Nat.mod_one]
  · have := run_make (P := Tryd.prog) w 30 4 i0 (.bool false) Tryd.underlying30 hi hz0 .i64 .i64 32 32 (by decide) (by decide) (by rw [hz2]; decide) (by decide)
    rw [hz1] at this
    exact this

set_option maxHeartbeats 1000000 in
/-- dayshiftref05.None -/
theorem rnone_any (w : World) :
    Calls Tryd.prog 46 #[] w (Made w (fun _ => false)) := by
  obtain ⟨R, ⟨hR1, hR2⟩, hmk⟩ := make32
  have HR1 := hide hR1
  have HR2 := hide hR2
  clear hR1 hR2
  go_enter Tryd.func46, Tryd.ntmps46
  go_wp2
  refine bodyPost_ret (v := .agg #[.slice (some ⟨w.heap.size + 1, 0, none⟩) 32 32]) (by simp [results, Tryd.results46, go_sem]) rfl (Made.of ⟨_, _, rfl, by omega, ⟨rfl, R, ?_, HR1.out, fun d _ h => HR2.out d (by omega)⟩, ((Below.refl _ _).alloc (Nat.le_refl _) _).alloc (by simp) _⟩)
  simpa using heap_alloc_new (w.alloc (.cells #[.slice (some ⟨w.heap.size + 1, 0, none⟩) 32 32] 32)) (.cells R 4)

/-- what a function of the reference that makes days holds in its loop: its answer's cell in p2, its variable in p3, the row in g -/
structure RMk (W wr : World) (p2 p3 g : Nat) (cs : Array Value) : Prop where
  lo : W.heap.size ≤ p2 ∧ W.heap.size ≤ p3 ∧ W.heap.size ≤ g ∧ p2 ≠ p3 ∧ p3 ≠ g ∧ p2 ≠ g
  res : wr.heap[p2]? = some (.cells #[.slice none 0 0] 32 (0, 0))
  var : wr.heap[p3]? = some (.cells #[.slice (some ⟨g, 0, none⟩) 32 32] 32 (0, 0))
  row : wr.heap[g]? = some (.cells cs 4 (0, 0))
  size : cs.size = 32
  below : Below W.heap.size W wr

theorem heap_keep {w : World} {o : Obj} {k : Nat} {x : Obj} (h : w.heap[k]? = some x) : (w.alloc o).heap[k]? = some x := by
  have hk := block_lt h
  rw [((Below.refl w.heap.size w).alloc (Nat.le_refl _) o).block k hk]; exact h
theorem RMk.start {w w1 : World} {g : Nat} {cs : Array Value} (hg : (w.alloc (.cells #[.slice none 0 0] 32)).heap.size ≤ g)
    (hrow : w1.heap[g]? = some (.cells cs 4 (0, 0))) (hsz : cs.size = 32) (hb : Below (w.alloc (.cells #[.slice none 0 0] 32)).heap.size (w.alloc (.cells #[.slice none 0 0] 32)) w1) :
    RMk w (w1.alloc (.cells #[.slice (some ⟨g, 0, none⟩) 32 32] 32)) w.heap.size w1.heap.size g cs := by
  have hz := hb.size
  have hl := block_lt hrow
  simp at hg hz
  refine ⟨⟨by omega, by omega, by omega, by omega, by omega, by omega⟩, ?_, ?_, heap_keep hrow, hsz, ?_⟩
  · refine heap_keep ?_
    rw [hb.block w.heap.size (by simp)]
    exact heap_alloc_new w _
  · exact heap_alloc_new w1 _
  · exact (((Below.refl _ _).alloc (Nat.le_refl _) _).trans (hb.mono (by simp))).alloc (by omega) _
theorem heap_set_ne {w : World} {p q k : Nat} {x : Value} (h : p ≠ q) : (w.setCell ⟨p, k, none⟩ x).heap[q]? = w.heap[q]? := Below.heap_setCell _ _ _ _ (fun e => h e.symm)
theorem RMk.set {W wr : World} {p2 p3 g : Nat} {cs : Array Value} (h : RMk W wr p2 p3 g cs) (d : Nat) (x : Value) : RMk W (wr.setCell ⟨g, d, none⟩ x) p2 p3 g (cs.setIfInBounds d x) := by
  obtain ⟨⟨l1, l2, l3, l4, l5, l6⟩, hres, hvar, hrow, hsz, hb⟩ := h
  exact ⟨⟨l1, l2, l3, l4, l5, l6⟩, by rw [heap_set_ne (fun e => l6 e.symm)]; exact hres, by rw [heap_set_ne (fun e => l5 e.symm)]; exact hvar, hset_same hrow _, by simpa using hsz, hb.setCell l3 _⟩
theorem RMk.grew {W wr w' : World} {p2 p3 g : Nat} {cs : Array Value} (h : RMk W wr p2 p3 g cs) (hb : Below wr.heap.size wr w') : RMk W w' p2 p3 g cs := by
  obtain ⟨hl, hres, hvar, hrow, hsz, hB⟩ := h
  exact ⟨hl, by rw [hb.block _ (block_lt hres)]; exact hres, by rw [hb.block _ (block_lt hvar)]; exact hvar, by rw [hb.block _ (block_lt hrow)]; exact hrow, hsz, hB.trans (hb.mono hB.size)⟩
theorem RMk.c3 {W wr : World} {p2 p3 g : Nat} {cs : Array Value} (h : RMk W wr p2 p3 g cs) : wr.cell? ⟨p3, 0, none⟩ = some (.slice (some ⟨g, 0, none⟩) 32 32) := by rw [cell_of h.var]; rfl
theorem RMk.c2 {W wr : World} {p2 p3 g : Nat} {cs : Array Value} (h : RMk W wr p2 p3 g cs) : wr.cell? ⟨p2, 0, none⟩ = some (.slice none 0 0) ∧ wr.frozen? ⟨p2, 0, none⟩ = false := ⟨by rw [cell_of h.res]; rfl, frozen_of h.res⟩
theorem RMk.cg {W wr : World} {p2 p3 g : Nat} {cs : Array Value} (h : RMk W wr p2 p3 g cs) (d : Nat) (hd : d < 32) : ∃ b, wr.cell? ⟨g, d, none⟩ = some b ∧ wr.frozen? ⟨g, d, none⟩ = false :=
  ⟨_, by rw [cell_of h.row]; exact Array.getElem?_eq_getElem (by rw [h.size]; exact hd), frozen_of h.row⟩
theorem RMk.done {W wr : World} {p2 p3 g : Nat} {cs : Array Value} {f : Nat → Bool} (h : RMk W wr p2 p3 g cs) (hf : ∀ d, 1 ≤ d → d ≤ 31 → cs[d]? = some (.bool (f d))) :
    W.heap.size ≤ g ∧ RAt (wr.setCell ⟨p2, 0, none⟩ (.slice (some ⟨g, 0, none⟩) 32 32)) (.agg #[.slice (some ⟨g, 0, none⟩) 32 32]) g f ∧ Below W.heap.size W (wr.setCell ⟨p2, 0, none⟩ (.slice (some ⟨g, 0, none⟩) 32 32)) := by
  obtain ⟨⟨l1, l2, l3, l4, l5, l6⟩, hres, hvar, hrow, hsz, hb⟩ := h
  exact ⟨l3, ⟨rfl, cs, by rw [heap_set_ne l6]; exact hrow, hsz, hf⟩, hb.setCell l1 _⟩
theorem RMk.made {W wr : World} {p2 p3 g : Nat} {cs : Array Value} {f : Nat → Bool} (h : RMk W wr p2 p3 g cs) (hf : ∀ d, 1 ≤ d → d ≤ 31 → cs[d]? = some (.bool (f d))) :
    Made W f (.returned (.agg #[.slice (some ⟨g, 0, none⟩) 32 32])) (wr.setCell ⟨p2, 0, none⟩ (.slice (some ⟨g, 0, none⟩) 32 32)) := ⟨_, g, rfl, h.done hf⟩
theorem set_fill {cs : Array Value} {f : Nat → Bool} {k : Nat} (hs : cs.size = 32) (hk : k ≤ 31) (h : ∀ d, 1 ≤ d → d < k → cs[d]? = some (.bool (f d))) {b : Bool} (hb : b = f k) :
    ∀ d, 1 ≤ d → d < k + 1 → (cs.setIfInBounds k (.bool b))[d]? = some (.bool (f d)) := by
  intro d h1 h2
  rw [Array.getElem?_setIfInBounds]
  split
  · rename_i e; subst e; rw [if_pos (by omega), hb]
  · exact h d h1 (by omega)

theorem bit_and (x k : Nat) (hx : x < 4294967296) : bits .and .u32 ((x : Int) / 2 ^ k) 1 = if x.testBit k then 1 else 0 := by
  have e : (x : Int) / 2 ^ k = ((x / 2 ^ k : Nat) : Int) := by rw [pow_cast]; omega
  have hl : x / 2 ^ k < 4294967296 := Nat.lt_of_le_of_lt (Nat.div_le_self _ _) hx
  rw [e, show (1 : Int) = ((1 : Nat) : Int) by rfl, and32 _ 1 hl (by decide), Nat.and_one_is_mod, Nat.testBit_eq_decide_div_mod_eq]
  by_cases h : x / 2 ^ k % 2 = 1
  · simp [h]
  · simp [h]; omega

set_option maxHeartbeats 1000000 in
/-- dayshiftref05.Of -/
theorem rof_any (x : Nat) (w : World) (hx : x < 4294967296) :
    Calls Tryd.prog 23 #[.int .u32 x] w (Made w (fun d => x.testBit (d - 1))) := by
  go_enter Tryd.func23, Tryd.ntmps23
  go_wp2_with fail
  refine (rnone_any _).mono ?_; rintro e w1 ⟨v, g, rfl, hg, hr, hb⟩
  obtain ⟨rfl, cs0, hrow, hsz, -⟩ := hr
  have H0 := hide (RMk.start hg hrow hsz hb)
  clear hg hrow hsz hb
  go_wp2
  generalize w1.heap.size = p3 at *
  go_loopw [4] (fun i wr => ∃ k : Nat, 1 ≤ k ∧ k ≤ 32 ∧ i = .int .i64 k ∧ ∃ cs, RMk w wr w.heap.size p3 g cs ∧ ∀ d, 1 ≤ d → d < k → cs[d]? = some (.bool (x.testBit (d - 1)))) (fun i _ => 32 - (intOf i).toNat)
  case atStart => exact ⟨1, by omega, by omega, rfl, cs0, H0.out, fun d h1 h2 => by omega⟩
  case round =>
    obtain ⟨k, hk1, hk2, rfl, cs, hm, hcs⟩ := hrel
    have HM := hide hm
    have HC := hide hcs
    have c3 := hm.c3
    clear hcs
    by_cases hlt : k ≤ 31
    · obtain ⟨b0, cg, fz⟩ := hm.cg k (by omega)
      have eb := bit_and x (k - 1) hx
      obtain ⟨t, htb⟩ : ∃ t, x.testBit (k - 1) = t := ⟨_, rfl⟩
      rw [htb] at eb
      have HT := hide htb
      clear hm htb
      cases t
      all_goals
        simp only [if_true, if_false, Bool.false_eq_true] at eb
        go_wp2
        go_roundw
        case rel => exact ⟨k + 1, by omega, by omega, by go_num, _, HM.out.set k _, set_fill HM.out.size hlt HC.out HT.out.symm⟩
        case measure => simp [intOf]; omega
    · obtain ⟨c2, f2⟩ := hm.c2
      clear hm
      go_wp2
      refine bodyPost_ret (v := .agg #[.slice (some ⟨g, 0, none⟩) 32 32]) (by simp [results, Tryd.results23, go_sem, c2]) rfl (HM.out.made fun d h1 h2 => HC.out d h1 (by omega))
end Go.Proofs.YtjalachjmmojhaaDoor
