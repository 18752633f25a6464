/- Some parts of the proof, one behind the other. -/
import Derived.Test.YthbfjkdklnffjaaDoorJ1
import Derived.Test.YthbfjkdklnffjaaDoorMkJ
import Derived.Deep.RegionHeld3
import Derived.Deep.RegionLaw
/- The walks of dayshiftref05's Nth, Next, Prev. -/
namespace Go.DsMk
theorem nextL_at (l : List Nat) (d : Int) (i : Nat) (hi : i < l.length) (hb : ∀ j (hj : j < l.length), j < i → ¬ d < (l[j] : Int)) (hd : d < (l[i] : Int)) : nextL l d = fw l i := by
  unfold nextL
  have e : l = l.take i ++ l[i] :: l.drop (i + 1) := by rw [List.getElem_cons_drop]; exact (List.take_append_drop i l).symm
  have e1 : (l.take i).filter (fun z : Nat => decide (d < (z : Int))) = [] := by
    rw [List.filter_eq_nil_iff]
    intro z hz
    obtain ⟨j, hj, rfl⟩ := List.getElem_of_mem hz
    rw [List.length_take] at hj
    rw [List.getElem_take]
    have := hb j (by omega) (by omega)
    simpa using this
  have e2 : l.filter (fun z : Nat => decide (d < (z : Int))) = l[i] :: (l.drop (i + 1)).filter (fun z : Nat => decide (d < (z : Int))) := by
    conv => lhs; rw [e]
    rw [List.filter_append, e1, List.nil_append, List.filter_cons_of_pos (by simpa using hd)]
  rw [e2, fw_lt l i hi]; rfl
theorem nextL_none (l : List Nat) (d : Int) (hb : ∀ j (hj : j < l.length), ¬ d < (l[j] : Int)) : nextL l d = 0 := by
  unfold nextL
  rw [List.filter_eq_nil_iff.2]; rfl
  intro z hz
  obtain ⟨j, hj, rfl⟩ := List.getElem_of_mem hz
  simpa using hb j hj
theorem prevL_at (l : List Nat) (d : Int) (i : Nat) (hi : i < l.length) (hb : ∀ j (hj : j < l.length), i < j → ¬ (l[j] : Int) < d) (hd : (l[i] : Int) < d) : prevL l d = fw l i := by
  unfold prevL
  have e : l = (l.take i ++ [l[i]]) ++ l.drop (i + 1) := by rw [← List.take_succ_eq_append_getElem hi, List.take_append_drop]
  have e1 : (l.drop (i + 1)).filter (fun z : Nat => decide ((z : Int) < d)) = [] := by
    rw [List.filter_eq_nil_iff]
    intro z hz
    obtain ⟨j, hj, rfl⟩ := List.getElem_of_mem hz
    rw [List.length_drop] at hj
    rw [List.getElem_drop]
    have := hb (i + 1 + j) (by omega) (by omega)
    simpa using this
  have e2 : l.filter (fun z : Nat => decide ((z : Int) < d)) = (l.take i).filter (fun z : Nat => decide ((z : Int) < d)) ++ [l[i]] := by
    conv => lhs; rw [e]
    rw [List.filter_append, List.filter_append, e1, List.append_nil, List.filter_cons_of_pos (by simpa using hd)]; rfl
  rw [e2, List.getLast?_append, fw_lt l i hi]; rfl
theorem prevL_none (l : List Nat) (d : Int) (hb : ∀ j (hj : j < l.length), ¬ (l[j] : Int) < d) : prevL l d = 0 := by
  unfold prevL
  rw [List.filter_eq_nil_iff.2]; rfl
  intro z hz
  obtain ⟨j, hj, rfl⟩ := List.getElem_of_mem hz
  simpa using hb j hj
theorem nth_back (l : List Nat) (i : Nat) (h : i < l.length) : nthL l ((i : Int) - l.length) = fw l i := by
  rw [nthL_down _ _ (by omega) (by omega)]; unfold fw; congr 2; omega
end Go.DsMk
namespace Go.Proofs.YthbfjkdklnffjaaDoor
open Go.ChangeShapes Go.WideShapes Go.ChangeAt Go.RowKit Go.DsMem Go.DsMk
set_option linter.unusedVariables false

/-- a list of the days, out of a call: where its cells lie -/
theorem list_open {w : World} {B n : Nat} {ao : Option Addr} {cap : Nat} {l : List Nat} (h : w.ownsRow B 2 1 (.slice ao n cap) n (i64s (ints l))) : n = l.length ∧ ∀ j, j < l.length → ∃ a, ao = some a ∧ w.cell? (a.add j) = some (.int .i64 (fw l j)) := by
  have hn : n = l.length := by have := h.1; simp [i64s, ints] at this; omega
  refine ⟨hn, fun j hj => ?_⟩
  obtain ⟨ao', cap', hv, hlc, hnil, hrd⟩ := RdI.own h
  simp only [Value.slice.injEq] at hv
  obtain ⟨rfl, -, rfl⟩ := hv
  cases ao with
  | none => have := hnil rfl; rw [ints_len] at this; omega
  | some a => exact ⟨a, rfl, hrd a rfl j _ (ints_at l j hj)⟩

end Go.Proofs.YthbfjkdklnffjaaDoor

/- The walks of dayshiftref05's Not and of dayshiftlaw05's days and same. -/
namespace Go.Proofs.YthbfjkdklnffjaaDoor
open Go.ChangeShapes Go.WideShapes Go.ChangeAt Go.RowKit Go.DsMem Go.DsMk
set_option linter.unusedVariables false

theorem set_fill3 {cs : Array Value} {f h : Nat → Bool} {k : Nat} (hs : cs.size = 32) (hk : k ≤ 31) (hc : ∀ d, 1 ≤ d → d ≤ 31 → cs[d]? = some (.bool (if d < k then f d else h d))) {b : Bool} (hb : b = f k) :
    ∀ d, 1 ≤ d → d ≤ 31 → (cs.setIfInBounds k (.bool b))[d]? = some (.bool (if d < k + 1 then f d else h d)) := by
  intro d h1 h2
  rw [Array.getElem?_setIfInBounds]
  split
  · rename_i e; subst e; rw [if_pos (by omega), hb, if_pos (by omega)]
  · rw [hc d h1 h2]
    by_cases hd : d < k
    · rw [if_pos hd, if_pos (by omega)]
    · rw [if_neg hd, if_neg (by omega)]

theorem cell_set_ne {w : World} {p q i j : Nat} {x : Value} (h : ¬ q = p) : (w.setCell ⟨p, i, none⟩ x).cell? ⟨q, j, none⟩ = w.cell? ⟨q, j, none⟩ := by
  exact World.cell?_of_block (heap_set_ne (fun e => h e.symm))
theorem cell_set_drew {w : World} {p q i j : Nat} {x : Value} (h : ¬ q = p) : (w.setCell ⟨p, i, none⟩ x).drew.cell? ⟨q, j, none⟩ = w.cell? ⟨q, j, none⟩ := cell_set_ne h
theorem Made.up {w wA w' : World} {f : Nat → Bool} {e : Ending} (hb : Below w.heap.size w wA) (h : Made wA f e w') : Made w f e w' := by
  obtain ⟨v, g, he, hg, hr, hB⟩ := h
  exact ⟨v, g, he, Nat.le_trans hb.size hg, hr, hb.trans (hB.mono hb.size)⟩
end Go.Proofs.YthbfjkdklnffjaaDoor

/- The walk of MaskNots. -/
namespace Go.DsMk
theorem bit_high (x i : Nat) (hx : x < 2147483648) (hi : 31 ≤ i) : x.testBit i = false := Nat.testBit_lt_two_pow (Nat.lt_of_lt_of_le hx (by have := Nat.pow_le_pow_right (n := 2) (by decide) hi; omega))
theorem not_not (x : Nat) (n : Int) (hx : x < 4294967296) : difN (allN n) (difN (allN n) x) = x % 2147483648 &&& allN n % 2147483648 := by
  have hall := allN_lt n
  have h1 := difN_lt31 (allN n) x hall
  apply Nat.eq_of_testBit_eq
  intro i
  rw [difN_bit _ _ (by omega) (by omega), difN_bit _ _ (by omega) hx, Nat.testBit_and, show (2147483648 : Nat) = 2 ^ 31 by decide, Nat.testBit_mod_two_pow, Nat.testBit_mod_two_pow]
  by_cases hi : i < 31
  · rw [decide_eq_true hi]; cases (allN n).testBit i <;> cases x.testBit i <;> rfl
  · rw [bit_high _ i hall (by omega)]; simp
theorem not_cnt (x : Nat) (n : Int) (hx : x < 4294967296) : (dl (difN (allN n) x)).length + (dl (difN (allN n) (difN (allN n) x))).length = (dl (allN n)).length := by
  have hall := allN_lt n
  have h1 := difN_lt31 (allN n) x hall
  have h := cnt_four (difN (allN n) x) (difN (allN n) (difN (allN n) x)) (allN n) 0 (fun i _ => by
    rw [difN_bit (allN n) (difN (allN n) x) (by omega) (by omega), difN_bit (allN n) x (by omega) hx, Nat.zero_testBit]
    cases (allN n).testBit i <;> cases x.testBit i <;> rfl)
  have h0 : (dl 0).length = 0 := by decide
  omega
end Go.DsMk
namespace Go.Proofs.YthbfjkdklnffjaaDoor
open Go.ChangeShapes Go.WideShapes Go.ChangeAt Go.RowKit Go.DsMem Go.DsMk
set_option linter.unusedVariables false

theorem RMonth.struct {w : World} {v : Value} {x : Nat} (h : RMonth w v x) : ∃ g, v = .agg #[.slice (some ⟨g, 0, none⟩) 32 32] := let ⟨g, hg⟩ := h; ⟨g, hg.val⟩

end Go.Proofs.YthbfjkdklnffjaaDoor

/- The walks of dayshiftref05.Days and of dayshiftlaw05.same. -/
namespace Go.DsMk
/-- whether the number x asks for the day d, of n days -/
def hitB (n x : Int) (d : Nat) : Bool := decide (x = (d : Int)) || decide (x < 0 ∧ x = (d : Int) - 1 - n)
/-- the days that numbers ask for -/
def hitsB (n : Int) (l : List Int) (d : Nat) : Bool := decide ((d : Int) ≤ n) && l.any fun x => hitB n x d
theorem hitsB_snoc (n : Int) (l : List Int) (x : Int) (d : Nat) : hitsB n (l ++ [x]) d = (hitsB n l d || (decide ((d : Int) ≤ n) && hitB n x d)) := by
  unfold hitsB; rw [List.any_append]; simp only [List.any_cons, List.any_nil, Bool.or_false]
  cases decide ((d : Int) ≤ n) <;> simp
theorem daysN_day (n : Int) (l : List Int) (d : Nat) (h1 : 1 ≤ d) (h2 : d ≤ 31) (hn : -9223372036854775808 ≤ n ∧ n ≤ 9223372036854775807) (hl : ∀ k ∈ l, -9223372036854775808 ≤ k ∧ k ≤ 9223372036854775807) :
    (daysN n l).testBit (d - 1) = hitsB n l d := by
  rw [daysN_bit n l _ hn hl]
  unfold hitsB hitB
  rw [Bool.eq_iff_iff, Bool.and_eq_true, decide_eq_true_eq, decide_eq_true_eq, List.any_eq_true]
  constructor
  · rintro ⟨a, b, k, hk, hc⟩
    refine ⟨by omega, k, hk, ?_⟩
    rw [Bool.or_eq_true, decide_eq_true_eq, decide_eq_true_eq]
    rcases hc with hc | hc
    · left; omega
    · right; omega
  · rintro ⟨a, k, hk, hc⟩
    rw [Bool.or_eq_true, decide_eq_true_eq, decide_eq_true_eq] at hc
    refine ⟨by omega, by omega, k, hk, ?_⟩
    rcases hc with hc | hc
    · left; omega
    · right; omega
end Go.DsMk
namespace Go.Proofs.YthbfjkdklnffjaaDoor
open Go.ChangeShapes Go.WideShapes Go.ChangeAt Go.RowKit Go.DsMem Go.DsMk
set_option linter.unusedVariables false

theorem set_hit {cs : Array Value} {p h : Nat → Bool} {k : Nat} (hs : cs.size = 32) (hk : k ≤ 31) (hc : ∀ d, 1 ≤ d → d ≤ 31 → cs[d]? = some (.bool (p d || (decide (d < k) && h d)))) (hh : h k = true) :
    ∀ d, 1 ≤ d → d ≤ 31 → (cs.setIfInBounds k (.bool true))[d]? = some (.bool (p d || (decide (d < k + 1) && h d))) := by
  intro d h1 h2
  rw [Array.getElem?_setIfInBounds]
  split
  · rename_i e; subst e; rw [if_pos (by omega), hh]; simp
  · rw [hc d h1 h2, show decide (d < k) = decide (d < k + 1) by rw [decide_eq_decide]; omega]
theorem keep_hit {cs : Array Value} {p h : Nat → Bool} {k : Nat} (hc : ∀ d, 1 ≤ d → d ≤ 31 → cs[d]? = some (.bool (p d || (decide (d < k) && h d)))) (hh : h k = false) :
    ∀ d, 1 ≤ d → d ≤ 31 → cs[d]? = some (.bool (p d || (decide (d < k + 1) && h d))) := by
  intro d h1 h2
  rw [hc d h1 h2]
  by_cases e : d = k
  · subst e; rw [hh]; simp
  · rw [show decide (d < k) = decide (d < k + 1) by rw [decide_eq_decide]; omega]

end Go.Proofs.YthbfjkdklnffjaaDoor

/- The walk of MaskMakes. -/
namespace Go.Proofs.YthbfjkdklnffjaaDoor
open Go.ChangeShapes Go.WideShapes Go.ChangeAt Go.RowKit Go.DsMem Go.DsMk
set_option linter.unusedVariables false

theorem rdi_in {W w : World} {sl : Value} {ns : List Int} (h : RdI W sl ns) (hb : Below W.heap.size W w) : RdI w sl ns := h.mono fun _ _ hc => Below.keeps hb (Nat.le_refl _) hc
/-- numbers behind a row of numbers, from a slice that reads as them -/
theorem run_append_rdi {P : Program} {w : World} {base : Nat} {t e : TypeId} (ty : TypeId) (ht : P.underlying t = some (.slice e)) (hinfo : (P.info? e).map (fun i => (i.zero, i.size, i.bytes)) = some (some (.int .i64 0), 1, 8))
    {v : Value} {n : Nat} {l : List Int} (hown : w.ownsRow base e 1 v n (i64s l)) {sl : Value} {b : List Int} (hrd : RdI w sl b) (hbytes : n + b.length ≤ 17592186044416) (hbase : base ≤ w.heap.size) :
    ∃ v' w', (Builtin.append_ #[t, t] ty #[v, sl]).run P w = .ok v' w' ∧ w'.ownsRow base e 1 v' (n + b.length) (i64s (l ++ b)) ∧ w.grownBy w' v.ownBlock := by
  obtain ⟨i0, hi, hz0, hz1, hz2⟩ := info_parts hinfo
  obtain ⟨ao, cap, rfl, hlc, hnil, hr⟩ := hrd
  cases ao with
  | none =>
    obtain ⟨h0, rfl⟩ := hnil rfl
    obtain rfl : b = [] := List.eq_nil_of_length_eq_zero h0
    exact ⟨v, w, run_append_owned_none (P := P) w base t ty e i0 1 ht hi v n _ hown, by simpa using hown, World.grownBy.refl _ _⟩
  | some a =>
    obtain ⟨v', w', h1, h2, h3, _⟩ := run_append_own (P := P) w base t ty e i0 _ 1 8 ht hi hz0 hz1 hz2 rfl (by decide) v n _ hown a b.length cap (i64s b) (by simp [i64s])
      (fun j u hj => by simp only [i64s, List.getElem?_map] at hj; obtain ⟨x, hx, rfl⟩ := Option.map_eq_some_iff.1 hj; exact hr a rfl j x hx) (by intro u hu; simp [i64s] at hu; obtain ⟨x, _, rfl⟩ := hu; rfl) (by unfold maxLen; omega) (by omega) hbase
    exact ⟨v', w', h1, by simpa [i64s] using h2, h3⟩
theorem wpList_append_rdi {P : Program} {w : World} {ops : Array Oper} {rest : List Oper} {o : Oper} {a : Act} {Q : Exit → Act → World → Prop}
    (hg : o.guard = none) (s x : Operand) (t : TypeId) (hop : o.op = Op.call { callee := Callee.builtin Builtin.append, args := #[s, x], argTypes := #[t, t] })
    (e : TypeId) (ht : P.underlying t = some (.slice e)) (hinfo : (P.info? e).map (fun i => (i.zero, i.size, i.bytes)) = some (some (.int .i64 0), 1, 8))
    (base : Nat) (v : Value) (n : Nat) (l : List Int) (hs : a.eval s = v) (hown : w.ownsRow base e 1 v n (i64s l)) (sl : Value) (b : List Int) (hx : a.eval x = sl) (hrd : RdI w sl b)
    (hbytes : n + b.length ≤ 17592186044416) (hbase : base ≤ w.heap.size)
    (hK : ∀ v' w', w'.ownsRow base e 1 v' (n + b.length) (i64s (l ++ b)) → w.grownBy w' v.ownBlock → wpList P ops Q rest (a.put o.dst v') w') : wpList P ops Q (o :: rest) a w := by
  refine wpList_plain hg fun K hK' => ?_
  obtain ⟨v', w', hr, h2, h3⟩ := run_append_rdi (P := P) o.type ht hinfo hown hrd hbytes hbase
  unfold Oper.wp execOp
  simp only [hop, resolve, invoke, builtin, Sem.run_bind, Sem.run_pure, Result.andThen_ok, List.map_toArray, List.map_cons, List.map_nil, hs, hx, hr]
  exact hK' _ _ (hK v' w' h2 h3)

end Go.Proofs.YthbfjkdklnffjaaDoor

