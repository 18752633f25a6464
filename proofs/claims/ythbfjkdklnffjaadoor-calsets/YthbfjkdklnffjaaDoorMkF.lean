/- The walks of mask.Days and mask.Month.List. -/
import Derived.Test.YthbfjkdklnffjaaDoorMkE
namespace Go.DsMk
/-- the day of a number, in n days -/
def dayOf (n k : Int) : Int := if k < 0 then IntKind.i64.wrap (IntKind.i64.wrap (n + k) + 1) else k
/-- the days of numbers, all -/
def daysR (n : Int) (l : List Int) : Nat := l.foldl (fun m k => m ||| oneN (dayOf n k)) 0
theorem daysR_snoc (n : Int) (l : List Int) (k : Int) : daysR n (l ++ [k]) = daysR n l ||| oneN (dayOf n k) := by
  unfold daysR; rw [List.foldl_append]; rfl
theorem foldl_or_lt (n : Int) (l : List Int) : ∀ a, a < 2147483648 → l.foldl (fun m k => m ||| oneN (dayOf n k)) a < 2147483648 := by
  induction l with
  | nil => intro a h; exact h
  | cons k l ih => intro a h; exact ih _ (Nat.or_lt_two_pow (n := 31) h (oneN_lt _))
theorem daysR_lt (n : Int) (l : List Int) : daysR n l < 2147483648 := foldl_or_lt n l 0 (by decide)
theorem foldl_or_bit (n : Int) (i : Nat) (l : List Int) : ∀ a : Nat, (l.foldl (fun m k => m ||| oneN (dayOf n k)) a).testBit i = (a.testBit i || l.any fun k => decide (dayOf n k = (i : Int) + 1 ∧ i < 31)) := by
  induction l with
  | nil => intro a; simp
  | cons k l ih => intro a; rw [List.foldl_cons, ih, Nat.testBit_or, oneN_bit, List.any_cons, Bool.or_assoc]
/-- the days of numbers -/
def daysN (n : Int) (l : List Int) : Nat := daysR n l &&& allN n
theorem daysN_lt (n : Int) (l : List Int) : daysN n l < 2147483648 := Nat.lt_of_le_of_lt Nat.and_le_right (allN_lt n)
theorem daysN_bit (n : Int) (l : List Int) (i : Nat) (hn : -9223372036854775808 ≤ n ∧ n ≤ 9223372036854775807) (hl : ∀ k ∈ l, -9223372036854775808 ≤ k ∧ k ≤ 9223372036854775807) :
    (daysN n l).testBit i = decide ((i : Int) < n ∧ i < 31 ∧ ∃ k ∈ l, k = (i : Int) + 1 ∨ k < 0 ∧ k = (i : Int) - n) := by
  unfold daysN daysR
  rw [Nat.testBit_and, allN_bit, foldl_or_bit, Nat.zero_testBit, Bool.false_or, Bool.eq_iff_iff, Bool.and_eq_true, List.any_eq_true, decide_eq_true_eq, decide_eq_true_eq]
  have key : ∀ k ∈ l, (i : Int) < n → i < 31 → (dayOf n k = (i : Int) + 1 ↔ (k = (i : Int) + 1 ∨ k < 0 ∧ k = (i : Int) - n)) := by
    intro k hk h1 h2
    have := hl k hk
    unfold dayOf
    split
    · have e1 : IntKind.i64.wrap (n + k) = n + k := by rw [IntKind.wrap_i64]; omega
      rw [e1]
      have e2 : IntKind.i64.wrap (n + k + 1) = n + k + 1 := by rw [IntKind.wrap_i64]; omega
      rw [e2]; omega
    · omega
  constructor
  · rintro ⟨⟨k, hk, hb⟩, h1, h2⟩
    rw [decide_eq_true_eq] at hb
    exact ⟨h1, h2, k, hk, (key k hk h1 h2).1 hb.1⟩
  · rintro ⟨h1, h2, k, hk, hb⟩
    exact ⟨⟨k, hk, by rw [decide_eq_true_eq]; exact ⟨(key k hk h1 h2).2 hb, h2⟩⟩, h1, h2⟩
end Go.DsMk
namespace Go.Proofs.YthbfjkdklnffjaaDoor
open Go.ChangeShapes Go.WideShapes Go.ChangeAt Go.RowKit Go.DsMem Go.DsMk
set_option linter.unusedVariables false
set_option maxHeartbeats 1000000 in
/-- mask.Days -/
theorem days_any (l : List Int) (n : Int) (sl : Value) (w : World) (h : RdI w sl l) (hl : l.length ≤ 140737488355328) (hn1 : -9223372036854775808 ≤ n) (hn2 : n ≤ 9223372036854775807) (hk : ∀ k ∈ l, -9223372036854775808 ≤ k ∧ k ≤ 9223372036854775807) :
    Calls Tryd.prog 37 #[sl, .int .i64 n] w fun e w' => e = .returned (.int .u32 (daysN n l)) ∧ w' = w := by
  obtain ⟨ao, cap, rfl, hlc, hnil, hrd⟩ := h
  have HK := hide hk
  clear hk
  have hall := allN_lt n
  go_enter Tryd.func37, Tryd.ntmps37
  go_wp2
  go_loop [5, 10] (fun m i => ∃ k : Nat, k ≤ l.length ∧ i = .int .i64 k ∧ m = .int .u32 (daysR n (l.take k))) (fun _ i => l.length - (intOf i).toNat)
  case atStart => exact ⟨0, Nat.zero_le _, rfl, rfl⟩
  case round =>
    obtain ⟨k, hk, rfl, rfl⟩ := hrel
    have hm := daysR_lt n (l.take k)
    by_cases hlt : k < l.length
    · obtain ⟨a, rfl⟩ : ∃ a, ao = some a := by
        cases ao with
        | none => have := hnil rfl; omega
        | some a => exact ⟨a, rfl⟩
      have hc := hrd a rfl k l[k] (List.getElem?_eq_getElem hlt)
      clear hrd hnil
      have hkb := HK.out l[k] (List.getElem_mem hlt)
      have HS : Hid (daysR n (l.take (k + 1)) = daysR n (l.take k) ||| oneN (dayOf n l[k])) := by show _ = _; rw [List.take_succ_eq_append_getElem hlt, daysR_snoc]
      generalize daysR n (l.take k) = m at *
      generalize l[k] = x at *
      obtain ⟨hx1, hx2⟩ := hkb
      have ho := oneN_lt (dayOf n x)
      have e := or32 m (oneN (dayOf n x)) (by omega) (by omega)
      have HE := hide e
      have HO := hide ho
      generalize hoe : oneN (dayOf n x) = o at *
      have HOE := hide hoe
      have hob : o < 2147483648 := HO.out
      have eo : bits .or .u32 (m : Int) (o : Int) = ((m ||| o : Nat) : Int) := HE.out
      clear HE HO e ho hoe
      have hmo : m ||| o < 4294967296 := Nat.or_lt_two_pow (n := 32) (by omega) (by omega)
      generalize m ||| o = mo at *
      by_cases hx : x < 0
      · have HD : Hid (oneN (wrap64 (wrap64 (n + x) + 1)) = o) := by
          show _ = _
          have := HOE.out
          unfold dayOf at this
          rw [if_pos hx, IntKind.wrap_i64, IntKind.wrap_i64] at this
          unfold wrap64
          exact this
        go_wp2_with (go_at_call 44; refine (one_any _ _).mono ?_; rw [HD.out]; rintro e w' ⟨rfl, rfl⟩)
        go_round
        case rel => exact ⟨k + 1, by omega, by go_num, by rw [HS.out]⟩
        case measure => simp [intOf]; omega
      · have HD : Hid (oneN x = o) := by show _ = _; have := HOE.out; unfold dayOf at this; rwa [if_neg hx] at this
        go_wp2_with (go_at_call 44; refine (one_any _ _).mono ?_; rw [HD.out]; rintro e w' ⟨rfl, rfl⟩)
        go_round
        case rel => exact ⟨k + 1, by omega, by go_num, by rw [HS.out]⟩
        case measure => simp [intOf]; omega
    · have HE : Hid (daysR n (l.take k) = daysR n l) := by show _ = _; rw [List.take_of_length_le (by omega)]
      have e := and32 (daysR n (l.take k)) (allN n) (by omega) (by omega)
      generalize hre : daysR n (l.take k) = m at *
      have HRE := hide hre
      clear hre
      go_wp2_with (go_at_call 54; refine (all_any _ _).mono ?_; rintro e w' ⟨rfl, rfl⟩)
      go_ret
      exact ⟨ret_int (by unfold daysN; rw [← HE.out]), rfl⟩

theorem info64 : (Tryd.prog.info? 2).map (fun i => (i.zero, i.size, i.bytes)) = some (some (.int .i64 0), 1, 8) := by kernel_rfl
theorem one_i64 (x : Int) : ∀ u ∈ [Value.int .i64 x], u.oneCell' = true := by
  intro u hu; simp at hu; subst hu; rfl
def i64s (l : List Int) : List Value := l.map (Value.int .i64)
theorem rel_push64 {B k : Nat} {w wr w1 : World} {v v' : Value} {xs : List Int} {x : Int} {o : Obj} (hB : B ≤ wr.heap.size)
    (hown : wr.ownsRow B 2 1 v k (i64s xs)) (hnx : Below B w wr)
    (hown' : w1.ownsRow B 2 1 v' (k + 1) (i64s xs ++ [.int .i64 x])) (hgrow : (wr.alloc o).grownBy w1 v.ownBlock) :
    w1.ownsRow B 2 1 v' (k + 1) (i64s (xs ++ [x])) ∧ Below B w w1 :=
  ⟨by simpa [i64s] using hown', (hnx.alloc hB o).grown hgrow (by simp; omega) (fun j hj => (hown.lt j hj).1)⟩
theorem RdI.own {w : World} {B : Nat} {v : Value} {n : Nat} {l : List Int} (h : w.ownsRow B 2 1 v n (i64s l)) : RdI w v l := by
  have hn : n = l.length := by have := h.1; simp [i64s] at this; omega
  subst hn
  rcases h.2 with ⟨rfl, h0⟩ | ⟨g, cap, cur, rfl, hb, hg, h1, h2, h3, h4⟩
  · exact ⟨none, 0, by rw [h0], by omega, fun _ => ⟨h0, rfl⟩, fun _ h => by cases h⟩
  · refine ⟨some ⟨g, 0, none⟩, cap, rfl, h1, fun h => (by cases h), fun a ha j u hu => ?_⟩
    obtain rfl : (⟨g, 0, none⟩ : Addr) = a := Option.some.inj ha
    exact h.cells (g := g) rfl j (.int .i64 u) (by simp [i64s, hu])

def ints (l : List Nat) : List Int := l.map fun x : Nat => (x : Int)
theorem next_idx (l : List Nat) (hs : l.Pairwise (· < ·)) (hp : ∀ z ∈ l, 1 ≤ z) (j : Nat) (hj : j < l.length) : nextL l (l[j] : Int) = l[j + 1]?.getD 0 := by
  unfold nextL
  have e : l.filter (fun z : Nat => decide ((l[j] : Int) < (z : Int))) = l.drop (j + 1) := by
    have hsplit : l = l.take (j + 1) ++ l.drop (j + 1) := (List.take_append_drop _ _).symm
    have hA : ∀ z ∈ l.take (j + 1), ¬ l[j] < z := by
      intro z hz hlt
      obtain ⟨i, hi, rfl⟩ := List.getElem_of_mem hz
      rw [List.length_take] at hi
      rw [List.getElem_take] at hlt
      have hij : i ≤ j := by omega
      rcases Nat.lt_or_eq_of_le hij with h | rfl
      · have := List.pairwise_iff_getElem.1 hs i j (by omega) hj h; omega
      · omega
    have hB : ∀ z ∈ l.drop (j + 1), l[j] < z := by
      intro z hz
      obtain ⟨i, hi, rfl⟩ := List.getElem_of_mem hz
      rw [List.length_drop] at hi
      rw [List.getElem_drop]
      exact List.pairwise_iff_getElem.1 hs j (j + 1 + i) hj (by omega) (by omega)
    have e1 : (l.take (j + 1)).filter (fun z : Nat => decide ((l[j] : Int) < (z : Int))) = [] := List.filter_eq_nil_iff.2 (fun z hz => by have := hA z hz; simp; omega)
    have e2 : (l.drop (j + 1)).filter (fun z : Nat => decide ((l[j] : Int) < (z : Int))) = l.drop (j + 1) := List.filter_eq_self.2 (fun z hz => by have := hB z hz; simp; omega)
    have := List.filter_append (p := fun z : Nat => decide ((l[j] : Int) < (z : Int))) (l.take (j + 1)) (l.drop (j + 1))
    rw [List.take_append_drop, e1, e2, List.nil_append] at this
    exact this
  rw [e, List.head?_drop]

end Go.Proofs.YthbfjkdklnffjaaDoor
