/- Days of a month as bits of a number, said plainly: no program in sight. -/
import Derived.Lib.BitFns
import Derived.Lib.TrailingZeros
namespace Go.DsMk
open Go.Lib
/-- the places of the bits of x, counted from o on, of f bits -/
def dlF : Nat → Nat → Nat → List Nat
  | 0, _, _ => []
  | f + 1, o, x => if x % 2 = 1 then o :: dlF f (o + 1) (x / 2) else dlF f (o + 1) (x / 2)
theorem dlF_mem : ∀ f o x d, d ∈ dlF f o x ↔ (o ≤ d ∧ d < o + f ∧ x.testBit (d - o) = true)
  | 0, o, x, d => by simp [dlF]; omega
  | f + 1, o, x, d => by
    have ih := dlF_mem f (o + 1) (x / 2) d
    have h0 : x.testBit 0 = decide (x % 2 = 1) := Nat.testBit_zero x
    unfold dlF
    split
    · rename_i h
      rw [List.mem_cons, ih]
      constructor
      · rintro (rfl | ⟨a, b, c⟩)
        · exact ⟨by omega, by omega, by rw [Nat.sub_self, h0]; simpa using h⟩
        · refine ⟨by omega, by omega, ?_⟩
          rw [show d - o = (d - (o + 1)) + 1 by omega, Nat.testBit_succ]; exact c
      · rintro ⟨a, b, c⟩
        by_cases hd : d = o
        · exact .inl hd
        · refine .inr ⟨by omega, by omega, ?_⟩
          rw [show d - o = (d - (o + 1)) + 1 by omega, Nat.testBit_succ] at c; exact c
    · rename_i h
      rw [ih]
      constructor
      · rintro ⟨a, b, c⟩
        refine ⟨by omega, by omega, ?_⟩
        rw [show d - o = (d - (o + 1)) + 1 by omega, Nat.testBit_succ]; exact c
      · rintro ⟨a, b, c⟩
        have hd : d ≠ o := by
          rintro rfl
          rw [Nat.sub_self, h0] at c; simp at c; omega
        refine ⟨by omega, by omega, ?_⟩
        rw [show d - o = (d - (o + 1)) + 1 by omega, Nat.testBit_succ] at c; exact c
theorem dlF_sorted : ∀ f o x, (dlF f o x).Pairwise (· < ·)
  | 0, _, _ => List.Pairwise.nil
  | f + 1, o, x => by
    unfold dlF
    split
    · exact List.Pairwise.cons (fun d hd => by have := (dlF_mem f (o + 1) (x / 2) d).1 hd; omega) (dlF_sorted f (o + 1) (x / 2))
    · exact dlF_sorted f (o + 1) (x / 2)
theorem dlF_len : ∀ f o x, (dlF f o x).length = popAux f x
  | 0, _, _ => rfl
  | f + 1, o, x => by
    have ih := dlF_len f (o + 1) (x / 2)
    unfold dlF popAux
    split
    · rw [List.length_cons, ih]; omega
    · rw [ih]; omega
theorem and_odd (x : Nat) (h : x % 2 = 1) : x &&& (x - 1) = x - 1 := by
  apply Nat.eq_of_testBit_eq
  intro i
  rw [Nat.testBit_and]
  cases i with
  | zero => simp [Nat.testBit_zero]; omega
  | succ i => rw [Nat.testBit_succ, Nat.testBit_succ, show (x - 1) / 2 = x / 2 by omega, Bool.and_self]
theorem and_half (a b : Nat) : (a &&& b) / 2 = a / 2 &&& b / 2 := by
  apply Nat.eq_of_testBit_eq
  intro i
  rw [← Nat.testBit_succ, Nat.testBit_and, Nat.testBit_and, Nat.testBit_succ, Nat.testBit_succ]
theorem and_low (a b : Nat) : (a &&& b) % 2 = 1 ↔ a % 2 = 1 ∧ b % 2 = 1 := by
  have h : (a &&& b).testBit 0 = (a.testBit 0 && b.testBit 0) := Nat.testBit_and ..
  rw [Nat.testBit_zero, Nat.testBit_zero, Nat.testBit_zero] at h
  constructor
  · intro k; rw [decide_eq_true k] at h; simpa using h.symm
  · intro ⟨k, m⟩; rw [decide_eq_true k, decide_eq_true m] at h; simpa using h
theorem dlF_tail : ∀ f o x, dlF f o (x &&& (x - 1)) = (dlF f o x).tail
  | 0, _, _ => rfl
  | f + 1, o, x => by
    by_cases h : x % 2 = 1
    · rw [and_odd x h]
      unfold dlF
      rw [if_neg (by omega), if_pos h, show (x - 1) / 2 = x / 2 by omega]; rfl
    · have hn : ¬ (x &&& (x - 1)) % 2 = 1 := fun k => h ((and_low _ _).1 k).1
      unfold dlF
      rw [if_neg hn, if_neg h, and_half, show (x - 1) / 2 = x / 2 - 1 by omega]
      exact dlF_tail f (o + 1) (x / 2)
theorem dlF_head : ∀ f g o x, 0 < x → x < 2 ^ f → x < 2 ^ g → (dlF f o x).head? = some (o + ctzFrom g x)
  | 0, _, _, x, h0, h, _ => by simp at h; omega
  | f + 1, 0, _, x, h0, _, h => by simp at h; omega
  | f + 1, g + 1, o, x, h0, hf, hg => by
    unfold dlF ctzFrom
    split
    · simp
    · rw [Nat.pow_succ] at hf hg
      rw [dlF_head f g (o + 1) (x / 2) (by omega) (by omega) (by omega)]
      congr 1; omega
/-- lists that rise and have the same members are the same -/
theorem sorted_ext : ∀ (a b : List Nat), a.Pairwise (· < ·) → b.Pairwise (· < ·) → (∀ d, d ∈ a ↔ d ∈ b) → a = b
  | [], [], _, _, _ => rfl
  | [], y :: b, _, _, h => by have := (h y).2 (by simp); simp at this
  | x :: a, [], _, _, h => by have := (h x).1 (by simp); simp at this
  | x :: a, y :: b, ha, hb, h => by
    rw [List.pairwise_cons] at ha hb
    have hxy : x = y := by
      have h1 := (h x).1 (by simp)
      have h2 := (h y).2 (by simp)
      rw [List.mem_cons] at h1 h2
      rcases h1 with h1 | h1
      · exact h1
      · rcases h2 with h2 | h2
        · exact h2.symm
        · have := hb.1 x h1; have := ha.1 y h2; omega
    subst hxy
    congr 1
    refine sorted_ext a b ha.2 hb.2 fun d => ?_
    constructor
    · intro hd
      have := (h d).1 (by simp [hd])
      rw [List.mem_cons] at this
      rcases this with rfl | this
      · have := ha.1 d hd; omega
      · exact this
    · intro hd
      have := (h d).2 (by simp [hd])
      rw [List.mem_cons] at this
      rcases this with rfl | this
      · have := hb.1 d hd; omega
      · exact this
/-- the days of a month that are there, rising -/
def dl (x : Nat) : List Nat := dlF 31 1 x
theorem dl_mem (x d : Nat) : d ∈ dl x ↔ (1 ≤ d ∧ d ≤ 31 ∧ x.testBit (d - 1) = true) := by
  unfold dl; rw [dlF_mem]; constructor <;> (rintro ⟨a, b, c⟩; exact ⟨by omega, by omega, c⟩)
theorem dl_sorted (x : Nat) : (dl x).Pairwise (· < ·) := dlF_sorted _ _ _
theorem dl_tail (x : Nat) : dl (x &&& (x - 1)) = (dl x).tail := dlF_tail _ _ _
theorem dl_le (x : Nat) : (dl x).length ≤ 31 := by
  have : ∀ f o y, (dlF f o y).length ≤ f := by
    intro f
    induction f with
    | zero => intro o y; simp [dlF]
    | succ f ih => intro o y; unfold dlF; split <;> (have := ih (o + 1) (y / 2); simp; omega)
  exact this 31 1 x
/-- whether a day is there -/
def hasB (x : Nat) (d : Int) : Bool := decide (1 ≤ d ∧ d ≤ 31) && x.testBit (d.toNat - 1)
/-- the least one above d, 0 if there is none -/
def nextL (l : List Nat) (d : Int) : Nat := ((l.filter fun z : Nat => decide (d < (z : Int))).head?).getD 0
/-- the k-th one, from the end of k below 0, 0 if there is none -/
def nthL (l : List Nat) (k : Int) : Nat :=
  if 1 ≤ k then l[k.toNat - 1]?.getD 0 else if k < 0 ∧ 0 ≤ (l.length : Int) + k then l[((l.length : Int) + k).toNat]?.getD 0 else 0
/-- the first n days -/
def allN (n : Int) : Nat := 2 ^ (min (max n 0) 31).toNat - 1
theorem allN_bit (n : Int) (i : Nat) : (allN n).testBit i = decide ((i : Int) < n ∧ i < 31) := by
  unfold allN
  rw [Nat.testBit_two_pow_sub_one]
  rw [decide_eq_decide]; omega
theorem allN_lt (n : Int) : allN n < 2147483648 := by
  unfold allN
  have : 2 ^ (min (max n 0) 31).toNat ≤ 2 ^ 31 := Nat.pow_le_pow_right (by decide) (by omega)
  have := Nat.two_pow_pos (min (max n 0) 31).toNat
  omega
theorem allN_31 : allN 31 = 2147483647 := by decide
/-- the day d alone -/
def oneN (d : Int) : Nat := if 1 ≤ d ∧ d ≤ 31 then 2 ^ (d.toNat - 1) else 0
theorem oneN_bit (d : Int) (i : Nat) : (oneN d).testBit i = decide (d = (i : Int) + 1 ∧ i < 31) := by
  unfold oneN
  split
  · rw [Nat.testBit_two_pow, decide_eq_decide]; omega
  · rw [Nat.zero_testBit]; symm; rw [decide_eq_false_iff_not]; omega
theorem oneN_lt (d : Int) : oneN d < 2147483648 := by
  unfold oneN
  split
  · have : 2 ^ (d.toNat - 1) ≤ 2 ^ 30 := Nat.pow_le_pow_right (by decide) (by omega)
    omega
  · decide
/-- what is of a, and not of b -/
def difN (a b : Nat) : Nat := a &&& (4294967295 - b)
theorem difN_bit (a b : Nat) (ha : a < 4294967296) (hb : b < 4294967296) (i : Nat) : (difN a b).testBit i = (a.testBit i && !b.testBit i) := by
  unfold difN
  rw [Nat.testBit_and, show 4294967295 - b = 2 ^ 32 - (b + 1) by omega, Nat.testBit_two_pow_sub_succ (by omega)]
  by_cases hi : i < 32
  · simp [hi]
  · have : a.testBit i = false := by
      have h2 : 2 ^ 32 ≤ 2 ^ i := Nat.pow_le_pow_right (by decide) (by omega)
      exact Nat.testBit_lt_two_pow (by omega)
    simp [this]
theorem difN_lt (a b : Nat) (ha : a < 4294967296) : difN a b < 4294967296 := Nat.lt_of_le_of_lt Nat.and_le_left ha
theorem difN_lt31 (a b : Nat) (ha : a < 2147483648) : difN a b < 2147483648 := Nat.lt_of_le_of_lt Nat.and_le_left ha
theorem and_one_has (x : Nat) (d : Int) : decide (x &&& oneN d ≠ 0) = hasB x d := by
  unfold hasB
  by_cases h : 1 ≤ d ∧ d ≤ 31
  · rw [decide_eq_true h, Bool.true_and]
    by_cases hb : x.testBit (d.toNat - 1) = true
    · rw [hb, decide_eq_true_eq]
      intro h0
      have := congrArg (fun y => y.testBit (d.toNat - 1)) h0
      simp only [Nat.testBit_and, oneN_bit, Nat.zero_testBit, hb, Bool.true_and, decide_eq_false_iff_not] at this
      omega
    · rw [Bool.not_eq_true] at hb
      rw [hb, decide_eq_false_iff_not, Decidable.not_not]
      apply Nat.eq_of_testBit_eq
      intro i
      rw [Nat.testBit_and, oneN_bit, Nat.zero_testBit]
      by_cases hi : d = (i : Int) + 1
      · rw [show i = d.toNat - 1 by omega, hb]; rfl
      · rw [show decide (d = (i : Int) + 1 ∧ i < 31) = false by simp; omega, Bool.and_false]
  · have : oneN d = 0 := by unfold oneN; rw [if_neg h]
    rw [this, Nat.and_zero, decide_eq_false h]; rfl
theorem dl_low (x : Nat) : dl (x &&& 2147483647) = dl x := by
  apply sorted_ext _ _ (dl_sorted _) (dl_sorted _)
  intro d
  rw [dl_mem, dl_mem, Nat.testBit_and, show (2147483647 : Nat) = 2 ^ 31 - 1 by decide, Nat.testBit_two_pow_sub_one]
  constructor
  · rintro ⟨a, b, c⟩; exact ⟨a, b, by simp at c; exact c.1⟩
  · rintro ⟨a, b, c⟩; refine ⟨a, b, ?_⟩; rw [c]; simp; omega
theorem next_rest (x : Nat) (d : Int) (hx : x < 4294967296) : dl (difN (x &&& 2147483647) (allN d)) = (dl x).filter fun z : Nat => decide (d < (z : Int)) := by
  apply sorted_ext _ _ (dl_sorted _) ((dl_sorted _).filter _)
  intro z
  have hl : x &&& 2147483647 < 4294967296 := Nat.lt_of_le_of_lt Nat.and_le_left hx
  rw [dl_mem, difN_bit _ _ hl (by have := allN_lt d; omega), allN_bit, List.mem_filter, ← dl_low x, dl_mem, decide_eq_true_eq]
  constructor
  · rintro ⟨a, b, c⟩
    rw [Bool.and_eq_true, Bool.not_eq_true', decide_eq_false_iff_not] at c
    exact ⟨⟨a, b, c.1⟩, by have := c.2; omega⟩
  · rintro ⟨⟨a, b, c⟩, e⟩
    refine ⟨a, b, ?_⟩
    rw [c]; simp; omega
theorem next_zero (x : Nat) (d : Int) (hx : x < 4294967296) (h : difN (x &&& 2147483647) (allN d) = 0) : nextL (dl x) d = 0 := by
  have e := next_rest x d hx
  rw [h] at e
  unfold nextL
  rw [← e]; decide
theorem next_some (x : Nat) (d : Int) (hx : x < 4294967296) (h : difN (x &&& 2147483647) (allN d) ≠ 0) : ctz 32 (difN (x &&& 2147483647) (allN d)) + 1 = nextL (dl x) d := by
  have e := next_rest x d hx
  have hl : x &&& 2147483647 < 2147483648 := Nat.lt_of_le_of_lt Nat.and_le_right (by decide)
  have hd := difN_lt31 _ (allN d) hl
  unfold nextL
  rw [← e]
  unfold dl
  rw [dlF_head 31 32 1 _ (by omega) (by omega) (by omega)]
  unfold ctz
  rw [if_neg h, Option.getD_some]; omega
/-- the byte-wise count -/
theorem pop_split : ∀ (g f x : Nat), popAux (g + f) x = popAux g (x % 2 ^ g) + popAux f (x / 2 ^ g)
  | 0, f, x => by simp [popAux]
  | g + 1, f, x => by
    have u : ∀ k y, popAux (k + 1) y = y % 2 + popAux k (y / 2) := fun _ _ => rfl
    rw [show g + 1 + f = (g + f) + 1 by omega, u, u]
    rw [pop_split g f (x / 2)]
    have e1 : x % 2 ^ (g + 1) % 2 = x % 2 := by rw [Nat.pow_succ, Nat.mul_comm, Nat.mod_mul_right_mod]
    have e2 : x % 2 ^ (g + 1) / 2 = x / 2 % 2 ^ g := by rw [Nat.pow_succ, Nat.mul_comm, Nat.mod_mul_right_div_self]
    have e3 : x / 2 ^ (g + 1) = x / 2 / 2 ^ g := by rw [Nat.pow_succ, Nat.mul_comm, Nat.div_div_eq_div_mul]
    rw [e1, e2, e3]
    omega
theorem pop_fuel : ∀ (f g x : Nat), x < 2 ^ f → f ≤ g → popAux g x = popAux f x
  | 0, g, x, h, _ => by
    obtain rfl : x = 0 := by simp at h; omega
    have : ∀ k, popAux k 0 = 0 := by intro k; induction k with
      | zero => rfl
      | succ k ih => unfold popAux; rw [show 0 / 2 = 0 by decide, ih]
    rw [this, this]
  | f + 1, 0, _, _, h => by omega
  | f + 1, g + 1, x, h, hg => by
    rw [Nat.pow_succ] at h
    unfold popAux
    rw [pop_fuel f g (x / 2) (by omega) (by omega)]
theorem pop_bytes (x : Nat) (hx : x < 4294967296) : onesCount (x / 16777216) + onesCount (x / 65536 % 256) + onesCount (x / 256 % 256) + onesCount (x % 256) = popAux 32 x := by
  have o : ∀ y, y < 256 → onesCount y = popAux 8 y := fun y hy => pop_fuel 8 64 y hy (by decide)
  rw [o _ (by omega), o _ (by omega), o _ (by omega), o _ (by omega)]
  have s1 := pop_split 8 24 x
  have s2 := pop_split 8 16 (x / 256)
  have s3 := pop_split 8 8 (x / 256 / 256)
  have d1 : x / 65536 = x / 256 / 256 := by omega
  have d2 : x / 16777216 = x / 256 / 256 / 256 := by omega
  rw [d1, d2]
  show _ = popAux (8 + 24) x
  rw [s1, show (24 : Nat) = 8 + 16 by decide, s2, show (16 : Nat) = 8 + 8 by decide, s3]
  have e1 : (2 : Nat) ^ 8 = 256 := by decide
  rw [e1]
  omega
theorem count_eq (x : Nat) : popAux 32 (x &&& 2147483647) = (dl x).length := by
  have hl : x &&& 2147483647 < 2147483648 := Nat.lt_of_le_of_lt Nat.and_le_right (by decide)
  rw [pop_fuel 31 32 _ hl (by decide), ← dlF_len 31 1, ← dl_low x]; rfl
theorem dl_pos (x : Nat) : ∀ z ∈ dl x, 1 ≤ z ∧ z ≤ 31 := fun z hz => by have := (dl_mem x z).1 hz; omega
theorem next0 (l : List Nat) (h : ∀ z ∈ l, 1 ≤ z) : nextL l 0 = l[0]?.getD 0 := by
  unfold nextL
  rw [List.filter_eq_self.2 (fun z hz => by have := h z hz; simp; omega), List.head?_eq_getElem?]
theorem nth_at (x r j : Nat) (h : dl r = (dl x).drop j) : nextL (dl r) 0 = (dl x)[j]?.getD 0 := by
  rw [next0 _ (fun z hz => (dl_pos r z hz).1), h, List.getElem?_drop]; rfl
theorem nthL_up (l : List Nat) (k : Int) (h : 1 ≤ k) : nthL l k = l[(k - 1).toNat]?.getD 0 := by
  unfold nthL; rw [if_pos h, show k.toNat - 1 = (k - 1).toNat by omega]
theorem nthL_down (l : List Nat) (k : Int) (h : k < 0) (h2 : 1 ≤ k + (l.length + 1)) : nthL l k = l[(k + (l.length + 1) - 1).toNat]?.getD 0 := by
  unfold nthL; rw [if_neg (by omega), if_pos ⟨h, by omega⟩, show (l.length : Int) + k = k + (l.length + 1) - 1 by omega]
theorem nthL_no (l : List Nat) (k : Int) (h : k = 0 ∨ (l.length : Int) < k ∨ (k < 0 ∧ k + (l.length + 1) < 1)) : nthL l k = 0 := by
  unfold nthL
  by_cases h1 : 1 ≤ k
  · rw [if_pos h1, List.getElem?_eq_none (by omega)]; rfl
  · rw [if_neg h1, if_neg (by omega)]
end Go.DsMk
