/- Some parts of the proof, one behind the other. -/
import Derived.Lib.BitFns
import Derived.Lib.TrailingZeros
import Derived.WalkKit
import Derived.ProofKit
import Derived.OpenShut
import Derived.Handy
import Derived.WalkSpells
import Derived.Laws.CopyOwn
import Derived.Laws.AppendOwnNone
import Derived.Laws.BytesString
import Derived.Laws.IdiomStrings
import Derived.Laws.BytesArg
import Derived.Test.YthbfjkdklnffjaaDoorRows
import Derived.Lib.MinMax
import Derived.Lib.Tables
import Derived.Deep.QuietTactic
import Derived.BigQuiet
/- Days of a month as bits of a number, said plainly: no program in sight. -/
namespace Go.DsMk
open Go.Lib

/-- the places of the bits of x, counted from o on, of f bits -/
def dlF : Nat → Nat → Nat → List Nat
  | 0, _, _ => []
  | f + 1, o, x => if x % 2 = 1 then o :: dlF f (o + 1) (x / 2) else dlF f (o + 1) (x / 2)

theorem dlF_mem : ∀ f o x d, d ∈ dlF f o x ↔ (o ≤ d ∧ d < o + f ∧ x.testBit (d - o) = true)
  | 0, o, x, d => by simp [dlF]; omega
  | f + 1, o, x, d => by
    have ih := dlF_mem f (o + 1) (x / 2) d
    have h0 : x.testBit 0 = decide (x % 2 = 1) := Nat.testBit_zero x
    unfold dlF
    split
    · rename_i h
      rw [List.mem_cons, ih]
      constructor
      · rintro (rfl | ⟨a, b, c⟩)
        · exact ⟨by omega, by omega, by rw [Nat.sub_self, h0]; simpa using h⟩
        · refine ⟨by omega, by omega, ?_⟩
          rw [show d - o = (d - (o + 1)) + 1 by omega, Nat.testBit_succ]; exact c
      · rintro ⟨a, b, c⟩
        by_cases hd : d = o
        · exact .inl hd
        · refine .inr ⟨by omega, by omega, ?_⟩
          rw [show d - o = (d - (o + 1)) + 1 by omega, Nat.testBit_succ] at c; exact c
    · rename_i h
      rw [ih]
      constructor
      · rintro ⟨a, b, c⟩
        refine ⟨by omega, by omega, ?_⟩
        rw [show d - o = (d - (o + 1)) + 1 by omega, Nat.testBit_succ]; exact c
      · rintro ⟨a, b, c⟩
        have hd : d ≠ o := by
          rintro rfl
          rw [Nat.sub_self, h0] at c; simp at c; omega
        refine ⟨by omega, by omega, ?_⟩
        rw [show d - o = (d - (o + 1)) + 1 by omega, Nat.testBit_succ] at c; exact c

theorem dlF_sorted : ∀ f o x, (dlF f o x).Pairwise (· < ·)
  | 0, _, _ => List.Pairwise.nil
  | f + 1, o, x => by
    unfold dlF
    split
    · exact List.Pairwise.cons (fun d hd => by have := (dlF_mem f (o + 1) (x / 2) d).1 hd; omega) (dlF_sorted f (o + 1) (x / 2))
    · exact dlF_sorted f (o + 1) (x / 2)

theorem dlF_len : ∀ f o x, (dlF f o x).length = popAux f x
  | 0, _, _ => rfl
  | f + 1, o, x => by
    have ih := dlF_len f (o + 1) (x / 2)
    unfold dlF popAux
    split
    · rw [List.length_cons, ih]; omega
    · rw [ih]; omega

theorem and_odd (x : Nat) (h : x % 2 = 1) : x &&& (x - 1) = x - 1 := by
  apply Nat.eq_of_testBit_eq
  intro i
  rw [Nat.testBit_and]
  cases i with
  | zero => simp [Nat.testBit_zero]; omega
  | succ i => rw [Nat.testBit_succ, Nat.testBit_succ, show (x - 1) / 2 = x / 2 by omega, Bool.and_self]

theorem and_half (a b : Nat) : (a &&& b) / 2 = a / 2 &&& b / 2 := by
  apply Nat.eq_of_testBit_eq
  intro i
  rw [← Nat.testBit_succ, Nat.testBit_and, Nat.testBit_and, Nat.testBit_succ, Nat.testBit_succ]

theorem and_low (a b : Nat) : (a &&& b) % 2 = 1 ↔ a % 2 = 1 ∧ b % 2 = 1 := by
  have h : (a &&& b).testBit 0 = (a.testBit 0 && b.testBit 0) := Nat.testBit_and ..
  rw [Nat.testBit_zero, Nat.testBit_zero, Nat.testBit_zero] at h
  constructor
  · intro k; rw [decide_eq_true k] at h; simpa using h.symm
  · intro ⟨k, m⟩; rw [decide_eq_true k, decide_eq_true m] at h; simpa using h

theorem dlF_tail : ∀ f o x, dlF f o (x &&& (x - 1)) = (dlF f o x).tail
  | 0, _, _ => rfl
  | f + 1, o, x => by
    by_cases h : x % 2 = 1
    · rw [and_odd x h]
      unfold dlF
      rw [if_neg (by omega), if_pos h, show (x - 1) / 2 = x / 2 by omega]; rfl
    · have hn : ¬ (x &&& (x - 1)) % 2 = 1 := fun k => h ((and_low _ _).1 k).1
      unfold dlF
      rw [if_neg hn, if_neg h, and_half, show (x - 1) / 2 = x / 2 - 1 by omega]
      exact dlF_tail f (o + 1) (x / 2)

theorem dlF_zero : ∀ f o, dlF f o 0 = []
  | 0, _ => rfl
  | f + 1, o => by unfold dlF; rw [if_neg (by omega)]; exact dlF_zero f (o + 1)

theorem dlF_head : ∀ f g o x, 0 < x → x < 2 ^ f → x < 2 ^ g → (dlF f o x).head? = some (o + ctzFrom g x)
  | 0, _, _, x, h0, h, _ => by simp at h; omega
  | f + 1, 0, _, x, h0, _, h => by simp at h; omega
  | f + 1, g + 1, o, x, h0, hf, hg => by
    unfold dlF ctzFrom
    split
    · simp
    · rw [Nat.pow_succ] at hf hg
      rw [dlF_head f g (o + 1) (x / 2) (by omega) (by omega) (by omega)]
      congr 1; omega

theorem getLast_cons_some {α : Type} (a : α) (l : List α) (b : α) (h : l.getLast? = some b) : (a :: l).getLast? = some b := by
  cases l with
  | nil => cases h
  | cons c l => rw [List.getLast?_cons_cons]; exact h

theorem dlF_last : ∀ f g o x, 0 < x → x < 2 ^ f → x < 2 ^ g → (dlF f o x).getLast? = some (o + bitLenAux g x - 1)
  | 0, _, _, x, h0, h, _ => by simp at h; omega
  | f + 1, 0, _, x, h0, _, h => by simp at h; omega
  | f + 1, g + 1, o, x, h0, hf, hg => by
    rw [Nat.pow_succ] at hf hg
    unfold dlF bitLenAux
    rw [if_neg (show ¬ x = 0 by omega)]
    by_cases h1 : x = 1
    · subst h1
      rw [if_pos (by decide), show 1 / 2 = 0 by decide, dlF_zero]
      have : bitLenAux g 0 = 0 := by cases g <;> simp [bitLenAux]
      rw [this]; simp
    · have ih := dlF_last f g (o + 1) (x / 2) (by omega) (by omega) (by omega)
      have e : o + 1 + bitLenAux g (x / 2) - 1 = o + (1 + bitLenAux g (x / 2)) - 1 := by omega
      rw [e] at ih
      split
      · exact getLast_cons_some _ _ _ ih
      · exact ih

/-- lists that rise and have the same members are the same -/
theorem sorted_ext : ∀ (a b : List Nat), a.Pairwise (· < ·) → b.Pairwise (· < ·) → (∀ d, d ∈ a ↔ d ∈ b) → a = b
  | [], [], _, _, _ => rfl
  | [], y :: b, _, _, h => by have := (h y).2 (by simp); simp at this
  | x :: a, [], _, _, h => by have := (h x).1 (by simp); simp at this
  | x :: a, y :: b, ha, hb, h => by
    rw [List.pairwise_cons] at ha hb
    have hxy : x = y := by
      have h1 := (h x).1 (by simp)
      have h2 := (h y).2 (by simp)
      rw [List.mem_cons] at h1 h2
      rcases h1 with h1 | h1
      · exact h1
      · rcases h2 with h2 | h2
        · exact h2.symm
        · have := hb.1 x h1; have := ha.1 y h2; omega
    subst hxy
    congr 1
    refine sorted_ext a b ha.2 hb.2 fun d => ?_
    constructor
    · intro hd
      have := (h d).1 (by simp [hd])
      rw [List.mem_cons] at this
      rcases this with rfl | this
      · have := ha.1 d hd; omega
      · exact this
    · intro hd
      have := (h d).2 (by simp [hd])
      rw [List.mem_cons] at this
      rcases this with rfl | this
      · have := hb.1 d hd; omega
      · exact this

/-- the days of a month that are there, rising -/
def dl (x : Nat) : List Nat := dlF 31 1 x
theorem dl_mem (x d : Nat) : d ∈ dl x ↔ (1 ≤ d ∧ d ≤ 31 ∧ x.testBit (d - 1) = true) := by
  unfold dl; rw [dlF_mem]; constructor <;> (rintro ⟨a, b, c⟩; exact ⟨by omega, by omega, c⟩)
theorem dl_sorted (x : Nat) : (dl x).Pairwise (· < ·) := dlF_sorted _ _ _
theorem dl_tail (x : Nat) : dl (x &&& (x - 1)) = (dl x).tail := dlF_tail _ _ _
theorem dl_le (x : Nat) : (dl x).length ≤ 31 := by
  have : ∀ f o y, (dlF f o y).length ≤ f := by
    intro f
    induction f with
    | zero => intro o y; simp [dlF]
    | succ f ih => intro o y; unfold dlF; split <;> (have := ih (o + 1) (y / 2); simp; omega)
  exact this 31 1 x

/-- whether a day is there -/
def hasB (x : Nat) (d : Int) : Bool := decide (1 ≤ d ∧ d ≤ 31) && x.testBit (d.toNat - 1)
/-- the least one above d, 0 if there is none -/
def nextL (l : List Nat) (d : Int) : Nat := ((l.filter fun z : Nat => decide (d < (z : Int))).head?).getD 0
/-- the greatest one below d, 0 if there is none -/
def prevL (l : List Nat) (d : Int) : Nat := ((l.filter fun z : Nat => decide ((z : Int) < d)).getLast?).getD 0
/-- the k-th one, from the end of k below 0, 0 if there is none -/
def nthL (l : List Nat) (k : Int) : Nat :=
  if 1 ≤ k then l[k.toNat - 1]?.getD 0 else if k < 0 ∧ 0 ≤ (l.length : Int) + k then l[((l.length : Int) + k).toNat]?.getD 0 else 0

/-- the first n days -/
def allN (n : Int) : Nat := 2 ^ (min (max n 0) 31).toNat - 1
theorem allN_bit (n : Int) (i : Nat) : (allN n).testBit i = decide ((i : Int) < n ∧ i < 31) := by
  unfold allN
  rw [Nat.testBit_two_pow_sub_one]
  rw [decide_eq_decide]; omega
theorem allN_lt (n : Int) : allN n < 2147483648 := by
  unfold allN
  have : 2 ^ (min (max n 0) 31).toNat ≤ 2 ^ 31 := Nat.pow_le_pow_right (by decide) (by omega)
  have := Nat.two_pow_pos (min (max n 0) 31).toNat
  omega
theorem allN_31 : allN 31 = 2147483647 := by decide

/-- the day d alone -/
def oneN (d : Int) : Nat := if 1 ≤ d ∧ d ≤ 31 then 2 ^ (d.toNat - 1) else 0
theorem oneN_bit (d : Int) (i : Nat) : (oneN d).testBit i = decide (d = (i : Int) + 1 ∧ i < 31) := by
  unfold oneN
  split
  · rw [Nat.testBit_two_pow, decide_eq_decide]; omega
  · rw [Nat.zero_testBit]; symm; rw [decide_eq_false_iff_not]; omega
theorem oneN_lt (d : Int) : oneN d < 2147483648 := by
  unfold oneN
  split
  · have : 2 ^ (d.toNat - 1) ≤ 2 ^ 30 := Nat.pow_le_pow_right (by decide) (by omega)
    omega
  · decide

/-- what is of a, and not of b -/
def difN (a b : Nat) : Nat := a &&& (4294967295 - b)
theorem difN_bit (a b : Nat) (ha : a < 4294967296) (hb : b < 4294967296) (i : Nat) : (difN a b).testBit i = (a.testBit i && !b.testBit i) := by
  unfold difN
  rw [Nat.testBit_and, show 4294967295 - b = 2 ^ 32 - (b + 1) by omega, Nat.testBit_two_pow_sub_succ (by omega)]
  by_cases hi : i < 32
  · simp [hi]
  · have : a.testBit i = false := by
      have h2 : 2 ^ 32 ≤ 2 ^ i := Nat.pow_le_pow_right (by decide) (by omega)
      exact Nat.testBit_lt_two_pow (by omega)
    simp [this]
theorem difN_lt (a b : Nat) (ha : a < 4294967296) : difN a b < 4294967296 := Nat.lt_of_le_of_lt Nat.and_le_left ha
theorem difN_lt31 (a b : Nat) (ha : a < 2147483648) : difN a b < 2147483648 := Nat.lt_of_le_of_lt Nat.and_le_left ha

theorem and_one_has (x : Nat) (d : Int) : decide (x &&& oneN d ≠ 0) = hasB x d := by
  unfold hasB
  by_cases h : 1 ≤ d ∧ d ≤ 31
  · rw [decide_eq_true h, Bool.true_and]
    by_cases hb : x.testBit (d.toNat - 1) = true
    · rw [hb, decide_eq_true_eq]
      intro h0
      have := congrArg (fun y => y.testBit (d.toNat - 1)) h0
      simp only [Nat.testBit_and, oneN_bit, Nat.zero_testBit, hb, Bool.true_and, decide_eq_false_iff_not] at this
      omega
    · rw [Bool.not_eq_true] at hb
      rw [hb, decide_eq_false_iff_not, Decidable.not_not]
      apply Nat.eq_of_testBit_eq
      intro i
      rw [Nat.testBit_and, oneN_bit, Nat.zero_testBit]
      by_cases hi : d = (i : Int) + 1
      · rw [show i = d.toNat - 1 by omega, hb]; rfl
      · rw [show decide (d = (i : Int) + 1 ∧ i < 31) = false by simp; omega, Bool.and_false]
  · have : oneN d = 0 := by unfold oneN; rw [if_neg h]
    rw [this, Nat.and_zero, decide_eq_false h]; rfl

theorem has_mem (x : Nat) (d : Int) : hasB x d = decide (0 ≤ d ∧ d.toNat ∈ dl x) := by
  unfold hasB
  rw [Bool.eq_iff_iff, Bool.and_eq_true, decide_eq_true_eq, decide_eq_true_eq, dl_mem]
  constructor
  · rintro ⟨⟨a, b⟩, c⟩; exact ⟨by omega, by omega, by omega, c⟩
  · rintro ⟨a, b, c, e⟩; exact ⟨⟨by omega, by omega⟩, e⟩

theorem dl_low (x : Nat) : dl (x &&& 2147483647) = dl x := by
  apply sorted_ext _ _ (dl_sorted _) (dl_sorted _)
  intro d
  rw [dl_mem, dl_mem, Nat.testBit_and, show (2147483647 : Nat) = 2 ^ 31 - 1 by decide, Nat.testBit_two_pow_sub_one]
  constructor
  · rintro ⟨a, b, c⟩; exact ⟨a, b, by simp at c; exact c.1⟩
  · rintro ⟨a, b, c⟩; refine ⟨a, b, ?_⟩; rw [c]; simp; omega

theorem next_rest (x : Nat) (d : Int) (hx : x < 4294967296) : dl (difN (x &&& 2147483647) (allN d)) = (dl x).filter fun z : Nat => decide (d < (z : Int)) := by
  apply sorted_ext _ _ (dl_sorted _) ((dl_sorted _).filter _)
  intro z
  have hl : x &&& 2147483647 < 4294967296 := Nat.lt_of_le_of_lt Nat.and_le_left hx
  rw [dl_mem, difN_bit _ _ hl (by have := allN_lt d; omega), allN_bit, List.mem_filter, ← dl_low x, dl_mem, decide_eq_true_eq]
  constructor
  · rintro ⟨a, b, c⟩
    rw [Bool.and_eq_true, Bool.not_eq_true', decide_eq_false_iff_not] at c
    exact ⟨⟨a, b, c.1⟩, by have := c.2; omega⟩
  · rintro ⟨⟨a, b, c⟩, e⟩
    refine ⟨a, b, ?_⟩
    rw [c]; simp; omega

theorem next_zero (x : Nat) (d : Int) (hx : x < 4294967296) (h : difN (x &&& 2147483647) (allN d) = 0) : nextL (dl x) d = 0 := by
  have e := next_rest x d hx
  rw [h] at e
  unfold nextL
  rw [← e]; decide

theorem next_some (x : Nat) (d : Int) (hx : x < 4294967296) (h : difN (x &&& 2147483647) (allN d) ≠ 0) : ctz 32 (difN (x &&& 2147483647) (allN d)) + 1 = nextL (dl x) d := by
  have e := next_rest x d hx
  have hl : x &&& 2147483647 < 2147483648 := Nat.lt_of_le_of_lt Nat.and_le_right (by decide)
  have hd := difN_lt31 _ (allN d) hl
  unfold nextL
  rw [← e]
  unfold dl
  rw [dlF_head 31 32 1 _ (by omega) (by omega) (by omega)]
  unfold ctz
  rw [if_neg h, Option.getD_some]; omega

theorem prev_rest (x : Nat) (d : Int) : dl (x &&& allN (max d 1 - 1)) = (dl x).filter fun z : Nat => decide ((z : Int) < d) := by
  apply sorted_ext _ _ (dl_sorted _) ((dl_sorted _).filter _)
  intro z
  rw [dl_mem, Nat.testBit_and, allN_bit, List.mem_filter, dl_mem, decide_eq_true_eq]
  constructor
  · rintro ⟨a, b, c⟩
    simp at c
    exact ⟨⟨a, b, c.1⟩, by have := c.2; omega⟩
  · rintro ⟨⟨a, b, c⟩, e⟩
    refine ⟨a, b, ?_⟩
    rw [c]; simp; omega

theorem prev_eq (x : Nat) (d : Int) : bitLen (x &&& allN (max d 1 - 1)) = prevL (dl x) d := by
  have e := prev_rest x d
  have hd : x &&& allN (max d 1 - 1) < 2147483648 := Nat.lt_of_le_of_lt Nat.and_le_right (allN_lt _)
  unfold prevL
  rw [← e]
  by_cases h : x &&& allN (max d 1 - 1) = 0
  · rw [h]; decide
  · unfold dl
    rw [dlF_last 31 64 1 _ (by omega) (by omega) (Nat.lt_trans hd (by decide))]
    unfold bitLen
    rw [Option.getD_some]; omega

/-- as many bits, place by place -/
theorem pop_four : ∀ (f a b c d : Nat), (∀ i, i < f → (a.testBit i).toNat + (b.testBit i).toNat = (c.testBit i).toNat + (d.testBit i).toNat) → popAux f a + popAux f b = popAux f c + popAux f d
  | 0, _, _, _, _, _ => rfl
  | f + 1, a, b, c, d, h => by
    have h0 := h 0 (by omega)
    have t : ∀ x : Nat, (x.testBit 0).toNat = x % 2 := by
      intro x; rw [Nat.testBit_zero]
      by_cases hx : x % 2 = 1
      · rw [decide_eq_true hx]; simp; omega
      · rw [decide_eq_false hx]; simp; omega
    rw [t, t, t, t] at h0
    have ih := pop_four f (a / 2) (b / 2) (c / 2) (d / 2) (fun i hi => by have := h (i + 1) (by omega); simpa only [Nat.testBit_succ] using this)
    unfold popAux
    omega

theorem cnt_four (a b c d : Nat) (h : ∀ i, i < 31 → (a.testBit i).toNat + (b.testBit i).toNat = (c.testBit i).toNat + (d.testBit i).toNat) : (dl a).length + (dl b).length = (dl c).length + (dl d).length := by
  unfold dl
  rw [dlF_len, dlF_len, dlF_len, dlF_len]
  exact pop_four 31 a b c d h

/-- the byte-wise count -/
theorem pop_split : ∀ (g f x : Nat), popAux (g + f) x = popAux g (x % 2 ^ g) + popAux f (x / 2 ^ g)
  | 0, f, x => by simp [popAux]
  | g + 1, f, x => by
    have u : ∀ k y, popAux (k + 1) y = y % 2 + popAux k (y / 2) := fun _ _ => rfl
    rw [show g + 1 + f = (g + f) + 1 by omega, u, u]
    rw [pop_split g f (x / 2)]
    have e1 : x % 2 ^ (g + 1) % 2 = x % 2 := by rw [Nat.pow_succ, Nat.mul_comm, Nat.mod_mul_right_mod]
    have e2 : x % 2 ^ (g + 1) / 2 = x / 2 % 2 ^ g := by rw [Nat.pow_succ, Nat.mul_comm, Nat.mod_mul_right_div_self]
    have e3 : x / 2 ^ (g + 1) = x / 2 / 2 ^ g := by rw [Nat.pow_succ, Nat.mul_comm, Nat.div_div_eq_div_mul]
    rw [e1, e2, e3]
    omega

theorem pop_fuel : ∀ (f g x : Nat), x < 2 ^ f → f ≤ g → popAux g x = popAux f x
  | 0, g, x, h, _ => by
    obtain rfl : x = 0 := by simp at h; omega
    have : ∀ k, popAux k 0 = 0 := by intro k; induction k with
      | zero => rfl
      | succ k ih => unfold popAux; rw [show 0 / 2 = 0 by decide, ih]
    rw [this, this]
  | f + 1, 0, _, _, h => by omega
  | f + 1, g + 1, x, h, hg => by
    rw [Nat.pow_succ] at h
    unfold popAux
    rw [pop_fuel f g (x / 2) (by omega) (by omega)]

theorem pop_bytes (x : Nat) (hx : x < 4294967296) : onesCount (x / 16777216) + onesCount (x / 65536 % 256) + onesCount (x / 256 % 256) + onesCount (x % 256) = popAux 32 x := by
  have o : ∀ y, y < 256 → onesCount y = popAux 8 y := fun y hy => pop_fuel 8 64 y hy (by decide)
  rw [o _ (by omega), o _ (by omega), o _ (by omega), o _ (by omega)]
  have s1 := pop_split 8 24 x
  have s2 := pop_split 8 16 (x / 256)
  have s3 := pop_split 8 8 (x / 256 / 256)
  have d1 : x / 65536 = x / 256 / 256 := by omega
  have d2 : x / 16777216 = x / 256 / 256 / 256 := by omega
  rw [d1, d2]
  show _ = popAux (8 + 24) x
  rw [s1, show (24 : Nat) = 8 + 16 by decide, s2, show (16 : Nat) = 8 + 8 by decide, s3]
  have e1 : (2 : Nat) ^ 8 = 256 := by decide
  rw [e1]
  omega

theorem count_eq (x : Nat) : popAux 32 (x &&& 2147483647) = (dl x).length := by
  have hl : x &&& 2147483647 < 2147483648 := Nat.lt_of_le_of_lt Nat.and_le_right (by decide)
  rw [pop_fuel 31 32 _ hl (by decide), ← dlF_len 31 1, ← dl_low x]; rfl

theorem dl_pos (x : Nat) : ∀ z ∈ dl x, 1 ≤ z ∧ z ≤ 31 := fun z hz => by have := (dl_mem x z).1 hz; omega
theorem next0 (l : List Nat) (h : ∀ z ∈ l, 1 ≤ z) : nextL l 0 = l[0]?.getD 0 := by
  unfold nextL
  rw [List.filter_eq_self.2 (fun z hz => by have := h z hz; simp; omega), List.head?_eq_getElem?]
theorem nth_at (x r j : Nat) (h : dl r = (dl x).drop j) : nextL (dl r) 0 = (dl x)[j]?.getD 0 := by
  rw [next0 _ (fun z hz => (dl_pos r z hz).1), h, List.getElem?_drop]; rfl
theorem nthL_up (l : List Nat) (k : Int) (h : 1 ≤ k) : nthL l k = l[(k - 1).toNat]?.getD 0 := by
  unfold nthL; rw [if_pos h, show k.toNat - 1 = (k - 1).toNat by omega]
theorem nthL_down (l : List Nat) (k : Int) (h : k < 0) (h2 : 1 ≤ k + (l.length + 1)) : nthL l k = l[(k + (l.length + 1) - 1).toNat]?.getD 0 := by
  unfold nthL; rw [if_neg (by omega), if_pos ⟨h, by omega⟩, show (l.length : Int) + k = k + (l.length + 1) - 1 by omega]
theorem nthL_no (l : List Nat) (k : Int) (h : k = 0 ∨ (l.length : Int) < k ∨ (k < 0 ∧ k + (l.length + 1) < 1)) : nthL l k = 0 := by
  unfold nthL
  by_cases h1 : 1 ≤ k
  · rw [if_pos h1, List.getElem?_eq_none (by omega)]; rfl
  · rw [if_neg h1, if_neg (by omega)]
end Go.DsMk

/- Bytes in memory, said plainly: slices that read as bytes, rows that a call owns, what stays as it was. No program in sight. -/
namespace Go.DsMem
open Go.RowKit

theorem hide {p : Prop} (h : p) : Hid p := h

/-- a byte as a value -/
def bv (u : UInt8) : Value := .int .u8 (u.toNat : Int)
def bvs (l : List UInt8) : List Value := l.map bv
theorem bvs_length (l : List UInt8) : (bvs l).length = l.length := by simp [bvs]
theorem bvs_get (l : List UInt8) (j : Nat) : (bvs l)[j]? = l[j]?.map bv := by simp [bvs]
theorem bvs_append (a b : List UInt8) : bvs (a ++ b) = bvs a ++ bvs b := by simp [bvs]
theorem bvs_take (a : List UInt8) (n : Nat) : bvs (a.take n) = (bvs a).take n := by simp [bvs, List.map_take]
theorem bvs_one (l : List UInt8) : ∀ u ∈ bvs l, u.oneCell' = true := by
  intro u hu; simp [bvs] at hu; obtain ⟨a, _, rfl⟩ := hu; rfl
theorem add_mk (g o j : Nat) : (⟨g, o, none⟩ : Addr).add j = ⟨g, o + j, none⟩ := by unfold Addr.add; split <;> simp_all

/-- the slice value sl reads as the bytes l -/
def Rd (w : World) (sl : Value) (l : List UInt8) : Prop :=
  ∃ ao cap, sl = .slice ao l.length cap ∧ l.length ≤ cap ∧ (ao = none → l.length = 0 ∧ cap = 0) ∧ ∀ a, ao = some a → ∀ j u, l[j]? = some u → w.cell? (a.add j) = some (bv u)

theorem Rd.nil (w : World) : Rd w (.slice none 0 0) [] := ⟨none, 0, rfl, Nat.le_refl _, fun _ => ⟨rfl, rfl⟩, fun _ h => by cases h⟩

/-- all that a slice reads lies in blocks that stand as they stood -/
theorem Rd.mono {w w' : World} {sl : Value} {l : List UInt8} (h : Rd w sl l) (hc : ∀ a v, w.cell? a = some v → w'.cell? a = some v) : Rd w' sl l := by
  obtain ⟨ao, cap, hs, hl, hn, hr⟩ := h
  exact ⟨ao, cap, hs, hl, hn, fun a ha j u hu => hc _ _ (hr a ha j u hu)⟩

theorem Below.keeps {B : Nat} {w w' : World} (h : Below B w w') (hB : w.heap.size ≤ B) {a : Addr} {v : Value} (hc : w.cell? a = some v) : w'.cell? a = some v :=
  (h.cell (Nat.lt_of_lt_of_le (World.block_lt_of_cell? w a hc) hB)).trans hc

theorem Rd.below {w w' : World} {sl : Value} {l : List UInt8} (h : Rd w sl l) (hb : Below w.heap.size w w') : Rd w' sl l :=
  h.mono fun _ _ hc => Below.keeps hb (Nat.le_refl _) hc

/-- a row of bytes that is owned reads as them -/
theorem Rd.own {w : World} {B : Nat} {e : TypeId} {v : Value} {n : Nat} {l : List UInt8} (h : w.ownsRow B e 1 v n (bvs l)) : Rd w v l := by
  have hn : n = l.length := by have := h.1; simp [bvs] at this; omega
  subst hn
  rcases h.2 with ⟨rfl, h0⟩ | ⟨g, cap, cur, rfl, hb, hg, h1, h2, h3, h4⟩
  · exact ⟨none, 0, by rw [h0], by omega, fun _ => ⟨h0, rfl⟩, fun _ h => by cases h⟩
  · refine ⟨some ⟨g, 0, none⟩, cap, rfl, h1, fun h => (by cases h), fun a ha j u hu => ?_⟩
    obtain rfl : (⟨g, 0, none⟩ : Addr) = a := Option.some.inj ha
    exact h.cells (g := g) rfl j (bv u) (by rw [bvs_get, hu]; rfl)

theorem own_len {w : World} {B : Nat} {e : TypeId} {v : Value} {n : Nat} {l : List UInt8} (h : w.ownsRow B e 1 v n (bvs l)) : n = l.length := by
  have := h.1; simp [bvs] at this; omega

theorem own_base {w : World} {B B' : Nat} {e : TypeId} {v : Value} {n : Nat} {xs : List Value} (h : w.ownsRow B e 1 v n xs) (hB : B' ≤ B) : w.ownsRow B' e 1 v n xs := by
  refine ⟨h.1, ?_⟩
  rcases h.2 with h0 | ⟨g, cap, cur, hv, hb, r⟩
  · exact .inl h0
  · exact .inr ⟨g, cap, cur, hv, by omega, r⟩

/-- what is owned stays owned where its block stands as it stood -/
theorem own_same {w w' : World} {B : Nat} {e : TypeId} {v : Value} {n : Nat} {xs : List Value} (h : w.ownsRow B e 1 v n xs) (hk : ∀ k, v.ownBlock = some k → w'.heap[k]? = w.heap[k]?) : w'.ownsRow B e 1 v n xs := by
  refine ⟨h.1, ?_⟩
  rcases h.2 with h0 | ⟨g, cap, cur, rfl, hb, hg, r⟩
  · exact .inl h0
  · exact .inr ⟨g, cap, cur, rfl, hb, by rw [hk g rfl]; exact hg, r⟩

theorem own_below {w w' : World} {B : Nat} {e : TypeId} {v : Value} {n : Nat} {xs : List Value} (h : w.ownsRow B e 1 v n xs) (hb : Below w.heap.size w w') : w'.ownsRow B e 1 v n xs :=
  own_same h fun k hk => hb.block k (h.lt k hk).2

theorem own_shape {w : World} {B : Nat} {e : TypeId} {v : Value} {n : Nat} {xs : List Value} (h : w.ownsRow B e 1 v n xs) : ∃ ao cap, v = .slice ao n cap ∧ n ≤ cap := by
  rcases h.2 with ⟨rfl, rfl⟩ | ⟨g, cap, cur, rfl, _, _, hc, _⟩
  · exact ⟨none, 0, rfl, Nat.le_refl _⟩
  · exact ⟨some ⟨g, 0, none⟩, cap, rfl, hc⟩

/-- the row of a slice at its block's head whose length is its capacity -/
theorem own_row {w : World} {B : Nat} {e : TypeId} {g n c : Nat} {xs : List Value} (h : w.ownsRow B e 1 (.slice (some ⟨g, 0, none⟩) n c) n xs) : ∃ cur : List Value, w.heap[g]? = some (.cells cur.toArray e (0, 0)) ∧ cur.length = c ∧ cur.take n = xs ∧ n ≤ c ∧ c ≤ maxLen ∧ B ≤ g := by
  rcases h.2 with ⟨h0, _⟩ | ⟨g', cap, cur, hv, hb, hg, h1, h2, h3, h4⟩
  · cases h0
  · obtain ⟨rfl, rfl⟩ : g = g' ∧ c = cap := by simpa using hv
    exact ⟨cur.toList, by simpa using hg, by simpa using h3, by simpa using h4, h1, h2, hb⟩
theorem own_mk {w : World} {B : Nat} {e : TypeId} {g n c : Nat} {xs cur : List Value} (hg : w.heap[g]? = some (.cells cur.toArray e (0, 0))) (hc : cur.length = c) (hx : cur.take n = xs) (h1 : n ≤ c) (h2 : c ≤ maxLen) (hB : B ≤ g) :
    w.ownsRow B e 1 (.slice (some ⟨g, 0, none⟩) n c) n xs := by
  refine ⟨?_, .inr ⟨g, c, cur.toArray, rfl, hB, hg, h1, h2, by simpa using hc, by simpa using hx⟩⟩
  rw [← hx]; simp; omega

theorem splice_all {α : Type} (L cs : List α) (h : cs.length = L.length) : splice L 0 cs = cs := by
  unfold splice; simp [h]

/-- the slice value sl reads as the numbers ns -/
def RdI (w : World) (sl : Value) (ns : List Int) : Prop :=
  ∃ ao cap, sl = .slice ao ns.length cap ∧ ns.length ≤ cap ∧ (ao = none → ns.length = 0 ∧ cap = 0) ∧ ∀ a, ao = some a → ∀ j u, ns[j]? = some u → w.cell? (a.add j) = some (.int .i64 u)
theorem RdI.nil (w : World) : RdI w (.slice none 0 0) [] := ⟨none, 0, rfl, Nat.le_refl _, fun _ => ⟨rfl, rfl⟩, fun _ h => by cases h⟩
theorem RdI.mono {w w' : World} {sl : Value} {l : List Int} (h : RdI w sl l) (hc : ∀ a v, w.cell? a = some v → w'.cell? a = some v) : RdI w' sl l := by
  obtain ⟨ao, cap, hs, hl, hn, hr⟩ := h
  exact ⟨ao, cap, hs, hl, hn, fun a ha j u hu => hc _ _ (hr a ha j u hu)⟩
theorem RdI.below {w w' : World} {sl : Value} {l : List Int} (h : RdI w sl l) (hb : Below w.heap.size w w') : RdI w' sl l :=
  h.mono fun _ _ hc => Below.keeps hb (Nat.le_refl _) hc
theorem RdI.new1 (w : World) (f : Int) (t : TypeId) : RdI (w.alloc (.cells #[.int .i64 f] t)) (.slice (some ⟨w.heap.size, 0, none⟩) 1 1) [f] := by
  refine ⟨_, 1, rfl, Nat.le_refl _, fun h => (by cases h), fun a ha j u hu => ?_⟩
  obtain rfl : (⟨w.heap.size, 0, none⟩ : Addr) = a := Option.some.inj ha
  rw [add_mk, World.cell?_alloc_mark]
  match j, hu with
  | 0, hu => simp at hu; subst hu; rfl
theorem RdI.new2 (w : World) (f g : Int) (t : TypeId) : RdI (w.alloc (.cells #[.int .i64 f, .int .i64 g] t)) (.slice (some ⟨w.heap.size, 0, none⟩) 2 2) [f, g] := by
  refine ⟨_, 2, rfl, Nat.le_refl _, fun h => (by cases h), fun a ha j u hu => ?_⟩
  obtain rfl : (⟨w.heap.size, 0, none⟩ : Addr) = a := Option.some.inj ha
  rw [add_mk, World.cell?_alloc_mark]
  match j, hu with
  | 0, hu => simp at hu; subst hu; rfl
  | 1, hu => simp at hu; subst hu; rfl

/-- bytes as a text -/
def bstr (l : List UInt8) : ByteArray := ⟨l.toArray⟩
theorem bstr_inj {a b : List UInt8} (h : bstr a = bstr b) : a = b := by
  have := congrArg (fun s : ByteArray => s.data.toList) h
  simpa [bstr] using this

theorem ofNat_bv (l : List UInt8) : (l.map fun u => (u.toNat : Int)).map (fun n => UInt8.ofNat n.toNat) = l := by
  induction l with
  | nil => rfl
  | cons a l ih => simp only [List.map_cons, ih]; simp

/-- string(b) of a slice that reads as l -/
theorem run_conv_rd {P : Program} {src dst e : TypeId} (hs : P.underlying src = some (.slice e)) (he : P.underlying e = some (.int .u8)) (hd : P.underlying dst = some .string)
    {w : World} {sl : Value} {l : List UInt8} (h : Rd w sl l) : (convert src dst sl).run P w = .ok (.string (bstr l)) w := by
  obtain ⟨ao, cap, rfl, hl, hn, hr⟩ := h
  cases ao with
  | none =>
    obtain ⟨h0, _⟩ := hn rfl
    obtain rfl : l = [] := List.eq_nil_of_length_eq_zero h0
    exact run_convert_bytes_nil w src e hs he _ _ dst hd
  | some a =>
    have hl : (loadCells a l.length).run P w = .ok ((l.map fun u => (u.toNat : Int)).map (Value.int .u8)).toArray w := by
      have := run_loadCells_list (P := P) w a (bvs l) (fun j v hj => by
        rw [bvs_get] at hj
        obtain ⟨u, hu, rfl⟩ := Option.map_eq_some_iff.1 hj
        exact hr a rfl j u hu)
      rw [bvs_length] at this
      rw [this, List.map_map]
      rfl
    rw [run_convert_bytes_string w src dst e _ _ cap hs he hd, run_bytesToString w _ _ cap _ hl, foldl_push_bytes, ofNat_bv]
    simp [bstr, ByteArray.empty, ByteArray.emptyWithCapacity]
    rfl

/-- but for the blocks of S, and new ones, the world w' is as w was -/
structure Only (S : Nat → Prop) (w w' : World) : Prop where
  os : w'.os = w.os
  tape : w'.tape = w.tape
  output : w'.output = w.output
  size : w.heap.size ≤ w'.heap.size
  block : ∀ k, k < w.heap.size → ¬ S k → w'.heap[k]? = w.heap[k]?
theorem Only.refl (S : Nat → Prop) (w : World) : Only S w w := ⟨rfl, rfl, rfl, Nat.le_refl _, fun _ _ _ => rfl⟩
theorem Only.trans {S T : Nat → Prop} {a b c : World} (h : Only S a b) (k : Only T b c) (hT : ∀ i, i < a.heap.size → T i → S i) : Only S a c :=
  ⟨k.os.trans h.os, k.tape.trans h.tape, k.output.trans h.output, Nat.le_trans h.size k.size, fun i hi hs => (k.block i (Nat.lt_of_lt_of_le hi h.size) (fun ht => hs (hT i hi ht))).trans (h.block i hi hs)⟩
theorem Only.mono {S T : Nat → Prop} {a b : World} (h : Only S a b) (hS : ∀ i, i < a.heap.size → S i → T i) : Only T a b :=
  ⟨h.os, h.tape, h.output, h.size, fun i hi ht => h.block i hi (fun hs => ht (hS i hi hs))⟩
theorem Only.below {S : Nat → Prop} {a b : World} (h : Below a.heap.size a b) : Only S a b := ⟨h.os, h.tape, h.output, h.size, fun i hi _ => h.block i hi⟩
theorem Only.toBelow {S : Nat → Prop} {a b : World} {B : Nat} (h : Only S a b) (hB : B ≤ a.heap.size) (hS : ∀ i, S i → B ≤ i) : Below B a b :=
  ⟨h.os, h.tape, h.output, h.size, fun i hi => h.block i (by omega) (fun hs => by have := hS i hs; omega)⟩
theorem Only.setCell (w : World) (p : Addr) (x : Value) : Only (· = p.block) w (w.setCell p x) :=
  ⟨rfl, rfl, rfl, by simp [World.setCell], fun i _ hi => Below.heap_setCell _ _ _ _ hi⟩
theorem Only.set (w : World) (p k : Nat) (x : Value) : Only (· = p) w (w.setCell ⟨p, k, none⟩ x) := Only.setCell w ⟨p, k, none⟩ x
theorem Only.grown {w w' : World} {row : Option Nat} (h : w.grownBy w' row) : Only (fun k => row = some k) w w' :=
  ⟨h.os, h.tape, h.output, h.size, fun i hi hs => h.block i hi (fun e => hs e.symm)⟩
theorem Only.alloc (S : Nat → Prop) (w : World) (o : Obj) : Only S w (w.alloc o) := Only.below ((Below.refl _ _).alloc (Nat.le_refl _) o)
theorem Only.drew {S : Nat → Prop} {a w : World} (h : Only S a w) : Only S a w.drew := ⟨h.os, h.tape, h.output, h.size, h.block⟩
theorem Only.cell {S : Nat → Prop} {w w' : World} (h : Only S w w') {a : Addr} {v : Value} (hc : w.cell? a = some v) (hn : ¬ S a.block) : w'.cell? a = some v :=
  (World.cell?_of_block (w := w) (h.block a.block (World.block_lt_of_cell? w a hc) hn)).trans hc
theorem own_only {S : Nat → Prop} {w w' : World} {B : Nat} {e : TypeId} {v : Value} {n : Nat} {xs : List Value} (h : w.ownsRow B e 1 v n xs) (ho : Only S w w') (hn : ∀ k, v.ownBlock = some k → ¬ S k) : w'.ownsRow B e 1 v n xs :=
  own_same h fun k hk => ho.block k (h.lt k hk).2 (hn k hk)

theorem hset_same {w : World} {p k : Nat} {cur : Array Value} {e : TypeId} (h : w.heap[p]? = some (.cells cur e (0, 0))) (x : Value) :
    (w.setCell ⟨p, k, none⟩ x).heap[p]? = some (.cells (cur.setIfInBounds k x) e (0, 0)) := by
  simp [World.setCell, Array.getElem?_modify, h]
theorem block_lt {w : World} {p : Nat} {o : Obj} (h : w.heap[p]? = some o) : p < w.heap.size := (Array.getElem?_eq_some_iff.1 h).1
theorem cell_of {w : World} {p k : Nat} {cur : Array Value} {e : TypeId} (h : w.heap[p]? = some (.cells cur e (0, 0))) : w.cell? ⟨p, k, none⟩ = cur[k]? := by
  simp [World.cell?, h]
theorem frozen_of {w : World} {p k : Nat} {cur : Array Value} {e : TypeId} (h : w.heap[p]? = some (.cells cur e (0, 0))) : w.frozen? ⟨p, k, none⟩ = false := by
  simp [World.frozen?, h]
theorem own_drew {w : World} {B : Nat} {e : TypeId} {v : Value} {n : Nat} {xs : List Value} (h : w.ownsRow B e 1 v n xs) : w.drew.ownsRow B e 1 v n xs := h
theorem Rd.drew {w : World} {sl : Value} {l : List UInt8} (h : Rd w sl l) : Rd w.drew sl l := h
end Go.DsMem

/- The walks of the functions of package mask, and of those of math/bits that it calls. -/
namespace Go.Proofs.YthbfjkdklnffjaaDoor
open Go.ChangeShapes Go.WideShapes Go.ChangeAt Go.RowKit Go.DsMem Go.DsMk
set_option linter.unusedVariables false

theorem ret_int {k : IntKind} {a b : Int} (h : a = b) : Ending.returned (.int k a) = .returned (.int k b) := by rw [h]
theorem ret_bool {a b : Bool} (h : a = b) : Ending.returned (.bool a) = .returned (.bool b) := by rw [h]

theorem and32 (a b : Nat) (ha : a < 4294967296) (hb : b < 4294967296) : bits .and .u32 (a : Int) (b : Int) = ((a &&& b : Nat) : Int) := by
  have hx : a &&& b < 2 ^ 32 := Nat.and_lt_two_pow _ (by omega)
  have h1 : (BitVec.ofInt 32 (a : Int)).toNat = a := by rw [BitVec.ofInt_natCast, BitVec.toNat_ofNat]; exact Nat.mod_eq_of_lt (by omega)
  have h2 : (BitVec.ofInt 32 (b : Int)).toNat = b := by rw [BitVec.ofInt_natCast, BitVec.toNat_ofNat]; exact Nat.mod_eq_of_lt (by omega)
  show IntKind.u32.wrap ((BitVec.ofInt 32 (a : Int) &&& BitVec.ofInt 32 (b : Int)).toNat : Int) = _
  rw [BitVec.toNat_and, h1, h2, IntKind.wrap_u32]
  omega
theorem or32 (a b : Nat) (ha : a < 4294967296) (hb : b < 4294967296) : bits .or .u32 (a : Int) (b : Int) = ((a ||| b : Nat) : Int) := by
  have hx : a ||| b < 2 ^ 32 := Nat.or_lt_two_pow (by omega) (by omega)
  have h1 : (BitVec.ofInt 32 (a : Int)).toNat = a := by rw [BitVec.ofInt_natCast, BitVec.toNat_ofNat]; exact Nat.mod_eq_of_lt (by omega)
  have h2 : (BitVec.ofInt 32 (b : Int)).toNat = b := by rw [BitVec.ofInt_natCast, BitVec.toNat_ofNat]; exact Nat.mod_eq_of_lt (by omega)
  show IntKind.u32.wrap ((BitVec.ofInt 32 (a : Int) ||| BitVec.ofInt 32 (b : Int)).toNat : Int) = _
  rw [BitVec.toNat_or, h1, h2, IntKind.wrap_u32]
  omega
theorem dif32 (a b : Nat) (ha : a < 4294967296) (hb : b < 4294967296) : bits .andNot .u32 (a : Int) (b : Int) = ((difN a b : Nat) : Int) := by
  have hx : difN a b < 4294967296 := difN_lt a b ha
  have h1 : (BitVec.ofInt 32 (a : Int)).toNat = a := by rw [BitVec.ofInt_natCast, BitVec.toNat_ofNat]; exact Nat.mod_eq_of_lt (by omega)
  have h2 : (BitVec.ofInt 32 (b : Int)).toNat = b := by rw [BitVec.ofInt_natCast, BitVec.toNat_ofNat]; exact Nat.mod_eq_of_lt (by omega)
  show IntKind.u32.wrap ((BitVec.ofInt 32 (a : Int) &&& ~~~ BitVec.ofInt 32 (b : Int)).toNat : Int) = _
  rw [BitVec.toNat_and, BitVec.toNat_not, h1, h2, IntKind.wrap_u32]
  show ((a &&& (2 ^ 32 - 1 - b) : Nat) : Int) % 4294967296 = _
  rw [show 2 ^ 32 - 1 - b = 4294967295 - b by omega]
  show ((difN a b : Nat) : Int) % 4294967296 = _
  omega

theorem pow_cast (k : Nat) : (2 : Int) ^ k = ((2 ^ k : Nat) : Int) := by simp
theorem all_val (n : Int) : ((2 : Int) ^ (min (max n 0) 31).toNat % 4294967296 - 1) % 4294967296 = (allN n : Int) := by
  rw [pow_cast]
  have h := allN_lt n
  unfold allN at *
  have : 2 ^ (min (max n 0) 31).toNat ≤ 2 ^ 31 := Nat.pow_le_pow_right (by decide) (by omega)
  have := Nat.two_pow_pos (min (max n 0) 31).toNat
  omega
/-- mask.All -/
theorem all_any (n : Int) (w : World) :
    Calls Tryd.prog 54 #[.int .i64 n] w fun e w' => e = .returned (.int .u32 (allN n)) ∧ w' = w := by
  go_enter Tryd.func54, Tryd.ntmps54
  go_wp2
  go_ret
  exact ⟨ret_int (all_val n), rfl⟩
/-- mask.one -/
theorem one_any (n : Int) (w : World) :
    Calls Tryd.prog 44 #[.int .i64 n] w fun e w' => e = .returned (.int .u32 (oneN n)) ∧ w' = w := by
  go_enter Tryd.func44, Tryd.ntmps44
  go_wp2
  · go_ret
    exact ⟨ret_int (by unfold oneN; rw [if_neg (by omega)]; rfl), rfl⟩
  · go_ret
    refine ⟨ret_int ?_, rfl⟩
    have := oneN_lt n
    unfold oneN at *
    rw [if_pos ‹_›] at *
    rw [pow_cast]
    generalize 2 ^ (n.toNat - 1) = p at *
    omega
  · go_ret
    exact ⟨ret_int (by unfold oneN; rw [if_neg (by omega)]; rfl), rfl⟩
/-- mask.Month.days -/
theorem mdays_any (x : Nat) (w : World) (hx : x < 4294967296) :
    Calls Tryd.prog 67 #[.int .u32 x] w fun e w' => e = .returned (.int .u32 ((x &&& 2147483647 : Nat) : Int)) ∧ w' = w := by
  have e := and32 x 2147483647 hx (by decide)
  have e31 := allN_31
  go_enter Tryd.func67, Tryd.ntmps67
  go_wp2_with (go_at_call 54; refine (all_any _ _).mono ?_; rintro e w' ⟨rfl, rfl⟩)
  go_ret
  exact ⟨ret_int (by simpa [e31] using e), rfl⟩
/-- mask.Month.Has -/
theorem has_any (x : Nat) (d : Int) (w : World) (hx : x < 4294967296) :
    Calls Tryd.prog 28 #[.int .u32 x, .int .i64 d] w fun e w' => e = .returned (.bool (hasB x d)) ∧ w' = w := by
  have e := and32 x (oneN d) hx (by have := oneN_lt d; omega)
  have h1 := and_one_has x d
  obtain ⟨o, ho⟩ : ∃ o, o = oneN d := ⟨_, rfl⟩
  obtain ⟨r, hr⟩ : ∃ r, r = x &&& o := ⟨_, rfl⟩
  rw [← ho, ← hr] at e h1
  have HO := hide ho
  have HR := hide hr
  have H1 := hide h1
  clear ho hr h1
  go_enter Tryd.func28, Tryd.ntmps28
  go_wp2_with (go_at_call 44; refine (one_any _ _).mono ?_; rw [← HO.out]; rintro e w' ⟨rfl, rfl⟩)
  go_ret
  refine ⟨ret_bool ?_, rfl⟩
  rw [← H1.out]
  by_cases h : r = 0 <;> simp [h]
/-- mask.Month.Not -/
theorem not_any (x : Nat) (n : Int) (w : World) (hx : x < 4294967296) :
    Calls Tryd.prog 43 #[.int .u32 x, .int .i64 n] w fun e w' => e = .returned (.int .u32 (difN (allN n) x)) ∧ w' = w := by
  have e := dif32 (allN n) x (by have := allN_lt n; omega) hx
  go_enter Tryd.func43, Tryd.ntmps43
  go_wp2_with (go_at_call 54; refine (all_any _ _).mono ?_; rintro e w' ⟨rfl, rfl⟩)
  go_ret
  exact ⟨ret_int (by simp), rfl⟩
end Go.Proofs.YthbfjkdklnffjaaDoor

/- The walks of math/bits' functions, and of mask.Month's Count, Next, Prev, Nth. -/
namespace Go.Proofs.YthbfjkdklnffjaaDoor
open Go.ChangeShapes Go.WideShapes Go.ChangeAt Go.RowKit Go.DsMem Go.DsMk
set_option linter.unusedVariables false

/-- math/bits' table, in its variable -/
def TabT (w : World) : Prop := ∀ j : Nat, j < 32 → w.cell? ⟨2, j, none⟩ = some (.int .u8 (Lib.deBruijn32tab.getD j 0))

theorem tz_key (x a : Nat) (hx : x < 4294967296) (hlow : x &&& (4294967296 - x) = a) (hx0 : x ≠ 0) :
    bits .and .u32 (x : Int) (-(x : Int) % 4294967296) * 125613361 % 4294967296 / 134217728 = ((a * 125613361 % 4294967296 / 134217728 : Nat) : Int) := by
  have e1 : -(x : Int) % 4294967296 = ((4294967296 - x : Nat) : Int) := by omega
  rw [e1, and32 x _ hx (by omega), hlow]
  omega

set_option maxHeartbeats 1000000 in
theorem tz_core (x k idx : Nat) (w : World) (hx0 : ((x : Int) == 0) = false)
    (key : bits .and .u32 (x : Int) (-(x : Int) % 4294967296) * 125613361 % 4294967296 / 134217728 = (idx : Int))
    (hi : idx < 32) (hk : k < 32) (hcell : w.cell? ⟨2, idx, none⟩ = some (.int .u8 k)) :
    Calls Tryd.prog 68 #[.int .u32 x] w fun e w' => e = .returned (.int .i64 k) ∧ w' = w := by
  go_enter Tryd.func68, Tryd.ntmps68
  go_wp2_with (simp only [key])
  go_ret
  exact ⟨rfl, rfl⟩
/-- math/bits.TrailingZeros32, of what is not 0 -/
theorem tz_any (x : Nat) (w : World) (hx : x < 4294967296) (hx0 : x ≠ 0) (ht : TabT w) :
    Calls Tryd.prog 68 #[.int .u32 x] w fun e w' => e = .returned (.int .i64 (Lib.ctz 32 x)) ∧ w' = w := by
  obtain ⟨hlow, hk⟩ := Lib.lowest_bit 32 x hx0 hx
  obtain ⟨hi, htab⟩ := Lib.deBruijn32_at _ hk
  have hcell := ht _ hi
  rw [htab] at hcell
  exact tz_core x _ _ w (by simp; omega) (tz_key x _ hx hlow hx0) hi hk hcell

set_option maxHeartbeats 1000000 in
theorem ones_core (x a b c d pa pb pc pd : Nat) (w : World) (hx : x < 4294967296)
    (ha : (x : Int) / 16777216 = (a : Int)) (ha8 : (a : Int) ≤ 255)
    (hb : bits .and .u32 ((x : Int) / 65536) 255 = (b : Int)) (hb8 : (b : Int) ≤ 255)
    (hc : bits .and .u32 ((x : Int) / 256) 255 = (c : Int)) (hc8 : (c : Int) ≤ 255)
    (hd : bits .and .u32 (x : Int) 255 = (d : Int)) (hd8 : (d : Int) ≤ 255)
    (qa : Lib.pop8 (a : Int) = (pa : Int)) (qa8 : (pa : Int) ≤ 8) (qb : Lib.pop8 (b : Int) = (pb : Int)) (qb8 : (pb : Int) ≤ 8)
    (qc : Lib.pop8 (c : Int) = (pc : Int)) (qc8 : (pc : Int) ≤ 8) (qd : Lib.pop8 (d : Int) = (pd : Int)) (qd8 : (pd : Int) ≤ 8) :
    Calls Tryd.prog 66 #[.int .u32 x] w fun e w' => e = .returned (.int .i64 ((pa + pb + pc + pd : Nat) : Int)) ∧ ∃ n, w' = w.drewN n := by
  have a0 : (0 : Int) ≤ a := by omega
  have b0 : (0 : Int) ≤ b := by omega
  have c0 : (0 : Int) ≤ c := by omega
  have d0 : (0 : Int) ≤ d := by omega
  go_enter Tryd.func66, Tryd.ntmps66
  go_wp2
  go_quiet (fail)
  go_wp2
  go_ret
  exact ⟨ret_int (by omega), _, rfl⟩
theorem pop8_of (b : Nat) (h : b < 256) : Lib.pop8 (b : Int) = (Lib.onesCount b : Int) ∧ Lib.onesCount b ≤ 8 := ⟨Lib.pop8_eq ⟨b, h⟩, Lib.onesCount_le8 ⟨b, h⟩⟩
theorem and255 (a : Nat) (ha : a < 4294967296) : bits .and .u32 (a : Int) 255 = ((a % 256 : Nat) : Int) := by
  rw [show (255 : Int) = ((255 : Nat) : Int) by rfl, and32 a 255 ha (by decide), show (255 : Nat) = 2 ^ 8 - 1 by decide, Nat.and_two_pow_sub_one_eq_mod]
/-- math/bits.OnesCount32 -/
theorem ones_any (x : Nat) (w : World) (hx : x < 4294967296) :
    Calls Tryd.prog 66 #[.int .u32 x] w fun e w' => e = .returned (.int .i64 (Lib.popAux 32 x : Nat)) ∧ ∃ n, w' = w.drewN n := by
  have h := pop_bytes x hx
  obtain ⟨p1, q1⟩ := pop8_of (x / 16777216) (by omega)
  obtain ⟨p2, q2⟩ := pop8_of (x / 65536 % 256) (by omega)
  obtain ⟨p3, q3⟩ := pop8_of (x / 256 % 256) (by omega)
  obtain ⟨p4, q4⟩ := pop8_of (x % 256) (by omega)
  rw [← h]
  exact ones_core x _ _ _ _ _ _ _ _ w hx (by omega) (by omega) (by have := and255 (x / 65536) (by omega); simpa using this) (by omega) (by have := and255 (x / 256) (by omega); simpa using this) (by omega) (and255 x hx) (by omega)
    p1 (by omega) p2 (by omega) p3 (by omega) p4 (by omega)

/-- mask.Month.Count -/
theorem count_any (x : Nat) (w : World) (hx : x < 4294967296) :
    Calls Tryd.prog 56 #[.int .u32 x] w fun e w' => e = .returned (.int .i64 ((dl x).length : Nat)) ∧ ∃ n, w' = w.drewN n := by
  have h := count_eq x
  have hl : x &&& 2147483647 < 4294967296 := Nat.lt_of_le_of_lt Nat.and_le_left hx
  have H := hide h
  clear h
  go_enter Tryd.func56, Tryd.ntmps56
  go_wp2_with (first | (go_at_call 67; refine (mdays_any _ _ (by omega)).mono ?_; rintro e w' ⟨rfl, rfl⟩) | (go_at_call 66; refine (ones_any _ _ (by omega)).mono ?_; rintro e w' ⟨rfl, n, rfl⟩))
  go_ret
  exact ⟨ret_int (by rw [H.out]), _, rfl⟩
/-- mask.Month.Next -/
theorem next_any (x : Nat) (d : Int) (w : World) (hx : x < 4294967296) (ht : TabT w) :
    Calls Tryd.prog 57 #[.int .u32 x, .int .i64 d] w fun e w' => e = .returned (.int .i64 (nextL (dl x) d)) ∧ w' = w := by
  have hl : x &&& 2147483647 < 4294967296 := Nat.lt_of_le_of_lt Nat.and_le_left hx
  have hz := next_zero x d hx
  have hs := next_some x d hx
  have e := dif32 (x &&& 2147483647) (allN d) hl (by have := allN_lt d; omega)
  have hr := difN_lt (x &&& 2147483647) (allN d) hl
  generalize difN (x &&& 2147483647) (allN d) = r at *
  by_cases h0 : r = 0
  · have H := hide (hz h0)
    subst h0
    clear hz hs
    go_enter Tryd.func57, Tryd.ntmps57
    go_wp2_with (first | (go_at_call 67; refine (mdays_any _ _ (by omega)).mono ?_; rintro e w' ⟨rfl, rfl⟩) | (go_at_call 54; refine (all_any _ _).mono ?_; rintro e w' ⟨rfl, rfl⟩))
    go_ret
    exact ⟨ret_int (by rw [H.out]; rfl), rfl⟩
  · have H := hide (hs h0)
    have h0' : ((r : Int) == 0) = false := by simp; omega
    have hc : Lib.ctz 32 r < 32 := (Lib.lowest_bit 32 r h0 hr).2
    clear hz hs
    go_enter Tryd.func57, Tryd.ntmps57
    go_wp2_with (first | (go_at_call 67; refine (mdays_any _ _ (by omega)).mono ?_; rintro e w' ⟨rfl, rfl⟩) | (go_at_call 54; refine (all_any _ _).mono ?_; rintro e w' ⟨rfl, rfl⟩) | (go_at_call 68; refine (tz_any _ _ (by omega) h0 ht).mono ?_; rintro e w' ⟨rfl, rfl⟩))
    go_ret
    exact ⟨ret_int (by rw [← H.out]; omega), rfl⟩
end Go.Proofs.YthbfjkdklnffjaaDoor

/- The walk of math/bits.Len32. -/
namespace Go.Proofs.YthbfjkdklnffjaaDoor
open Go.ChangeShapes Go.WideShapes Go.ChangeAt Go.RowKit Go.DsMem Go.DsMk
set_option linter.unusedVariables false

theorem len8_of (y : Nat) (h : y < 256) : Lib.len8 (y : Int) = (Lib.bitLen y : Int) ∧ Lib.bitLen y ≤ 8 := ⟨Lib.len8_eq ⟨y, h⟩, Lib.bitLen_le8 ⟨y, h⟩⟩

theorem bitLenAux_fuel : ∀ (f g x : Nat), x < 2 ^ f → x < 2 ^ g → Lib.bitLenAux f x = Lib.bitLenAux g x
  | 0, 0, _, _, _ => rfl
  | 0, g + 1, x, h, _ => by obtain rfl : x = 0 := by simp at h; omega
                            simp [Lib.bitLenAux]
  | f + 1, 0, x, _, h => by obtain rfl : x = 0 := by simp at h; omega
                            simp [Lib.bitLenAux]
  | f + 1, g + 1, x, hf, hg => by
    unfold Lib.bitLenAux
    rw [Nat.pow_succ] at hf hg
    rw [bitLenAux_fuel f g (x / 2) (by omega) (by omega)]
theorem bitLen_half (x : Nat) (hx : x < 4294967296) (h : x ≠ 0) : Lib.bitLen x = 1 + Lib.bitLen (x / 2) := by
  unfold Lib.bitLen
  rw [show Lib.bitLenAux 64 x = 1 + Lib.bitLenAux 63 (x / 2) by rw [Lib.bitLenAux, if_neg h]]
  rw [bitLenAux_fuel 63 64 (x / 2) (by omega) (by omega)]
theorem bitLen_byte (x : Nat) (hx : x < 4294967296) (h : 256 ≤ x) : Lib.bitLen x = 8 + Lib.bitLen (x / 256) := by
  rw [bitLen_half x hx (by omega), bitLen_half (x / 2) (by omega) (by omega), bitLen_half (x / 2 / 2) (by omega) (by omega), bitLen_half (x / 2 / 2 / 2) (by omega) (by omega), bitLen_half (x / 2 / 2 / 2 / 2) (by omega) (by omega), bitLen_half (x / 2 / 2 / 2 / 2 / 2) (by omega) (by omega), bitLen_half (x / 2 / 2 / 2 / 2 / 2 / 2) (by omega) (by omega), bitLen_half (x / 2 / 2 / 2 / 2 / 2 / 2 / 2) (by omega) (by omega)]
  rw [show x / 2 / 2 / 2 / 2 / 2 / 2 / 2 / 2 = x / 256 by omega]
  omega
end Go.Proofs.YthbfjkdklnffjaaDoor

/- The walks of mask.Month's Prev and Nth. -/
namespace Go.Proofs.YthbfjkdklnffjaaDoor
open Go.ChangeShapes Go.WideShapes Go.ChangeAt Go.RowKit Go.DsMem Go.DsMk
set_option linter.unusedVariables false

theorem TabT.below {w w' : World} (h : TabT w) (hb : Below w.heap.size w w') : TabT w' := fun j hj => Below.keeps hb (Nat.le_refl _) (h j hj)
theorem TabT.drewN {w : World} (h : TabT w) (n : Nat) : TabT (w.drewN n) := h
theorem below_drewN (w : World) (n : Nat) : Below w.heap.size w (w.drewN n) := ⟨rfl, rfl, rfl, Nat.le_refl _, fun _ _ => rfl⟩

theorem drop_ne {x r j : Nat} (h : dl r = (dl x).drop j) (hj : j < (dl x).length) : r ≠ 0 := by
  rintro rfl
  have : (dl 0).length = 0 := by decide
  rw [h, List.length_drop] at this
  omega
theorem drop_next {x r j : Nat} (h : dl r = (dl x).drop j) : dl (r &&& (r - 1)) = (dl x).drop (j + 1) := by
  rw [dl_tail, h, List.tail_drop]

set_option maxHeartbeats 1000000 in
/-- mask.Month.Nth -/
theorem nth_any (x : Nat) (k : Int) (w : World) (hx : x < 4294967296) (ht : TabT w) (hk1 : -9223372036854775808 ≤ k) (hk2 : k ≤ 9223372036854775807) :
    Calls Tryd.prog 40 #[.int .u32 x, .int .i64 k] w fun e w' => e = .returned (.int .i64 (nthL (dl x) k)) ∧ ∃ n, w' = w.drewN n := by
  have hc := dl_le x
  obtain ⟨c, hce⟩ : ∃ c, c = (dl x).length := ⟨_, rfl⟩
  have HC := hide hce
  have HT := hide ht
  rw [← hce] at hc
  -- the place asked for, from the beginning
  have main : ∀ K : Nat, K < c → ∀ nn : Nat, ∀ (t : Nat), True := fun _ _ _ _ => trivial
  clear main ht hce
  by_cases hneg : k < 0
  · by_cases hin : 1 ≤ k + (c + 1)
    · have HE : Hid (nthL (dl x) k = (dl x)[(k + (c + 1) - 1).toNat]?.getD 0) := by show _ = _; rw [HC.out]; exact nthL_down _ _ hneg (by rw [← HC.out]; exact hin)
      have hle : k + (c + 1) ≤ c := by omega
      go_enter Tryd.func40, Tryd.ntmps40
      go_wp2_with (go_at_call 56; refine (count_any _ _ (by omega)).mono ?_; rw [← HC.out]; rintro e w' ⟨rfl, n1, rfl⟩)
      go_loop [6, 25] (fun r i => ∃ j rr : Nat, (j : Int) ≤ k + (c + 1) - 1 ∧ i = .int .i64 j ∧ r = .int .u32 rr ∧ rr < 4294967296 ∧ Hid (dl rr = (dl x).drop j)) (fun _ i => (k + (c + 1) - 1).toNat - (intOf i).toNat)
      case atStart => exact ⟨0, x, by omega, rfl, rfl, hx, by show _ = _; simp⟩
      case round =>
        obtain ⟨j, rr, hj, rfl, rfl, hr, HD⟩ := hrel
        by_cases hlt : (j : Int) < k + (c + 1) - 1
        · have h0 : rr ≠ 0 := drop_ne HD.out (by rw [← HC.out]; omega)
          have HD2 := hide (drop_next HD.out)
          have e := and32 rr (rr - 1) hr (by omega)
          rw [show ((rr - 1 : Nat) : Int) = (rr : Int) - 1 by omega] at e
          have hr2 : rr &&& (rr - 1) < 4294967296 := Nat.lt_of_le_of_lt Nat.and_le_left hr
          generalize rr &&& (rr - 1) = r2 at *
          go_wp2
          go_round
          case rel => exact ⟨j + 1, r2, by omega, by go_num, rfl, hr2, HD2⟩
          case measure => simp [intOf]; omega
        · go_wp2_with (go_at_call 57; refine (next_any _ _ _ (by omega) (HT.out.drewN _)).mono ?_; rintro e w' ⟨rfl, rfl⟩)
          go_ret
          exact ⟨ret_int (by rw [HE.out, nth_at x rr j HD.out]; congr 4; omega), _, rfl⟩
    · have HE : Hid (nthL (dl x) k = 0) := nthL_no _ _ (by rw [← HC.out]; omega)
      go_enter Tryd.func40, Tryd.ntmps40
      go_wp2_with (go_at_call 56; refine (count_any _ _ (by omega)).mono ?_; rw [← HC.out]; rintro e w' ⟨rfl, n1, rfl⟩)
      go_ret
      exact ⟨ret_int (by rw [HE.out]; rfl), _, rfl⟩
  · by_cases hin : 1 ≤ k ∧ k ≤ c
    · obtain ⟨hin1, hin2⟩ := hin
      have HE : Hid (nthL (dl x) k = (dl x)[(k - 1).toNat]?.getD 0) := nthL_up _ _ hin1
      go_enter Tryd.func40, Tryd.ntmps40
      go_wp2_with (go_at_call 56; refine (count_any _ _ (by omega)).mono ?_; rw [← HC.out]; rintro e w' ⟨rfl, n1, rfl⟩)
      go_loop [6, 25] (fun r i => ∃ j rr : Nat, (j : Int) ≤ k - 1 ∧ i = .int .i64 j ∧ r = .int .u32 rr ∧ rr < 4294967296 ∧ Hid (dl rr = (dl x).drop j)) (fun _ i => (k - 1).toNat - (intOf i).toNat)
      case atStart => exact ⟨0, x, by omega, rfl, rfl, hx, by show _ = _; simp⟩
      case round =>
        obtain ⟨j, rr, hj, rfl, rfl, hr, HD⟩ := hrel
        by_cases hlt : (j : Int) < k - 1
        · have h0 : rr ≠ 0 := drop_ne HD.out (by rw [← HC.out]; omega)
          have HD2 := hide (drop_next HD.out)
          have e := and32 rr (rr - 1) hr (by omega)
          rw [show ((rr - 1 : Nat) : Int) = (rr : Int) - 1 by omega] at e
          have hr2 : rr &&& (rr - 1) < 4294967296 := Nat.lt_of_le_of_lt Nat.and_le_left hr
          generalize rr &&& (rr - 1) = r2 at *
          go_wp2
          go_round
          case rel => exact ⟨j + 1, r2, by omega, by go_num, rfl, hr2, HD2⟩
          case measure => simp [intOf]; omega
        · go_wp2_with (go_at_call 57; refine (next_any _ _ _ (by omega) (HT.out.drewN _)).mono ?_; rintro e w' ⟨rfl, rfl⟩)
          go_ret
          exact ⟨ret_int (by rw [HE.out, nth_at x rr j HD.out]; congr 4; omega), _, rfl⟩
    · have HE : Hid (nthL (dl x) k = 0) := nthL_no _ _ (by rw [← HC.out]; omega)
      by_cases h1 : k < 1
      all_goals
        have h2 : k < 1 ∨ (c : Int) < k := by omega
        go_enter Tryd.func40, Tryd.ntmps40
        go_wp2_with (go_at_call 56; refine (count_any _ _ (by omega)).mono ?_; rw [← HC.out]; rintro e w' ⟨rfl, n1, rfl⟩)
        go_ret
        exact ⟨ret_int (by rw [HE.out]; rfl), _, rfl⟩
end Go.Proofs.YthbfjkdklnffjaaDoor

/- The walk of mask.Week. -/
namespace Go.DsMk
/-- so many weeks, one behind the other -/
def rowN (b : Nat) : Nat → Nat
  | 0 => 0
  | j + 1 => rowN b j * 128 + b
theorem rowN_lt {b : Nat} (hb : b < 128) : ∀ j, rowN b j < 128 ^ j
  | 0 => by simp [rowN]
  | j + 1 => by have := rowN_lt hb j; unfold rowN; rw [Nat.pow_succ]; omega
theorem rowN_bit {b : Nat} (hb : b < 128) : ∀ (j p : Nat), (rowN b j).testBit p = (decide (p < 7 * j) && b.testBit (p % 7))
  | 0, p => by simp [rowN]
  | j + 1, p => by
    unfold rowN
    rw [show rowN b j * 128 + b = 2 ^ 7 * rowN b j + b by omega, Nat.testBit_two_pow_mul_add _ hb]
    split
    · rename_i h
      rw [Nat.mod_eq_of_lt h, decide_eq_true (by omega), Bool.true_and]
    · rename_i h
      rw [rowN_bit hb j (p - 7), show (p - 7) % 7 = p % 7 by omega, show decide (p - 7 < 7 * j) = decide (p < 7 * (j + 1)) by rw [decide_eq_decide]; omega]
/-- the days of weekdays -/
def weekN (bits : Nat) (first n : Int) : Nat := rowN (bits % 128) 6 / 2 ^ (first % 7).toNat % 4294967296 &&& allN n
theorem weekN_bit (bits : Nat) (first n : Int) (i : Nat) : (weekN bits first n).testBit i = (decide ((i : Int) < n ∧ i < 31) && bits.testBit ((first + i) % 7).toNat) := by
  unfold weekN
  have hb : bits % 128 < 128 := by omega
  rw [Nat.testBit_and, allN_bit, show (4294967296 : Nat) = 2 ^ 32 by decide, Nat.testBit_mod_two_pow, ← Nat.shiftRight_eq_div_pow, Nat.testBit_shiftRight, rowN_bit hb]
  by_cases hi : (i : Int) < n ∧ i < 31
  · have h7 : (first % 7).toNat < 7 := by omega
    rw [decide_eq_true hi, decide_eq_true (show i < 32 by omega), decide_eq_true (show (first % 7).toNat + i < 7 * 6 by omega)]
    rw [show ((first % 7).toNat + i) % 7 = ((first + i) % 7).toNat by omega]
    rw [show (128 : Nat) = 2 ^ 7 by decide, Nat.testBit_mod_two_pow, decide_eq_true (show ((first + i) % 7).toNat < 7 by omega)]
    simp
  · rw [decide_eq_false hi]; simp
theorem weekN_lt (bits : Nat) (first n : Int) : weekN bits first n < 2147483648 := Nat.lt_of_le_of_lt Nat.and_le_right (allN_lt n)
end Go.DsMk
namespace Go.Proofs.YthbfjkdklnffjaaDoor
open Go.ChangeShapes Go.WideShapes Go.ChangeAt Go.RowKit Go.DsMem Go.DsMk
set_option linter.unusedVariables false

theorem or64 (a b : Nat) (ha : a < 18446744073709551616) (hb : b < 18446744073709551616) : bits .or .u64 (a : Int) (b : Int) = ((a ||| b : Nat) : Int) := by
  have hx : a ||| b < 2 ^ 64 := Nat.or_lt_two_pow (by omega) (by omega)
  have h1 : (BitVec.ofInt 64 (a : Int)).toNat = a := by rw [BitVec.ofInt_natCast, BitVec.toNat_ofNat]; exact Nat.mod_eq_of_lt (by omega)
  have h2 : (BitVec.ofInt 64 (b : Int)).toNat = b := by rw [BitVec.ofInt_natCast, BitVec.toNat_ofNat]; exact Nat.mod_eq_of_lt (by omega)
  show IntKind.u64.wrap ((BitVec.ofInt 64 (a : Int) ||| BitVec.ofInt 64 (b : Int)).toNat : Int) = _
  rw [BitVec.toNat_or, h1, h2, IntKind.wrap_u64]
  omega
theorem and8 (a b : Nat) (ha : a < 256) (hb : b < 256) : bits .and .u8 (a : Int) (b : Int) = ((a &&& b : Nat) : Int) := by
  have hx : a &&& b < 2 ^ 8 := Nat.and_lt_two_pow _ (by omega)
  have h1 : (BitVec.ofInt 8 (a : Int)).toNat = a := by rw [BitVec.ofInt_natCast, BitVec.toNat_ofNat]; exact Nat.mod_eq_of_lt (by omega)
  have h2 : (BitVec.ofInt 8 (b : Int)).toNat = b := by rw [BitVec.ofInt_natCast, BitVec.toNat_ofNat]; exact Nat.mod_eq_of_lt (by omega)
  show IntKind.u8.wrap ((BitVec.ofInt 8 (a : Int) &&& BitVec.ofInt 8 (b : Int)).toNat : Int) = _
  rw [BitVec.toNat_and, h1, h2, IntKind.wrap_u8]
  omega
theorem or_add (p b : Nat) (hb : b < 128) : p * 128 ||| b = p * 128 + b := by
  rw [show p * 128 = 2 ^ 7 * p by omega, Nat.two_pow_add_eq_or_of_lt hb]

theorem cast_div (r a : Nat) : (r : Int) / 2 ^ a % 4294967296 = ((r / 2 ^ a % 4294967296 : Nat) : Int) := by
  rw [pow_cast]; omega
set_option maxHeartbeats 1000000 in
/-- mask.Week -/
theorem week_any (bits : Nat) (first n : Int) (w : World) (hbits : bits < 256) (hf1 : -9223372036854775808 ≤ first) (hf2 : first ≤ 9223372036854775807) :
    Calls Tryd.prog 53 #[.int .u8 bits, .int .i64 first, .int .i64 n] w fun e w' => e = .returned (.int .u32 (weekN bits first n)) ∧ w' = w := by
  obtain ⟨b, hbe⟩ : ∃ b, b = bits % 128 := ⟨_, rfl⟩
  have hb : b < 128 := by omega
  have e8 : Go.bits .and .u8 (bits : Int) 127 = (b : Int) := by
    have := and8 bits 127 hbits (by decide)
    rw [show (127 : Nat) = 2 ^ 7 - 1 by decide, Nat.and_two_pow_sub_one_eq_mod] at this
    rw [hbe]; simpa using this
  obtain ⟨t, ht⟩ : ∃ t, first.tmod 7 = t := ⟨_, rfl⟩
  have htm := Int.tmod_eq_emod (a := first) (b := 7)
  have t1 : -7 < t ∧ t < 7 ∧ (t + 7) % 7 = first % 7 := by
    rw [ht] at htm
    split at htm
    · omega
    · have : ((7 : Int).natAbs : Int) = 7 := by decide
      omega
  obtain ⟨t1, t2, t3⟩ := t1
  obtain ⟨a, ha⟩ : ∃ a : Nat, a = (first % 7).toNat := ⟨_, rfl⟩
  have ha7 : a < 7 := by omega
  have t4 : (t + 7) % 7 = (a : Int) := by omega
  have HA := hide ha
  have HB := hide hbe
  have hall := allN_lt n
  have LT := hide (rowN_lt hb)
  clear htm t3 ha hbe
  go_enter Tryd.func53, Tryd.ntmps53
  go_wp2
  go_loop [8, 13] (fun r i => ∃ j : Nat, j ≤ 6 ∧ i = .int .i64 j ∧ r = .int .u64 (rowN b j)) (fun _ i => 6 - (intOf i).toNat)
  case atStart => exact ⟨0, by omega, rfl, rfl⟩
  case round =>
    obtain ⟨j, hj, rfl, rfl⟩ := hrel
    have hl := LT.out j
    have hl2 : rowN b j < 4398046511104 := Nat.lt_of_lt_of_le hl (by have := Nat.pow_le_pow_right (show 0 < 128 by decide) hj; simpa using this)
    by_cases hlt : j < 6
    · have HR : Hid (rowN b (j + 1) = rowN b j * 128 + b) := rfl
      have eo := or64 (rowN b j * 128) b (by omega) (by omega)
      rw [or_add _ _ hb] at eo
      clear hl
      generalize rowN b j = r at *
      push_cast at eo
      go_wp2
      go_round
      case rel => exact ⟨j + 1, by omega, by go_num, by rw [HR.out]; push_cast; rfl⟩
      case measure => simp [intOf]; omega
    · obtain rfl : j = 6 := by omega
      go_wp2_with (go_at_call 54; refine (all_any _ _).mono ?_; rintro e w' ⟨rfl, rfl⟩)
      go_ret
      refine ⟨ret_int ?_, rfl⟩
      rw [cast_div, and32 _ _ (by omega) (by omega), HB.out, HA.out]; rfl
end Go.Proofs.YthbfjkdklnffjaaDoor

/- The walks of mask.Days and mask.Month.List. -/
namespace Go.DsMk
/-- the day of a number, in n days -/
def dayOf (n k : Int) : Int := if k < 0 then IntKind.i64.wrap (IntKind.i64.wrap (n + k) + 1) else k
/-- the days of numbers, all -/
def daysR (n : Int) (l : List Int) : Nat := l.foldl (fun m k => m ||| oneN (dayOf n k)) 0
theorem daysR_snoc (n : Int) (l : List Int) (k : Int) : daysR n (l ++ [k]) = daysR n l ||| oneN (dayOf n k) := by
  unfold daysR; rw [List.foldl_append]; rfl
theorem foldl_or_lt (n : Int) (l : List Int) : ∀ a, a < 2147483648 → l.foldl (fun m k => m ||| oneN (dayOf n k)) a < 2147483648 := by
  induction l with
  | nil => intro a h; exact h
  | cons k l ih => intro a h; exact ih _ (Nat.or_lt_two_pow (n := 31) h (oneN_lt _))
theorem daysR_lt (n : Int) (l : List Int) : daysR n l < 2147483648 := foldl_or_lt n l 0 (by decide)
theorem foldl_or_bit (n : Int) (i : Nat) (l : List Int) : ∀ a : Nat, (l.foldl (fun m k => m ||| oneN (dayOf n k)) a).testBit i = (a.testBit i || l.any fun k => decide (dayOf n k = (i : Int) + 1 ∧ i < 31)) := by
  induction l with
  | nil => intro a; simp
  | cons k l ih => intro a; rw [List.foldl_cons, ih, Nat.testBit_or, oneN_bit, List.any_cons, Bool.or_assoc]
/-- the days of numbers -/
def daysN (n : Int) (l : List Int) : Nat := daysR n l &&& allN n
theorem daysN_lt (n : Int) (l : List Int) : daysN n l < 2147483648 := Nat.lt_of_le_of_lt Nat.and_le_right (allN_lt n)
theorem daysN_bit (n : Int) (l : List Int) (i : Nat) (hn : -9223372036854775808 ≤ n ∧ n ≤ 9223372036854775807) (hl : ∀ k ∈ l, -9223372036854775808 ≤ k ∧ k ≤ 9223372036854775807) :
    (daysN n l).testBit i = decide ((i : Int) < n ∧ i < 31 ∧ ∃ k ∈ l, k = (i : Int) + 1 ∨ k < 0 ∧ k = (i : Int) - n) := by
  unfold daysN daysR
  rw [Nat.testBit_and, allN_bit, foldl_or_bit, Nat.zero_testBit, Bool.false_or, Bool.eq_iff_iff, Bool.and_eq_true, List.any_eq_true, decide_eq_true_eq, decide_eq_true_eq]
  have key : ∀ k ∈ l, (i : Int) < n → i < 31 → (dayOf n k = (i : Int) + 1 ↔ (k = (i : Int) + 1 ∨ k < 0 ∧ k = (i : Int) - n)) := by
    intro k hk h1 h2
    have := hl k hk
    unfold dayOf
    split
    · have e1 : IntKind.i64.wrap (n + k) = n + k := by rw [IntKind.wrap_i64]; omega
      rw [e1]
      have e2 : IntKind.i64.wrap (n + k + 1) = n + k + 1 := by rw [IntKind.wrap_i64]; omega
      rw [e2]; omega
    · omega
  constructor
  · rintro ⟨⟨k, hk, hb⟩, h1, h2⟩
    rw [decide_eq_true_eq] at hb
    exact ⟨h1, h2, k, hk, (key k hk h1 h2).1 hb.1⟩
  · rintro ⟨h1, h2, k, hk, hb⟩
    exact ⟨⟨k, hk, by rw [decide_eq_true_eq]; exact ⟨(key k hk h1 h2).2 hb, h2⟩⟩, h1, h2⟩
end Go.DsMk
namespace Go.Proofs.YthbfjkdklnffjaaDoor
open Go.ChangeShapes Go.WideShapes Go.ChangeAt Go.RowKit Go.DsMem Go.DsMk
set_option linter.unusedVariables false
set_option maxHeartbeats 1000000 in
/-- mask.Days -/
theorem days_any (l : List Int) (n : Int) (sl : Value) (w : World) (h : RdI w sl l) (hl : l.length ≤ 140737488355328) (hn1 : -9223372036854775808 ≤ n) (hn2 : n ≤ 9223372036854775807) (hk : ∀ k ∈ l, -9223372036854775808 ≤ k ∧ k ≤ 9223372036854775807) :
    Calls Tryd.prog 37 #[sl, .int .i64 n] w fun e w' => e = .returned (.int .u32 (daysN n l)) ∧ w' = w := by
  obtain ⟨ao, cap, rfl, hlc, hnil, hrd⟩ := h
  have HK := hide hk
  clear hk
  have hall := allN_lt n
  go_enter Tryd.func37, Tryd.ntmps37
  go_wp2
  go_loop [5, 10] (fun m i => ∃ k : Nat, k ≤ l.length ∧ i = .int .i64 k ∧ m = .int .u32 (daysR n (l.take k))) (fun _ i => l.length - (intOf i).toNat)
  case atStart => exact ⟨0, Nat.zero_le _, rfl, rfl⟩
  case round =>
    obtain ⟨k, hk, rfl, rfl⟩ := hrel
    have hm := daysR_lt n (l.take k)
    by_cases hlt : k < l.length
    · obtain ⟨a, rfl⟩ : ∃ a, ao = some a := by
        cases ao with
        | none => have := hnil rfl; omega
        | some a => exact ⟨a, rfl⟩
      have hc := hrd a rfl k l[k] (List.getElem?_eq_getElem hlt)
      clear hrd hnil
      have hkb := HK.out l[k] (List.getElem_mem hlt)
      have HS : Hid (daysR n (l.take (k + 1)) = daysR n (l.take k) ||| oneN (dayOf n l[k])) := by show _ = _; rw [List.take_succ_eq_append_getElem hlt, daysR_snoc]
      generalize daysR n (l.take k) = m at *
      generalize l[k] = x at *
      obtain ⟨hx1, hx2⟩ := hkb
      have ho := oneN_lt (dayOf n x)
      have e := or32 m (oneN (dayOf n x)) (by omega) (by omega)
      have HE := hide e
      have HO := hide ho
      generalize hoe : oneN (dayOf n x) = o at *
      have HOE := hide hoe
      have hob : o < 2147483648 := HO.out
      have eo : bits .or .u32 (m : Int) (o : Int) = ((m ||| o : Nat) : Int) := HE.out
      clear HE HO e ho hoe
      have hmo : m ||| o < 4294967296 := Nat.or_lt_two_pow (n := 32) (by omega) (by omega)
      generalize m ||| o = mo at *
      by_cases hx : x < 0
      · have HD : Hid (oneN (wrap64 (wrap64 (n + x) + 1)) = o) := by
          show _ = _
          have := HOE.out
          unfold dayOf at this
          rw [if_pos hx, IntKind.wrap_i64, IntKind.wrap_i64] at this
          unfold wrap64
          exact this
        go_wp2_with (go_at_call 44; refine (one_any _ _).mono ?_; rw [HD.out]; rintro e w' ⟨rfl, rfl⟩)
        go_round
        case rel => exact ⟨k + 1, by omega, by go_num, by rw [HS.out]⟩
        case measure => simp [intOf]; omega
      · have HD : Hid (oneN x = o) := by show _ = _; have := HOE.out; unfold dayOf at this; rwa [if_neg hx] at this
        go_wp2_with (go_at_call 44; refine (one_any _ _).mono ?_; rw [HD.out]; rintro e w' ⟨rfl, rfl⟩)
        go_round
        case rel => exact ⟨k + 1, by omega, by go_num, by rw [HS.out]⟩
        case measure => simp [intOf]; omega
    · have HE : Hid (daysR n (l.take k) = daysR n l) := by show _ = _; rw [List.take_of_length_le (by omega)]
      have e := and32 (daysR n (l.take k)) (allN n) (by omega) (by omega)
      generalize hre : daysR n (l.take k) = m at *
      have HRE := hide hre
      clear hre
      go_wp2_with (go_at_call 54; refine (all_any _ _).mono ?_; rintro e w' ⟨rfl, rfl⟩)
      go_ret
      exact ⟨ret_int (by unfold daysN; rw [← HE.out]), rfl⟩

theorem info64 : (Tryd.prog.info? 2).map (fun i => (i.zero, i.size, i.bytes)) = some (some (.int .i64 0), 1, 8) := by kernel_rfl
theorem one_i64 (x : Int) : ∀ u ∈ [Value.int .i64 x], u.oneCell' = true := by
  intro u hu; simp at hu; subst hu; rfl
def i64s (l : List Int) : List Value := l.map (Value.int .i64)
theorem rel_push64 {B k : Nat} {w wr w1 : World} {v v' : Value} {xs : List Int} {x : Int} {o : Obj} (hB : B ≤ wr.heap.size)
    (hown : wr.ownsRow B 2 1 v k (i64s xs)) (hnx : Below B w wr)
    (hown' : w1.ownsRow B 2 1 v' (k + 1) (i64s xs ++ [.int .i64 x])) (hgrow : (wr.alloc o).grownBy w1 v.ownBlock) :
    w1.ownsRow B 2 1 v' (k + 1) (i64s (xs ++ [x])) ∧ Below B w w1 :=
  ⟨by simpa [i64s] using hown', (hnx.alloc hB o).grown hgrow (by simp; omega) (fun j hj => (hown.lt j hj).1)⟩
theorem RdI.own {w : World} {B : Nat} {v : Value} {n : Nat} {l : List Int} (h : w.ownsRow B 2 1 v n (i64s l)) : RdI w v l := by
  have hn : n = l.length := by have := h.1; simp [i64s] at this; omega
  subst hn
  rcases h.2 with ⟨rfl, h0⟩ | ⟨g, cap, cur, rfl, hb, hg, h1, h2, h3, h4⟩
  · exact ⟨none, 0, by rw [h0], by omega, fun _ => ⟨h0, rfl⟩, fun _ h => by cases h⟩
  · refine ⟨some ⟨g, 0, none⟩, cap, rfl, h1, fun h => (by cases h), fun a ha j u hu => ?_⟩
    obtain rfl : (⟨g, 0, none⟩ : Addr) = a := Option.some.inj ha
    exact h.cells (g := g) rfl j (.int .i64 u) (by simp [i64s, hu])

def ints (l : List Nat) : List Int := l.map fun x : Nat => (x : Int)
theorem next_idx (l : List Nat) (hs : l.Pairwise (· < ·)) (hp : ∀ z ∈ l, 1 ≤ z) (j : Nat) (hj : j < l.length) : nextL l (l[j] : Int) = l[j + 1]?.getD 0 := by
  unfold nextL
  have e : l.filter (fun z : Nat => decide ((l[j] : Int) < (z : Int))) = l.drop (j + 1) := by
    have hsplit : l = l.take (j + 1) ++ l.drop (j + 1) := (List.take_append_drop _ _).symm
    have hA : ∀ z ∈ l.take (j + 1), ¬ l[j] < z := by
      intro z hz hlt
      obtain ⟨i, hi, rfl⟩ := List.getElem_of_mem hz
      rw [List.length_take] at hi
      rw [List.getElem_take] at hlt
      have hij : i ≤ j := by omega
      rcases Nat.lt_or_eq_of_le hij with h | rfl
      · have := List.pairwise_iff_getElem.1 hs i j (by omega) hj h; omega
      · omega
    have hB : ∀ z ∈ l.drop (j + 1), l[j] < z := by
      intro z hz
      obtain ⟨i, hi, rfl⟩ := List.getElem_of_mem hz
      rw [List.length_drop] at hi
      rw [List.getElem_drop]
      exact List.pairwise_iff_getElem.1 hs j (j + 1 + i) hj (by omega) (by omega)
    have e1 : (l.take (j + 1)).filter (fun z : Nat => decide ((l[j] : Int) < (z : Int))) = [] := List.filter_eq_nil_iff.2 (fun z hz => by have := hA z hz; simp; omega)
    have e2 : (l.drop (j + 1)).filter (fun z : Nat => decide ((l[j] : Int) < (z : Int))) = l.drop (j + 1) := List.filter_eq_self.2 (fun z hz => by have := hB z hz; simp; omega)
    have := List.filter_append (p := fun z : Nat => decide ((l[j] : Int) < (z : Int))) (l.take (j + 1)) (l.drop (j + 1))
    rw [List.take_append_drop, e1, e2, List.nil_append] at this
    exact this
  rw [e, List.head?_drop]

end Go.Proofs.YthbfjkdklnffjaaDoor

/- What the laws of package mask hold on to: the table stands, nothing old has turned; package mask's contracts under it. The walk of known. -/
namespace Go.Proofs.YthbfjkdklnffjaaDoor
open Go.ChangeShapes Go.WideShapes Go.ChangeAt Go.RowKit Go.DsMem Go.DsMk
set_option linter.unusedVariables false

/-- out of W, with the table there, has come w: nothing old has turned -/
structure Gd (W w : World) : Prop where
  tab : TabT W
  below : Below W.heap.size W w
theorem Gd.here {W : World} (h : TabT W) : Gd W W := ⟨h, Below.refl _ _⟩
theorem Gd.tabT {W w : World} (h : Gd W w) : TabT w := fun q hq => Below.keeps h.below (Nat.le_refl _) (h.tab q hq)
theorem Gd.more {W w w' : World} (h : Gd W w) (hb : Below w.heap.size w w') : Gd W w' := ⟨h.tab, h.below.trans (hb.mono h.below.size)⟩
theorem Gd.drewN {W w : World} (h : Gd W w) (n : Nat) : Gd W (w.drewN n) := h.more (below_drewN _ _)
theorem Gd.drew {W w : World} (h : Gd W w) : Gd W w.drew := h.more (Below.refl _ _).drew
theorem Gd.alloc {W w : World} (h : Gd W w) (o : Obj) : Gd W (w.alloc o) := h.more ((Below.refl _ _).alloc (Nat.le_refl _) o)

theorem Gd.all {W w : World} (h : Gd W w) (n : Int) : Calls Tryd.prog 54 #[.int .i64 n] w fun e w' => e = .returned (.int .u32 (allN n)) ∧ Gd W w' :=
  (all_any n w).mono fun _ _ ⟨he, hw⟩ => ⟨he, by rw [hw]; exact h⟩
theorem Gd.week {W w : World} (h : Gd W w) (bits : Nat) (first n : Int) (hbits : bits < 256) (hf1 : -9223372036854775808 ≤ first) (hf2 : first ≤ 9223372036854775807) {x : Nat} (hx : weekN bits first n = x) :
    Calls Tryd.prog 53 #[.int .u8 bits, .int .i64 first, .int .i64 n] w fun e w' => e = .returned (.int .u32 x) ∧ Gd W w' :=
  (week_any bits first n w hbits hf1 hf2).mono fun _ _ ⟨he, hw⟩ => ⟨by rw [he, hx], by rw [hw]; exact h⟩
theorem Gd.has {W w : World} (h : Gd W w) (x : Nat) (d : Int) (hx : x < 4294967296) {b : Bool} (hb : hasB x d = b) :
    Calls Tryd.prog 28 #[.int .u32 x, .int .i64 d] w fun e w' => e = .returned (.bool b) ∧ Gd W w' :=
  (has_any x d w hx).mono fun _ _ ⟨he, hw⟩ => ⟨by rw [he, hb], by rw [hw]; exact h⟩
theorem Gd.count {W w : World} (h : Gd W w) (x : Nat) (hx : x < 4294967296) {c : Nat} (hc : (dl x).length = c) :
    Calls Tryd.prog 56 #[.int .u32 x] w fun e w' => e = .returned (.int .i64 c) ∧ Gd W w' :=
  (count_any x w hx).mono fun _ _ ⟨he, n, hw⟩ => ⟨by rw [he, hc], by rw [hw]; exact h.drewN n⟩
theorem Gd.nth {W w : World} (h : Gd W w) (x : Nat) (k : Int) (hx : x < 4294967296) (hk1 : -9223372036854775808 ≤ k) (hk2 : k ≤ 9223372036854775807) {c : Nat} (hc : nthL (dl x) k = c) :
    Calls Tryd.prog 40 #[.int .u32 x, .int .i64 k] w fun e w' => e = .returned (.int .i64 c) ∧ Gd W w' :=
  (nth_any x k w hx h.tabT hk1 hk2).mono fun _ _ ⟨he, n, hw⟩ => ⟨by rw [he, hc], by rw [hw]; exact h.drewN n⟩
theorem Gd.next {W w : World} (h : Gd W w) (x : Nat) (k : Int) (hx : x < 4294967296) {c : Nat} (hc : nextL (dl x) k = c) :
    Calls Tryd.prog 57 #[.int .u32 x, .int .i64 k] w fun e w' => e = .returned (.int .i64 c) ∧ Gd W w' :=
  (next_any x k w hx h.tabT).mono fun _ _ ⟨he, hw⟩ => ⟨by rw [he, hc], by rw [hw]; exact h⟩
theorem Gd.not {W w : World} (h : Gd W w) (x : Nat) (n : Int) (hx : x < 4294967296) {c : Nat} (hc : difN (allN n) x = c) :
    Calls Tryd.prog 43 #[.int .u32 x, .int .i64 n] w fun e w' => e = .returned (.int .u32 c) ∧ Gd W w' :=
  (not_any x n w hx).mono fun _ _ ⟨he, hw⟩ => ⟨by rw [he, hc], by rw [hw]; exact h⟩

theorem Gd.week_k {W w : World} (h : Gd W w) {x : Nat} (hx : weekN 31 3 29 = x) :
    Calls Tryd.prog 53 #[.int .u8 31, .int .i64 3, .int .i64 29] w fun e w' => e = .returned (.int .u32 x) ∧ Gd W w' :=
  h.week 31 3 29 (by decide) (by decide) (by decide) hx

end Go.Proofs.YthbfjkdklnffjaaDoor

