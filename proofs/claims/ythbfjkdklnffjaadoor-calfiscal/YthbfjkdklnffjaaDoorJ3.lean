/- Some parts of the proof, one behind the other. -/
import Derived.Test.YthbfjkdklnffjaaDoorRows
import Derived.WalkKit
import Derived.ProofKit
import Derived.OpenShut
import Derived.Handy
import Derived.WalkSpells
/- Plain mathematics of the Gregorian calendar: no Go in sight. -/
namespace DsCal

def lp (y : Int) : Int := if y % 4 = 0 ∧ (y % 100 ≠ 0 ∨ y % 400 = 0) then 1 else 0
def leapB (y : Int) : Bool := decide (y % 4 = 0 ∧ (y % 100 ≠ 0 ∨ y % 400 = 0))
def dlen (y m : Int) : Int :=
  if m < 1 ∨ 12 < m then 0 else if m = 2 then 28 + lp y else if m = 4 ∨ m = 6 ∨ m = 9 ∨ m = 11 then 30 else 31
def cum (y m : Int) : Int :=
  if m ≤ 1 then 0 else if m = 2 then 31 else if m = 3 then 59 + lp y else if m = 4 then 90 + lp y else if m = 5 then 120 + lp y
  else if m = 6 then 151 + lp y else if m = 7 then 181 + lp y else if m = 8 then 212 + lp y else if m = 9 then 243 + lp y
  else if m = 10 then 273 + lp y else if m = 11 then 304 + lp y else if m = 12 then 334 + lp y else 365 + lp y
def ahead (y : Int) : Int := 365 * (y - 1) + (y - 1) / 4 - (y - 1) / 100 + (y - 1) / 400
def num (y m d : Int) : Int := ahead y + cum y m + d
def vld (y m d : Int) : Prop := 1 ≤ y ∧ y ≤ 9999 ∧ 1 ≤ d ∧ d ≤ dlen y m
def vldB (y m d : Int) : Bool := decide (1 ≤ y ∧ y ≤ 9999 ∧ 1 ≤ d ∧ d ≤ dlen y m)

theorem vldB_iff (y m d : Int) : vldB y m d = true ↔ vld y m d := by simp [vldB, vld]

theorem lp01 (y : Int) : 0 ≤ lp y ∧ lp y ≤ 1 := by unfold lp; split <;> omega

theorem lp_leap (y : Int) : lp y = if leapB y then 1 else 0 := by
  unfold lp leapB; by_cases h : y % 4 = 0 ∧ (y % 100 ≠ 0 ∨ y % 400 = 0) <;> simp [h]

theorem ahead_succ (y : Int) : ahead (y + 1) = ahead y + 365 + lp y := by
  unfold ahead lp
  have e : y + 1 - 1 = y := by omega
  rw [e]
  split <;> omega

theorem ahead_mono {a b : Int} (h : a ≤ b) : ahead a + 365 * (b - a) ≤ ahead b := by
  unfold ahead; omega

theorem ahead_bd (y : Int) (h1 : 1 ≤ y) (h2 : y ≤ 10000) : 0 ≤ ahead y ∧ ahead y ≤ 3652059 := by
  unfold ahead; omega

theorem months {m : Int} (h1 : 1 ≤ m) (h2 : m ≤ 12) : m = 1 ∨ m = 2 ∨ m = 3 ∨ m = 4 ∨ m = 5 ∨ m = 6 ∨ m = 7 ∨ m = 8 ∨ m = 9 ∨ m = 10 ∨ m = 11 ∨ m = 12 := by omega

theorem dlen_range {y m : Int} (h : 1 ≤ dlen y m) : 1 ≤ m ∧ m ≤ 12 := by
  unfold dlen at h
  by_cases c : m < 1 ∨ 12 < m
  · rw [if_pos c] at h; omega
  · omega

theorem dlen_bd {y m : Int} (h1 : 1 ≤ m) (h2 : m ≤ 12) : 28 ≤ dlen y m ∧ dlen y m ≤ 31 := by
  have := lp01 y
  unfold dlen; repeat' split
  all_goals omega

theorem dlen_any (y m : Int) : 0 ≤ dlen y m ∧ dlen y m ≤ 31 := by
  have := lp01 y
  unfold dlen; repeat' split
  all_goals omega

theorem cum_succ {y m : Int} (h1 : 1 ≤ m) (h2 : m ≤ 12) : cum y (m + 1) = cum y m + dlen y m := by
  rcases months h1 h2 with h | h | h | h | h | h | h | h | h | h | h | h <;> subst h <;> simp [cum, dlen] <;> omega

theorem cum_one (y : Int) : cum y 1 = 0 := by simp [cum]
theorem cum_end (y : Int) : cum y 13 = 365 + lp y := by simp [cum]

theorem cum_bd {y m : Int} (h1 : 1 ≤ m) (h2 : m ≤ 13) : 0 ≤ cum y m ∧ cum y m ≤ 366 := by
  have := lp01 y
  by_cases c : m = 13
  · subst c; simp [cum]; omega
  · rcases months h1 (show m ≤ 12 by omega) with h | h | h | h | h | h | h | h | h | h | h | h <;> subst h <;> simp [cum] <;> omega

theorem cum_step {y a : Int} (k : Nat) (h1 : 1 ≤ a) (h2 : a + k ≤ 13) : cum y a ≤ cum y (a + k) := by
  induction k with
  | zero => simp
  | succ k ih =>
    have i := ih (by omega)
    have j := cum_succ (y := y) (m := a + k) (by omega) (by omega)
    have l := dlen_any y (a + k)
    have e : a + ((k + 1 : Nat) : Int) = a + k + 1 := by omega
    rw [e, j]; omega

theorem cum_lt {y a b : Int} (h1 : 1 ≤ a) (h : a < b) (h2 : b ≤ 13) : cum y a + dlen y a ≤ cum y b := by
  rw [← cum_succ h1 (by omega)]
  have e : b = a + 1 + ((b - a - 1).toNat : Int) := by omega
  rw [e]
  exact cum_step _ (by omega) (by omega)

/-- the day of the year is within the year -/
theorem doy_bd {y m d : Int} (h : vld y m d) : 1 ≤ cum y m + d ∧ cum y m + d ≤ 365 + lp y := by
  obtain ⟨_, _, h3, h4⟩ := h
  have hm := dlen_range (y := y) (m := m) (by omega)
  have c := cum_bd (y := y) hm.1 (by omega)
  have e := cum_lt (y := y) hm.1 (show m < 13 by omega) (by omega)
  rw [cum_end] at e
  omega

theorem num_bd {y m d : Int} (h : vld y m d) : 1 ≤ num y m d ∧ num y m d ≤ 3652059 := by
  have a := doy_bd h
  obtain ⟨h1, h2, _, _⟩ := h
  have b := ahead_bd y h1 (by omega)
  have c := ahead_bd (y + 1) (by omega) (by omega)
  rw [ahead_succ] at c
  unfold num; omega

/-- the later of two dates has the greater day -/
def earlier (y m d z n e : Int) : Prop := y < z ∨ (y = z ∧ m < n) ∨ (y = z ∧ m = n ∧ d < e)

theorem num_lt {y m d z n e : Int} (h : vld y m d) (k : vld z n e) (l : earlier y m d z n e) : num y m d < num z n e := by
  rcases l with l | ⟨rfl, l⟩ | ⟨rfl, rfl, l⟩
  · have a := doy_bd h
    have b := doy_bd k
    have c := ahead_mono (show y + 1 ≤ z by omega)
    rw [ahead_succ] at c
    unfold num; omega
  · have h4 := h.2.2.2
    have h3 := h.2.2.1
    have k3 := k.2.2.1
    have k4 := k.2.2.2
    have hm := dlen_range (y := y) (m := m) (by omega)
    have hn := dlen_range (y := y) (m := n) (by omega)
    have c := cum_lt (y := y) hm.1 l (by omega)
    unfold num; omega
  · unfold num; omega

theorem earlier_or (y m d z n e : Int) : earlier y m d z n e ∨ (y = z ∧ m = n ∧ d = e) ∨ earlier z n e y m d := by
  unfold earlier; omega

theorem num_inj {y m d z n e : Int} (h : vld y m d) (k : vld z n e) (l : num y m d = num z n e) : y = z ∧ m = n ∧ d = e := by
  rcases earlier_or y m d z n e with a | a | a
  · have := num_lt h k a; omega
  · exact a
  · have := num_lt k h a; omega

theorem num_lt_iff {y m d z n e : Int} (h : vld y m d) (k : vld z n e) : num y m d < num z n e ↔ earlier y m d z n e := by
  constructor
  · intro l
    rcases earlier_or y m d z n e with a | ⟨rfl, rfl, rfl⟩ | a
    · exact a
    · omega
    · have := num_lt k h a; omega
  · exact num_lt h k

/-- the year and the day of the year, from the day -/
theorem year_ok {n y l : Int} (h2 : n ≤ 3652059) (e : ahead y + l = n - 1) (l0 : 0 ≤ l) : y ≤ 9999 := by
  by_cases c : y ≤ 9999
  · exact c
  · have := ahead_mono (show (10000 : Int) ≤ y by omega)
    have : ahead 10000 = 3652059 := by decide
    omega

theorem date_of {n y m d l : Int} (h2 : n ≤ 3652059) (hy : 1 ≤ y) (e : ahead y + l = n - 1) (l0 : 0 ≤ l) (hd : l - cum y m + 1 = d) (d1 : 1 ≤ d) (d2 : d ≤ dlen y m) :
    vld y m d ∧ num y m d = n :=
  ⟨⟨hy, year_ok h2 e l0, d1, d2⟩, by unfold num; omega⟩

/-- there is a date of each day: years are found by 400, 100, 4 and 1 -/
def y0 (n : Int) : Int := 1 + (n - 1) / 146097 * 400 + min ((n - 1) % 146097 / 36524) 3 * 100 + ((n - 1) % 146097 - min ((n - 1) % 146097 / 36524) 3 * 36524) / 1461 * 4
def r0 (n : Int) : Int := ((n - 1) % 146097 - min ((n - 1) % 146097 / 36524) 3 * 36524) % 1461

theorem y0_ahead {n : Int} (h1 : 1 ≤ n) : ahead (y0 n) + r0 n = n - 1 ∧ 1 ≤ y0 n ∧ y0 n % 4 = 1 ∧ 0 ≤ r0 n ∧ r0 n ≤ 1460 ∧ (r0 n = 1460 → lp (y0 n + 3) = 1) := by
  unfold y0 r0
  generalize ha : (n - 1) / 146097 = a
  generalize hb : (n - 1) % 146097 = b
  have hb0 : 0 ≤ b ∧ b < 146097 := by omega
  have ha0 : 0 ≤ a := by omega
  have hab : n - 1 = 146097 * a + b := by omega
  generalize hc : min (b / 36524) 3 = c
  have hc0 : 0 ≤ c ∧ c ≤ 3 := by omega
  generalize hd : b - c * 36524 = d
  have hd0 : 0 ≤ d ∧ d ≤ 36524 ∧ (d = 36524 → c = 3) := by omega
  generalize he : d / 1461 = e
  generalize hf : d % 1461 = f
  have he0 : 0 ≤ e ∧ e ≤ 24 ∧ 0 ≤ f ∧ f ≤ 1460 ∧ d = 1461 * e + f := by omega
  refine ⟨?_, by omega, by omega, by omega, by omega, ?_⟩
  · unfold ahead
    have q1 : (1 + a * 400 + c * 100 + e * 4 - 1) / 4 = 100 * a + 25 * c + e := by omega
    have q2 : (1 + a * 400 + c * 100 + e * 4 - 1) / 100 = 4 * a + c := by omega
    have q3 : (1 + a * 400 + c * 100 + e * 4 - 1) / 400 = a := by omega
    rw [q1, q2, q3]; omega
  · intro h
    unfold lp
    rw [if_pos]
    by_cases g : e = 24
    · have : c = 3 := by omega
      subst this; subst g; omega
    · omega

/-- Go's remainder, by a positive divisor -/
theorem tm (a k : Int) : (a.tmod k = 0 ↔ a % k = 0) := by
  rw [← Int.dvd_iff_tmod_eq_zero, Int.dvd_iff_emod_eq_zero]
theorem tmneg (a k : Int) (hk : 0 < k) (h : a.tmod k < 0) : a.tmod k + k = a % k := by
  rw [Int.tmod_eq_emod] at h ⊢
  have := Int.emod_nonneg a (b := k) (by omega)
  split at h
  · omega
  · simp only [if_neg (by assumption)]; omega
theorem tmpos (a k : Int) (hk : 0 < k) (h : 0 ≤ a.tmod k) : a.tmod k = a % k := by
  rw [Int.tmod_eq_emod] at h ⊢
  have := Int.emod_lt_of_pos a hk
  by_cases c : 0 ≤ a ∨ k ∣ a
  · rw [if_pos c]; omega
  · rw [if_neg c] at h; omega

theorem leapB_a (y : Int) (h1 : y.tmod 4 = 0) (h2 : y.tmod 100 = 0) : (y.tmod 400 == 0) = leapB y := by
  rw [tm] at h1 h2
  rw [Bool.eq_iff_iff]; simp only [leapB, beq_iff_eq, decide_eq_true_eq, tm]; omega
theorem leapB_b (y : Int) (h1 : y.tmod 4 = 0) (h2 : ¬ y.tmod 100 = 0) : true = leapB y := by
  rw [tm] at h1 h2
  exact (decide_eq_true (p := y % 4 = 0 ∧ (y % 100 ≠ 0 ∨ y % 400 = 0)) ⟨h1, .inl h2⟩).symm
theorem lp_yes {y : Int} (h : leapB y = true) : lp y = 1 := by rw [lp_leap, h]; rfl
theorem lp_no {y : Int} (h : leapB y = false) : lp y = 0 := by rw [lp_leap, h]; rfl
theorem leapB_of {y : Int} {p q r : Bool} (hp : p = (y % 4 == 0)) (hq : q = (y % 100 != 0)) (hr : r = (y % 400 == 0)) : (p && (q || r)) = leapB y := by
  subst hp hq hr
  rw [Bool.eq_iff_iff]; simp only [leapB, Bool.and_eq_true, Bool.or_eq_true, beq_iff_eq, bne_iff_ne, decide_eq_true_eq]
theorem leapB_c (y : Int) (h1 : ¬ y.tmod 4 = 0) : (y.tmod 400 == 0) = leapB y := by
  rw [tm] at h1
  rw [Bool.eq_iff_iff]; simp only [leapB, beq_iff_eq, decide_eq_true_eq, tm]; omega

theorem leapE_a (y : Int) (h1 : y % 4 = 0) (h2 : y % 100 = 0) : (y % 400 == 0) = leapB y := by
  rw [Bool.eq_iff_iff]; simp only [leapB, beq_iff_eq, decide_eq_true_eq]; omega
theorem leapE_b (y : Int) (h1 : y % 4 = 0) (h2 : ¬ y % 100 = 0) : true = leapB y :=
  (decide_eq_true (p := y % 4 = 0 ∧ (y % 100 ≠ 0 ∨ y % 400 = 0)) ⟨h1, .inl h2⟩).symm
theorem leapE_c (y : Int) (h1 : ¬ y % 4 = 0) : false = leapB y :=
  (decide_eq_false (p := y % 4 = 0 ∧ (y % 100 ≠ 0 ∨ y % 400 = 0)) (fun h => h1 h.1)).symm

/-- the months' lengths, of a year that is no leap year -/
def plen (m : Int) : Int := if m = 2 then 28 else if m = 4 ∨ m = 6 ∨ m = 9 ∨ m = 11 then 30 else 31
theorem dlen_no {y m : Int} (h : m < 1 ∨ 12 < m) : dlen y m = 0 := by unfold dlen; rw [if_pos h]
theorem dlen_two (y : Int) : dlen y 2 = 28 + lp y := by simp [dlen]
theorem dlen_else {y m : Int} (h1 : 1 ≤ m) (h2 : m ≤ 12) (h3 : m ≠ 2) : dlen y m = plen m := by
  unfold dlen plen; rw [if_neg (by omega), if_neg h3, if_neg h3]

/-- whether a day can be -/
def rightB (n : Int) : Bool := decide (1 ≤ n ∧ n ≤ 3652059)
theorem rightB_yes {n : Int} (h1 : 1 ≤ n) (h2 : n ≤ 3652059) : rightB n = true := decide_eq_true ⟨h1, h2⟩
theorem rightB_no {n : Int} (h : n < 1 ∨ 3652059 < n) : rightB n = false := decide_eq_false (by omega)

theorem rightB_a {n : Int} (h : 1 ≤ n) : decide (n ≤ 3652059) = rightB n := by
  unfold rightB; rw [Bool.eq_iff_iff]; simp only [decide_eq_true_eq]; omega

theorem lp_mid {y : Int} (k : Nat) (h : y % 4 = 1) (hk : k < 3) : lp (y + k) = 0 := by unfold lp; rw [if_neg]; omega
theorem yearOf_end {n : Int} {k : Nat} (h1 : 1 ≤ n) (hk : k ≤ 3) (h : k = 3 ∨ r0 n - 365 * k < 365) (h0 : 0 ≤ r0 n - 365 * k) :
    ahead (y0 n + k) + (r0 n - 365 * k) = n - 1 ∧ 1 ≤ y0 n + k ∧ r0 n - 365 * k < 365 + lp (y0 n + k) := by
  obtain ⟨a, b, c, d, e, f⟩ := y0_ahead h1
  have s0 := ahead_succ (y0 n)
  have s1 := ahead_succ (y0 n + 1)
  have s2 := ahead_succ (y0 n + 2)
  have l0 : lp (y0 n) = 0 := by simpa using lp_mid 0 c (by omega)
  have l1 : lp (y0 n + 1) = 0 := by simpa using lp_mid 1 c (by omega)
  have l2 : lp (y0 n + 2) = 0 := by simpa using lp_mid 2 c (by omega)
  have l3 := lp01 (y0 n + 3)
  rw [show y0 n + 1 + 1 = y0 n + 2 by omega] at s1
  rw [show y0 n + 2 + 1 = y0 n + 3 by omega] at s2
  have hk' : k = 0 ∨ k = 1 ∨ k = 2 ∨ k = 3 := by omega
  rcases hk' with rfl | rfl | rfl | rfl
  · rw [show y0 n + ((0 : Nat) : Int) = y0 n by omega]; omega
  · rw [show y0 n + ((1 : Nat) : Int) = y0 n + 1 by omega]; omega
  · rw [show y0 n + ((2 : Nat) : Int) = y0 n + 2 by omega]; omega
  · rw [show y0 n + ((3 : Nat) : Int) = y0 n + 3 by omega]; omega

theorem y0_bd {n : Int} (h1 : 1 ≤ n) (h2 : n ≤ 3652059) : 1 ≤ y0 n ∧ y0 n ≤ 9999 := by
  obtain ⟨a, b, c, d, e, f⟩ := y0_ahead h1
  exact ⟨b, year_ok h2 a d⟩
theorem r0_bd (n : Int) : 0 ≤ r0 n ∧ r0 n ≤ 1460 := by unfold r0; omega
theorem lp_y0 {n : Int} {k : Nat} (h1 : 1 ≤ n) (hk : k < 3) : lp (y0 n + k) = 0 := lp_mid k (y0_ahead h1).2.2.1 hk

/-- the month and the day of the month, by a search -/
theorem month_end {n y l m : Int} (h2 : n ≤ 3652059) (hy : 1 ≤ y) (e : ahead y + l = n - 1) (h0 : 0 ≤ l) (hl : l < 365 + lp y) (m1 : 1 ≤ m) (m2 : m ≤ 12) (hc : 0 ≤ l - cum y m) (hd : m = 12 ∨ l - cum y m < dlen y m) :
    vld y m (l - cum y m + 1) ∧ num y m (l - cum y m + 1) = n := by
  refine date_of h2 hy e h0 rfl (by omega) ?_
  rcases hd with rfl | hd
  · have a := cum_succ (y := y) (m := 12) (by omega) (by omega)
    have b := cum_end y
    rw [show (12 : Int) + 1 = 13 by omega] at a
    omega
  · omega
theorem ref_start {n : Int} (h1 : 1 ≤ n) : 1 ≤ n / 366 + 1 ∧ ahead (n / 366 + 1) < n := by unfold ahead; omega
theorem ref_year {n y : Int} (h2 : n ≤ 3652059) (h : ahead y < n) : y ≤ 9999 :=
  year_ok (n := n) (l := n - 1 - ahead y) h2 (by omega) (by omega)
theorem ref_end {n y m : Int} (h2 : n ≤ 3652059) (hy : 1 ≤ y) (h : ahead y < n) (hn : n ≤ ahead (y + 1)) (m1 : 1 ≤ m) (m2 : m ≤ 12) (hc : 1 ≤ n - ahead y - cum y m) (hd : m = 12 ∨ n - ahead y - cum y m ≤ dlen y m) :
    vld y m (n - ahead y - cum y m) ∧ num y m (n - ahead y - cum y m) = n := by
  have s := ahead_succ y
  have k := month_end (n := n) (y := y) (l := n - 1 - ahead y) (m := m) h2 hy (by omega) (by omega) (by omega) m1 m2 (by omega) (by omega)
  rw [show n - ahead y - cum y m = n - 1 - ahead y - cum y m + 1 by omega]
  exact k

theorem ref_month {n y m : Int} (h2 : n ≤ 3652059) (hy : 1 ≤ y) (h : ahead y < n) (hn : n ≤ ahead (y + 1)) (m1 : 1 ≤ m) (m2 : m ≤ 12) (hc : 1 ≤ n - ahead y - cum y m) (hb : dlen y m < n - ahead y - cum y m) : m < 12 := by
  by_cases c : m < 12
  · exact c
  · have k := (ref_end h2 hy h hn m1 m2 hc (.inl (by omega))).1.2.2.2
    omega

theorem vld_bd {y m d : Int} (h : vld y m d) : 1 ≤ y ∧ y ≤ 9999 ∧ 1 ≤ m ∧ m ≤ 12 ∧ 1 ≤ d ∧ d ≤ 31 := by
  obtain ⟨a, b, c, e⟩ := h
  have f := dlen_any y m
  have g := dlen_range (y := y) (m := m) (by omega)
  omega

/-- weeks -/
theorem wd_bd (n : Int) : 0 ≤ (n - 1) % 7 ∧ (n - 1) % 7 ≤ 6 := by omega

end DsCal

/- The walks of the smallest functions of packages date and dayshiftref01 (leap years, lengths of months, days ahead of a year). -/
namespace Go.Proofs.YthbfjkdklnffjaaDoor.Dt
open Go.ChangeShapes Go.WideShapes Go.ChangeAt Go.RowKit

theorem ret_int {k : IntKind} {a b : Int} (h : a = b) : Ending.returned (.int k a) = .returned (.int k b) := by rw [h]
theorem ret_bool {a b : Bool} (h : a = b) : Ending.returned (.bool a) = .returned (.bool b) := by rw [h]

/-- date.Leap -/
theorem leap_any (y : Int) (w : World) :
    Calls Tryd.prog 51 #[.int .i64 y] w fun e w' => e = .returned (.bool (DsCal.leapB y)) ∧ w' = w := by
  go_enter Tryd.func51, Tryd.ntmps51
  go_wp2
  · go_ret; exact ⟨ret_bool (DsCal.leapB_a y ‹_› ‹_›), rfl⟩
  · go_ret; exact ⟨ret_bool (DsCal.leapB_b y ‹_› ‹_›), rfl⟩
  · go_ret; exact ⟨ret_bool (DsCal.leapB_c y ‹_›), rfl⟩

/-- dayshiftref01.mod -/
theorem mod4 (a : Int) (w : World) :
    Calls Tryd.prog 69 #[.int .i64 a, .int .i64 4] w fun e w' => e = .returned (.int .i64 (a % 4)) ∧ w' = w := by
  go_enter Tryd.func69, Tryd.ntmps69
  go_wp2
  · go_ret; exact ⟨ret_int (by have h := DsCal.tmneg a 4 (by omega) ‹_›; rw [IntWalk.wrap64_in _ (by omega)]; exact h), rfl⟩
  · go_ret; exact ⟨ret_int (DsCal.tmpos a 4 (by omega) ‹_›), rfl⟩
theorem mod100 (a : Int) (w : World) :
    Calls Tryd.prog 69 #[.int .i64 a, .int .i64 100] w fun e w' => e = .returned (.int .i64 (a % 100)) ∧ w' = w := by
  go_enter Tryd.func69, Tryd.ntmps69
  go_wp2
  · go_ret; exact ⟨ret_int (by have h := DsCal.tmneg a 100 (by omega) ‹_›; rw [IntWalk.wrap64_in _ (by omega)]; exact h), rfl⟩
  · go_ret; exact ⟨ret_int (DsCal.tmpos a 100 (by omega) ‹_›), rfl⟩
theorem mod400 (a : Int) (w : World) :
    Calls Tryd.prog 69 #[.int .i64 a, .int .i64 400] w fun e w' => e = .returned (.int .i64 (a % 400)) ∧ w' = w := by
  go_enter Tryd.func69, Tryd.ntmps69
  go_wp2
  · go_ret; exact ⟨ret_int (by have h := DsCal.tmneg a 400 (by omega) ‹_›; rw [IntWalk.wrap64_in _ (by omega)]; exact h), rfl⟩
  · go_ret; exact ⟨ret_int (DsCal.tmpos a 400 (by omega) ‹_›), rfl⟩
theorem mod_any (a b : Int) (w : World) (hb : b = 4 ∨ b = 100 ∨ b = 400) :
    Calls Tryd.prog 69 #[.int .i64 a, .int .i64 b] w fun e w' => e = .returned (.int .i64 (a % b)) ∧ w' = w := by
  rcases hb with rfl | rfl | rfl
  · exact mod4 a w
  · exact mod100 a w
  · exact mod400 a w
theorem aheadOf_any (y : Int) (w : World) (h1 : 1 ≤ y) (h2 : y ≤ 10000) :
    Calls Tryd.prog 74 #[.int .i64 y] w fun e w' => e = .returned (.int .i64 (DsCal.ahead y)) ∧ w' = w := by
  go_enter Tryd.func74, Tryd.ntmps74
  go_wp2
  go_ret
  exact ⟨ret_int (by unfold DsCal.ahead; omega), rfl⟩
theorem ahead_any (y : Int) (w : World) (h1 : 1 ≤ y) (h2 : y ≤ 10000) :
    Calls Tryd.prog 46 #[.int .i64 y] w fun e w' => e = .returned (.int .i64 (DsCal.ahead y)) ∧ w' = w := by
  go_enter Tryd.func46, Tryd.ntmps46
  go_wp2
  go_ret
  exact ⟨ret_int (by unfold DsCal.ahead; omega), rfl⟩

/-- date.yearLen -/
theorem yearLen_any (y : Int) (w : World) :
    Calls Tryd.prog 64 #[.int .i64 y] w fun e w' => e = .returned (.int .i64 (365 + DsCal.lp y)) ∧ w' = w := by
  go_enter Tryd.func64, Tryd.ntmps64
  go_wp2_with (go_at_call 51; refine (leap_any _ _).mono ?_; rintro e w' ⟨rfl, rfl⟩)
  · go_ret; exact ⟨ret_int (by rw [DsCal.lp_yes ‹_›]; rfl), rfl⟩
  · go_ret; exact ⟨ret_int (by rw [DsCal.lp_no ‹_›]; rfl), rfl⟩

/-- dayshiftref01.Leap -/
theorem refLeap_any (y : Int) (w : World) :
    Calls Tryd.prog 58 #[.int .i64 y] w fun e w' => e = .returned (.bool (DsCal.leapB y)) ∧ w' = w := by
  go_enter Tryd.func58, Tryd.ntmps58
  go_wp2_with (go_at_call 69; refine (mod_any _ _ _ (by omega)).mono ?_; rintro e w' ⟨rfl, rfl⟩)
  · go_ret; exact ⟨ret_bool (DsCal.leapE_a y ‹_› ‹_›), rfl⟩
  · go_ret; exact ⟨ret_bool (DsCal.leapE_b y ‹_› ‹_›), rfl⟩
  · go_ret; exact ⟨ret_bool (DsCal.leapE_c y ‹_›), rfl⟩

/-- WHAT IS KNOWN OF THE TABLE date.lengths: its twelve cells, in block 0. -/
def Tab (w : World) : Prop := 0 < w.heap.size ∧ ∀ m : Int, 1 ≤ m → m ≤ 12 → w.cell? ⟨0, m.toNat - 1, none⟩ = some (.int .i64 (DsCal.plen m))

/-- date.Len -/
theorem len_no (y m : Int) (w : World) (h : m < 1 ∨ 12 < m) :
    Calls Tryd.prog 34 #[.int .i64 y, .int .i64 m] w fun e w' => e = .returned (.int .i64 0) ∧ w' = w := by
  rcases h with h | h
  · go_enter Tryd.func34, Tryd.ntmps34
    go_wp2
    go_ret; exact ⟨rfl, rfl⟩
  · have h' : ¬ m < 1 := by omega
    go_enter Tryd.func34, Tryd.ntmps34
    go_wp2
    go_ret; exact ⟨rfl, rfl⟩
theorem len_two (y : Int) (w : World) (hc : w.cell? ⟨0, 1, none⟩ = some (.int .i64 28)) :
    Calls Tryd.prog 34 #[.int .i64 y, .int .i64 2] w fun e w' => e = .returned (.int .i64 (28 + DsCal.lp y)) ∧ w' = w := by
  go_enter Tryd.func34, Tryd.ntmps34
  go_wp2_with (go_at_call 51; refine (leap_any _ _).mono ?_; rintro e w' ⟨rfl, rfl⟩)
  · go_ret; exact ⟨ret_int (by rw [DsCal.lp_yes ‹_›]; rfl), rfl⟩
  · go_ret; exact ⟨ret_int (by rw [DsCal.lp_no ‹_›]; rfl), rfl⟩
theorem len_else (y m l : Int) (w : World) (h1 : 1 ≤ m) (h2 : m ≤ 12) (h3 : (m == 2) = false) (hc : w.cell? ⟨0, m.toNat - 1, none⟩ = some (.int .i64 l)) :
    Calls Tryd.prog 34 #[.int .i64 y, .int .i64 m] w fun e w' => e = .returned (.int .i64 l) ∧ w' = w := by
  go_enter Tryd.func34, Tryd.ntmps34
  go_wp2
  go_ret; exact ⟨rfl, rfl⟩
theorem len_any (y m : Int) (w : World) (ht : Tab w) :
    Calls Tryd.prog 34 #[.int .i64 y, .int .i64 m] w fun e w' => e = .returned (.int .i64 (DsCal.dlen y m)) ∧ w' = w := by
  by_cases h : m < 1 ∨ 12 < m
  · rw [DsCal.dlen_no h]; exact len_no y m w h
  · by_cases h2 : m = 2
    · subst h2; rw [DsCal.dlen_two]; exact len_two y w (ht.2 2 (by omega) (by omega))
    · rw [DsCal.dlen_else (by omega) (by omega) h2]
      exact len_else y m _ w (by omega) (by omega) (by simpa using h2) (ht.2 m (by omega) (by omega))

/-- dayshiftref01.Len -/
theorem refLen_no (y m : Int) (w : World) (h : m < 1 ∨ 12 < m) :
    Calls Tryd.prog 45 #[.int .i64 y, .int .i64 m] w fun e w' => e = .returned (.int .i64 0) ∧ w' = w := by
  rcases h with h | h
  · go_enter Tryd.func45, Tryd.ntmps45
    go_wp2
    go_ret; exact ⟨rfl, rfl⟩
  · go_enter Tryd.func45, Tryd.ntmps45
    go_wp2
    go_ret; exact ⟨rfl, rfl⟩
theorem refLen_two (y : Int) (w : World) :
    Calls Tryd.prog 45 #[.int .i64 y, .int .i64 2] w fun e w' => e = .returned (.int .i64 (28 + DsCal.lp y)) ∧ w' = w := by
  go_enter Tryd.func45, Tryd.ntmps45
  go_wp2_with (go_at_call 58; refine (refLeap_any _ _).mono ?_; rintro e w' ⟨rfl, rfl⟩)
  · go_ret; exact ⟨ret_int (by rw [DsCal.lp_yes ‹_›]; rfl), rfl⟩
  · go_ret; exact ⟨ret_int (by rw [DsCal.lp_no ‹_›]; rfl), rfl⟩
theorem refLen_else (y m : Int) (w : World) (h1 : 1 ≤ m) (h2 : m ≤ 12) (h3 : m ≠ 2) :
    Calls Tryd.prog 45 #[.int .i64 y, .int .i64 m] w fun e w' => e = .returned (.int .i64 (DsCal.plen m)) ∧ w' = w := by
  rcases DsCal.months h1 h2 with h | h | h | h | h | h | h | h | h | h | h | h
  all_goals
    subst h
    first
    | exact absurd rfl h3
    | (clear h1 h2 h3
       go_enter Tryd.func45, Tryd.ntmps45
       go_wp2
       go_ret; exact ⟨ret_int (by simp [DsCal.plen]), rfl⟩)
theorem refLen_any (y m : Int) (w : World) :
    Calls Tryd.prog 45 #[.int .i64 y, .int .i64 m] w fun e w' => e = .returned (.int .i64 (DsCal.dlen y m)) ∧ w' = w := by
  by_cases h : m < 1 ∨ 12 < m
  · rw [DsCal.dlen_no h]; exact refLen_no y m w h
  · by_cases h2 : m = 2
    · subst h2; rw [DsCal.dlen_two]; exact refLen_two y w
    · rw [DsCal.dlen_else (by omega) (by omega) h2]
      exact refLen_else y m w (by omega) (by omega) h2

/-- Right -/
theorem right_any (n : Int) (w : World) :
    Calls Tryd.prog 23 #[.int .i64 n] w fun e w' => e = .returned (.bool (DsCal.rightB n)) ∧ w' = w := by
  go_enter Tryd.func23, Tryd.ntmps23
  go_wp2
  · go_ret; exact ⟨ret_bool (DsCal.rightB_a ‹_›), rfl⟩
  · go_ret; exact ⟨ret_bool (DsCal.rightB_no (by omega)).symm, rfl⟩
theorem refRight_any (n : Int) (w : World) :
    Calls Tryd.prog 21 #[.int .i64 n] w fun e w' => e = .returned (.bool (DsCal.rightB n)) ∧ w' = w := by
  go_enter Tryd.func21, Tryd.ntmps21
  go_wp2
  · go_ret; exact ⟨ret_bool (DsCal.rightB_a ‹_›), rfl⟩
  · go_ret; exact ⟨ret_bool (DsCal.rightB_no (by omega)).symm, rfl⟩
theorem right_yes (n : Int) (w : World) (h1 : 1 ≤ n) (h2 : n ≤ 3652059) :
    Calls Tryd.prog 23 #[.int .i64 n] w fun e w' => e = .returned (.bool true) ∧ w' = w := by
  have h := right_any n w; rw [DsCal.rightB_yes h1 h2] at h; exact h
theorem right_no (n : Int) (w : World) (h : n < 1 ∨ 3652059 < n) :
    Calls Tryd.prog 23 #[.int .i64 n] w fun e w' => e = .returned (.bool false) ∧ w' = w := by
  have k := right_any n w; rw [DsCal.rightB_no h] at k; exact k
theorem refRight_yes (n : Int) (w : World) (h1 : 1 ≤ n) (h2 : n ≤ 3652059) :
    Calls Tryd.prog 21 #[.int .i64 n] w fun e w' => e = .returned (.bool true) ∧ w' = w := by
  have h := refRight_any n w; rw [DsCal.rightB_yes h1 h2] at h; exact h
theorem refRight_no (n : Int) (w : World) (h : n < 1 ∨ 3652059 < n) :
    Calls Tryd.prog 21 #[.int .i64 n] w fun e w' => e = .returned (.bool false) ∧ w' = w := by
  have k := refRight_any n w; rw [DsCal.rightB_no h] at k; exact k

/-- Weekday -/
theorem weekday_yes (n : Int) (w : World) (h1 : 1 ≤ n) (h2 : n ≤ 3652059) :
    Calls Tryd.prog 52 #[.int .i64 n] w fun e w' => e = .returned (.tuple #[.int .i64 ((n - 1) % 7), .int .i64 0]) ∧ w' = w := by
  go_enter Tryd.func52, Tryd.ntmps52
  go_wp2_with (go_at_call 23; refine (right_yes _ _ (by omega) (by omega)).mono ?_; rintro e w' ⟨rfl, rfl⟩)
  go_ret2; exact ⟨rfl, rfl⟩
theorem weekday_no (n : Int) (w : World) (h : n < 1 ∨ 3652059 < n) :
    Calls Tryd.prog 52 #[.int .i64 n] w fun e w' => e = .returned (.tuple #[.int .i64 0, .int .i64 6]) ∧ w' = w := by
  go_enter Tryd.func52, Tryd.ntmps52
  go_wp2_with (go_at_call 23; refine (right_no _ _ (by omega)).mono ?_; rintro e w' ⟨rfl, rfl⟩)
  go_ret2; exact ⟨rfl, rfl⟩
theorem refWeekday_yes (n : Int) (w : World) (h1 : 1 ≤ n) (h2 : n ≤ 3652059) :
    Calls Tryd.prog 13 #[.int .i64 n] w fun e w' => e = .returned (.tuple #[.int .i64 ((n - 1) % 7), .int .i64 0]) ∧ w' = w := by
  go_enter Tryd.func13, Tryd.ntmps13
  go_wp2_with (go_at_call 21; refine (refRight_yes _ _ (by omega) (by omega)).mono ?_; rintro e w' ⟨rfl, rfl⟩)
  go_ret2; exact ⟨rfl, rfl⟩
theorem refWeekday_no (n : Int) (w : World) (h : n < 1 ∨ 3652059 < n) :
    Calls Tryd.prog 13 #[.int .i64 n] w fun e w' => e = .returned (.tuple #[.int .i64 0, .int .i64 6]) ∧ w' = w := by
  go_enter Tryd.func13, Tryd.ntmps13
  go_wp2_with (go_at_call 21; refine (refRight_no _ _ (by omega)).mono ?_; rintro e w' ⟨rfl, rfl⟩)
  go_ret2; exact ⟨rfl, rfl⟩
end Go.Proofs.YthbfjkdklnffjaaDoor.Dt

/- The walks of date.yearOf, date.Date and dayshiftref01.Date: the date of a day. -/
namespace Go.Proofs.YthbfjkdklnffjaaDoor.Dt
open Go.ChangeShapes Go.WideShapes Go.ChangeAt Go.RowKit

theorem hide {p : Prop} (h : p) : Hid p := h
theorem val_int {k : IntKind} {a b : Int} (h : a = b) : Value.int k a = .int k b := by rw [h]
theorem ret_int2 {k l : IntKind} {a b c d : Int} (h : a = b) (g : c = d) : Ending.returned (.tuple #[.int k a, .int l c]) = .returned (.tuple #[.int k b, .int l d]) := by rw [h, g]

set_option maxHeartbeats 1000000 in
theorem yearOf_any (n : Int) (w : World) (h1 : 1 ≤ n) (h2 : n ≤ 3652059) :
    Calls Tryd.prog 50 #[.int .i64 n] w fun e w' => ∃ y l : Int, e = .returned (.tuple #[.int .i64 y, .int .i64 l]) ∧ DsCal.ahead y + l = n - 1 ∧ 1 ≤ y ∧ 0 ≤ l ∧ l < 365 + DsCal.lp y ∧ w' = w := by
  go_enter Tryd.func50, Tryd.ntmps50
  go_wp2
  all_goals
    go_loop [4, 5, 34] (fun l y i => ∃ k : Nat, k ≤ 3 ∧ i = .int .i64 k ∧ y = .int .i64 (DsCal.y0 n + k) ∧ l = .int .i64 (DsCal.r0 n - 365 * k) ∧ 0 ≤ DsCal.r0 n - 365 * k) (fun _ _ i => 3 - (intOf i).toNat)
    case atStart => exact ⟨0, by omega, rfl, val_int (by unfold DsCal.y0; omega), val_int (by unfold DsCal.r0; omega), by unfold DsCal.r0; omega⟩
    case round =>
      obtain ⟨k, hk, rfl, rfl, rfl, h0⟩ := hrel
      have hy := DsCal.y0_bd h1 h2
      have hr := DsCal.r0_bd n
      have fin := fun h => DsCal.yearOf_end (n := n) (k := k) h1 hk h h0
      have FIN : Hid ((k = 3 ∨ DsCal.r0 n - 365 * k < 365) → DsCal.ahead (DsCal.y0 n + k) + (DsCal.r0 n - 365 * k) = n - 1 ∧ 1 ≤ DsCal.y0 n + k ∧ DsCal.r0 n - 365 * k < 365 + DsCal.lp (DsCal.y0 n + k)) := fin
      clear fin
      by_cases hlt : k < 3
      · have hl := DsCal.lp_y0 (n := n) h1 hlt
        by_cases hb : DsCal.r0 n - 365 * k < 365
        · go_wp2_with (go_at_call 64; refine (yearLen_any _ _).mono ?_; rintro e w' ⟨rfl, rfl⟩)
          go_ret2
          have f := FIN.out (.inr hb)
          exact ⟨_, _, rfl, f.1, f.2.1, h0, f.2.2, rfl⟩
        · go_wp2_with (go_at_call 64; refine (yearLen_any _ _).mono ?_; rintro e w' ⟨rfl, rfl⟩)
          go_round
          case rel => exact ⟨k + 1, by omega, by go_num, val_int (by omega), val_int (by omega), by omega⟩
          case measure => simp [intOf]; omega
      · go_wp2
        go_ret2
        have f := FIN.out (.inl (by omega))
        exact ⟨_, _, rfl, f.1, f.2.1, h0, f.2.2, rfl⟩

theorem date_no (n : Int) (w : World) (h : n < 1 ∨ 3652059 < n) :
    Calls Tryd.prog 33 #[.int .i64 n] w fun e w' => e = .returned (.tuple #[.int .i64 0, .int .i64 0, .int .i64 0, .int .i64 6]) ∧ w' = w := by
  go_enter Tryd.func33, Tryd.ntmps33
  go_wp2_with (go_at_call 23; refine (right_no _ _ (by omega)).mono ?_; rintro e w' ⟨rfl, rfl⟩)
  go_returns
  exact ⟨rfl, rfl⟩
set_option maxHeartbeats 1000000 in
theorem date_yes (n : Int) (w : World) (ht : Tab w) (h1 : 1 ≤ n) (h2 : n ≤ 3652059) :
    Calls Tryd.prog 33 #[.int .i64 n] w fun e w' => ∃ y m d : Int, e = .returned (.tuple #[.int .i64 y, .int .i64 m, .int .i64 d, .int .i64 0]) ∧ DsCal.vld y m d ∧ DsCal.num y m d = n ∧ w' = w := by
  go_enter Tryd.func33, Tryd.ntmps33
  go_wp2_with (first | (go_at_call 23; refine (right_yes _ _ (by omega) (by omega)).mono ?_; rintro e w' ⟨rfl, rfl⟩) | (go_at_call 50; refine (yearOf_any _ _ (by omega) (by omega)).mono ?_; rintro e w' ⟨y, l, rfl, he, hy, hl0, hl1, rfl⟩; have HE := hide he; clear he))
  go_loop [7, 8, 18] (fun l' m i => ∃ k : Nat, k ≤ 11 ∧ i = .int .i64 k ∧ m = .int .i64 (k + 1) ∧ l' = .int .i64 (l - DsCal.cum y (k + 1)) ∧ 0 ≤ l - DsCal.cum y (k + 1)) (fun _ _ i => 11 - (intOf i).toNat)
  case atStart => exact ⟨0, by omega, rfl, rfl, val_int (by simp [DsCal.cum_one]), by simp [DsCal.cum_one]; omega⟩
  case round =>
    obtain ⟨k, hk, rfl, rfl, rfl, h0⟩ := hrel
    have hlp := DsCal.lp01 y
    have hcb := DsCal.cum_bd (y := y) (m := k + 1) (by omega) (by omega)
    have hdb := DsCal.dlen_any y (k + 1)
    have hcs := DsCal.cum_succ (y := y) (m := k + 1) (by omega) (by omega)
    have HCS := hide hcs
    clear hcs
    by_cases hlt : k < 11
    · by_cases hb : l - DsCal.cum y (k + 1) < DsCal.dlen y (k + 1)
      · have f := DsCal.month_end (m := k + 1) h2 hy HE.out hl0 hl1 (by omega) (by omega) h0 (.inr hb)
        have F := hide f
        clear f
        go_wp2_with (go_at_call 34; refine (len_any _ _ _ ht).mono ?_; rintro e w' ⟨rfl, rfl⟩)
        go_returns
        exact ⟨_, _, _, rfl, F.out.1, F.out.2, rfl⟩
      · go_wp2_with (go_at_call 34; refine (len_any _ _ _ ht).mono ?_; rintro e w' ⟨rfl, rfl⟩)
        go_round
        case rel => exact ⟨k + 1, by omega, by go_num, by go_num, val_int (by have := HCS.out; rw [show ((k + 1 : Nat) : Int) + 1 = (k : Int) + 1 + 1 by omega]; omega), by have := HCS.out; rw [show ((k + 1 : Nat) : Int) + 1 = (k : Int) + 1 + 1 by omega]; omega⟩
        case measure => simp [intOf]; omega
    · have f := DsCal.month_end (m := k + 1) h2 hy HE.out hl0 hl1 (by omega) (by omega) h0 (.inl (by omega))
      have F := hide f
      clear f
      go_wp2
      go_returns
      exact ⟨_, _, _, rfl, F.out.1, F.out.2, rfl⟩

end Go.Proofs.YthbfjkdklnffjaaDoor.Dt

/- The walks of date.Days and dayshiftref01.Days: the day of a date. -/
namespace Go.Proofs.YthbfjkdklnffjaaDoor.Dt
open Go.ChangeShapes Go.WideShapes Go.ChangeAt Go.RowKit

theorem days_no (y m d : Int) (w : World) (ht : Tab w) (h : ¬ DsCal.vld y m d) :
    Calls Tryd.prog 65 #[.int .i64 y, .int .i64 m, .int .i64 d] w fun e w' => e = .returned (.tuple #[.int .i64 0, .int .i64 6]) ∧ w' = w := by
  unfold DsCal.vld at h
  by_cases c1 : y < 1
  · clear h
    go_enter Tryd.func65, Tryd.ntmps65
    go_wp2
    go_ret2; exact ⟨rfl, rfl⟩
  by_cases c2 : 9999 < y
  · clear h
    go_enter Tryd.func65, Tryd.ntmps65
    go_wp2
    go_ret2; exact ⟨rfl, rfl⟩
  by_cases c3 : d < 1
  · clear h
    go_enter Tryd.func65, Tryd.ntmps65
    go_wp2
    go_ret2; exact ⟨rfl, rfl⟩
  have c4 : DsCal.dlen y m < d := by omega
  clear h
  go_enter Tryd.func65, Tryd.ntmps65
  go_wp2_with (go_at_call 34; refine (len_any _ _ _ ht).mono ?_; rintro e w' ⟨rfl, rfl⟩)
  go_ret2; exact ⟨rfl, rfl⟩

set_option maxHeartbeats 1000000 in
theorem days_yes (y m d : Int) (w : World) (ht : Tab w) (h : DsCal.vld y m d) :
    Calls Tryd.prog 65 #[.int .i64 y, .int .i64 m, .int .i64 d] w fun e w' => e = .returned (.tuple #[.int .i64 (DsCal.num y m d), .int .i64 0]) ∧ w' = w := by
  obtain ⟨y1, y2, d1, d2⟩ := h
  have hm := DsCal.dlen_range (y := y) (m := m) (by omega)
  obtain ⟨m1, m2⟩ := hm
  have hdb := DsCal.dlen_any y m
  have hab := DsCal.ahead_bd y y1 (by omega)
  go_enter Tryd.func65, Tryd.ntmps65
  go_wp2_with (first | (go_at_call 34; refine (len_any _ _ _ ht).mono ?_; rintro e w' ⟨rfl, rfl⟩) | (go_at_call 74; refine (aheadOf_any _ _ (by omega) (by omega)).mono ?_; rintro e w' ⟨rfl, rfl⟩))
  go_loop [8, 33] (fun t i => ∃ k : Nat, k ≤ m - 1 ∧ i = .int .i64 k ∧ t = .int .i64 (DsCal.ahead y + d + DsCal.cum y (k + 1))) (fun _ i => (m - 1).toNat - (intOf i).toNat)
  case atStart => exact ⟨0, by omega, rfl, val_int (by simp [DsCal.cum_one])⟩
  case round =>
    obtain ⟨k, hk, rfl, rfl⟩ := hrel
    have hcb := DsCal.cum_bd (y := y) (m := k + 1) (by omega) (by omega)
    have hdk := DsCal.dlen_any y (k + 1)
    have hcs := DsCal.cum_succ (y := y) (m := k + 1) (by omega) (by omega)
    have HCS := hide hcs
    clear hcs
    by_cases hlt : k < m - 1
    · go_wp2_with (go_at_call 34; refine (len_any _ _ _ ht).mono ?_; rintro e w' ⟨rfl, rfl⟩)
      go_round
      case rel => exact ⟨k + 1, by omega, by go_num, val_int (by have := HCS.out; rw [show ((k + 1 : Nat) : Int) + 1 = (k : Int) + 1 + 1 by omega]; omega)⟩
      case measure => simp [intOf]; omega
    · go_wp2
      go_ret2
      exact ⟨ret_int2 (by unfold DsCal.num; rw [show (k : Int) + 1 = m by omega]; omega) rfl, rfl⟩

theorem refDays_no (y m d : Int) (w : World) (h : ¬ DsCal.vld y m d) :
    Calls Tryd.prog 30 #[.int .i64 y, .int .i64 m, .int .i64 d] w fun e w' => e = .returned (.tuple #[.int .i64 0, .int .i64 6]) ∧ w' = w := by
  unfold DsCal.vld at h
  by_cases c1 : y < 1
  · clear h
    go_enter Tryd.func30, Tryd.ntmps30
    go_wp2
    go_ret2; exact ⟨rfl, rfl⟩
  by_cases c2 : 9999 < y
  · clear h
    go_enter Tryd.func30, Tryd.ntmps30
    go_wp2
    go_ret2; exact ⟨rfl, rfl⟩
  by_cases c3 : d < 1
  · clear h
    go_enter Tryd.func30, Tryd.ntmps30
    go_wp2
    go_ret2; exact ⟨rfl, rfl⟩
  have c4 : DsCal.dlen y m < d := by omega
  clear h
  go_enter Tryd.func30, Tryd.ntmps30
  go_wp2_with (go_at_call 45; refine (refLen_any _ _ _).mono ?_; rintro e w' ⟨rfl, rfl⟩)
  go_ret2; exact ⟨rfl, rfl⟩

set_option maxHeartbeats 1000000 in
theorem refDays_yes (y m d : Int) (w : World) (h : DsCal.vld y m d) :
    Calls Tryd.prog 30 #[.int .i64 y, .int .i64 m, .int .i64 d] w fun e w' => e = .returned (.tuple #[.int .i64 (DsCal.num y m d), .int .i64 0]) ∧ w' = w := by
  obtain ⟨y1, y2, d1, d2⟩ := h
  have hm := DsCal.dlen_range (y := y) (m := m) (by omega)
  obtain ⟨m1, m2⟩ := hm
  have hdb := DsCal.dlen_any y m
  have hab := DsCal.ahead_bd y y1 (by omega)
  go_enter Tryd.func30, Tryd.ntmps30
  go_wp2_with (first | (go_at_call 45; refine (refLen_any _ _ _).mono ?_; rintro e w' ⟨rfl, rfl⟩) | (go_at_call 46; refine (ahead_any _ _ (by omega) (by omega)).mono ?_; rintro e w' ⟨rfl, rfl⟩))
  go_loop [8, 9] (fun t i => ∃ k : Int, 1 ≤ k ∧ k ≤ m ∧ i = .int .i64 k ∧ t = .int .i64 (DsCal.ahead y + d + DsCal.cum y k)) (fun _ i => (m - intOf i).toNat)
  case atStart => exact ⟨1, by omega, by omega, rfl, val_int (by simp [DsCal.cum_one])⟩
  case round =>
    obtain ⟨k, k1, k2, rfl, rfl⟩ := hrel
    have hcb := DsCal.cum_bd (y := y) (m := k) (by omega) (by omega)
    have hdk := DsCal.dlen_any y k
    have hcs := DsCal.cum_succ (y := y) (m := k) (by omega) (by omega)
    have HCS := hide hcs
    clear hcs
    by_cases hlt : k < m
    · go_wp2_with (go_at_call 45; refine (refLen_any _ _ _).mono ?_; rintro e w' ⟨rfl, rfl⟩)
      go_round
      case rel => exact ⟨k + 1, by omega, by omega, rfl, val_int (by have := HCS.out; omega)⟩
      case measure => simp [intOf]; omega
    · go_wp2
      go_ret2
      exact ⟨ret_int2 (by unfold DsCal.num; rw [show k = m by omega]; omega) rfl, rfl⟩
end Go.Proofs.YthbfjkdklnffjaaDoor.Dt

/- Plain mathematics of digits: numbers as decimal texts. No Go in sight. -/
namespace DsCal

/-- numbers as bytes -/
def bytesL (ns : List Int) : List UInt8 := ns.map fun n => UInt8.ofNat n.toNat
def bstr (ns : List Int) : ByteArray := ⟨(bytesL ns).toArray⟩

theorem foldl_push (ns : List Int) (r : ByteArray) : ns.foldl (fun r n => r.push (UInt8.ofNat n.toNat)) r = ⟨r.data ++ (bytesL ns).toArray⟩ := by
  induction ns generalizing r with
  | nil => simp [bytesL]
  | cons n ns ih =>
    simp only [List.foldl_cons]
    rw [ih]
    simp [ByteArray.push, bytesL]

/-- the eight digits of a number, the first one first -/
def tx8 (L : Int) : List Int :=
  [48 + L / 10 / 10 / 10 / 10 / 10 / 10 / 10 % 10, 48 + L / 10 / 10 / 10 / 10 / 10 / 10 % 10, 48 + L / 10 / 10 / 10 / 10 / 10 % 10, 48 + L / 10 / 10 / 10 / 10 % 10,
   48 + L / 10 / 10 / 10 % 10, 48 + L / 10 / 10 % 10, 48 + L / 10 % 10, 48 + L % 10]

end DsCal

/- Plain mathematics of digits: texts as numbers. No Go in sight. -/
namespace DsCal

def dgB (c : UInt8) : Bool := decide (48 ≤ (c.toNat : Int) ∧ (c.toNat : Int) ≤ 57)
def alld (l : List UInt8) : Bool := l.all dgB
def dval (l : List UInt8) : Int := l.foldl (fun a c => a * 10 + ((c.toNat : Int) - 48)) 0

theorem take_snoc (s : ByteArray) (k : Nat) (h : k < s.size) : s.data.toList.take (k + 1) = s.data.toList.take k ++ [s[k]] := by
  rw [List.take_succ_eq_append_getElem (by simpa using h)]; rfl
theorem take_all (s : ByteArray) (k : Nat) (h : s.size ≤ k) : s.data.toList.take k = s.data.toList :=
  List.take_of_length_le (by simpa using h)

theorem dval_snoc (l : List UInt8) (c : UInt8) : dval (l ++ [c]) = dval l * 10 + ((c.toNat : Int) - 48) := by
  unfold dval; rw [List.foldl_append]; rfl
theorem alld_snoc (l : List UInt8) (c : UInt8) : alld (l ++ [c]) = (alld l && dgB c) := by
  unfold alld; rw [List.all_append]; simp
theorem alld_take (l : List UInt8) (k : Nat) (h : alld (l.take k) = false) : alld l = false := by
  have e : alld l = (alld (l.take k) && alld (l.drop k)) := by
    unfold alld; rw [← List.all_append, List.take_append_drop]
  rw [e, h]; rfl
theorem alld_step (s : ByteArray) (k : Nat) (h : k < s.size) (a : alld (s.data.toList.take k) = true) (c1 : 48 ≤ (s[k].toNat : Int)) (c2 : (s[k].toNat : Int) ≤ 57) :
    alld (s.data.toList.take (k + 1)) = true := by
  rw [take_snoc s k h, alld_snoc, a]; simp [dgB, c1, c2]
theorem alld_stop (s : ByteArray) (k : Nat) (h : k < s.size) (c : (s[k].toNat : Int) < 48 ∨ 57 < (s[k].toNat : Int)) : alld s.data.toList = false := by
  apply alld_take _ (k + 1)
  rw [take_snoc s k h, alld_snoc]
  have : dgB s[k] = false := decide_eq_false (by omega)
  rw [this]; simp
theorem dval_step (s : ByteArray) (k : Nat) (h : k < s.size) : dval (s.data.toList.take (k + 1)) = dval (s.data.toList.take k) * 10 + ((s[k].toNat : Int) - 48) := by
  rw [take_snoc s k h, dval_snoc]

theorem dval_len (n : Nat) : ∀ l : List UInt8, l.length = n → alld l = true → 0 ≤ dval l ∧ dval l < (10 ^ n : Nat) := by
  induction n with
  | zero => intro l h _; have : l = [] := List.length_eq_zero_iff.1 h; subst this; exact ⟨by decide, by decide⟩
  | succ n ih =>
    intro l h a
    have hl : l ≠ [] := by intro e; subst e; simp at h
    have e := List.dropLast_concat_getLast hl
    rw [← e] at a ⊢
    rw [alld_snoc, Bool.and_eq_true] at a
    have i := ih l.dropLast (by simp [h]) a.1
    have c := a.2
    simp only [dgB, decide_eq_true_eq] at c
    rw [dval_snoc]
    rw [Nat.pow_succ]
    omega
theorem dval_bd (l : List UInt8) (n : Nat) (h : l.length ≤ n) (a : alld l = true) : 0 ≤ dval l ∧ dval l < (10 ^ n : Nat) := by
  have k := dval_len l.length l rfl a
  have : 10 ^ l.length ≤ 10 ^ n := Nat.pow_le_pow_right (by omega) h
  omega
theorem dval_take_bd (s : ByteArray) (k n : Nat) (h : k ≤ n) (a : alld (s.data.toList.take k) = true) : 0 ≤ dval (s.data.toList.take k) ∧ dval (s.data.toList.take k) < (10 ^ n : Nat) :=
  dval_bd _ n (by have := List.length_take_le k s.data.toList; omega) a

/-- what Read answers -/
def dayOf (L : Int) : Int × Int := if vldB (L / 10000) (L / 100 % 100) (L % 100) then (num (L / 10000) (L / 100 % 100) (L % 100), 0) else (0, 6)
def rdres (s : ByteArray) : Int × Int := if s.size = 8 ∧ alld s.data.toList = true then dayOf (dval s.data.toList) else (0, 20)
theorem rdres_size (s : ByteArray) (h : s.size ≠ 8) : rdres s = (0, 20) := by unfold rdres; rw [if_neg]; exact fun k => h k.1
theorem rdres_stop (s : ByteArray) (h : alld s.data.toList = false) : rdres s = (0, 20) := by unfold rdres; rw [if_neg]; intro k; rw [h] at k; cases k.2
theorem rdres_day (s : ByteArray) (h : s.size = 8) (a : alld s.data.toList = true) : rdres s = dayOf (dval s.data.toList) := by unfold rdres; rw [if_pos ⟨h, a⟩]
theorem dayOf_yes {L : Int} (h : vld (L / 10000) (L / 100 % 100) (L % 100)) : dayOf L = (num (L / 10000) (L / 100 % 100) (L % 100), 0) := by unfold dayOf; rw [if_pos ((vldB_iff _ _ _).2 h)]
theorem dayOf_no {L : Int} (h : ¬ vld (L / 10000) (L / 100 % 100) (L % 100)) : dayOf L = (0, 6) := by unfold dayOf; rw [if_neg (fun k => h ((vldB_iff _ _ _).1 k))]

/-- Number: digits as a number -/
def nmres (s : ByteArray) : Int × Bool := if alld s.data.toList = true ∧ 0 < s.size ∧ s.size ≤ 18 then (dval s.data.toList, true) else (0, false)
theorem nmres_stop (s : ByteArray) (h : alld s.data.toList = false) : nmres s = (0, false) := by unfold nmres; rw [if_neg]; intro k; rw [h] at k; cases k.1
theorem nmres_long (s : ByteArray) (h : 18 < s.size) : nmres s = (0, false) := by unfold nmres; rw [if_neg]; omega
theorem nmres_ok (s : ByteArray) (h : s.size ≤ 18) (h0 : 0 < s.size) (a : alld s.data.toList = true) : nmres s = (dval s.data.toList, true) := by unfold nmres; rw [if_pos ⟨a, h0, h⟩]
theorem nmres_end (s : ByteArray) (h : s.size ≤ 18) (a : alld s.data.toList = true) : nmres s = (dval s.data.toList, decide (0 < s.size)) := by
  unfold nmres
  by_cases c : 0 < s.size
  · rw [if_pos ⟨a, c, h⟩]
    have : decide (0 < s.size) = true := decide_eq_true (by omega)
    rw [this]
  · rw [if_neg (by omega)]
    have : decide (0 < s.size) = false := decide_eq_false (by omega)
    rw [this]
    have e : s.data.toList = [] := List.length_eq_zero_iff.1 (by have h : s.data.toList.length = s.size := by simp
                                                                 omega)
    rw [e]; rfl

/-- eight digits there and back -/
theorem byteOf (x : Int) (h0 : 0 ≤ x) (h1 : x ≤ 255) : ((UInt8.ofNat x.toNat).toNat : Int) = x := by
  have : x.toNat % 256 = x.toNat := Nat.mod_eq_of_lt (by omega)
  simp only [UInt8.toNat_ofNat']
  omega
theorem dgB_of (x : Int) (h0 : 48 ≤ x) (h1 : x ≤ 57) : dgB (UInt8.ofNat x.toNat) = true := by
  unfold dgB; rw [byteOf x (by omega) (by omega)]; exact decide_eq_true ⟨h0, h1⟩
theorem tx8_alld (L : Int) : alld (bytesL (tx8 L)) = true := by
  unfold alld bytesL tx8
  simp only [List.map_cons, List.map_nil, List.all_cons, List.all_nil, Bool.and_true, Bool.and_eq_true]
  refine ⟨?_, ?_, ?_, ?_, ?_, ?_, ?_, ?_⟩ <;> (apply dgB_of <;> omega)
theorem tx8_dval (L : Int) (h0 : 0 ≤ L) (h1 : L ≤ 99999999) : dval (bytesL (tx8 L)) = L := by
  unfold dval bytesL tx8
  simp only [List.map_cons, List.map_nil, List.foldl_cons, List.foldl_nil]
  repeat rw [byteOf _ (by omega) (by omega)]
  omega
theorem tx8_rdres {y m d : Int} (h : vld y m d) : rdres (bstr (tx8 (y * 10000 + m * 100 + d))) = (num y m d, 0) := by
  obtain ⟨a, b, c, e, f, g⟩ := vld_bd h
  rw [rdres_day _ rfl (tx8_alld _)]
  have k : dval (bstr (tx8 (y * 10000 + m * 100 + d))).data.toList = y * 10000 + m * 100 + d := tx8_dval _ (by omega) (by omega)
  rw [k]
  have e1 : (y * 10000 + m * 100 + d) / 10000 = y := by omega
  have e2 : (y * 10000 + m * 100 + d) / 100 % 100 = m := by omega
  have e3 : (y * 10000 + m * 100 + d) % 100 = d := by omega
  rw [dayOf_yes (by rw [e1, e2, e3]; exact h), e1, e2, e3]

/-- the next day is the next date -/
theorem next_date {y m d p q r : Int} (h : vld y m d) (k : vld p q r) (e : num p q r = num y m d + 1) :
    (p = y ∧ q = m ∧ r = d + 1) ∨ (p = y ∧ q = m + 1 ∧ r = 1 ∧ d = dlen y m ∧ m < 12) ∨ (p = y + 1 ∧ q = 1 ∧ r = 1 ∧ m = 12 ∧ d = 31) := by
  obtain ⟨a1, a2, a3, a4, a5, a6⟩ := vld_bd h
  have h4 := h.2.2.2
  by_cases c : d < dlen y m
  · left
    exact num_inj k (show vld y m (d + 1) from ⟨a1, a2, by omega, by omega⟩) (by rw [e]; unfold num; omega)
  · have hd : d = dlen y m := by omega
    by_cases c2 : m < 12
    · right; left
      have b := dlen_bd (y := y) (m := m + 1) (by omega) (by omega)
      have cs := cum_succ (y := y) (m := m) (by omega) (by omega)
      obtain ⟨e1, e2, e3⟩ := num_inj k (show vld y (m + 1) 1 from ⟨a1, a2, by omega, by omega⟩) (by rw [e]; unfold num; omega)
      exact ⟨e1, e2, e3, hd, c2⟩
    · have hm : m = 12 := by omega
      subst hm
      have d31 : dlen y 12 = 31 := by simp [dlen]
      have kb := num_bd k
      have cs := cum_succ (y := y) (m := 12) (by omega) (by omega)
      rw [show (12 : Int) + 1 = 13 by omega, cum_end] at cs
      have as := ahead_succ y
      have y9 : y + 1 ≤ 9999 := by
        by_cases g : y + 1 ≤ 9999
        · exact g
        · have e9 : y = 9999 := by omega
          subst e9
          have : ahead (9999 + 1) = 3652059 := by decide
          unfold num at e kb
          omega
      right; right
      have b := dlen_bd (y := y + 1) (m := 1) (by omega) (by omega)
      have c1 := cum_one (y + 1)
      obtain ⟨e1, e2, e3⟩ := num_inj k (show vld (y + 1) 1 1 from ⟨by omega, y9, by omega, by omega⟩) (by rw [e]; unfold num; omega)
      exact ⟨e1, e2, e3, rfl, by omega⟩
end DsCal

/- Plain mathematics of the weekdays of a month. No Go in sight. -/
namespace DsCal

/-- how many days lie ahead of the first day that is the weekday, behind the day b; how many such days there are; which one is the k-th -/
def a0 (b wd : Int) : Int := (wd - (b - 1) % 7 + 7) % 7
def cnt (b size wd : Int) : Int := (size - 1 - a0 b wd) / 7 + 1
def nix (b size wd k : Int) : Int := if 0 < k then a0 b wd + (k - 1) * 7 else a0 b wd + (cnt b size wd + k) * 7
def nres (b size wd k : Int) : Int × Int := if 0 ≤ nix b size wd k ∧ nix b size wd k < size then (b + nix b size wd k, 0) else (0, 30)
def okA (wd k : Int) : Prop := 0 ≤ wd ∧ wd ≤ 6 ∧ k ≠ 0 ∧ -5 ≤ k ∧ k ≤ 5

theorem a0_bd (b wd : Int) : 0 ≤ a0 b wd ∧ a0 b wd ≤ 6 := by unfold a0; omega
theorem nix_pos {b size wd k : Int} (h : 0 < k) : nix b size wd k = a0 b wd + (k - 1) * 7 := by unfold nix; rw [if_pos h]
theorem nix_neg {b size wd k : Int} (h : ¬ 0 < k) : nix b size wd k = a0 b wd + (cnt b size wd + k) * 7 := by unfold nix; rw [if_neg h]
theorem nres_yes {b size wd k : Int} (h0 : 0 ≤ nix b size wd k) (h1 : nix b size wd k < size) : nres b size wd k = (b + nix b size wd k, 0) := by unfold nres; rw [if_pos ⟨h0, h1⟩]
theorem nres_no {b size wd k : Int} (h : nix b size wd k < 0 ∨ size ≤ nix b size wd k) : nres b size wd k = (0, 30) := by unfold nres; rw [if_neg (by omega)]

/-- the days of a month that are the weekday -/
def wl (b a : Int) : Nat → List Int
  | 0 => []
  | c + 1 => wl b a c ++ [b + a + 7 * c]
theorem wl_len (b a : Int) (c : Nat) : (wl b a c).length = c := by
  induction c with
  | zero => rfl
  | succ c ih => simp [wl, ih]
theorem wl_at (b a : Int) (c j : Nat) (h : j < c) : (wl b a c).getD j 0 = b + a + 7 * j := by
  induction c with
  | zero => omega
  | succ c ih =>
    unfold wl
    by_cases e : j < c
    · rw [← ih e]
      simp only [List.getD]
      rw [List.getElem?_append_left (by rw [wl_len]; exact e)]
    · have : j = c := by omega
      subst this
      simp only [List.getD]
      rw [List.getElem?_append_right (by rw [wl_len]; omega), wl_len]
      simp
theorem hit_iff {b wd : Int} {i c : Nat} (h0 : 0 ≤ wd) (h1 : wd ≤ 6) (hc : (c : Int) = ((i : Int) + 6 - a0 b wd) / 7) : (b + i - 1) % 7 = wd ↔ (i : Int) = a0 b wd + 7 * c := by
  unfold a0 at *; omega
theorem in_month {y m i : Int} (h : vld y m 1) (h0 : 0 ≤ i) (h1 : i < dlen y m) : 1 ≤ num y m 1 + i ∧ num y m 1 + i ≤ 3652059 := by
  have a := num_bd (y := y) (m := m) (d := i + 1) ⟨h.1, h.2.1, by omega, by omega⟩
  have b := num_bd h
  unfold num at *
  omega
end DsCal

/- The walks of week.Nth and dayshiftref02.Nth: the weekdays of a month. -/
namespace Go.Proofs.YthbfjkdklnffjaaDoor.Dt
open Go.ChangeShapes Go.WideShapes Go.ChangeAt Go.RowKit

theorem pair_of {a b : Int} {p : Int × Int} {w w' : World} (h : p = (a, b)) (hw : w' = w) : Ending.returned (.tuple #[.int .i64 a, .int .i64 b]) = .returned (.tuple #[.int .i64 p.1, .int .i64 p.2]) ∧ w' = w := by
  rw [h]; exact ⟨rfl, hw⟩
theorem nth_range (y m wd k : Int) (w : World) (ht : Tab w) (h : ¬ DsCal.vld y m 1) :
    Calls Tryd.prog 55 #[.int .i64 y, .int .i64 m, .int .i64 wd, .int .i64 k] w fun e w' => e = .returned (.tuple #[.int .i64 0, .int .i64 6]) ∧ w' = w := by
  have H := hide h
  clear h
  go_enter Tryd.func55, Tryd.ntmps55
  go_wp2_with (go_at_call 65; refine (days_no _ _ _ _ ht H.out).mono ?_; rintro e w' ⟨rfl, rfl⟩)
  go_ret2; exact ⟨rfl, rfl⟩
set_option maxHeartbeats 1000000 in
theorem nth_arg (y m wd k : Int) (w : World) (ht : Tab w) (h : DsCal.vld y m 1) (ha : ¬ DsCal.okA wd k) :
    Calls Tryd.prog 55 #[.int .i64 y, .int .i64 m, .int .i64 wd, .int .i64 k] w fun e w' => e = .returned (.tuple #[.int .i64 0, .int .i64 1]) ∧ w' = w := by
  have H := hide h
  have hc : wd < 0 ∨ (0 ≤ wd ∧ 6 < wd) ∨ (0 ≤ wd ∧ wd ≤ 6 ∧ (k = 0 ∨ k < -5 ∨ 5 < k)) := by unfold DsCal.okA at ha; omega
  clear h ha
  rcases hc with c | ⟨c0, c⟩ | ⟨c0, c, rfl | d | d⟩
  all_goals
    go_enter Tryd.func55, Tryd.ntmps55
    go_wp2_with (go_at_call 65; refine (days_yes _ _ _ _ ht H.out).mono ?_; rintro e w' ⟨rfl, rfl⟩)
    go_ret2; exact ⟨rfl, rfl⟩

set_option maxHeartbeats 1000000 in
set_option maxHeartbeats 2000000 in
theorem nth_yes (y m wd k : Int) (w : World) (ht : Tab w) (h : DsCal.vld y m 1) (ha : DsCal.okA wd k) :
    Calls Tryd.prog 55 #[.int .i64 y, .int .i64 m, .int .i64 wd, .int .i64 k] w fun e w' => e = .returned (.tuple #[.int .i64 (DsCal.nres (DsCal.num y m 1) (DsCal.dlen y m) wd k).1, .int .i64 (DsCal.nres (DsCal.num y m 1) (DsCal.dlen y m) wd k).2]) ∧ w' = w := by
  have H := hide h
  have hb := DsCal.num_bd h
  have hm := DsCal.vld_bd h
  have hd := DsCal.dlen_bd (y := y) (m := m) (by omega) (by omega)
  obtain ⟨hb1, hb2⟩ := hb
  obtain ⟨hd1, hd2⟩ := hd
  obtain ⟨w0, w6, k0, k1, k5⟩ := ha
  have kz : (k == 0) = false := by simpa using k0
  clear h hm
  by_cases kp : 0 < k
  · have e : DsCal.nix (DsCal.num y m 1) (DsCal.dlen y m) wd k = (wd - (DsCal.num y m 1 - 1)) % 7 + (k - 1) * 7 := by rw [DsCal.nix_pos kp]; unfold DsCal.a0; omega
    by_cases c : (wd - (DsCal.num y m 1 - 1)) % 7 + (k - 1) * 7 < DsCal.dlen y m
    · have r := DsCal.nres_yes (b := DsCal.num y m 1) (size := DsCal.dlen y m) (wd := wd) (k := k) (by rw [e]; omega) (by rw [e]; exact c)
      rw [e] at r
      have R := hide r
      clear r e k0
      go_enter Tryd.func55, Tryd.ntmps55
      go_wp2_with (first
        | (go_at_call 65; refine (days_yes _ _ _ _ ht H.out).mono ?_; rintro e w' ⟨rfl, rfl⟩)
        | (go_at_call 52; refine (weekday_yes _ _ hb1 hb2).mono ?_; rintro e w' ⟨rfl, rfl⟩)
        | (go_at_call 34; refine (len_any _ _ _ ht).mono ?_; rintro e w' ⟨rfl, rfl⟩))
      go_ret2
      exact pair_of R.out rfl
    · have R := hide (DsCal.nres_no (b := DsCal.num y m 1) (size := DsCal.dlen y m) (wd := wd) (k := k) (by rw [e]; omega))
      clear e k0
      go_enter Tryd.func55, Tryd.ntmps55
      go_wp2_with (first
        | (go_at_call 65; refine (days_yes _ _ _ _ ht H.out).mono ?_; rintro e w' ⟨rfl, rfl⟩)
        | (go_at_call 52; refine (weekday_yes _ _ hb1 hb2).mono ?_; rintro e w' ⟨rfl, rfl⟩)
        | (go_at_call 34; refine (len_any _ _ _ ht).mono ?_; rintro e w' ⟨rfl, rfl⟩))
      go_ret2
      exact pair_of R.out rfl
  · have e : DsCal.nix (DsCal.num y m 1) (DsCal.dlen y m) wd k = (wd - (DsCal.num y m 1 - 1)) % 7 + ((DsCal.dlen y m - 1 - (wd - (DsCal.num y m 1 - 1)) % 7) / 7 + 1 + k) * 7 := by
      rw [DsCal.nix_neg kp]; unfold DsCal.cnt
      have : DsCal.a0 (DsCal.num y m 1) wd = (wd - (DsCal.num y m 1 - 1)) % 7 := by unfold DsCal.a0; omega
      rw [this]
    by_cases c : (wd - (DsCal.num y m 1 - 1)) % 7 + ((DsCal.dlen y m - 1 - (wd - (DsCal.num y m 1 - 1)) % 7) / 7 + 1 + k) * 7 < 0
    · have R := hide (DsCal.nres_no (b := DsCal.num y m 1) (size := DsCal.dlen y m) (wd := wd) (k := k) (by rw [e]; omega))
      clear e
      go_enter Tryd.func55, Tryd.ntmps55
      go_wp2_with (first
        | (go_at_call 65; refine (days_yes _ _ _ _ ht H.out).mono ?_; rintro e w' ⟨rfl, rfl⟩)
        | (go_at_call 52; refine (weekday_yes _ _ hb1 hb2).mono ?_; rintro e w' ⟨rfl, rfl⟩)
        | (go_at_call 34; refine (len_any _ _ _ ht).mono ?_; rintro e w' ⟨rfl, rfl⟩))
      go_ret2
      exact pair_of R.out rfl
    · have r := DsCal.nres_yes (b := DsCal.num y m 1) (size := DsCal.dlen y m) (wd := wd) (k := k) (by rw [e]; omega) (by rw [e]; omega)
      rw [e] at r
      have R := hide r
      clear r e
      go_enter Tryd.func55, Tryd.ntmps55
      go_wp2_with (first
        | (go_at_call 65; refine (days_yes _ _ _ _ ht H.out).mono ?_; rintro e w' ⟨rfl, rfl⟩)
        | (go_at_call 52; refine (weekday_yes _ _ hb1 hb2).mono ?_; rintro e w' ⟨rfl, rfl⟩)
        | (go_at_call 34; refine (len_any _ _ _ ht).mono ?_; rintro e w' ⟨rfl, rfl⟩))
      go_ret2
      exact pair_of R.out rfl

end Go.Proofs.YthbfjkdklnffjaaDoor.Dt

