/- Plain mathematics of the Gregorian calendar: no Go in sight. -/
namespace DsCal
def lp (y : Int) : Int := if y % 4 = 0 ∧ (y % 100 ≠ 0 ∨ y % 400 = 0) then 1 else 0
def leapB (y : Int) : Bool := decide (y % 4 = 0 ∧ (y % 100 ≠ 0 ∨ y % 400 = 0))
def dlen (y m : Int) : Int :=
  if m < 1 ∨ 12 < m then 0 else if m = 2 then 28 + lp y else if m = 4 ∨ m = 6 ∨ m = 9 ∨ m = 11 then 30 else 31
def cum (y m : Int) : Int :=
  if m ≤ 1 then 0 else if m = 2 then 31 else if m = 3 then 59 + lp y else if m = 4 then 90 + lp y else if m = 5 then 120 + lp y
  else if m = 6 then 151 + lp y else if m = 7 then 181 + lp y else if m = 8 then 212 + lp y else if m = 9 then 243 + lp y
  else if m = 10 then 273 + lp y else if m = 11 then 304 + lp y else if m = 12 then 334 + lp y else 365 + lp y
def ahead (y : Int) : Int := 365 * (y - 1) + (y - 1) / 4 - (y - 1) / 100 + (y - 1) / 400
def num (y m d : Int) : Int := ahead y + cum y m + d
def vld (y m d : Int) : Prop := 1 ≤ y ∧ y ≤ 9999 ∧ 1 ≤ d ∧ d ≤ dlen y m
def vldB (y m d : Int) : Bool := decide (1 ≤ y ∧ y ≤ 9999 ∧ 1 ≤ d ∧ d ≤ dlen y m)
theorem vldB_iff (y m d : Int) : vldB y m d = true ↔ vld y m d := by simp [vldB, vld]
theorem lp01 (y : Int) : 0 ≤ lp y ∧ lp y ≤ 1 := by unfold lp; split <;> omega
theorem lp_leap (y : Int) : lp y = if leapB y then 1 else 0 := by
  unfold lp leapB; by_cases h : y % 4 = 0 ∧ (y % 100 ≠ 0 ∨ y % 400 = 0) <;> simp [h]
theorem ahead_succ (y : Int) : ahead (y + 1) = ahead y + 365 + lp y := by
  unfold ahead lp
  have e : y + 1 - 1 = y := by omega
  rw [e]
  split <;> omega
theorem ahead_mono {a b : Int} (h : a ≤ b) : ahead a + 365 * (b - a) ≤ ahead b := by
  unfold ahead; omega
theorem ahead_bd (y : Int) (h1 : 1 ≤ y) (h2 : y ≤ 10000) : 0 ≤ ahead y ∧ ahead y ≤ 3652059 := by
  unfold ahead; omega
theorem months {m : Int} (h1 : 1 ≤ m) (h2 : m ≤ 12) : m = 1 ∨ m = 2 ∨ m = 3 ∨ m = 4 ∨ m = 5 ∨ m = 6 ∨ m = 7 ∨ m = 8 ∨ m = 9 ∨ m = 10 ∨ m = 11 ∨ m = 12 := by omega
theorem dlen_range {y m : Int} (h : 1 ≤ dlen y m) : 1 ≤ m ∧ m ≤ 12 := by
  unfold dlen at h
  by_cases c : m < 1 ∨ 12 < m
  · rw [if_pos c] at h; omega
  · omega
theorem dlen_bd {y m : Int} (h1 : 1 ≤ m) (h2 : m ≤ 12) : 28 ≤ dlen y m ∧ dlen y m ≤ 31 := by
  have := lp01 y
  unfold dlen; repeat' split
  all_goals omega
theorem dlen_any (y m : Int) : 0 ≤ dlen y m ∧ dlen y m ≤ 31 := by
  have := lp01 y
  unfold dlen; repeat' split
  all_goals omega
theorem cum_succ {y m : Int} (h1 : 1 ≤ m) (h2 : m ≤ 12) : cum y (m + 1) = cum y m + dlen y m := by
  rcases months h1 h2 with h | h | h | h | h | h | h | h | h | h | h | h <;> subst h <;> simp [cum, dlen] <;> omega
theorem cum_one (y : Int) : cum y 1 = 0 := by simp [cum]
theorem cum_end (y : Int) : cum y 13 = 365 + lp y := by simp [cum]
theorem cum_bd {y m : Int} (h1 : 1 ≤ m) (h2 : m ≤ 13) : 0 ≤ cum y m ∧ cum y m ≤ 366 := by
  have := lp01 y
  by_cases c : m = 13
  · subst c; simp [cum]; omega
  · rcases months h1 (show m ≤ 12 by omega) with h | h | h | h | h | h | h | h | h | h | h | h <;> subst h <;> simp [cum] <;> omega
theorem cum_step {y a : Int} (k : Nat) (h1 : 1 ≤ a) (h2 : a + k ≤ 13) : cum y a ≤ cum y (a + k) := by
  induction k with
  | zero => simp
  | succ k ih =>
    have i := ih (by omega)
    have j := cum_succ (y := y) (m := a + k) (by omega) (by omega)
    have l := dlen_any y (a + k)
    have e : a + ((k + 1 : Nat) : Int) = a + k + 1 := by omega
    rw [e, j]; omega
theorem cum_lt {y a b : Int} (h1 : 1 ≤ a) (h : a < b) (h2 : b ≤ 13) : cum y a + dlen y a ≤ cum y b := by
  rw [← cum_succ h1 (by omega)]
  have e : b = a + 1 + ((b - a - 1).toNat : Int) := by omega
  rw [e]
  exact cum_step _ (by omega) (by omega)
/-- the day of the year is within the year -/
theorem doy_bd {y m d : Int} (h : vld y m d) : 1 ≤ cum y m + d ∧ cum y m + d ≤ 365 + lp y := by
  obtain ⟨_, _, h3, h4⟩ := h
  have hm := dlen_range (y := y) (m := m) (by omega)
  have c := cum_bd (y := y) hm.1 (by omega)
  have e := cum_lt (y := y) hm.1 (show m < 13 by omega) (by omega)
  rw [cum_end] at e
  omega
theorem num_bd {y m d : Int} (h : vld y m d) : 1 ≤ num y m d ∧ num y m d ≤ 3652059 := by
  have a := doy_bd h
  obtain ⟨h1, h2, _, _⟩ := h
  have b := ahead_bd y h1 (by omega)
  have c := ahead_bd (y + 1) (by omega) (by omega)
  rw [ahead_succ] at c
  unfold num; omega
/-- the later of two dates has the greater day -/
def earlier (y m d z n e : Int) : Prop := y < z ∨ (y = z ∧ m < n) ∨ (y = z ∧ m = n ∧ d < e)
theorem num_lt {y m d z n e : Int} (h : vld y m d) (k : vld z n e) (l : earlier y m d z n e) : num y m d < num z n e := by
  rcases l with l | ⟨rfl, l⟩ | ⟨rfl, rfl, l⟩
  · have a := doy_bd h
    have b := doy_bd k
    have c := ahead_mono (show y + 1 ≤ z by omega)
    rw [ahead_succ] at c
    unfold num; omega
  · have h4 := h.2.2.2
    have h3 := h.2.2.1
    have k3 := k.2.2.1
    have k4 := k.2.2.2
    have hm := dlen_range (y := y) (m := m) (by omega)
    have hn := dlen_range (y := y) (m := n) (by omega)
    have c := cum_lt (y := y) hm.1 l (by omega)
    unfold num; omega
  · unfold num; omega
theorem earlier_or (y m d z n e : Int) : earlier y m d z n e ∨ (y = z ∧ m = n ∧ d = e) ∨ earlier z n e y m d := by
  unfold earlier; omega
theorem num_inj {y m d z n e : Int} (h : vld y m d) (k : vld z n e) (l : num y m d = num z n e) : y = z ∧ m = n ∧ d = e := by
  rcases earlier_or y m d z n e with a | a | a
  · have := num_lt h k a; omega
  · exact a
  · have := num_lt k h a; omega
/-- the year and the day of the year, from the day -/
theorem year_ok {n y l : Int} (h2 : n ≤ 3652059) (e : ahead y + l = n - 1) (l0 : 0 ≤ l) : y ≤ 9999 := by
  by_cases c : y ≤ 9999
  · exact c
  · have := ahead_mono (show (10000 : Int) ≤ y by omega)
    have : ahead 10000 = 3652059 := by decide
    omega
theorem date_of {n y m d l : Int} (h2 : n ≤ 3652059) (hy : 1 ≤ y) (e : ahead y + l = n - 1) (l0 : 0 ≤ l) (hd : l - cum y m + 1 = d) (d1 : 1 ≤ d) (d2 : d ≤ dlen y m) :
    vld y m d ∧ num y m d = n :=
  ⟨⟨hy, year_ok h2 e l0, d1, d2⟩, by unfold num; omega⟩
/-- there is a date of each day: years are found by 400, 100, 4 and 1 -/
def y0 (n : Int) : Int := 1 + (n - 1) / 146097 * 400 + min ((n - 1) % 146097 / 36524) 3 * 100 + ((n - 1) % 146097 - min ((n - 1) % 146097 / 36524) 3 * 36524) / 1461 * 4
def r0 (n : Int) : Int := ((n - 1) % 146097 - min ((n - 1) % 146097 / 36524) 3 * 36524) % 1461
theorem y0_ahead {n : Int} (h1 : 1 ≤ n) : ahead (y0 n) + r0 n = n - 1 ∧ 1 ≤ y0 n ∧ y0 n % 4 = 1 ∧ 0 ≤ r0 n ∧ r0 n ≤ 1460 ∧ (r0 n = 1460 → lp (y0 n + 3) = 1) := by
  unfold y0 r0
  generalize ha : (n - 1) / 146097 = a
  generalize hb : (n - 1) % 146097 = b
  have hb0 : 0 ≤ b ∧ b < 146097 := by omega
  have ha0 : 0 ≤ a := by omega
  have hab : n - 1 = 146097 * a + b := by omega
  generalize hc : min (b / 36524) 3 = c
  have hc0 : 0 ≤ c ∧ c ≤ 3 := by omega
  generalize hd : b - c * 36524 = d
  have hd0 : 0 ≤ d ∧ d ≤ 36524 ∧ (d = 36524 → c = 3) := by omega
  generalize he : d / 1461 = e
  generalize hf : d % 1461 = f
  have he0 : 0 ≤ e ∧ e ≤ 24 ∧ 0 ≤ f ∧ f ≤ 1460 ∧ d = 1461 * e + f := by omega
  refine ⟨?_, by omega, by omega, by omega, by omega, ?_⟩
  · unfold ahead
    have q1 : (1 + a * 400 + c * 100 + e * 4 - 1) / 4 = 100 * a + 25 * c + e := by omega
    have q2 : (1 + a * 400 + c * 100 + e * 4 - 1) / 100 = 4 * a + c := by omega
    have q3 : (1 + a * 400 + c * 100 + e * 4 - 1) / 400 = a := by omega
    rw [q1, q2, q3]; omega
  · intro h
    unfold lp
    rw [if_pos]
    by_cases g : e = 24
    · have : c = 3 := by omega
      subst this; subst g; omega
    · omega
/-- Go's remainder, by a positive divisor -/
theorem tm (a k : Int) : (a.tmod k = 0 ↔ a % k = 0) := by
  rw [← Int.dvd_iff_tmod_eq_zero, Int.dvd_iff_emod_eq_zero]
theorem leapB_a (y : Int) (h1 : y.tmod 4 = 0) (h2 : y.tmod 100 = 0) : (y.tmod 400 == 0) = leapB y := by
  rw [tm] at h1 h2
  rw [Bool.eq_iff_iff]; simp only [leapB, beq_iff_eq, decide_eq_true_eq, tm]; omega
theorem leapB_b (y : Int) (h1 : y.tmod 4 = 0) (h2 : ¬ y.tmod 100 = 0) : true = leapB y := by
  rw [tm] at h1 h2
  exact (decide_eq_true (p := y % 4 = 0 ∧ (y % 100 ≠ 0 ∨ y % 400 = 0)) ⟨h1, .inl h2⟩).symm
theorem lp_yes {y : Int} (h : leapB y = true) : lp y = 1 := by rw [lp_leap, h]; rfl
theorem lp_no {y : Int} (h : leapB y = false) : lp y = 0 := by rw [lp_leap, h]; rfl
theorem leapB_c (y : Int) (h1 : ¬ y.tmod 4 = 0) : (y.tmod 400 == 0) = leapB y := by
  rw [tm] at h1
  rw [Bool.eq_iff_iff]; simp only [leapB, beq_iff_eq, decide_eq_true_eq, tm]; omega
/-- the months' lengths, of a year that is no leap year -/
def plen (m : Int) : Int := if m = 2 then 28 else if m = 4 ∨ m = 6 ∨ m = 9 ∨ m = 11 then 30 else 31
theorem dlen_no {y m : Int} (h : m < 1 ∨ 12 < m) : dlen y m = 0 := by unfold dlen; rw [if_pos h]
theorem dlen_two (y : Int) : dlen y 2 = 28 + lp y := by simp [dlen]
theorem dlen_else {y m : Int} (h1 : 1 ≤ m) (h2 : m ≤ 12) (h3 : m ≠ 2) : dlen y m = plen m := by
  unfold dlen plen; rw [if_neg (by omega), if_neg h3, if_neg h3]
/-- whether a day can be -/
def rightB (n : Int) : Bool := decide (1 ≤ n ∧ n ≤ 3652059)
theorem rightB_yes {n : Int} (h1 : 1 ≤ n) (h2 : n ≤ 3652059) : rightB n = true := decide_eq_true ⟨h1, h2⟩
theorem rightB_no {n : Int} (h : n < 1 ∨ 3652059 < n) : rightB n = false := decide_eq_false (by omega)
theorem rightB_a {n : Int} (h : 1 ≤ n) : decide (n ≤ 3652059) = rightB n := by
  unfold rightB; rw [Bool.eq_iff_iff]; simp only [decide_eq_true_eq]; omega
theorem lp_mid {y : Int} (k : Nat) (h : y % 4 = 1) (hk : k < 3) : lp (y + k) = 0 := by unfold lp; rw [if_neg]; omega
theorem yearOf_end {n : Int} {k : Nat} (h1 : 1 ≤ n) (hk : k ≤ 3) (h : k = 3 ∨ r0 n - 365 * k < 365) (h0 : 0 ≤ r0 n - 365 * k) :
    ahead (y0 n + k) + (r0 n - 365 * k) = n - 1 ∧ 1 ≤ y0 n + k ∧ r0 n - 365 * k < 365 + lp (y0 n + k) := by
  obtain ⟨a, b, c, d, e, f⟩ := y0_ahead h1
  have s0 := ahead_succ (y0 n)
  have s1 := ahead_succ (y0 n + 1)
  have s2 := ahead_succ (y0 n + 2)
  have l0 : lp (y0 n) = 0 := by simpa using lp_mid 0 c (by omega)
  have l1 : lp (y0 n + 1) = 0 := by simpa using lp_mid 1 c (by omega)
  have l2 : lp (y0 n + 2) = 0 := by simpa using lp_mid 2 c (by omega)
  have l3 := lp01 (y0 n + 3)
  rw [show y0 n + 1 + 1 = y0 n + 2 by omega] at s1
  rw [show y0 n + 2 + 1 = y0 n + 3 by omega] at s2
  have hk' : k = 0 ∨ k = 1 ∨ k = 2 ∨ k = 3 := by omega
  rcases hk' with rfl | rfl | rfl | rfl
  · rw [show y0 n + ((0 : Nat) : Int) = y0 n by omega]; omega
  · rw [show y0 n + ((1 : Nat) : Int) = y0 n + 1 by omega]; omega
  · rw [show y0 n + ((2 : Nat) : Int) = y0 n + 2 by omega]; omega
  · rw [show y0 n + ((3 : Nat) : Int) = y0 n + 3 by omega]; omega
theorem y0_bd {n : Int} (h1 : 1 ≤ n) (h2 : n ≤ 3652059) : 1 ≤ y0 n ∧ y0 n ≤ 9999 := by
  obtain ⟨a, b, c, d, e, f⟩ := y0_ahead h1
  exact ⟨b, year_ok h2 a d⟩
theorem r0_bd (n : Int) : 0 ≤ r0 n ∧ r0 n ≤ 1460 := by unfold r0; omega
theorem lp_y0 {n : Int} {k : Nat} (h1 : 1 ≤ n) (hk : k < 3) : lp (y0 n + k) = 0 := lp_mid k (y0_ahead h1).2.2.1 hk
/-- the month and the day of the month, by a search -/
theorem month_end {n y l m : Int} (h2 : n ≤ 3652059) (hy : 1 ≤ y) (e : ahead y + l = n - 1) (h0 : 0 ≤ l) (hl : l < 365 + lp y) (m1 : 1 ≤ m) (m2 : m ≤ 12) (hc : 0 ≤ l - cum y m) (hd : m = 12 ∨ l - cum y m < dlen y m) :
    vld y m (l - cum y m + 1) ∧ num y m (l - cum y m + 1) = n := by
  refine date_of h2 hy e h0 rfl (by omega) ?_
  rcases hd with rfl | hd
  · have a := cum_succ (y := y) (m := 12) (by omega) (by omega)
    have b := cum_end y
    rw [show (12 : Int) + 1 = 13 by omega] at a
    omega
  · omega
theorem vld_bd {y m d : Int} (h : vld y m d) : 1 ≤ y ∧ y ≤ 9999 ∧ 1 ≤ m ∧ m ≤ 12 ∧ 1 ≤ d ∧ d ≤ 31 := by
  obtain ⟨a, b, c, e⟩ := h
  have f := dlen_any y m
  have g := dlen_range (y := y) (m := m) (by omega)
  omega
end DsCal

/- Plain mathematics of digits: numbers as decimal texts. No Go in sight. -/

/- Plain mathematics of digits: texts as numbers. No Go in sight. -/
namespace DsCal
def dgB (c : UInt8) : Bool := decide (48 ≤ (c.toNat : Int) ∧ (c.toNat : Int) ≤ 57)
def alld (l : List UInt8) : Bool := l.all dgB
def dval (l : List UInt8) : Int := l.foldl (fun a c => a * 10 + ((c.toNat : Int) - 48)) 0
theorem take_snoc (s : ByteArray) (k : Nat) (h : k < s.size) : s.data.toList.take (k + 1) = s.data.toList.take k ++ [s[k]] := by
  rw [List.take_succ_eq_append_getElem (by simpa using h)]; rfl
theorem take_all (s : ByteArray) (k : Nat) (h : s.size ≤ k) : s.data.toList.take k = s.data.toList :=
  List.take_of_length_le (by simpa using h)
theorem dval_snoc (l : List UInt8) (c : UInt8) : dval (l ++ [c]) = dval l * 10 + ((c.toNat : Int) - 48) := by
  unfold dval; rw [List.foldl_append]; rfl
theorem alld_snoc (l : List UInt8) (c : UInt8) : alld (l ++ [c]) = (alld l && dgB c) := by
  unfold alld; rw [List.all_append]; simp
theorem alld_take (l : List UInt8) (k : Nat) (h : alld (l.take k) = false) : alld l = false := by
  have e : alld l = (alld (l.take k) && alld (l.drop k)) := by
    unfold alld; rw [← List.all_append, List.take_append_drop]
  rw [e, h]; rfl
theorem alld_step (s : ByteArray) (k : Nat) (h : k < s.size) (a : alld (s.data.toList.take k) = true) (c1 : 48 ≤ (s[k].toNat : Int)) (c2 : (s[k].toNat : Int) ≤ 57) :
    alld (s.data.toList.take (k + 1)) = true := by
  rw [take_snoc s k h, alld_snoc, a]; simp [dgB, c1, c2]
theorem alld_stop (s : ByteArray) (k : Nat) (h : k < s.size) (c : (s[k].toNat : Int) < 48 ∨ 57 < (s[k].toNat : Int)) : alld s.data.toList = false := by
  apply alld_take _ (k + 1)
  rw [take_snoc s k h, alld_snoc]
  have : dgB s[k] = false := decide_eq_false (by omega)
  rw [this]; simp
theorem dval_step (s : ByteArray) (k : Nat) (h : k < s.size) : dval (s.data.toList.take (k + 1)) = dval (s.data.toList.take k) * 10 + ((s[k].toNat : Int) - 48) := by
  rw [take_snoc s k h, dval_snoc]
theorem dval_len (n : Nat) : ∀ l : List UInt8, l.length = n → alld l = true → 0 ≤ dval l ∧ dval l < (10 ^ n : Nat) := by
  induction n with
  | zero => intro l h _; have : l = [] := List.length_eq_zero_iff.1 h; subst this; exact ⟨by decide, by decide⟩
  | succ n ih =>
    intro l h a
    have hl : l ≠ [] := by intro e; subst e; simp at h
    have e := List.dropLast_concat_getLast hl
    rw [← e] at a ⊢
    rw [alld_snoc, Bool.and_eq_true] at a
    have i := ih l.dropLast (by simp [h]) a.1
    have c := a.2
    simp only [dgB, decide_eq_true_eq] at c
    rw [dval_snoc]
    rw [Nat.pow_succ]
    omega
theorem dval_bd (l : List UInt8) (n : Nat) (h : l.length ≤ n) (a : alld l = true) : 0 ≤ dval l ∧ dval l < (10 ^ n : Nat) := by
  have k := dval_len l.length l rfl a
  have : 10 ^ l.length ≤ 10 ^ n := Nat.pow_le_pow_right (by omega) h
  omega
theorem dval_take_bd (s : ByteArray) (k n : Nat) (h : k ≤ n) (a : alld (s.data.toList.take k) = true) : 0 ≤ dval (s.data.toList.take k) ∧ dval (s.data.toList.take k) < (10 ^ n : Nat) :=
  dval_bd _ n (by have := List.length_take_le k s.data.toList; omega) a
/-- what Read answers -/
def dayOf (L : Int) : Int × Int := if vldB (L / 10000) (L / 100 % 100) (L % 100) then (num (L / 10000) (L / 100 % 100) (L % 100), 0) else (0, 6)
def rdres (s : ByteArray) : Int × Int := if s.size = 8 ∧ alld s.data.toList = true then dayOf (dval s.data.toList) else (0, 20)
theorem rdres_size (s : ByteArray) (h : s.size ≠ 8) : rdres s = (0, 20) := by unfold rdres; rw [if_neg]; exact fun k => h k.1
theorem rdres_stop (s : ByteArray) (h : alld s.data.toList = false) : rdres s = (0, 20) := by unfold rdres; rw [if_neg]; intro k; rw [h] at k; cases k.2
theorem rdres_day (s : ByteArray) (h : s.size = 8) (a : alld s.data.toList = true) : rdres s = dayOf (dval s.data.toList) := by unfold rdres; rw [if_pos ⟨h, a⟩]
theorem dayOf_yes {L : Int} (h : vld (L / 10000) (L / 100 % 100) (L % 100)) : dayOf L = (num (L / 10000) (L / 100 % 100) (L % 100), 0) := by unfold dayOf; rw [if_pos ((vldB_iff _ _ _).2 h)]
theorem dayOf_no {L : Int} (h : ¬ vld (L / 10000) (L / 100 % 100) (L % 100)) : dayOf L = (0, 6) := by unfold dayOf; rw [if_neg (fun k => h ((vldB_iff _ _ _).1 k))]
end DsCal

/- Plain mathematics of times of a day as texts. No Go in sight. -/
namespace DsCal
/-- two digits as a number -/
def tdres (s : ByteArray) : Int × Bool := if alld s.data.toList = true then (dval s.data.toList, true) else (0, false)
theorem tdres_stop (s : ByteArray) (h : alld s.data.toList = false) : tdres s = (0, false) := by unfold tdres; rw [if_neg]; rw [h]; intro k; cases k
theorem tdres_end (s : ByteArray) (a : alld s.data.toList = true) : tdres s = (dval s.data.toList, true) := by unfold tdres; rw [if_pos a]
theorem tdres_bd (s : ByteArray) (h : s.size ≤ 2) : 0 ≤ (tdres s).1 ∧ (tdres s).1 ≤ 99 := by
  unfold tdres
  split
  · have := dval_bd s.data.toList 2 (by simpa using h) (by assumption)
    have e : ((10 ^ 2 : Nat) : Int) = 100 := rfl
    rw [e] at this
    simp only []
    omega
  · simp
/-- hours and minutes as minutes -/
def tmOf (a b : Int × Bool) : Int × Int := if a.2 = true ∧ b.2 = true then (if a.1 ≤ 23 ∧ b.1 ≤ 59 then (a.1 * 60 + b.1, 0) else (0, 6)) else (0, 20)
def tmres (s : ByteArray) : Int × Int := if s.size = 5 ∧ s.data.toList.getD 2 0 = 58 then tmOf (tdres (s.extract 0 2)) (tdres (s.extract 3 s.size)) else (0, 20)
theorem tmres_size (s : ByteArray) (h : s.size ≠ 5) : tmres s = (0, 20) := by unfold tmres; rw [if_neg]; exact fun k => h k.1
theorem at2 (s : ByteArray) (h : 2 < s.size) : s.data.toList.getD 2 0 = s[2] := by
  have h' : 2 < s.data.toList.length := by simpa using h
  simp only [List.getD, List.getElem?_eq_getElem h', Option.getD_some]
  rfl
theorem tmres_sign (s : ByteArray) (h : 2 < s.size) (c : (s[2].toNat : Int) ≠ 58) : tmres s = (0, 20) := by
  unfold tmres; rw [if_neg]; intro k; rw [at2 s h] at k; rw [k.2] at c; exact c rfl
theorem tmres_parts (s : ByteArray) (h5 : s.size = 5) (h : 2 < s.size) (c : (s[2].toNat : Int) = 58) : tmres s = tmOf (tdres (s.extract 0 2)) (tdres (s.extract 3 s.size)) := by
  unfold tmres; rw [if_pos]; refine ⟨h5, ?_⟩; rw [at2 s h]
  apply UInt8.toNat_inj.1
  show s[2].toNat = 58
  omega
theorem tmOf_no1 (a : Int) (b : Int × Bool) : tmOf (a, false) b = (0, 20) := by simp [tmOf]
theorem tmOf_no2 (a : Int × Bool) (b : Int) : tmOf a (b, false) = (0, 20) := by simp [tmOf]
theorem tmOf_range {a b : Int} (h : 23 < a ∨ 59 < b) : tmOf (a, true) (b, true) = (0, 6) := by unfold tmOf; rw [if_pos ⟨rfl, rfl⟩, if_neg]; simp only []; omega
theorem tmOf_yes {a b : Int} (h1 : a ≤ 23) (h2 : b ≤ 59) : tmOf (a, true) (b, true) = (a * 60 + b, 0) := by unfold tmOf; rw [if_pos ⟨rfl, rfl⟩, if_pos ⟨h1, h2⟩]
end DsCal
