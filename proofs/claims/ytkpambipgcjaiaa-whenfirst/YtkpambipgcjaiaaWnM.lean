/- Windows of minutes, plainly: no program in sight. -/
set_option linter.unusedVariables false
namespace DsWn
/-- are these minutes of a day? -/
def mB (b : Int) : Bool := decide (0 ≤ b ∧ b < 1440)
/-- is the window f to t open at m? -/
def hasB (f t m : Int) : Bool := if f ≤ t then decide (f ≤ m ∧ m ≤ t) else decide (f ≤ m ∨ m ≤ t)
def openB (f t m : Int) : Bool := mB f && mB t && mB m && hasB f t m
def longF (f t : Int) : Int := if mB f && mB t then (t - f + 1440) % 1440 + 1 else 0
/-- how many minutes behind m it is open first -/
def untilF (f t m : Int) : Int := if hasB f t m then 0 else (f - m + 1440) % 1440
/-- how many minutes from m on it is open -/
def leftF (f t m : Int) : Int := if hasB f t m then (if (t - f + 1440) % 1440 = 1439 then 1440 else (t - m + 1440) % 1440 + 1) else 0
/-- how many minutes ahead of m it is open -/
def cntF (f t m : Int) : Int := if f ≤ t then min m (t + 1) - min m f else min m (t + 1) + (m - min m f)

theorem mB_iff (b : Int) : mB b = true ↔ 0 ≤ b ∧ b < 1440 := by simp [mB]
theorem mB_no (b : Int) : mB b = false ↔ b < 0 ∨ 1440 ≤ b := by simp [mB]; omega
theorem hasB_iff (f t m : Int) : hasB f t m = true ↔ (f ≤ t ∧ f ≤ m ∧ m ≤ t) ∨ (t < f ∧ (f ≤ m ∨ m ≤ t)) := by
  unfold hasB; split <;> simp <;> omega
theorem hasB_no (f t m : Int) : hasB f t m = false ↔ (f ≤ t ∧ (m < f ∨ t < m)) ∨ (t < f ∧ (m < f ∧ t < m)) := by
  unfold hasB; split <;> simp <;> omega
theorem emod_in (x : Int) (h0 : 0 ≤ x) (h : x < 2880) : (x % 1440 = x ∧ x < 1440) ∨ (x % 1440 = x - 1440 ∧ 1440 ≤ x) := by omega

theorem until_bd (f t m : Int) (hm : 0 ≤ m ∧ m < 1440) (hf : 0 ≤ f ∧ f < 1440) : 0 ≤ untilF f t m ∧ untilF f t m ≤ 1439 := by
  unfold untilF; split <;> omega
theorem until_at (f t m : Int) (hm : 0 ≤ m ∧ m < 1440) (hf : 0 ≤ f ∧ f < 1440) (ht : 0 ≤ t ∧ t < 1440) : hasB f t ((m + untilF f t m) % 1440) = true := by
  unfold untilF
  by_cases h : hasB f t m = true
  · rw [if_pos h]
    have : (m + 0) % 1440 = m := by omega
    rw [this]; exact h
  · rw [if_neg h]
    have : (m + (f - m + 1440) % 1440) % 1440 = f := by omega
    rw [this, hasB_iff]; omega
theorem until_lt (f t m k : Int) (hm : 0 ≤ m ∧ m < 1440) (hf : 0 ≤ f ∧ f < 1440) (ht : 0 ≤ t ∧ t < 1440) (h0 : 0 ≤ k) (hk : k < untilF f t m) : hasB f t ((m + k) % 1440) = false := by
  unfold untilF at hk
  by_cases h : hasB f t m = true
  · rw [if_pos h] at hk; omega
  · rw [if_neg h] at hk
    have h' : hasB f t m = false := by simpa using h
    rw [hasB_no] at h' ⊢
    omega
theorem left_bd (f t m : Int) (hm : 0 ≤ m ∧ m < 1440) : 0 ≤ leftF f t m ∧ leftF f t m ≤ 1440 := by
  unfold leftF; split
  · split <;> omega
  · omega
theorem left_lt (f t m k : Int) (hm : 0 ≤ m ∧ m < 1440) (hf : 0 ≤ f ∧ f < 1440) (ht : 0 ≤ t ∧ t < 1440) (h0 : 0 ≤ k) (hk : k < leftF f t m) : hasB f t ((m + k) % 1440) = true := by
  unfold leftF at hk
  by_cases h : hasB f t m = true
  · rw [if_pos h] at hk
    rw [hasB_iff] at h ⊢
    split at hk <;> omega
  · rw [if_neg h] at hk; omega
theorem left_at (f t m : Int) (hm : 0 ≤ m ∧ m < 1440) (hf : 0 ≤ f ∧ f < 1440) (ht : 0 ≤ t ∧ t < 1440) (hk : leftF f t m < 1440) : hasB f t ((m + leftF f t m) % 1440) = false := by
  by_cases h : hasB f t m = true
  · unfold leftF at hk ⊢
    rw [if_pos h] at hk ⊢
    rw [hasB_iff] at h
    split
    · rename_i h1; rw [if_pos h1] at hk; omega
    · rename_i h1; rw [if_neg h1] at hk
      rw [hasB_no]
      omega
  · have h' : hasB f t m = false := by simpa using h
    have e : leftF f t m = 0 := by unfold leftF; rw [if_neg h]
    rw [e]
    have : (m + 0) % 1440 = m := by omega
    rw [this]; exact h'
theorem left_zero (f t m : Int) (hm : 0 ≤ m ∧ m < 1440) : leftF f t m = 0 ↔ hasB f t m = false := by
  unfold leftF
  by_cases h : hasB f t m = true
  · rw [if_pos h]; simp [h]; split <;> omega
  · rw [if_neg h]; simpa using h
/-- the rest of a window: from behind its end up to ahead of its beginning -/
def rf (t : Int) : Int := (t + 1) % 1440
def rt (f : Int) : Int := (f - 1) % 1440
theorem rest_right (f t : Int) : (0 ≤ rf t ∧ rf t < 1440) ∧ (0 ≤ rt f ∧ rt f < 1440) := by unfold rf rt; omega
theorem left_always (f t m : Int) (h : hasB f t m = true) (hf : 0 ≤ f ∧ f < 1440) (ht : 0 ≤ t ∧ t < 1440) (e : f = rf t) : leftF f t m = 1440 := by
  unfold rf at e
  unfold leftF; rw [if_pos h, if_pos (by omega)]
theorem left_rest (f t m : Int) (h : hasB f t m = true) (hm : 0 ≤ m ∧ m < 1440) (hf : 0 ≤ f ∧ f < 1440) (ht : 0 ≤ t ∧ t < 1440) (e : f ≠ rf t) : untilF (rf t) (rt f) m = leftF f t m := by
  have e1 : hasB (rf t) (rt f) m = false := by
    rw [hasB_iff] at h
    rw [hasB_no]; unfold rf rt at *; omega
  unfold leftF untilF
  rw [if_pos h, if_neg (by simp [e1]), if_neg (by unfold rf at e; omega)]
  rw [hasB_iff] at h
  unfold rf at *; omega
theorem rest_same (f t : Int) (hf : 0 ≤ f ∧ f < 1440) (ht : 0 ≤ t ∧ t < 1440) : f = rf t ↔ t = rt f := by unfold rf rt; omega
theorem cnt_zero (f t : Int) (hf : 0 ≤ f) (ht : 0 ≤ t) : cntF f t 0 = 0 := by unfold cntF; split <;> omega
theorem cnt_bd (f t m : Int) (hf : 0 ≤ f) (ht : 0 ≤ t) (hm : 0 ≤ m) : 0 ≤ cntF f t m ∧ cntF f t m ≤ m + m := by unfold cntF; split <;> omega
theorem cnt_succ (f t m : Int) (hf : 0 ≤ f) (ht : 0 ≤ t) (hm : 0 ≤ m) : cntF f t (m + 1) = cntF f t m + if hasB f t m then 1 else 0 := by
  by_cases h : hasB f t m = true
  · rw [if_pos h]; rw [hasB_iff] at h; unfold cntF; split <;> omega
  · have h' : hasB f t m = false := by simpa using h
    rw [if_neg h]; rw [hasB_no] at h'; unfold cntF; split <;> omega
theorem cnt_all (f t : Int) (hf : 0 ≤ f ∧ f < 1440) (ht : 0 ≤ t ∧ t < 1440) : cntF f t 1440 = (t - f + 1440) % 1440 + 1 := by
  unfold cntF; split <;> omega
theorem long_cnt (f t : Int) (hf : mB f = true) (ht : mB t = true) : longF f t = cntF f t 1440 := by
  rw [mB_iff] at hf ht
  rw [cnt_all f t hf ht]; unfold longF; rw [if_pos (by simp [mB]; omega)]
theorem long_bd (f t : Int) : 0 ≤ longF f t ∧ longF f t ≤ 1440 := by unfold longF; split <;> omega

/-- what Next and Left tell: the answer and the error -/
def okC (c : Int) : Bool := decide (1440 ≤ c ∧ c ≤ 5258966399)
def askF (f t c : Int) : Int := if mB f && mB t then (if okC c then 0 else 6) else 1
def atF (f t c : Int) : Int := if askF f t c = 0 then c % 1440 else 0
def nextF (f t c : Int) : Int × Int := if askF f t c ≠ 0 then (0, askF f t c) else if c + untilF f t (c % 1440) ≤ 5258966399 then (c + untilF f t (c % 1440), 0) else (0, 6)
def lfF (f t c : Int) : Int × Int := if askF f t c ≠ 0 then (0, askF f t c) else if hasB f t (c % 1440) then (leftF f t (c % 1440), 0) else (0, 5)
end DsWn
