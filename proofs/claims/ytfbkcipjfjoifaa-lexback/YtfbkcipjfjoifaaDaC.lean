/- Plain mathematics of digits: texts as numbers. No Go in sight. -/
import Derived.Test.YtfbkcipjfjoifaaDaA
import Derived.Test.YtfbkcipjfjoifaaDaB
namespace DsCal

def dgB (c : UInt8) : Bool := decide (48 ≤ (c.toNat : Int) ∧ (c.toNat : Int) ≤ 57)
def alld (l : List UInt8) : Bool := l.all dgB
def dval (l : List UInt8) : Int := l.foldl (fun a c => a * 10 + ((c.toNat : Int) - 48)) 0

theorem take_snoc (s : ByteArray) (k : Nat) (h : k < s.size) : s.data.toList.take (k + 1) = s.data.toList.take k ++ [s[k]] := by
  rw [List.take_succ_eq_append_getElem (by simpa using h)]; rfl
theorem take_all (s : ByteArray) (k : Nat) (h : s.size ≤ k) : s.data.toList.take k = s.data.toList :=
  List.take_of_length_le (by simpa using h)

theorem dval_snoc (l : List UInt8) (c : UInt8) : dval (l ++ [c]) = dval l * 10 + ((c.toNat : Int) - 48) := by
  unfold dval; rw [List.foldl_append]; rfl
theorem alld_snoc (l : List UInt8) (c : UInt8) : alld (l ++ [c]) = (alld l && dgB c) := by
  unfold alld; rw [List.all_append]; simp
theorem alld_take (l : List UInt8) (k : Nat) (h : alld (l.take k) = false) : alld l = false := by
  have e : alld l = (alld (l.take k) && alld (l.drop k)) := by
    unfold alld; rw [← List.all_append, List.take_append_drop]
  rw [e, h]; rfl
theorem alld_step (s : ByteArray) (k : Nat) (h : k < s.size) (a : alld (s.data.toList.take k) = true) (c1 : 48 ≤ (s[k].toNat : Int)) (c2 : (s[k].toNat : Int) ≤ 57) :
    alld (s.data.toList.take (k + 1)) = true := by
  rw [take_snoc s k h, alld_snoc, a]; simp [dgB, c1, c2]
theorem alld_stop (s : ByteArray) (k : Nat) (h : k < s.size) (c : (s[k].toNat : Int) < 48 ∨ 57 < (s[k].toNat : Int)) : alld s.data.toList = false := by
  apply alld_take _ (k + 1)
  rw [take_snoc s k h, alld_snoc]
  have : dgB s[k] = false := decide_eq_false (by omega)
  rw [this]; simp
theorem dval_step (s : ByteArray) (k : Nat) (h : k < s.size) : dval (s.data.toList.take (k + 1)) = dval (s.data.toList.take k) * 10 + ((s[k].toNat : Int) - 48) := by
  rw [take_snoc s k h, dval_snoc]

theorem dval_len (n : Nat) : ∀ l : List UInt8, l.length = n → alld l = true → 0 ≤ dval l ∧ dval l < (10 ^ n : Nat) := by
  induction n with
  | zero => intro l h _; have : l = [] := List.length_eq_zero_iff.1 h; subst this; exact ⟨by decide, by decide⟩
  | succ n ih =>
    intro l h a
    have hl : l ≠ [] := by intro e; subst e; simp at h
    have e := List.dropLast_concat_getLast hl
    rw [← e] at a ⊢
    rw [alld_snoc, Bool.and_eq_true] at a
    have i := ih l.dropLast (by simp [h]) a.1
    have c := a.2
    simp only [dgB, decide_eq_true_eq] at c
    rw [dval_snoc]
    rw [Nat.pow_succ]
    omega
theorem dval_bd (l : List UInt8) (n : Nat) (h : l.length ≤ n) (a : alld l = true) : 0 ≤ dval l ∧ dval l < (10 ^ n : Nat) := by
  have k := dval_len l.length l rfl a
  have : 10 ^ l.length ≤ 10 ^ n := Nat.pow_le_pow_right (by omega) h
  omega
theorem dval_take_bd (s : ByteArray) (k n : Nat) (h : k ≤ n) (a : alld (s.data.toList.take k) = true) : 0 ≤ dval (s.data.toList.take k) ∧ dval (s.data.toList.take k) < (10 ^ n : Nat) :=
  dval_bd _ n (by have := List.length_take_le k s.data.toList; omega) a

/-- what Read answers -/
def dayOf (L : Int) : Int × Int := if vldB (L / 10000) (L / 100 % 100) (L % 100) then (num (L / 10000) (L / 100 % 100) (L % 100), 0) else (0, 6)
def rdres (s : ByteArray) : Int × Int := if s.size = 8 ∧ alld s.data.toList = true then dayOf (dval s.data.toList) else (0, 20)
theorem rdres_size (s : ByteArray) (h : s.size ≠ 8) : rdres s = (0, 20) := by unfold rdres; rw [if_neg]; exact fun k => h k.1
theorem rdres_stop (s : ByteArray) (h : alld s.data.toList = false) : rdres s = (0, 20) := by unfold rdres; rw [if_neg]; intro k; rw [h] at k; cases k.2
theorem rdres_day (s : ByteArray) (h : s.size = 8) (a : alld s.data.toList = true) : rdres s = dayOf (dval s.data.toList) := by unfold rdres; rw [if_pos ⟨h, a⟩]
theorem dayOf_yes {L : Int} (h : vld (L / 10000) (L / 100 % 100) (L % 100)) : dayOf L = (num (L / 10000) (L / 100 % 100) (L % 100), 0) := by unfold dayOf; rw [if_pos ((vldB_iff _ _ _).2 h)]
theorem dayOf_no {L : Int} (h : ¬ vld (L / 10000) (L / 100 % 100) (L % 100)) : dayOf L = (0, 6) := by unfold dayOf; rw [if_neg (fun k => h ((vldB_iff _ _ _).1 k))]

/-- Number: digits as a number -/
def nmres (s : ByteArray) : Int × Bool := if alld s.data.toList = true ∧ 0 < s.size ∧ s.size ≤ 18 then (dval s.data.toList, true) else (0, false)
theorem nmres_stop (s : ByteArray) (h : alld s.data.toList = false) : nmres s = (0, false) := by unfold nmres; rw [if_neg]; intro k; rw [h] at k; cases k.1
theorem nmres_long (s : ByteArray) (h : 18 < s.size) : nmres s = (0, false) := by unfold nmres; rw [if_neg]; omega
theorem nmres_ok (s : ByteArray) (h : s.size ≤ 18) (h0 : 0 < s.size) (a : alld s.data.toList = true) : nmres s = (dval s.data.toList, true) := by unfold nmres; rw [if_pos ⟨a, h0, h⟩]
theorem nmres_end (s : ByteArray) (h : s.size ≤ 18) (a : alld s.data.toList = true) : nmres s = (dval s.data.toList, decide (0 < s.size)) := by
  unfold nmres
  by_cases c : 0 < s.size
  · rw [if_pos ⟨a, c, h⟩]
    have : decide (0 < s.size) = true := decide_eq_true (by omega)
    rw [this]
  · rw [if_neg (by omega)]
    have : decide (0 < s.size) = false := decide_eq_false (by omega)
    rw [this]
    have e : s.data.toList = [] := List.length_eq_zero_iff.1 (by have h : s.data.toList.length = s.size := by simp
                                                                 omega)
    rw [e]; rfl

/-- eight digits there and back -/
theorem byteOf (x : Int) (h0 : 0 ≤ x) (h1 : x ≤ 255) : ((UInt8.ofNat x.toNat).toNat : Int) = x := by
  have : x.toNat % 256 = x.toNat := Nat.mod_eq_of_lt (by omega)
  simp only [UInt8.toNat_ofNat']
  omega
theorem dgB_of (x : Int) (h0 : 48 ≤ x) (h1 : x ≤ 57) : dgB (UInt8.ofNat x.toNat) = true := by
  unfold dgB; rw [byteOf x (by omega) (by omega)]; exact decide_eq_true ⟨h0, h1⟩
theorem tx8_alld (L : Int) : alld (bytesL (tx8 L)) = true := by
  unfold alld bytesL tx8
  simp only [List.map_cons, List.map_nil, List.all_cons, List.all_nil, Bool.and_true, Bool.and_eq_true]
  refine ⟨?_, ?_, ?_, ?_, ?_, ?_, ?_, ?_⟩ <;> (apply dgB_of <;> omega)
theorem tx8_dval (L : Int) (h0 : 0 ≤ L) (h1 : L ≤ 99999999) : dval (bytesL (tx8 L)) = L := by
  unfold dval bytesL tx8
  simp only [List.map_cons, List.map_nil, List.foldl_cons, List.foldl_nil]
  repeat rw [byteOf _ (by omega) (by omega)]
  omega
theorem tx8_rdres {y m d : Int} (h : vld y m d) : rdres (bstr (tx8 (y * 10000 + m * 100 + d))) = (num y m d, 0) := by
  obtain ⟨a, b, c, e, f, g⟩ := vld_bd h
  rw [rdres_day _ rfl (tx8_alld _)]
  have k : dval (bstr (tx8 (y * 10000 + m * 100 + d))).data.toList = y * 10000 + m * 100 + d := tx8_dval _ (by omega) (by omega)
  rw [k]
  have e1 : (y * 10000 + m * 100 + d) / 10000 = y := by omega
  have e2 : (y * 10000 + m * 100 + d) / 100 % 100 = m := by omega
  have e3 : (y * 10000 + m * 100 + d) % 100 = d := by omega
  rw [dayOf_yes (by rw [e1, e2, e3]; exact h), e1, e2, e3]

/-- the next day is the next date -/
theorem next_date {y m d p q r : Int} (h : vld y m d) (k : vld p q r) (e : num p q r = num y m d + 1) :
    (p = y ∧ q = m ∧ r = d + 1) ∨ (p = y ∧ q = m + 1 ∧ r = 1 ∧ d = dlen y m ∧ m < 12) ∨ (p = y + 1 ∧ q = 1 ∧ r = 1 ∧ m = 12 ∧ d = 31) := by
  obtain ⟨a1, a2, a3, a4, a5, a6⟩ := vld_bd h
  have h4 := h.2.2.2
  by_cases c : d < dlen y m
  · left
    exact num_inj k (show vld y m (d + 1) from ⟨a1, a2, by omega, by omega⟩) (by rw [e]; unfold num; omega)
  · have hd : d = dlen y m := by omega
    by_cases c2 : m < 12
    · right; left
      have b := dlen_bd (y := y) (m := m + 1) (by omega) (by omega)
      have cs := cum_succ (y := y) (m := m) (by omega) (by omega)
      obtain ⟨e1, e2, e3⟩ := num_inj k (show vld y (m + 1) 1 from ⟨a1, a2, by omega, by omega⟩) (by rw [e]; unfold num; omega)
      exact ⟨e1, e2, e3, hd, c2⟩
    · have hm : m = 12 := by omega
      subst hm
      have d31 : dlen y 12 = 31 := by simp [dlen]
      have kb := num_bd k
      have cs := cum_succ (y := y) (m := 12) (by omega) (by omega)
      rw [show (12 : Int) + 1 = 13 by omega, cum_end] at cs
      have as := ahead_succ y
      have y9 : y + 1 ≤ 9999 := by
        by_cases g : y + 1 ≤ 9999
        · exact g
        · have e9 : y = 9999 := by omega
          subst e9
          have : ahead (9999 + 1) = 3652059 := by decide
          unfold num at e kb
          omega
      right; right
      have b := dlen_bd (y := y + 1) (m := 1) (by omega) (by omega)
      have c1 := cum_one (y + 1)
      obtain ⟨e1, e2, e3⟩ := num_inj k (show vld (y + 1) 1 1 from ⟨by omega, y9, by omega, by omega⟩) (by rw [e]; unfold num; omega)
      exact ⟨e1, e2, e3, rfl, by omega⟩
end DsCal
