/- Plain mathematics of times of a day as texts. No Go in sight. -/
import Derived.Test.YtfbkcipjfjoifaaDaC
namespace DsCal

/-- two digits as a number -/
def tdres (s : ByteArray) : Int × Bool := if alld s.data.toList = true then (dval s.data.toList, true) else (0, false)
theorem tdres_stop (s : ByteArray) (h : alld s.data.toList = false) : tdres s = (0, false) := by unfold tdres; rw [if_neg]; rw [h]; intro k; cases k
theorem tdres_end (s : ByteArray) (a : alld s.data.toList = true) : tdres s = (dval s.data.toList, true) := by unfold tdres; rw [if_pos a]
theorem tdres_bd (s : ByteArray) (h : s.size ≤ 2) : 0 ≤ (tdres s).1 ∧ (tdres s).1 ≤ 99 := by
  unfold tdres
  split
  · have := dval_bd s.data.toList 2 (by simpa using h) (by assumption)
    have e : ((10 ^ 2 : Nat) : Int) = 100 := rfl
    rw [e] at this
    simp only []
    omega
  · simp
theorem nm_td (s : ByteArray) (h0 : 0 < s.size) (h : s.size ≤ 18) : nmres s = tdres s := by
  unfold nmres tdres
  by_cases a : alld s.data.toList = true
  · rw [if_pos ⟨a, h0, h⟩, if_pos a]
  · rw [if_neg (fun k => a k.1), if_neg a]

/-- hours and minutes as minutes -/
def tmOf (a b : Int × Bool) : Int × Int := if a.2 = true ∧ b.2 = true then (if a.1 ≤ 23 ∧ b.1 ≤ 59 then (a.1 * 60 + b.1, 0) else (0, 6)) else (0, 20)
def tmres (s : ByteArray) : Int × Int := if s.size = 5 ∧ s.data.toList.getD 2 0 = 58 then tmOf (tdres (s.extract 0 2)) (tdres (s.extract 3 s.size)) else (0, 20)
theorem tmres_size (s : ByteArray) (h : s.size ≠ 5) : tmres s = (0, 20) := by unfold tmres; rw [if_neg]; exact fun k => h k.1
theorem at2 (s : ByteArray) (h : 2 < s.size) : s.data.toList.getD 2 0 = s[2] := by
  have h' : 2 < s.data.toList.length := by simpa using h
  simp only [List.getD, List.getElem?_eq_getElem h', Option.getD_some]
  rfl
theorem tmres_sign (s : ByteArray) (h : 2 < s.size) (c : (s[2].toNat : Int) ≠ 58) : tmres s = (0, 20) := by
  unfold tmres; rw [if_neg]; intro k; rw [at2 s h] at k; rw [k.2] at c; exact c rfl
theorem tmres_parts (s : ByteArray) (h5 : s.size = 5) (h : 2 < s.size) (c : (s[2].toNat : Int) = 58) : tmres s = tmOf (tdres (s.extract 0 2)) (tdres (s.extract 3 s.size)) := by
  unfold tmres; rw [if_pos]; refine ⟨h5, ?_⟩; rw [at2 s h]
  apply UInt8.toNat_inj.1
  show s[2].toNat = 58
  omega
theorem tmOf_no1 (a : Int) (b : Int × Bool) : tmOf (a, false) b = (0, 20) := by simp [tmOf]
theorem tmOf_no2 (a : Int × Bool) (b : Int) : tmOf a (b, false) = (0, 20) := by simp [tmOf]
theorem tmOf_range {a b : Int} (h : 23 < a ∨ 59 < b) : tmOf (a, true) (b, true) = (0, 6) := by unfold tmOf; rw [if_pos ⟨rfl, rfl⟩, if_neg]; simp only []; omega
theorem tmOf_yes {a b : Int} (h1 : a ≤ 23) (h2 : b ≤ 59) : tmOf (a, true) (b, true) = (a * 60 + b, 0) := by unfold tmOf; rw [if_pos ⟨rfl, rfl⟩, if_pos ⟨h1, h2⟩]
end DsCal
