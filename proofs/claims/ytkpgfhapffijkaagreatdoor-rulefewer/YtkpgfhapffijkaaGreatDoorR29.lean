/- Plain mathematics of the weekdays of a month. No Go in sight. -/
import Derived.Test.YtkpgfhapffijkaaGreatDoorR06
namespace DsCal
/-- how many days lie ahead of the first day that is the weekday, behind the day b; how many such days there are; which one is the k-th -/
def a0 (b wd : Int) : Int := (wd - (b - 1) % 7 + 7) % 7
def cnt (b size wd : Int) : Int := (size - 1 - a0 b wd) / 7 + 1
def nix (b size wd k : Int) : Int := if 0 < k then a0 b wd + (k - 1) * 7 else a0 b wd + (cnt b size wd + k) * 7
def nres (b size wd k : Int) : Int × Int := if 0 ≤ nix b size wd k ∧ nix b size wd k < size then (b + nix b size wd k, 0) else (0, 30)
def okA (wd k : Int) : Prop := 0 ≤ wd ∧ wd ≤ 6 ∧ k ≠ 0 ∧ -5 ≤ k ∧ k ≤ 5
theorem nix_pos {b size wd k : Int} (h : 0 < k) : nix b size wd k = a0 b wd + (k - 1) * 7 := by unfold nix; rw [if_pos h]
theorem nix_neg {b size wd k : Int} (h : ¬ 0 < k) : nix b size wd k = a0 b wd + (cnt b size wd + k) * 7 := by unfold nix; rw [if_neg h]
theorem nres_yes {b size wd k : Int} (h0 : 0 ≤ nix b size wd k) (h1 : nix b size wd k < size) : nres b size wd k = (b + nix b size wd k, 0) := by unfold nres; rw [if_pos ⟨h0, h1⟩]
theorem nres_no {b size wd k : Int} (h : nix b size wd k < 0 ∨ size ≤ nix b size wd k) : nres b size wd k = (0, 30) := by unfold nres; rw [if_neg (by omega)]
/-- the days of a month that are the weekday -/
def wl (b a : Int) : Nat → List Int
  | 0 => []
  | c + 1 => wl b a c ++ [b + a + 7 * c]
end DsCal
