/- What is held of a name, plainly. -/
import Derived.Test.YtkpambipgcjaiaaPmE
namespace Go.DsPl
open Go.DsCo
set_option linter.unusedVariables false
theorem use_snoc (L : List Hd) (x : Hd) (nm : ByteArray) : useF (L ++ [x]) nm = if x.1.2 = nm then addU (useF L nm) x.2 else useF L nm := by
  rw [useF_perm (List.perm_append_singleton x L) nm, useF]
theorem use_units {R : List Rk} {nm : ByteArray} {n : Int} (hk : findK R nm = some (.units n)) : ∀ {H : List Hd}, (∀ h ∈ H, ∃ k, findK R h.1.2 = some k ∧ okS k h.2) → (useF H nm).2.1 = 0 ∧ (useF H nm).2.2 = 0
  | [], _ => ⟨rfl, rfl⟩
  | x :: r, h => by
    obtain ⟨i1, i2⟩ := use_units hk (H := r) (fun y hy => h y (List.mem_cons_of_mem _ hy))
    rw [useF]
    by_cases e : x.1.2 = nm
    · rw [if_pos e]
      obtain ⟨k, hk', ho⟩ := h x (by simp)
      rw [e, hk] at hk'
      cases hk'
      unfold addU
      simp only [ho.2.2]
      exact ⟨by rw [i1]; rfl, by rw [i2]; rfl⟩
    · rw [if_neg e]; exact ⟨i1, i2⟩
theorem use_lock {R : List Rk} {nm : ByteArray} (hk : findK R nm = some .lock) : ∀ {H : List Hd}, (∀ h ∈ H, ∃ k, findK R h.1.2 = some k ∧ okS k h.2) → (useF H nm).1 = 0
  | [], _ => rfl
  | x :: r, h => by
    have i1 := use_lock hk (H := r) (fun y hy => h y (List.mem_cons_of_mem _ hy))
    rw [useF]
    by_cases e : x.1.2 = nm
    · rw [if_pos e]
      obtain ⟨k, hk', ho⟩ := h x (by simp)
      rw [e, hk] at hk'
      cases hk'
      unfold addU
      simp only [ho.1, i1]
      rfl
    · rw [if_neg e]; exact i1
theorem use_no {R : List Rk} {nm : ByteArray} (hk : findK R nm = none) {H : List Hd} (h : ∀ h ∈ H, ∃ k, findK R h.1.2 = some k ∧ okS k h.2) : useF H nm = (0, 0, 0) := useF_none (fun x hx e => by
  obtain ⟨k, hk', _⟩ := h x hx
  rw [e, hk] at hk'
  cases hk')
/-- a share that Total can tell -/
def TotS (s : Sh) : Prop := (s.2 = 0 ∧ 0 ≤ s.1 ∧ s.1 ≤ 1000) ∨ (s.1 = 0 ∧ (s.2 = 1 ∨ s.2 = 2))
theorem okS.tot {k : Kd} {s : Sh} (h : okS k s) : TotS s := by
  cases k with
  | units n => unfold okS at h; exact .inl ⟨h.2.2, by omega, h.2.1⟩
  | lock => exact .inr h
end Go.DsPl
