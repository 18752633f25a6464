/- Layer 15: plain facts for WhenOther, WhenFirst, WhenLeft. -/
import Derived.Test.YtkpambipgcjaiaaWnL
namespace Go.Proofs.Ytkpambipgcjaiaa
open DsWn
set_option linter.unusedVariables false
theorem long_right {f t : Int} (hf : 0 ≤ f ∧ f < 1440) (ht : 0 ≤ t ∧ t < 1440) : longF f t = (t - f + 1440) % 1440 + 1 := by
  unfold longF; rw [(mB_iff f).2 hf, (mB_iff t).2 ht]; rfl
theorem open_right {f t m : Int} (hf : 0 ≤ f ∧ f < 1440) (ht : 0 ≤ t ∧ t < 1440) (hm : 0 ≤ m ∧ m < 1440) : openB f t m = hasB f t m := by
  unfold openB; rw [(mB_iff f).2 hf, (mB_iff t).2 ht, (mB_iff m).2 hm]; rfl
theorem other_open (f t m : Int) (hf : 0 ≤ f ∧ f < 1440) (ht : 0 ≤ t ∧ t < 1440) (hm : 0 ≤ m ∧ m < 1440) (hl : longF f t ≠ 1440) : openB ((t + 1) % 1440) ((f + 1439) % 1440) m = !openB f t m := by
  rw [long_right hf ht] at hl
  rw [open_right hf ht hm, open_right (by omega) (by omega) hm]
  cases h : hasB f t m
  · show _ = true
    rw [hasB_no] at h
    rw [hasB_iff]; omega
  · show _ = false
    rw [hasB_iff] at h
    rw [hasB_no]; omega
theorem other_long (f t : Int) (hf : 0 ≤ f ∧ f < 1440) (ht : 0 ≤ t ∧ t < 1440) (hl : longF f t ≠ 1440) : longF ((t + 1) % 1440) ((f + 1439) % 1440) = 1440 - longF f t := by
  rw [long_right hf ht] at hl ⊢
  rw [long_right (by omega) (by omega)]; omega
theorem next_err (f t c : Int) (h : (nextF f t c).2 ≠ 0) : (nextF f t c).1 = 0 := by
  unfold nextF at h ⊢
  split
  · rfl
  · split
    · rename_i h1 h2; rw [if_neg h1, if_pos h2] at h; exact absurd rfl h
    · rfl
theorem next_ok (f t c : Int) (h : (nextF f t c).2 = 0) : 1440 ≤ c ∧ c ≤ (nextF f t c).1 ∧ (nextF f t c).1 ≤ 5258966399 ∧ openB f t ((nextF f t c).1 % 1440) = true ∧ ∀ k, 0 ≤ k → k < (nextF f t c).1 - c → openB f t ((c + k) % 1440) = false := by
  by_cases he : askF f t c = 0
  · obtain ⟨hf, ht, hc0, hc1⟩ := ask_zero he
    obtain ⟨u0, u1⟩ := until_bd f t (c % 1440) (by omega) hf
    unfold nextF at h ⊢
    rw [if_neg (by omega)] at h ⊢
    by_cases hl : c + untilF f t (c % 1440) ≤ 5258966399
    · rw [if_pos hl]
      refine ⟨hc0, by show c ≤ c + untilF f t (c % 1440); omega, hl, ?_, fun k k0 hk => ?_⟩
      · show openB f t ((c + untilF f t (c % 1440)) % 1440) = true
        rw [open_of f t c _ hf ht]
        exact until_at f t (c % 1440) (by omega) hf ht
      · have hk' : k < c + untilF f t (c % 1440) - c := hk
        rw [open_of f t c _ hf ht]
        exact until_lt f t (c % 1440) k (by omega) hf ht k0 (by omega)
    · rw [if_neg hl] at h
      simp at h
  · unfold nextF at h
    rw [if_pos he] at h
    exact absurd h he
theorem left_err (f t c : Int) (h : (lfF f t c).2 ≠ 0) : (lfF f t c).1 = 0 := by
  unfold lfF at h ⊢
  split
  · rfl
  · split
    · rename_i h1 h2; rw [if_neg h1, if_pos h2] at h; exact absurd rfl h
    · rfl
theorem left_ok (f t c : Int) (h : (lfF f t c).2 = 0) : (1440 ≤ c ∧ c ≤ 5258966399) ∧ 1 ≤ (lfF f t c).1 ∧ (lfF f t c).1 ≤ longF f t ∧ (c < 5258966399 → lfF f t (c + 1) = if longF f t = 1440 then (1440, 0) else if (lfF f t c).1 = 1 then (0, 5) else ((lfF f t c).1 - 1, 0)) ∧ (longF f t = 1440 → (lfF f t c).1 = 1440) := by
  by_cases he : askF f t c = 0
  · obtain ⟨hf, ht, hc0, hc1⟩ := ask_zero he
    have hm : 0 ≤ c % 1440 ∧ c % 1440 < 1440 := by omega
    unfold lfF at h ⊢
    rw [if_neg (by omega : ¬ askF f t c ≠ 0)] at h ⊢
    by_cases hh : hasB f t (c % 1440) = true
    · rw [if_pos hh]
      rw [long_right hf ht]
      have e1 : ∀ x : Int × Int, (if hasB f t (c % 1440) = true then ((leftF f t (c % 1440), 0) : Int × Int) else (0, 5)) = x → x = (leftF f t (c % 1440), 0) := fun x hx => by rw [if_pos hh] at hx; exact hx.symm
      have hL : leftF f t (c % 1440) = if (t - f + 1440) % 1440 = 1439 then 1440 else (t - c % 1440 + 1440) % 1440 + 1 := by unfold leftF; rw [if_pos hh]
      have hh' := (hasB_iff f t (c % 1440)).1 hh
      refine ⟨⟨hc0, hc1⟩, ?_, ?_, fun hcm => ?_, fun hl => ?_⟩
      · show 1 ≤ leftF f t (c % 1440)
        rw [hL]; split <;> omega
      · show leftF f t (c % 1440) ≤ _
        rw [hL]; split <;> omega
      · have hask : askF f t (c + 1) = 0 := by
          unfold askF
          rw [(mB_iff f).2 hf, (mB_iff t).2 ht, if_pos (by rfl), if_pos (by simp [okC]; omega)]
        rw [if_neg (by omega : ¬ askF f t (c + 1) ≠ 0)]
        show (if hasB f t ((c + 1) % 1440) = true then (leftF f t ((c + 1) % 1440), 0) else (0, 5)) = if (t - f + 1440) % 1440 + 1 = 1440 then (1440, 0) else if leftF f t (c % 1440) = 1 then (0, 5) else (leftF f t (c % 1440) - 1, 0)
        rw [hL]
        by_cases h1 : (t - f + 1440) % 1440 = 1439
        · have h3 : hasB f t ((c + 1) % 1440) = true := (hasB_iff f t ((c + 1) % 1440)).2 (by clear hL; omega)
          rw [if_pos h3, if_pos (show (t - f + 1440) % 1440 + 1 = 1440 from by omega)]
          unfold leftF
          rw [if_pos h3, if_pos h1]
        · rw [if_neg h1, if_neg (show ¬ (t - f + 1440) % 1440 + 1 = 1440 from by omega)]
          by_cases h2 : (t - c % 1440 + 1440) % 1440 + 1 = 1
          · have h3 : hasB f t ((c + 1) % 1440) = false := (hasB_no f t ((c + 1) % 1440)).2 (by clear hL; omega)
            rw [if_pos h2, h3]
            rfl
          · have h3 : hasB f t ((c + 1) % 1440) = true := (hasB_iff f t ((c + 1) % 1440)).2 (by clear hL; omega)
            rw [if_neg h2, if_pos h3]
            unfold leftF
            rw [if_pos h3, if_neg h1]
            congr 1
            clear hL; omega
      · show leftF f t (c % 1440) = 1440
        rw [hL, if_pos (by omega)]
    · rw [if_neg hh] at h
      simp at h
  · unfold lfF at h
    rw [if_pos he] at h
    exact absurd h he
end Go.Proofs.Ytkpambipgcjaiaa
