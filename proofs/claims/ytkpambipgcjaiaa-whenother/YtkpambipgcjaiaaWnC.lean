/- Package when: Open, Long, Next, Left, Later. -/
import Derived.Test.YtkpambipgcjaiaaWnB
import Derived.BigQuiet
import Derived.Deep.QuietTactic
namespace Go.Proofs.Ytkpambipgcjaiaa
open Go.ChangeShapes Go.WideShapes Go.ChangeAt Go.RowKit DsWn
set_option linter.unusedVariables false
/-- a window that a call has made lies in its block -/
structure WAt (w0 w : World) (f t : Int) : Prop where
  bel : Below w0.heap.size w0 w
  lt : w0.heap.size < w.heap.size
  c0 : w.cell? ⟨w0.heap.size, 0, none⟩ = some (.int .i64 f)
  c1 : w.cell? ⟨w0.heap.size, 1, none⟩ = some (.int .i64 t)
theorem WAt.start (w : World) (f t : Int) (T : TypeId) : WAt w (w.alloc (.cells #[.int .i64 f, .int .i64 t] T)) f t :=
  ⟨(Below.refl _ _).alloc (Nat.le_refl _) _, by simp, by simp, by simp⟩
theorem WAt.step {w0 w w' : World} {f t : Int} (h : WAt w0 w f t) (hb : Below w.heap.size w w') : WAt w0 w' f t :=
  ⟨h.bel.trans (hb.mono h.bel.size), Nat.lt_of_lt_of_le h.lt hb.size, wkeep hb h.lt h.c0, wkeep hb h.lt h.c1⟩
/-- when.Open -/
theorem wopen_any (f t m : Int) (w : World) : Calls Try.prog 40 #[.int .i64 f, .int .i64 t, .int .i64 m] w fun e w' => e = .returned (.bool (openB f t m)) ∧ Below w.heap.size w w' := by
  have HR := whide (fun w => wright_any f t w)
  have HM := whide (fun w => wmin_any m w)
  have HH := whide (fun w => whas_any f t m w)
  have HS := whide (WAt.start w f t)
  obtain ⟨P, hP⟩ : ∃ P, openB f t m = P := ⟨_, rfl⟩
  rw [hP]
  unfold openB at hP
  generalize (mB f && mB t) = x at HR hP
  generalize mB m = y at HM hP
  generalize hasB f t m = z at HH hP
  cases x
  · obtain rfl : P = false := by simpa using hP.symm
    clear hP
    go_enter Try.func40, Try.ntmps40
    go_wp2_with fail
    refine (HR.out _).mono ?_
    rintro e w1 ⟨rfl, hb⟩
    have H1 := whide ((HS.out _).step hb)
    clear hb
    go_wp2
    go_ret
    exact ⟨rfl, H1.out.bel⟩
  · cases y
    · obtain rfl : P = false := by simpa using hP.symm
      clear hP
      go_enter Try.func40, Try.ntmps40
      go_wp2_with fail
      refine (HR.out _).mono ?_
      rintro e w1 ⟨rfl, hb⟩
      have H1 := whide ((HS.out _).step hb)
      clear hb
      go_wp2_with fail
      refine (HM.out _).mono ?_
      rintro e w2 ⟨rfl, rfl⟩
      go_wp2
      go_ret
      exact ⟨rfl, H1.out.bel⟩
    · obtain rfl : P = z := by simpa using hP.symm
      clear hP
      go_enter Try.func40, Try.ntmps40
      go_wp2_with fail
      refine (HR.out _).mono ?_
      rintro e w1 ⟨rfl, hb⟩
      have H1 := whide ((HS.out _).step hb)
      have c0 := H1.out.c0
      have c1 := H1.out.c1
      clear hb
      go_wp2_with fail
      refine (HM.out _).mono ?_
      rintro e w2 ⟨rfl, rfl⟩
      go_wp2_with fail
      refine (HH.out _).mono ?_
      rintro e w3 ⟨rfl, hb⟩
      have H3 := whide (H1.out.step hb)
      clear hb
      go_wp2
      go_ret
      exact ⟨rfl, H3.out.bel⟩
/-- when.Long -/
theorem wlong_any (f t : Int) (w : World) : Calls Try.prog 42 #[.int .i64 f, .int .i64 t] w fun e w' => e = .returned (.int .i64 (longF f t)) ∧ Below w.heap.size w w' := by
  have HR := whide (fun w => wright_any f t w)
  have HS := whide (WAt.start w f t)
  obtain ⟨P, hP⟩ : ∃ P, longF f t = P := ⟨_, rfl⟩
  rw [hP]
  unfold longF at hP
  cases hx : (mB f && mB t)
  · rw [hx] at HR hP
    rw [if_neg (by simp)] at hP
    subst hP
    clear hx
    go_enter Try.func42, Try.ntmps42
    go_wp2_with fail
    refine (HR.out _).mono ?_
    rintro e w1 ⟨rfl, hb⟩
    have H1 := whide ((HS.out _).step hb)
    clear hb
    go_wp2
    go_ret
    exact ⟨rfl, H1.out.bel⟩
  · rw [hx] at HR hP
    rw [if_pos rfl] at hP
    rw [Bool.and_eq_true, mB_iff, mB_iff] at hx
    obtain ⟨⟨f0, f1⟩, t0, t1⟩ := hx
    have hu : IntKind.i64.wrap (t - f) = t - f := by rw [IntKind.wrap_i64]; omega
    have HA := whide (fun w => around_any (t - f) w (by omega) (by omega))
    generalize hd : (t - f + 1440) % 1440 = d at HA hP
    have d0 : 0 ≤ d ∧ d < 1440 := by omega
    obtain ⟨d0, d1⟩ := d0
    subst hP
    clear hd
    go_enter Try.func42, Try.ntmps42
    go_wp2_with fail
    refine (HR.out _).mono ?_
    rintro e w1 ⟨rfl, hb⟩
    have H1 := whide ((HS.out _).step hb)
    clear hb
    go_wp2_with fail
    refine (HA.out _).mono ?_
    rintro e w2 ⟨rfl, rfl⟩
    go_wp2
    go_ret
    exact ⟨rfl, H1.out.bel⟩
/-- what must hold where a window may be asked -/
theorem ask_zero {f t c : Int} (h : askF f t c = 0) : (0 ≤ f ∧ f < 1440) ∧ (0 ≤ t ∧ t < 1440) ∧ 1440 ≤ c ∧ c ≤ 5258966399 := by
  unfold askF at h
  split at h
  · rename_i h1
    split at h
    · rename_i h2
      rw [Bool.and_eq_true, mB_iff, mB_iff] at h1
      simp [okC] at h2
      exact ⟨h1.1, h1.2, h2⟩
    · omega
  · omega
theorem ask_or (f t c : Int) : askF f t c = 0 ∨ askF f t c = 1 ∨ askF f t c = 6 := by
  unfold askF; split
  · split <;> simp
  · simp
/-- when.Next -/
theorem wnext_any (f t c : Int) (w : World) (c0 : -9223372036854775808 ≤ c) (c9 : c ≤ 9223372036854775807) :
    Calls Try.prog 45 #[.int .i64 f, .int .i64 t, .int .i64 c] w fun e w' => e = .returned (.tuple #[.int .i64 (nextF f t c).1, .int .i64 (nextF f t c).2]) ∧ Below w.heap.size w w' := by
  have HT := whide (fun w => wat_any f t c w c0 c9)
  have HS := whide (WAt.start w f t)
  obtain ⟨Q, hQ⟩ : ∃ Q, nextF f t c = Q := ⟨_, rfl⟩
  rw [hQ]
  unfold nextF at hQ
  unfold atF at HT
  have HE := ask_or f t c
  by_cases he : askF f t c = 0
  · obtain ⟨hf, ht, hc0, hc1⟩ := ask_zero he
    have HU := whide (fun w => wuntil_any f t (c % 1440) w hf ht (by omega))
    obtain ⟨u0, u1⟩ := until_bd f t (c % 1440) (by omega) hf
    rw [if_neg (by omega)] at hQ
    rw [he, if_pos rfl] at HT
    obtain ⟨m, hm⟩ : ∃ m, c % 1440 = m := ⟨_, rfl⟩
    rw [hm] at HT HU hQ u0 u1
    generalize untilF f t m = u at *
    clear he HE hf ht hm c0 c9
    by_cases hl : c + u ≤ 5258966399
    · rw [if_pos hl] at hQ
      subst hQ
      go_enter Try.func45, Try.ntmps45
      go_wp2_with fail
      refine (HT.out _).mono ?_
      rintro e w1 ⟨rfl, hb⟩
      have H1 := whide ((HS.out _).step hb)
      have c0 := H1.out.c0
      have c1 := H1.out.c1
      clear hb
      go_wp2_with fail
      refine (HU.out _).mono ?_
      rintro e w2 ⟨rfl, hb⟩
      have H2 := whide (H1.out.step hb)
      clear hb
      go_wp2
      go_ret2
      exact ⟨rfl, H2.out.bel⟩
    · rw [if_neg hl] at hQ
      subst hQ
      go_enter Try.func45, Try.ntmps45
      go_wp2_with fail
      refine (HT.out _).mono ?_
      rintro e w1 ⟨rfl, hb⟩
      have H1 := whide ((HS.out _).step hb)
      have c0 := H1.out.c0
      have c1 := H1.out.c1
      clear hb
      go_wp2_with fail
      refine (HU.out _).mono ?_
      rintro e w2 ⟨rfl, hb⟩
      have H2 := whide (H1.out.step hb)
      clear hb
      go_wp2
      go_ret2
      exact ⟨rfl, H2.out.bel⟩
  · rw [if_pos he] at hQ
    rw [if_neg he] at HT
    clear c0 c9
    generalize askF f t c = a at *
    rcases HE with rfl | rfl | rfl
    · exact absurd rfl he
    all_goals
      clear he
      subst hQ
      go_enter Try.func45, Try.ntmps45
      go_wp2_with fail
      refine (HT.out _).mono ?_
      rintro e w1 ⟨rfl, hb⟩
      have H1 := whide ((HS.out _).step hb)
      clear hb
      go_wp2
      go_ret2
      exact ⟨rfl, H1.out.bel⟩
end Go.Proofs.Ytkpambipgcjaiaa
