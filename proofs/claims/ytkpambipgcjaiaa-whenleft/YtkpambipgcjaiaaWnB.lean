/- Package when: what its windows tell. -/
import Derived.Test.YtkpambipgcjaiaaWnA
import Derived.Deep.RegionHeld3
namespace Go.Proofs.Ytkpambipgcjaiaa
open Go.ChangeShapes Go.WideShapes Go.ChangeAt Go.RowKit DsWn
set_option linter.unusedVariables false
theorem wkeep {B : Nat} {w w' : World} (h : Below B w w') {a : Addr} {v : Value} (hB : a.block < B) (hc : w.cell? a = some v) : w'.cell? a = some v := (h.cell hB).trans hc
/-- when.window.at -/
theorem wat_any (f t c : Int) (w : World) (c0 : -9223372036854775808 ≤ c) (c9 : c ≤ 9223372036854775807) :
    Calls Try.prog 80 #[.agg #[.int .i64 f, .int .i64 t], .int .i64 c] w fun e w' => e = .returned (.tuple #[.int .i64 (atF f t c), .int .i64 (askF f t c)]) ∧ Below w.heap.size w w' := by
  have HR := whide (fun w => wright_any f t w)
  have HS := whide (fun w => wsplit_any c w c0 c9)
  have B := whide (fun o => (Below.refl w.heap.size w).alloc (Nat.le_refl _) o)
  obtain ⟨P, hP⟩ : ∃ P, atF f t c = P := ⟨_, rfl⟩
  obtain ⟨Q, hQ⟩ : ∃ Q, askF f t c = Q := ⟨_, rfl⟩
  rw [hP, hQ]
  unfold atF at hP
  rw [hQ] at hP
  unfold askF at hQ
  clear c0 c9
  cases hx : (mB f && mB t)
  · rw [hx] at HR hQ
    rw [if_neg (by simp)] at hQ
    subst hQ
    rw [if_neg (by decide)] at hP
    subst hP
    clear hx HS
    go_enter Try.func80, Try.ntmps80
    go_wp2_with fail
    refine (HR.out _).mono ?_
    rintro e w1 ⟨rfl, hb⟩
    have HB := whide ((B.out _).trans (hb.mono (by simp)))
    clear hb
    go_wp2
    go_ret2
    exact ⟨rfl, HB.out⟩
  · rw [hx] at HR hQ
    rw [if_pos rfl] at hQ
    clear hx
    cases hy : okC c
    · rw [hy] at HS hQ
      simp only [Bool.false_eq_true, if_false] at HS hQ
      subst hQ
      rw [if_neg (by decide)] at hP
      subst hP
      clear hy
      go_enter Try.func80, Try.ntmps80
      go_wp2_with fail
      refine (HR.out _).mono ?_
      rintro e w1 ⟨rfl, hb⟩
      have HB := whide ((B.out _).trans (hb.mono (by simp)))
      clear hb
      go_wp2_with fail
      refine (HS.out _).mono ?_
      rintro e w2 ⟨rfl, rfl⟩
      go_wp2
      go_ret2
      exact ⟨rfl, HB.out⟩
    · rw [hy] at HS hQ
      simp only [if_true] at HS hQ
      subst hQ
      rw [if_pos rfl] at hP
      rw [hP] at HS
      clear hy hP
      go_enter Try.func80, Try.ntmps80
      go_wp2_with fail
      refine (HR.out _).mono ?_
      rintro e w1 ⟨rfl, hb⟩
      have HB := whide ((B.out _).trans (hb.mono (by simp)))
      clear hb
      go_wp2_with fail
      refine (HS.out _).mono ?_
      rintro e w2 ⟨rfl, rfl⟩
      go_wp2
      go_ret2
      exact ⟨rfl, HB.out⟩
set_option maxHeartbeats 2000000 in
/-- when.window.rest -/
theorem wrest_any (f t : Int) (w : World) (hf : 0 ≤ f ∧ f < 1440) (ht : 0 ≤ t ∧ t < 1440) :
    Calls Try.prog 83 #[.agg #[.int .i64 f, .int .i64 t]] w fun e w' => e = .returned (.agg #[.int .i64 (rf t), .int .i64 (rt f)]) ∧ Below w.heap.size w w' := by
  obtain ⟨f0, f1⟩ := hf
  obtain ⟨t0, t1⟩ := ht
  have u1 : IntKind.i64.wrap (t + 1) = t + 1 := by rw [IntKind.wrap_i64]; omega
  have u2 : IntKind.i64.wrap (f - 1) = f - 1 := by rw [IntKind.wrap_i64]; omega
  have HS := whide (fun o o' => (((Below.refl w.heap.size w).alloc (Nat.le_refl _) o).alloc (by simp) o'))
  go_enter Try.func83, Try.ntmps83
  go_wp2_with fail
  go_region_with ((go_at_call 78; refine (around_any _ _ (by omega) (by omega)).mono ?_; rintro e w' ⟨rfl, rfl⟩))
  all_goals
    go_wp2
    exact bodyPost_ret (v := .agg #[.int .i64 (rf t), .int .i64 (rt f)]) (by simp [results, Try.results83, go_sem, rf, rt]) rfl ⟨rfl, (HS.out _ _).drew⟩
set_option maxHeartbeats 4000000 in
set_option maxRecDepth 20000 in
/-- when.window.until -/
theorem wuntil_any (f t m : Int) (w : World) (hf : 0 ≤ f ∧ f < 1440) (ht : 0 ≤ t ∧ t < 1440) (hm : 0 ≤ m ∧ m < 1440) :
    Calls Try.prog 81 #[.agg #[.int .i64 f, .int .i64 t], .int .i64 m] w fun e w' => e = .returned (.int .i64 (untilF f t m)) ∧ Below w.heap.size w w' := by
  have HB0 := whide (until_bd f t m hm hf)
  have HAT := whide (until_at f t m hm hf ht)
  have HLT := whide (fun k => until_lt f t m k hm hf ht)
  obtain ⟨m0, m1⟩ := hm
  clear hf ht
  have B := whide (fun o => (Below.refl w.heap.size w).alloc (Nat.le_refl _) o)
  generalize untilF f t m = u at *
  have C0 : Hid (∀ o, (w.alloc o).heap.size = w.heap.size + 1) := whide (fun o => by simp)
  go_enter Try.func81, Try.ntmps81
  go_wp2
  go_loopw [6] (fun i wr => ∃ k : Nat, (k : Int) ≤ u ∧ i = .int .i64 k ∧ Below w.heap.size w wr ∧ w.heap.size < wr.heap.size ∧ wr.cell? ⟨w.heap.size, 0, none⟩ = some (.int .i64 f) ∧ wr.cell? ⟨w.heap.size, 1, none⟩ = some (.int .i64 t)) (fun i _ => (1440 - intOf i).toNat)
  case atStart => exact ⟨0, by have := HB0.out; omega, rfl, B.out _, by simp, by simp, by simp⟩
  case round =>
    obtain ⟨k, hk, rfl, hbl, hsz, c0, c1⟩ := hrel
    have HBL := whide hbl
    clear hbl
    have hb0 := HB0.out
    have hu : IntKind.i64.wrap (m + (k : Int)) = m + (k : Int) := by rw [IntKind.wrap_i64]; omega
    have KP : Hid (∀ w', Below wr.drew.heap.size wr.drew w' → w'.cell? ⟨w.heap.size, 0, none⟩ = some (.int .i64 f) ∧ w'.cell? ⟨w.heap.size, 1, none⟩ = some (.int .i64 t) ∧ w.heap.size < w'.heap.size ∧ Below w.heap.size w w') := whide (fun w' hb =>
      ⟨wkeep hb hsz (show wr.drew.cell? _ = _ from c0), wkeep hb hsz (show wr.drew.cell? _ = _ from c1), Nat.lt_of_lt_of_le hsz hb.size, HBL.out.drew.trans (hb.mono HBL.out.size)⟩)
    by_cases hlt : (k : Int) < u
    · have HLTK := whide hlt
      have HH : Hid (∀ w, Calls Try.prog 77 #[.agg #[.int .i64 f, .int .i64 t], .int .i64 ((m + (k : Int)) % 1440)] w fun e w' => e = .returned (.bool false) ∧ Below w.heap.size w w') := whide (fun w => by
        have := whas_any f t ((m + (k : Int)) % 1440) w
        rw [HLT.out k (by omega) hlt] at this
        exact this)
      go_wp2_with fail
      first
        | (go_region_held3 (fun w' => w'.cell? ⟨w.heap.size, 0, none⟩ = some (.int .i64 f) ∧ w'.cell? ⟨w.heap.size, 1, none⟩ = some (.int .i64 t)) (go_keep)
            (first
              | (go_at_call 78; refine (around_any _ _ (by omega) (by omega)).mono ?_; rintro e w' ⟨rfl, rfl⟩)
              | (go_at_call 77; refine (HH.out _).mono ?_; rintro e w2 ⟨rfl, hb2⟩; obtain ⟨q0, q1, q2, q3⟩ := KP.out _ hb2; have HQ := whide (And.intro q2 q3); clear hb2 q2 q3)))
        | fail
      all_goals
        go_wp2
        go_roundw
        case rel => exact ⟨k + 1, by have := HLTK.out; omega, by go_num, HQ.out.2, HQ.out.1, by assumption, by assumption⟩
        case measure => simp [intOf]; omega
    · have hku : (k : Int) = u := by omega
      have HH : Hid (∀ w, Calls Try.prog 77 #[.agg #[.int .i64 f, .int .i64 t], .int .i64 ((m + (k : Int)) % 1440)] w fun e w' => e = .returned (.bool true) ∧ Below w.heap.size w w') := whide (fun w => by
        have := whas_any f t ((m + (k : Int)) % 1440) w
        rw [hku, HAT.out] at this
        rw [hku]
        exact this)
      have HKU := whide hku
      clear hku hlt
      go_wp2_with fail
      first
        | (go_region_held3 (fun w' => w'.cell? ⟨w.heap.size, 0, none⟩ = some (.int .i64 f) ∧ w'.cell? ⟨w.heap.size, 1, none⟩ = some (.int .i64 t)) (go_keep)
            (first
              | (go_at_call 78; refine (around_any _ _ (by omega) (by omega)).mono ?_; rintro e w' ⟨rfl, rfl⟩)
              | (go_at_call 77; refine (HH.out _).mono ?_; rintro e w2 ⟨rfl, hb2⟩; obtain ⟨q0, q1, q2, q3⟩ := KP.out _ hb2; have HQ := whide (And.intro q2 q3); clear hb2 q2 q3)))
        | fail
      all_goals
        go_wp2
        go_ret
        exact ⟨wret_int HKU.out, HQ.out.2⟩
end Go.Proofs.Ytkpambipgcjaiaa
