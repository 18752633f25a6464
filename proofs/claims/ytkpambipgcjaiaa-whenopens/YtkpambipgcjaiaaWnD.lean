/- Package when: Left, Later. -/
import Derived.Test.YtkpambipgcjaiaaWnC
import Derived.ChangeKeysEq
namespace Go.Proofs.Ytkpambipgcjaiaa
open Go.ChangeShapes Go.WideShapes Go.ChangeAt Go.RowKit DsWn
set_option linter.unusedVariables false
theorem wu117 : Try.prog.underlying 117 = some (.array 2 2) := by kernel_rfl
theorem wi2 : (Try.prog.info? 2).map (fun i => i.size) = some 1 := by kernel_rfl
theorem wun2 : Try.prog.underlying 2 = some (.int .i64) := by kernel_rfl
theorem wcells2 : Try.prog.cellsOf 2 = 1 := by kernel_rfl
theorem wpk2 : Try.prog.plainKey 2 = true := by kernel_rfl
theorem warr2 (f t a b : Int) (w : World) : (Op.equalIn 10000 117 (.agg #[.int .i64 f, .int .i64 t]) (.agg #[.int .i64 a, .int .i64 b])).run Try.prog w = .ok ((f == a) && (t == b)) w := by
  obtain ⟨i, hi, hi1⟩ := Option.map_eq_some_iff.1 wi2
  rw [show (10000 : Nat) = 9999 + 1 from rfl, run_equalIn_array w 9999 _ _ wu117 hi, wcells2]
  have hp0 : ∀ (x y : Int) w, (part 2 #[.int .i64 x, .int .i64 y] 0).run Try.prog w = .ok (.int .i64 x) w := fun x y w => run_part_plain w wpk2 rfl
  have hp1 : ∀ (x y : Int) w, (part 2 #[.int .i64 x, .int .i64 y] 1).run Try.prog w = .ok (.int .i64 y) w := fun x y w => run_part_plain w wpk2 rfl
  have he : ∀ (x y : Int) w, (Op.equalIn 9999 2 (.int .i64 x) (.int .i64 y)).run Try.prog w = .ok (x == y) w := fun x y w => run_equalIn_int w 9998 _ _ _ x y wun2
  rw [show List.range 2 = [0, 1] from rfl]
  simp only [Op.eqItems, Nat.zero_mul, Nat.one_mul, Sem.run_bind, hp0, he, Result.andThen_ok]
  cases hq : (t == b)
  · cases (f == a) <;> simp [hp1, he, hq]
  · cases (f == a) <;> simp [hp1, he, hq]
set_option maxHeartbeats 4000000 in
set_option maxRecDepth 20000 in
/-- when.Left -/
theorem wleft_any (f t c : Int) (w : World) (c0 : -9223372036854775808 ≤ c) (c9 : c ≤ 9223372036854775807) :
    Calls Try.prog 47 #[.int .i64 f, .int .i64 t, .int .i64 c] w fun e w' => e = .returned (.tuple #[.int .i64 (lfF f t c).1, .int .i64 (lfF f t c).2]) ∧ Below w.heap.size w w' := by
  have HT := whide (fun w => wat_any f t c w c0 c9)
  have HS := whide (WAt.start w f t)
  obtain ⟨Q, hQ⟩ : ∃ Q, lfF f t c = Q := ⟨_, rfl⟩
  rw [hQ]
  unfold lfF at hQ
  unfold atF at HT
  have HE := ask_or f t c
  by_cases he : askF f t c = 0
  · obtain ⟨hf, ht, hc0, hc1⟩ := ask_zero he
    rw [if_neg (by omega)] at hQ
    rw [he, if_pos rfl] at HT
    obtain ⟨m, hm⟩ : ∃ m, c % 1440 = m := ⟨_, rfl⟩
    rw [hm] at HT hQ
    have hm' : 0 ≤ m ∧ m < 1440 := by omega
    have HH := whide (fun w => whas_any f t m w)
    clear he HE hm c0 c9 hc0 hc1
    cases hh : hasB f t m
    · rw [hh] at HH hQ
      rw [if_neg (by simp)] at hQ
      subst hQ
      clear hh
      go_enter Try.func47, Try.ntmps47
      go_wp2_with fail
      refine (HT.out _).mono ?_
      rintro e w1 ⟨rfl, hb⟩
      have H1 := whide ((HS.out _).step hb)
      have c0 := H1.out.c0
      have c1 := H1.out.c1
      clear hb
      go_wp2_with fail
      refine (HH.out _).mono ?_
      rintro e w2 ⟨rfl, hb⟩
      have H2 := whide (H1.out.step hb)
      clear hb
      go_wp2
      go_ret2
      exact ⟨rfl, H2.out.bel⟩
    · rw [hh] at HH hQ
      rw [if_pos rfl] at hQ
      have HR := whide (fun w => wrest_any f t w hf ht)
      have HRS := whide (rest_same f t hf ht)
      by_cases hs : f = rf t
      · have ht2 : t = rt f := HRS.out.1 hs
        rw [left_always f t m hh hf ht hs] at hQ
        subst hQ
        rw [← hs, ← ht2] at HR
        have heq := warr2 f t f t
        simp only [BEq.rfl, Bool.and_self] at heq
        clear hh hs ht2 HRS hf ht
        go_enter Try.func47, Try.ntmps47
        go_wp2_with fail
        refine (HT.out _).mono ?_
        rintro e w1 ⟨rfl, hb⟩
        have H1 := whide ((HS.out _).step hb)
        have c0 := H1.out.c0
        have c1 := H1.out.c1
        clear hb
        go_wp2_with fail
        refine (HH.out _).mono ?_
        rintro e w2 ⟨rfl, hb⟩
        have H2 := whide (H1.out.step hb)
        have c0 := H2.out.c0
        have c1 := H2.out.c1
        have KP : Hid (∀ w', Below w2.drew.heap.size w2.drew w' → w'.cell? ⟨w.heap.size, 0, none⟩ = some (.int .i64 f) ∧ w'.cell? ⟨w.heap.size, 1, none⟩ = some (.int .i64 t) ∧ WAt w w' f t) := whide (fun w' hb => by
          have := H2.out.step ((Below.refl _ _).drew.trans (hb : Below w2.heap.size w2.drew w'))
          exact ⟨this.c0, this.c1, this⟩)
        clear hb
        go_wp2_with fail
        first
          | (go_region_held3 (fun w' => w'.cell? ⟨w.heap.size, 0, none⟩ = some (.int .i64 f) ∧ w'.cell? ⟨w.heap.size, 1, none⟩ = some (.int .i64 t)) (go_keep)
              (first
                | (go_at_call 83; refine (HR.out _).mono ?_; rintro e w3 ⟨rfl, hb3⟩; obtain ⟨q0, q1, q2⟩ := KP.out _ hb3; have H3 := whide q2; clear hb3 q2)))
          | fail
        all_goals
          go_wp2
          go_ret2
          exact ⟨rfl, H3.out.bel⟩
      · have ht2 : ¬ t = rt f := fun e => hs (HRS.out.2 e)
        obtain ⟨hrf, hrt⟩ := rest_right f t
        have HU := whide (fun w => wuntil_any (rf t) (rt f) m w hrf hrt hm')
        rw [left_rest f t m hh hm' hf ht hs] at HU
        subst hQ
        generalize leftF f t m = u at *
        generalize rf t = a at *
        generalize rt f = b at *
        have heq := warr2 f t a b
        rw [show (f == a) = false from by simpa using hs, Bool.false_and] at heq
        clear hh HRS hf ht hrf hrt hm'
        go_enter Try.func47, Try.ntmps47
        go_wp2_with fail
        refine (HT.out _).mono ?_
        rintro e w1 ⟨rfl, hb⟩
        have H1 := whide ((HS.out _).step hb)
        have c0 := H1.out.c0
        have c1 := H1.out.c1
        clear hb
        go_wp2_with fail
        refine (HH.out _).mono ?_
        rintro e w2 ⟨rfl, hb⟩
        have H2 := whide (H1.out.step hb)
        have c0 := H2.out.c0
        have c1 := H2.out.c1
        have KP : Hid (∀ w', Below w2.drew.heap.size w2.drew w' → w'.cell? ⟨w.heap.size, 0, none⟩ = some (.int .i64 f) ∧ w'.cell? ⟨w.heap.size, 1, none⟩ = some (.int .i64 t) ∧ WAt w w' f t) := whide (fun w' hb => by
          have := H2.out.step ((Below.refl _ _).drew.trans (hb : Below w2.heap.size w2.drew w'))
          exact ⟨this.c0, this.c1, this⟩)
        clear hb
        go_wp2_with fail
        first
          | (go_region_held3 (fun w' => w'.cell? ⟨w.heap.size, 0, none⟩ = some (.int .i64 f) ∧ w'.cell? ⟨w.heap.size, 1, none⟩ = some (.int .i64 t)) (go_keep)
              (first
                | (go_at_call 83; refine (HR.out _).mono ?_; rintro e w3 ⟨rfl, hb3⟩; obtain ⟨q0, q1, q2⟩ := KP.out _ hb3; have H3 := whide q2; clear hb3 q2)))
          | fail
        all_goals
          go_wp2_with fail
          refine (HR.out _).mono ?_
          rintro e w4 ⟨rfl, hb⟩
          have H4 := whide (H3.out.step hb)
          clear hb
          go_wp2_with fail
          refine (HU.out _).mono ?_
          rintro e w5 ⟨rfl, hb⟩
          have H5 := whide (H4.out.step hb)
          clear hb
          go_wp2
          go_ret2
          exact ⟨rfl, H5.out.bel⟩
  · rw [if_pos he] at hQ
    rw [if_neg he] at HT
    clear c0 c9
    generalize askF f t c = a at *
    rcases HE with rfl | rfl | rfl
    · exact absurd rfl he
    all_goals
      clear he
      subst hQ
      go_enter Try.func47, Try.ntmps47
      go_wp2_with fail
      refine (HT.out _).mono ?_
      rintro e w1 ⟨rfl, hb⟩
      have H1 := whide ((HS.out _).step hb)
      clear hb
      go_wp2
      go_ret2
      exact ⟨rfl, H1.out.bel⟩
/-- when.Later of 10 and 5 -/
theorem wlater_known (w : World) : Calls Try.prog 79 #[.int .i64 10, .int .i64 5] w fun e w' => e = .returned (.int .i64 15) ∧ w' = w := by
  go_enter Try.func79, Try.ntmps79
  go_wp2
  go_ret
  exact ⟨rfl, rfl⟩
end Go.Proofs.Ytkpambipgcjaiaa
