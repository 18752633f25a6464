/- Package pool: Resize. -/
import Derived.Test.YtkpambipgcjaiaaPmD
namespace Go.DsPl
open Go.DsCo Go.DsMap
set_option linter.unusedVariables false
/-- other units -/
noncomputable def resizeF (R : List Rk) (nm : ByteArray) (n : Int) : List Rk × Int := if (unitsF R nm).2 ≠ 0 then (R, (unitsF R nm).2) else if n < 0 ∨ 1000 < n then (R, 6) else (setL R nm (.units n), 0)
theorem findK_set {R : List Rk} {nm : ByteArray} {k : Kd} {s : ByteArray} : findK (setL R nm k) s = if s = nm then (findK R nm).map (fun _ => k) else findK R s := by
  induction R with
  | nil => by_cases h : s = nm <;> simp [setL, findK, h]
  | cons p r ih =>
    have e : setL (p :: r) nm k = (if p.1 = nm then (nm, k) else p) :: setL r nm k := by
      unfold setL; rw [List.map_cons]; by_cases hp : p.1 = nm <;> simp [hp]
    rw [e]
    by_cases hp : p.1 = nm
    · rw [if_pos hp]
      by_cases hs : s = nm
      · rw [if_pos hs, findK, if_pos hs.symm, findK, if_pos hp]; rfl
      · rw [if_neg hs, findK, if_neg (fun e => hs e.symm), ih, if_neg hs, findK, if_neg (fun e => hs (e.symm.trans hp))]
    · rw [if_neg hp]
      by_cases hs : s = nm
      · rw [if_pos hs, findK, if_neg (fun e => hp (e.trans hs)), ih, if_pos hs, findK, if_neg hp]
      · rw [if_neg hs, findK, ih, if_neg hs, findK]
theorem unitsF_zero {R : List Rk} {nm : ByteArray} (h : (unitsF R nm).2 = 0) : ∃ m, findK R nm = some (.units m) := by
  unfold unitsF at h
  cases hk : findK R nm with
  | none => rw [hk] at h; simp at h
  | some k => cases k with
    | lock => rw [hk] at h; simp at h
    | units m => exact ⟨m, rfl⟩
theorem resize_fine {R : List Rk} {H : List Hd} (hf : FineP R H) (nm : ByteArray) (n : Int) : FineP (resizeF R nm n).1 H ∧ (resizeF R nm n).1.length = R.length := by
  unfold resizeF
  by_cases h1 : (unitsF R nm).2 = 0
  · rw [if_neg (by simp [h1])]
    by_cases h2 : n < 0 ∨ 1000 < n
    · rw [if_pos h2]; exact ⟨hf, rfl⟩
    · rw [if_neg h2]
      obtain ⟨m, hm⟩ := unitsF_zero h1
      refine ⟨⟨by simp only; rw [setL_keys]; exact hf.kn, fun s k hk => ?_, fun p hp => ?_, hf.up, fun x hx => ?_, hf.ho⟩, by simp [setL]⟩
      · rcases mem_setL.1 hk with ⟨_, e, _⟩ | ⟨_, hk⟩
        · cases e; omega
        · exact hf.ru s k hk
      · obtain ⟨s, k⟩ := p
        rcases mem_setL.1 hp with ⟨rfl, _, z, hz⟩ | ⟨_, hp⟩
        · exact hf.rs (s, z) hz
        · exact hf.rs _ hp
      · obtain ⟨k, hk, ho⟩ := hf.hin x hx
        simp only
        rw [findK_set]
        by_cases hs : x.1.2 = nm
        · rw [hs, hm] at hk
          cases hk
          rw [if_pos hs, hm]
          exact ⟨_, rfl, ho⟩
        · rw [if_neg hs]; exact ⟨k, hk, ho⟩
  · rw [if_pos h1]; exact ⟨hf, rfl⟩
end Go.DsPl
namespace Go.Proofs.Ytkpambipgcjaiaa
open Go.ChangeShapes Go.WideShapes Go.ChangeAt Go.RowKit Go.DsMem Go.DsCo Go.DsPl Go.DsMap
set_option linter.unusedVariables false
set_option linter.unusedSimpArgs false
set_option maxHeartbeats 4000000 in
set_option maxRecDepth 20000 in
/-- (*pool.Pool).Resize -/
theorem presize_any (nm : ByteArray) (hn : FitN nm) (n : Int) (p a b : Nat) (R : List Rk) (H : List Hd) (w : World) (h : PoAt w p a b R H) (hR : R.length ≤ 100000) :
    Calls Try.prog 55 #[ptr p, .string nm, .int .i64 n] w fun e w' => e = .returned (.int .i64 (resizeF R nm n).2) ∧ PoAt w' p a b (resizeF R nm n).1 H ∧ Only (· = a) w w' := by
  have HQ := hide (quantity_any nm hn p a b R H w h)
  have hfr := (resize_fine h.fine nm n).1
  have HP := hide h
  obtain ⟨Q, hQ⟩ : ∃ Q, resizeF R nm n = Q := ⟨_, rfl⟩
  rw [hQ] at hfr ⊢
  have HFR := hide hfr
  unfold resizeF at hQ
  have hz := @unitsF_zero R nm
  unfold quF ptr at *
  clear h hfr
  by_cases h1 : (unitsF R nm).2 = 0
  · obtain ⟨m, hm⟩ := hz h1
    rw [if_neg (by simp [h1])] at hQ
    rw [h1] at HQ
    generalize (unitsF R nm).1 = u at *
    clear hz h1
    by_cases h2 : n < 0 ∨ 1000 < n
    · rw [if_pos h2] at hQ
      subst hQ
      rcases h2 with h2 | h2
      · go_enter Try.func55, Try.ntmps55
        go_wp2_with fail
        refine HQ.out.mono ?_
        rintro e w1 ⟨rfl, hb⟩
        have HB := hide hb
        clear hb
        go_wp2
        go_ret
        exact ⟨rfl, HP.out.below (HB.out.alloc HB.out.size _), Only.below (HB.out.alloc HB.out.size _)⟩
      · have h3 : ¬ n < 0 := by omega
        go_enter Try.func55, Try.ntmps55
        go_wp2_with fail
        refine HQ.out.mono ?_
        rintro e w1 ⟨rfl, hb⟩
        have HB := hide hb
        clear hb
        go_wp2
        go_ret
        exact ⟨rfl, HP.out.below (HB.out.alloc HB.out.size _), Only.below (HB.out.alloc HB.out.size _)⟩
    · rw [if_neg h2] at hQ
      subst hQ
      have h3 : ¬ n < 0 := by omega
      have h4 : ¬ 1000 < n := by omega
      clear h2
      go_enter Try.func55, Try.ntmps55
      go_wp2_with fail
      refine HQ.out.mono ?_
      rintro e w1 ⟨rfl, hb⟩
      obtain ⟨w2, hw2⟩ : ∃ w2, w1.alloc (.cells #[.int .i64 u] 93) = w2 := ⟨_, rfl⟩
      have hb2 : Below w.heap.size w w2 := by rw [← hw2]; exact hb.alloc hb.size _
      have hp2 := HP.out.below hb2
      have c0 := hp2.c0
      obtain ⟨w3, hrun, hm3, ho3⟩ := hp2.mks.set mkK (findK_in hm) (.units n) (by omega)
      have hpa := hp2.pa
      have hp3 : PoAt w3 p a b (setL R nm (.units n)) H := ⟨by rw [ho3.block p hp2.lt.1 hpa]; exact hp2.blk, hm3, hp2.mhs.only ho3 (fun e => hp2.ab e.symm), hp2.ab, HFR.out⟩
      have HP3 := hide hp3
      have HO3 : Hid (Only (· = a) w w3) := hide ((Only.below hb2).trans ho3 (fun _ _ e => e))
      unfold kdV at hrun
      simp only at hrun
      clear hb hb2 hp2 hm3 ho3 hp3 hpa
      go_upto_region 6 with fail
      try rw [hw2]
      clear hw2
      go_wp2
      go_ret
      exact ⟨rfl, HP3.out, HO3.out⟩
  · rw [if_pos h1] at hQ
    subst hQ
    have h1' : ((unitsF R nm).2 != 0) = true := by simpa using h1
    generalize (unitsF R nm).2 = e0 at *
    generalize (unitsF R nm).1 = u at *
    clear hz h1
    go_enter Try.func55, Try.ntmps55
    go_wp2_with fail
    refine HQ.out.mono ?_
    rintro e w1 ⟨rfl, hb⟩
    have HB := hide hb
    clear hb
    go_wp2
    go_ret
    exact ⟨rfl, HP.out.below (HB.out.alloc HB.out.size _), Only.below (HB.out.alloc HB.out.size _)⟩
end Go.Proofs.Ytkpambipgcjaiaa
