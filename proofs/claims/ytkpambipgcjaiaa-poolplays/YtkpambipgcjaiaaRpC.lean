/- Package dayshiftref13: Free; May of a pool of which nothing is held. -/
import Derived.Test.YtkpambipgcjaiaaRpB
namespace Go.DsPl
open Go.DsCo
set_option linter.unusedVariables false
theorem useF_snoc (L : List Hd) (x : Hd) (nm : ByteArray) : useF (L ++ [x]) nm = if x.1.2 = nm then addU (useF L nm) x.2 else useF L nm := by
  rw [useF_perm (List.perm_append_singleton x L) nm, useF]
end Go.DsPl
namespace Go.Proofs.Ytkpambipgcjaiaa
open Go.ChangeShapes Go.WideShapes Go.ChangeAt Go.RowKit Go.DsMem Go.DsCo Go.DsPl Go.DsMap
set_option linter.unusedVariables false
set_option linter.unusedSimpArgs false
set_option maxHeartbeats 8000000 in
set_option maxRecDepth 20000 in
/-- (*dayshiftref13.Pool).Free -/
theorem rfree_any (nm : ByteArray) (pr b0 : Nat) (X : List Rt) (H : List Hd) (uo vo : Option Addr) (uc vc : Nat) (w : World) (h : RpAt w pr b0 X H uo vo uc vc) (hX : X.length ≤ 1000000) (hH : H.length ≤ 1000000) (hs : SmallH H) (hu : ∀ s n, (s, Kd.units n) ∈ rkR X → 0 ≤ n ∧ n ≤ 1000) : Calls Try.prog 26 #[ptr pr, .string nm] w fun e w' => e = .returned (.tuple #[.int .i64 (freeF (rkR X) H nm).1, .int .i64 (freeF (rkR X) H nm).2]) ∧ Below w.heap.size w w' := by
  have HU := hide (runits_any nm pr b0 X H uo vo uc vc w h hX)
  have HP := hide h
  have HS := hide hs
  unfold unitsF ptr at *
  unfold freeF
  cases hk : findK (rkR X) nm with
  | none =>
    rw [hk] at HU
    simp only at HU ⊢
    clear h hs hu
    go_enter Try.func26, Try.ntmps26
    go_wp2_with fail
    refine HU.out.mono ?_
    rintro e w1 ⟨rfl, hb⟩
    have HB := hide hb
    clear hb
    go_wp2
    go_ret2
    exact ⟨rfl, HB.out⟩
  | some k =>
    rw [hk] at HU
    cases k with
    | lock =>
      simp only at HU ⊢
      clear h hs hu
      go_enter Try.func26, Try.ntmps26
      go_wp2_with fail
      refine HU.out.mono ?_
      rintro e w1 ⟨rfl, hb⟩
      have HB := hide hb
      clear hb
      go_wp2
      go_ret2
      exact ⟨rfl, HB.out⟩
    | units n =>
      simp only at HU ⊢
      have hnb := hu nm n (findK_in hk)
      obtain ⟨Q, hQ⟩ : ∃ Q, n - (useF H nm).1 = Q := ⟨_, rfl⟩
      rw [hQ]
      have HQ := hide hQ
      clear h hs hu hQ hk
      go_enter Try.func26, Try.ntmps26
      go_wp2_with fail
      refine HU.out.mono ?_
      rintro e w1 ⟨rfl, hb⟩
      have HB := hide hb
      have HP1 := hide (HP.out.below hb)
      have c1 := HP1.out.c1
      clear hb
      go_wp2
      clear c1
      go_loopw [6, 8] (fun vn i wr => ∃ k : Nat, k ≤ H.length ∧ i = .int .i64 k ∧ vn = .int .i64 (n - (useF (H.take k) nm).1) ∧ RpAt wr pr b0 X H uo vo uc vc ∧ Below w.heap.size w wr) (fun _ i _ => H.length - (intOf i).toNat)
      case atStart => exact ⟨0, Nat.zero_le _, rfl, by simp [useF], HP1.out, HB.out⟩
      case round =>
        clear HP1 HB
        obtain ⟨k, hk, rfl, rfl, hp, hbl⟩ := hrel
        have HPO := hide hp
        have HBL := hide hbl
        have c1 := hp.c1
        clear hp hbl
        have hub := useF_bd nm (H := H.take k) (fun x hx => HS.out x (List.mem_of_mem_take hx))
        have hul : 1000 * ((H.take k).length : Int) ≤ 1000000000 := by rw [List.length_take]; omega
        by_cases hlt : k < H.length
        · have HLT := hide hlt
          have hk0 : (0 : Int) ≤ (k : Int) := by omega
          have hk1 : (k : Int) < ((H.length : Nat) : Int) := by omega
          obtain ⟨g, rfl, hg, hcells⟩ := HPO.out.rdH (by omega)
          obtain ⟨_, x1, x2, _⟩ := hcells k hlt
          have hxs := HS.out _ (List.getElem_mem hlt)
          have htk : useF (H.take (k + 1)) nm = if H[k].1.2 = nm then addU (useF (H.take k) nm) H[k].2 else useF (H.take k) nm := by
            have e : H.take (k + 1) = H.take k ++ [H[k]] := List.take_succ_eq_append_getElem hlt
            exact (congrArg (fun L => useF L nm) e).trans (useF_snoc _ _ _)
          clear hcells
          generalize H[k] = x at *
          by_cases hx : x.1.2 = nm
          · rw [if_pos hx] at htk
            rw [hx] at x1
            have hval : n - (useF (H.take (k + 1)) nm).1 = n - (useF (H.take k) nm).1 - x.2.1 := by rw [htk]; unfold addU; simp only; omega
            have HV := hide hval
            clear htk hval
            generalize (useF (H.take k) nm).1 = u at *
            generalize x.2.1 = xn at *
            have hwrap : IntKind.i64.wrap (n - u - xn) = n - u - xn := by rw [IntKind.wrap_i64]; omega
            go_wp2
            go_roundw
            case rel => exact ⟨k + 1, by have := HLT.out; omega, by go_num, by rw [HV.out], HPO.out, HBL.out⟩
            case measure => have := HLT.out; simp [intOf]; omega
          · rw [if_neg hx] at htk
            have hne := str_neP hx
            have HV := hide htk
            clear htk
            go_wp2
            go_roundw
            case rel => exact ⟨k + 1, by have := HLT.out; omega, by go_num, by rw [HV.out], HPO.out, HBL.out⟩
            case measure => have := HLT.out; simp [intOf]; omega
        · have e : H.take k = H := List.take_of_length_le (by omega)
          rw [e, HQ.out]
          have hk1 : ¬ (k : Int) < ((H.length : Nat) : Int) := by omega
          go_wp2
          go_ret2
          exact ⟨rfl, HBL.out⟩
end Go.Proofs.Ytkpambipgcjaiaa
