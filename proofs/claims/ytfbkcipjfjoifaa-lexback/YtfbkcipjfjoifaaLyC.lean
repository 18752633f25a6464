/- Layer 7's law LexBlanks. -/
import Derived.Test.YtfbkcipjfjoifaaLyA
import Derived.Test.YtfbkcipjfjoifaaLyB
import Derived.Test.YtfbkcipjfjoifaaLxO
import Derived.Deep.RegionHeld3
namespace Go.Proofs.Ytfbkcipjfjoifaa
open Go.ChangeShapes Go.WideShapes Go.ChangeAt Go.RowKit Go.DsMem Go.DsLx
set_option linter.unusedVariables false
theorem tkAt_row {w : World} {B : Nat} {uo : Option Addr} {uc n : Nat} {l : List Tk} (h : w.ownsRow B 39 4 (.slice uo n uc) n (tkRow l)) (hn : l.length = n) : TkAt w uo uc 0 l := by
  intro h0
  obtain ⟨g, e, hc, hg, hcells⟩ := tk_cells h (by omega)
  refine ⟨g, e, by omega, hg, fun j t ht => ?_⟩
  rw [Nat.zero_add]
  exact hcells j t ht
theorem tokens_len {s : ByteArray} (h : (tokensF s).2.2 = 0) : (tokensF s).1.length ≤ s.size := by
  have := (tokens_placed h).len (Nat.zero_le _); omega
theorem tokens_few (s : ByteArray) : (tokensF s).1.length ≤ 8192 := by
  by_cases h : (tokensF s).2.2 = 0
  · have := tokens_len h
    unfold tokensF at h
    split at h
    · cases h
    · omega
  · rw [tokens_bad h]; exact Nat.zero_le _
theorem tokens_at (s : ByteArray) (j : Nat) (t : Tk) (ht : (tokensF s).1[j]? = some t) : t.at_ ≤ s.size := by
  by_cases h : (tokensF s).2.2 = 0
  · have := ((tokens_placed h).drop j).here ht; omega
  · rw [tokens_bad h] at ht; simp at ht
theorem nw_sh (d : Nat) (l : List Tk) : (l.map (sh d)).map (nw false) = l.map (nw false) := by
  rw [List.map_map]
  rfl
set_option maxHeartbeats 8000000 in
set_option maxRecDepth 20000 in
theorem blanks7 (s : ByteArray) (w : World) (hs : s.size ≤ 140737488355000) : Calls Try.prog 7 #[.string s] w fun e w' => e = .returned (.bool true) ∧ Below w.heap.size w w' := by
  have hsz2 : (bl4 ++ s ++ rem).size = 4 + s.size + 6 := by rw [size_app, size_app]; rfl
  have HT := hide (fun w => tokens_any s w (by omega))
  have HT2 := hide (fun w => tokens_any (bl4 ++ s ++ rem) w (by omega))
  have HP : Hid (s.size ≤ 8182 → (tokensF (bl4 ++ s ++ rem)).1 = (tokensF s).1.map (sh 4) ∧ (tokensF (bl4 ++ s ++ rem)).2.2 = (tokensF s).2.2) := fun h => tokens_blanks s (by omega)
  have HF := hide (tokens_few s)
  have HAT := hide (tokens_at s)
  have HK := hide known7
  obtain ⟨R1, hR1⟩ : ∃ R, tokensF s = R := ⟨_, rfl⟩
  obtain ⟨R2, hR2⟩ : ∃ R, tokensF (bl4 ++ s ++ rem) = R := ⟨_, rfl⟩
  rw [hR2] at HT2 HP
  rw [hR1] at HT HP HF HAT
  clear hR1 hR2
  obtain ⟨l, p1, e1⟩ := R1
  obtain ⟨m, p2, e2⟩ := R2
  simp only at HP HF HAT
  have hlf := HF.out
  unfold bl4 rem at HT2
  go_enter Try.func7, Try.ntmps7
  go_wp2_with fail
  refine (HT.out w).mono ?_
  rintro e w1 ⟨uo1, uc1, rfl, ho1, hb1⟩
  simp only at ho1 ⊢
  have HB1 := hide hb1
  have HO1 := hide (tkAt_row ho1 rfl)
  clear ho1 hb1 HT
  go_wp2_with fail
  refine (HT2.out w1).mono ?_
  rintro e w2 ⟨uo2, uc2, rfl, ho2, hb2⟩
  simp only at ho2 ⊢
  have HB2 := hide hb2
  have HO2 := hide (tkAt_row ho2 rfl)
  have HO12 := hide (HO1.out.keep HB2.out)
  have HBB := hide (HB1.out.trans (hb2.mono HB1.out.size))
  clear ho2 hb2 HT2 HO1
  by_cases h8 : s.size ≤ 8182
  · obtain ⟨rfl, rfl⟩ := HP.out h8
    clear HP
    have hml : (l.map (sh 4)).length = l.length := by simp
    have hd1 : decide ((8182 : Int) < (s.size : Int)) = false := by simp; omega
    rw [hml]
    go_wp2
    go_loopw [9] (fun ti wr => ∃ (i : Nat), i ≤ l.length ∧ ti = .int .i64 i ∧ Below w2.heap.size w2 wr) (fun ti _ => l.length - (intOf ti).toNat)
    case atStart => exact ⟨0, Nat.zero_le _, rfl, Below.refl _ _⟩
    case round =>
      obtain ⟨i, hi, rfl, hbw⟩ := hrel
      have HBW := hide hbw
      clear hbw
      by_cases hlt : i < l.length
      · obtain ⟨t, ht⟩ : ∃ t, l[i]? = some t := ⟨_, List.getElem?_eq_getElem hlt⟩
        have hta := HAT.out i t ht
        obtain ⟨g, rfl, hc, hg, hcells⟩ := HO12.out (by omega)
        obtain ⟨g', rfl, hc', hg', hcells'⟩ := HO2.out (by omega)
        obtain ⟨a0, a1, a2, a3⟩ := hcells i t ht
        obtain ⟨c0, c1, c2, c3⟩ := hcells' i (sh 4 t) (by rw [List.getElem?_map, ht]; rfl)
        have b3 := Below.keeps HBW.out (Nat.le_refl _) a3
        have d3 := Below.keeps HBW.out (Nat.le_refl _) c3
        clear hcells hcells' a0 a1 a2 a3 c0 c1 c2 c3
        obtain ⟨kd, tx, nn, ta⟩ := t
        simp only [sh, Nat.zero_add] at b3 d3 hta
        rw [show ((ta + 4 : Nat) : Int) = (ta : Int) + 4 by omega] at d3
        have hi0 : (0 : Int) ≤ (i : Int) := Int.natCast_nonneg _
        have hi1 : (i : Int) < (l.length : Int) := by omega
        rw [hml] at hc'
        go_wp2
        go_region_held3 (fun w' => w'.cell? ⟨g, i * 4 + 3, none⟩ = some (.int .i64 ta) ∧ w'.cell? ⟨g', i * 4 + 3, none⟩ = some (.int .i64 ((ta : Int) + 4))) (go_keep) (fail)
        all_goals go_wp2
        · exfalso
          rename_i hx
          rw [IntKind.wrap_i64, show ((ta : Int) + 4 + 9223372036854775808) % 18446744073709551616 - 9223372036854775808 = (ta : Int) + 4 by omega] at hx
          simp at hx
        go_roundw
        case rel => exact ⟨i + 1, by omega, rfl, HBW.out.drew⟩
        case measure => simp [intOf]; omega
      · have HW1 := hide (HBB.out.trans (HBW.out.mono HBB.out.size))
        have HU := hide (HO12.out.keep HBW.out)
        have HV := hide (HO2.out.keep HBW.out)
        go_wp2_with fail
        refine (taken_any l uo1 uc1 0 wr (by omega) HU.out).mono ?_
        rintro e w3 ⟨uo3, uc3, rfl, hw3⟩
        have HW3 := hide hw3
        clear hw3
        have HV3 := hide (HV.out.keep HW3.out.below)
        go_wp2_with fail
        have HTK := hide (taken_any (l.map (sh 4)) uo2 uc2 0 w3 (by rw [hml]; omega) HV3.out)
        rw [hml] at HTK
        refine HTK.out.mono ?_
        rintro e w4 ⟨uo4, uc4, rfl, hw4⟩
        have HW4 := hide hw4
        clear hw4 HTK
        go_wp2_with fail
        have HSM := hide (same_true false l (l.map (sh 4)) uo3 uo4 uc3 uc4 0 0 w4 (by omega) (HW3.out.at_.keep HW4.out.below) HW4.out.at_ (nw_sh 4 l).symm)
        rw [hml] at HSM
        refine HSM.out.mono ?_
        rintro e w5 ⟨rfl, hb5⟩
        have HB5 := hide hb5
        clear hb5 HSM
        go_wp2_with fail
        refine (HK.out w5).mono ?_
        rintro e w6 ⟨rfl, hb6⟩
        have HB6 := hide hb6
        clear hb6
        go_wp2
        go_ret
        have h3 := HW1.out.trans (HW3.out.below.mono HW1.out.size)
        have h4 := h3.trans (HW4.out.below.mono h3.size)
        have h5 := h4.trans (HB5.out.mono h4.size)
        exact ⟨rfl, h5.trans (HB6.out.mono h5.size)⟩
  · have hd1 : decide ((8182 : Int) < (s.size : Int)) = true := by simp; omega
    go_wp2_with fail
    all_goals first | (refine (HK.out w2).mono ?_; rintro e w3 ⟨rfl, hb3⟩; go_wp2; go_ret; exact ⟨rfl, HBB.out.trans (hb3.mono HBB.out.size)⟩) | (exfalso; omega)
end Go.Proofs.Ytfbkcipjfjoifaa
