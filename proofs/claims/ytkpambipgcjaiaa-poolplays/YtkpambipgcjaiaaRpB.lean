/- Package dayshiftref13: right. -/
import Derived.Test.YtkpambipgcjaiaaRpA
namespace Go.DsPl
open Go.DsCo
set_option linter.unusedVariables false
/-- why a need can not be -/
def r1F (R : List Rk) (A : List ByteArray) (n : Ne) : Int := match findK R n.nm with
  | none => 21
  | some k => if suitsB k n = false then 1 else if A.any (fun a => decide (a = n.nm)) = true then 22 else 0
theorem rightF_r1 (R : List Rk) (A : List ByteArray) (n : Ne) (r : List Ne) : rightF R A (n :: r) = if r1F R A n = 0 then rightF R (n.nm :: A) r else r1F R A n := by
  unfold r1F
  rw [rightF]
  cases findK R n.nm with
  | none => simp
  | some k =>
    simp only
    split
    · simp
    · split
      · simp
      · simp
theorem r1F_mem (R : List Rk) {A B : List ByteArray} (n : Ne) (h : ∀ s, s ∈ A ↔ s ∈ B) : r1F R A n = r1F R B n := by
  unfold r1F
  have e : (A.any fun a => decide (a = n.nm)) = (B.any fun a => decide (a = n.nm)) := by
    rw [Bool.eq_iff_iff]
    simp only [List.any_eq_true, decide_eq_true_eq]
    constructor
    · rintro ⟨s, hs, rfl⟩; exact ⟨_, (h _).1 hs, rfl⟩
    · rintro ⟨s, hs, rfl⟩; exact ⟨_, (h _).2 hs, rfl⟩
  rw [e]
end Go.DsPl
namespace Go.Proofs.Ytkpambipgcjaiaa
open Go.ChangeShapes Go.WideShapes Go.ChangeAt Go.RowKit Go.DsMem Go.DsCo Go.DsPl Go.DsMap
set_option linter.unusedVariables false
set_option linter.unusedSimpArgs false
theorem any_snoc (A : List ByteArray) (x nm : ByteArray) : ((A ++ [x]).any fun a => decide (a = nm)) = ((A.any fun a => decide (a = nm)) || decide (x = nm)) := by simp
set_option maxHeartbeats 16000000 in
set_option maxRecDepth 20000 in
/-- (*dayshiftref13.Pool).right -/
theorem rright_any (l : List Ne) (i : Nat) (hi : i < l.length) (no : Option Addr) (nc : Nat) (pr b0 : Nat) (X : List Rt) (H : List Hd) (uo vo : Option Addr) (uc vc : Nat) (w : World) (h : RpAt w pr b0 X H uo vo uc vc) (hX : X.length ≤ 1000000) (hl : NeAt w no nc l) (hll : l.length ≤ 4398046510976) :
    Calls Try.prog 84 #[ptr pr, .slice no l.length nc, .int .i64 i] w fun e w' => e = .returned (.int .i64 (r1F (rkR X) ((l.take i).map (·.nm)) l[i])) ∧ Below w.heap.size w w' := by
  obtain ⟨gn, on, rfl, hnc, hgn, hcells⟩ := hl (by omega)
  obtain ⟨e0, e1, e2⟩ := hcells i l[i] (List.getElem?_eq_getElem hi)
  have HCE := hide hcells
  have HF := hide (fun w h => rfind_any l[i].nm pr b0 X H uo vo uc vc w h hX)
  have HP := hide h
  have hi0 : (0 : Int) ≤ (i : Int) := by omega
  have hi1 : (i : Int) < ((l.length : Nat) : Int) := by omega
  have hor := idxV_or l[i].nm X 0
  unfold r1F
  clear h hcells hl
  obtain ⟨A, hA⟩ : ∃ A, (l.take i).map (·.nm) = A := ⟨_, rfl⟩
  rw [hA]
  have HA := hide hA
  clear hA
  generalize l[i] = n at *
  obtain ⟨nm, m, md⟩ := n
  simp only at e0 e1 e2 hor HF ⊢
  obtain ⟨w1, hw1⟩ : ∃ w1, w.alloc (.cells #[.string nm, .int .i64 m, .int .i64 md] 102) = w1 := ⟨_, rfl⟩
  have hb1 : Below w.heap.size w w1 := by rw [← hw1]; exact bel1 _ _
  have k0 : w1.cell? ⟨w.heap.size, 0, none⟩ = some (.string nm) := by rw [← hw1]; simp [go_sem]
  have k1 : w1.cell? ⟨w.heap.size, 1, none⟩ = some (.int .i64 m) := by rw [← hw1]; simp [go_sem]
  have k2 : w1.cell? ⟨w.heap.size, 2, none⟩ = some (.int .i64 md) := by rw [← hw1]; simp [go_sem]
  have hz1 : w1.heap.size = w.heap.size + 1 := by rw [← hw1]; simp
  have HP1 := hide (HP.out.below hb1)
  have HB1 := hide hb1
  clear hb1
  obtain ⟨D, hD⟩ : ∃ D, w.heap.size = D := ⟨_, rfl⟩
  rw [hD] at k0 k1 k2
  have HD := hide hD
  unfold ptr at *
  rcases hor with ⟨h1, h2⟩ | ⟨q, hq, h1, h2, h3⟩
  · rw [h2]
    rw [h1] at HF
    clear h1 h2
    go_enter Try.func84, Try.ntmps84
    go_wp2_with fail
    first
    | rw [hw1]
    | skip
    try rw [hD]
    clear hw1 hD
    go_wp2_with fail
    refine (HF.out _ HP1.out).mono ?_
    rintro e w2 ⟨rfl, hb2⟩
    have HB2 := hide (HB1.out.trans (hb2.mono HB1.out.size))
    clear hb2
    go_wp2
    go_ret
    exact ⟨rfl, HB2.out⟩
  · rw [h3]
    rw [h1, Nat.zero_add] at HF
    obtain ⟨g, rfl, hg, hxc⟩ := HP1.out.rdX (by omega)
    obtain ⟨_, _, x2⟩ := hxc q hq
    have c0 := HP1.out.c0
    have hq0 : (0 : Int) ≤ (q : Int) := by omega
    have hq1 : (q : Int) < ((X.length : Nat) : Int) := by omega
    clear h1 h2 h3 hxc
    unfold kdR
    generalize X[q] = x at *
    obtain ⟨xn, xu, xl⟩ := x
    simp only at x2
    have hcase : (xl = true ∧ (md != (1 : Int)) = true ∧ (md != (2 : Int)) = true) ∨ (xl = false ∧ ((md != (0 : Int)) = true ∨ (((md != (0 : Int)) = false ∧ Hid (md = 0)) ∧ (m < 1 ∨ (¬ m < 1 ∧ 1000 < m))))) ∨ ((xl = true ∧ (md = 1 ∨ md = 2)) ∨ (xl = false ∧ ((md != (0 : Int)) = false ∧ Hid (md = 0)) ∧ ¬ m < 1 ∧ ¬ 1000 < m)) := by
      cases xl
      · by_cases h0 : md = 0
        · have h0 : (md != (0 : Int)) = false ∧ Hid (md = 0) := ⟨by simp [h0], hide h0⟩
          by_cases ha : m < 1
          · exact .inr (.inl ⟨rfl, .inr ⟨h0, .inl ha⟩⟩)
          · by_cases hb : 1000 < m
            · exact .inr (.inl ⟨rfl, .inr ⟨h0, .inr ⟨ha, hb⟩⟩⟩)
            · exact .inr (.inr (.inr ⟨rfl, h0, ha, hb⟩))
        · exact .inr (.inl ⟨rfl, .inl (by simpa using h0)⟩)
      · by_cases h1 : md = 1
        · exact .inr (.inr (.inl ⟨rfl, .inl h1⟩))
        · by_cases h2 : md = 2
          · exact .inr (.inr (.inl ⟨rfl, .inr h2⟩))
          · exact .inl ⟨rfl, by simpa using h1, by simpa using h2⟩
    have bad : ∀ {P : Prop}, P → P := fun h => h
    rcases hcase with ⟨rfl, n1, n2⟩ | ⟨rfl, n1 | ⟨⟨n0, H0⟩, n1 | ⟨n1, n2⟩⟩⟩ | hgood
    · have hs : suitsB .lock ⟨nm, m, md⟩ = false := by simp at n1 n2; simp [suitsB, n1, n2]
      simp only [if_true, hs]
      clear hs
      go_enter Try.func84, Try.ntmps84
      go_wp2_with fail
      first
      | rw [hw1]
      | skip
      try rw [hD]
      clear hw1 hD
      go_wp2_with fail
      refine (HF.out _ HP1.out).mono ?_
      rintro e w2 ⟨rfl, hb2⟩
      have k1 := Below.keeps hb2 (Nat.le_refl _) k1
      have k2 := Below.keeps hb2 (Nat.le_refl _) k2
      have c0 := Below.keeps hb2 (Nat.le_refl _) c0
      have x2 := Below.keeps hb2 (Nat.le_refl _) x2
      have HB2 := hide (HB1.out.trans (hb2.mono HB1.out.size))
      clear hb2
      go_wp2
      go_ret
      exact ⟨rfl, HB2.out⟩
    · have hs : suitsB (.units xu) ⟨nm, m, md⟩ = false := by simp at n1; simp [suitsB, n1]
      simp only [Bool.false_eq_true, if_false, hs, if_true]
      clear hs
      have N1 := hide n1
      clear n1
      try (have N2 := hide n2; clear n2)
      go_enter Try.func84, Try.ntmps84
      go_wp2_with fail
      first
      | rw [hw1]
      | skip
      try rw [hD]
      clear hw1 hD
      go_wp2_with fail
      refine (HF.out _ HP1.out).mono ?_
      rintro e w2 ⟨rfl, hb2⟩
      have k1 := Below.keeps hb2 (Nat.le_refl _) k1
      have k2 := Below.keeps hb2 (Nat.le_refl _) k2
      have c0 := Below.keeps hb2 (Nat.le_refl _) c0
      have x2 := Below.keeps hb2 (Nat.le_refl _) x2
      have HB2 := hide (HB1.out.trans (hb2.mono HB1.out.size))
      clear hb2
      have n1 := N1.out
      try have n2 := N2.out
      go_wp2
      go_ret
      exact ⟨rfl, HB2.out⟩
    · have hs : suitsB (.units xu) ⟨nm, m, md⟩ = false := by have h0 := H0.out; simp [suitsB]; omega
      simp only [Bool.false_eq_true, if_false, hs, if_true]
      clear hs
      have N1 := hide n1
      clear n1
      try (have N2 := hide n2; clear n2)
      go_enter Try.func84, Try.ntmps84
      go_wp2_with fail
      first
      | rw [hw1]
      | skip
      try rw [hD]
      clear hw1 hD
      go_wp2_with fail
      refine (HF.out _ HP1.out).mono ?_
      rintro e w2 ⟨rfl, hb2⟩
      have k1 := Below.keeps hb2 (Nat.le_refl _) k1
      have k2 := Below.keeps hb2 (Nat.le_refl _) k2
      have c0 := Below.keeps hb2 (Nat.le_refl _) c0
      have x2 := Below.keeps hb2 (Nat.le_refl _) x2
      have HB2 := hide (HB1.out.trans (hb2.mono HB1.out.size))
      clear hb2
      have n1 := N1.out
      try have n2 := N2.out
      go_wp2
      go_ret
      exact ⟨rfl, HB2.out⟩
    · have hs : suitsB (.units xu) ⟨nm, m, md⟩ = false := by have h0 := H0.out; simp [suitsB]; omega
      simp only [Bool.false_eq_true, if_false, hs, if_true]
      clear hs
      have N1 := hide n1
      clear n1
      try (have N2 := hide n2; clear n2)
      go_enter Try.func84, Try.ntmps84
      go_wp2_with fail
      first
      | rw [hw1]
      | skip
      try rw [hD]
      clear hw1 hD
      go_wp2_with fail
      refine (HF.out _ HP1.out).mono ?_
      rintro e w2 ⟨rfl, hb2⟩
      have k1 := Below.keeps hb2 (Nat.le_refl _) k1
      have k2 := Below.keeps hb2 (Nat.le_refl _) k2
      have c0 := Below.keeps hb2 (Nat.le_refl _) c0
      have x2 := Below.keeps hb2 (Nat.le_refl _) x2
      have HB2 := hide (HB1.out.trans (hb2.mono HB1.out.size))
      clear hb2
      have n1 := N1.out
      try have n2 := N2.out
      go_wp2
      go_ret
      exact ⟨rfl, HB2.out⟩
    · rcases hgood with ⟨rfl, rfl | rfl⟩ | ⟨rfl, ⟨n0, H0⟩, n1, n2⟩
      · have hs : suitsB .lock ⟨nm, m, 1⟩ = true := by simp [suitsB]
        simp only [if_true, hs, Bool.true_eq_false, if_false]
        clear hs
        obtain ⟨Q, hQ⟩ : ∃ Q : Int, (if (A.any fun a => decide (a = nm)) = true then (22 : Int) else 0) = Q := ⟨_, rfl⟩
        rw [hQ]
        have HQ := hide hQ
        clear hQ
        go_enter Try.func84, Try.ntmps84
        go_wp2_with fail
        first
        | rw [hw1]
        | skip
        try rw [hD]
        clear hw1 hD
        go_wp2_with fail
        refine (HF.out _ HP1.out).mono ?_
        rintro e w2 ⟨rfl, hb2⟩
        have k0 := Below.keeps hb2 (Nat.le_refl _) k0
        have k1 := Below.keeps hb2 (Nat.le_refl _) k1
        have k2 := Below.keeps hb2 (Nat.le_refl _) k2
        have c0 := Below.keeps hb2 (Nat.le_refl _) c0
        have x2 := Below.keeps hb2 (Nat.le_refl _) x2
        have HB2 := hide (HB1.out.trans (hb2.mono HB1.out.size))
        clear hb2
        go_wp2
        go_loopw [9] (fun tj wr => ∃ j : Nat, j ≤ i ∧ tj = .int .i64 j ∧ (∀ k, k < j → ∀ n, l[k]? = some n → ¬ n.nm = nm) ∧ Below w.heap.size w wr ∧ wr.cell? ⟨D, 0, none⟩ = some (.string nm)) (fun tj _ => i - (intOf tj).toNat)
        case atStart => exact ⟨0, Nat.zero_le _, rfl, fun k hk => absurd hk (Nat.not_lt_zero _), HB2.out, k0⟩
        case round =>
          clear HB2 k0
          obtain ⟨j, hj, rfl, hno, hbl, k0⟩ := hrel
          have HNO := hide hno
          have HBL := hide hbl
          clear hno hbl
          by_cases hlt : j < i
          · have HLT := hide hlt
            have hj0 : (0 : Int) ≤ (j : Int) := by omega
            have hj1 : (j : Int) < ((l.length : Nat) : Int) := by omega
            have hj2 : (j : Int) < (i : Int) := by omega
            obtain ⟨f0, _, _⟩ := HCE.out j l[j] (List.getElem?_eq_getElem (by omega))
            have f0 := Below.keeps HBL.out (Nat.le_refl _) f0
            have HM : Hid (l[j].nm ∈ A) := hide (by
              rw [← HA.out]
              exact List.mem_map.2 ⟨l[j], List.mem_iff_getElem.2 ⟨j, by simp; omega, by simp⟩, rfl⟩)
            have HN2 : Hid (¬ l[j].nm = nm → ∀ k, k < j + 1 → ∀ n, l[k]? = some n → ¬ n.nm = nm) := hide (fun hne k hk n hn => by
              by_cases e : k = j
              · subst e
                rw [List.getElem?_eq_getElem (by omega)] at hn
                cases hn
                exact hne
              · exact HNO.out k (by omega) n hn)
            clear HNO
            generalize l[j] = y at *
            by_cases hy : y.nm = nm
            · rw [hy] at f0 HM
              have HANY : Hid ((A.any fun a => decide (a = nm)) = true) := hide (List.any_eq_true.2 ⟨nm, HM.out, by simp⟩)
              go_wp2_with fail
              go_region
              all_goals
                go_wp2
                go_ret
                exact ⟨retI (by rw [← HQ.out, HANY.out]; rfl), HBL.out.drew⟩
            · have hne := str_neP hy
              have HN3 := hide (HN2.out hy)
              clear HN2
              go_wp2_with fail
              go_region
              all_goals
                go_wp2
                go_roundw
                case rel => exact ⟨j + 1, by have := HLT.out; omega, by go_num, HN3.out, HBL.out.drew, k0⟩
                case measure => have := HLT.out; simp [intOf]; omega
          · have HANY : Hid ((A.any fun a => decide (a = nm)) = false) := hide (by
              cases hb : A.any fun a => decide (a = nm) with
              | false => rfl
              | true =>
                obtain ⟨s, hs, e⟩ := List.any_eq_true.1 hb
                rw [← HA.out] at hs
                obtain ⟨y, hy, rfl⟩ := List.mem_map.1 hs
                obtain ⟨k, hk, rfl⟩ := List.mem_iff_getElem.1 hy
                simp only [List.length_take] at hk
                simp only [List.getElem_take] at e
                exact absurd (by simpa using e) (HNO.out k (by omega) _ (List.getElem?_eq_getElem _)))
            have hji : ¬ (j : Int) < (i : Int) := by omega
            go_wp2
            go_ret
            exact ⟨retI (by rw [← HQ.out, HANY.out]; rfl), HBL.out⟩
      · have hs : suitsB .lock ⟨nm, m, 2⟩ = true := by simp [suitsB]
        simp only [if_true, hs, Bool.true_eq_false, if_false]
        clear hs
        obtain ⟨Q, hQ⟩ : ∃ Q : Int, (if (A.any fun a => decide (a = nm)) = true then (22 : Int) else 0) = Q := ⟨_, rfl⟩
        rw [hQ]
        have HQ := hide hQ
        clear hQ
        go_enter Try.func84, Try.ntmps84
        go_wp2_with fail
        first
        | rw [hw1]
        | skip
        try rw [hD]
        clear hw1 hD
        go_wp2_with fail
        refine (HF.out _ HP1.out).mono ?_
        rintro e w2 ⟨rfl, hb2⟩
        have k0 := Below.keeps hb2 (Nat.le_refl _) k0
        have k1 := Below.keeps hb2 (Nat.le_refl _) k1
        have k2 := Below.keeps hb2 (Nat.le_refl _) k2
        have c0 := Below.keeps hb2 (Nat.le_refl _) c0
        have x2 := Below.keeps hb2 (Nat.le_refl _) x2
        have HB2 := hide (HB1.out.trans (hb2.mono HB1.out.size))
        clear hb2
        go_wp2
        go_loopw [9] (fun tj wr => ∃ j : Nat, j ≤ i ∧ tj = .int .i64 j ∧ (∀ k, k < j → ∀ n, l[k]? = some n → ¬ n.nm = nm) ∧ Below w.heap.size w wr ∧ wr.cell? ⟨D, 0, none⟩ = some (.string nm)) (fun tj _ => i - (intOf tj).toNat)
        case atStart => exact ⟨0, Nat.zero_le _, rfl, fun k hk => absurd hk (Nat.not_lt_zero _), HB2.out, k0⟩
        case round =>
          clear HB2 k0
          obtain ⟨j, hj, rfl, hno, hbl, k0⟩ := hrel
          have HNO := hide hno
          have HBL := hide hbl
          clear hno hbl
          by_cases hlt : j < i
          · have HLT := hide hlt
            have hj0 : (0 : Int) ≤ (j : Int) := by omega
            have hj1 : (j : Int) < ((l.length : Nat) : Int) := by omega
            have hj2 : (j : Int) < (i : Int) := by omega
            obtain ⟨f0, _, _⟩ := HCE.out j l[j] (List.getElem?_eq_getElem (by omega))
            have f0 := Below.keeps HBL.out (Nat.le_refl _) f0
            have HM : Hid (l[j].nm ∈ A) := hide (by
              rw [← HA.out]
              exact List.mem_map.2 ⟨l[j], List.mem_iff_getElem.2 ⟨j, by simp; omega, by simp⟩, rfl⟩)
            have HN2 : Hid (¬ l[j].nm = nm → ∀ k, k < j + 1 → ∀ n, l[k]? = some n → ¬ n.nm = nm) := hide (fun hne k hk n hn => by
              by_cases e : k = j
              · subst e
                rw [List.getElem?_eq_getElem (by omega)] at hn
                cases hn
                exact hne
              · exact HNO.out k (by omega) n hn)
            clear HNO
            generalize l[j] = y at *
            by_cases hy : y.nm = nm
            · rw [hy] at f0 HM
              have HANY : Hid ((A.any fun a => decide (a = nm)) = true) := hide (List.any_eq_true.2 ⟨nm, HM.out, by simp⟩)
              go_wp2_with fail
              go_region
              all_goals
                go_wp2
                go_ret
                exact ⟨retI (by rw [← HQ.out, HANY.out]; rfl), HBL.out.drew⟩
            · have hne := str_neP hy
              have HN3 := hide (HN2.out hy)
              clear HN2
              go_wp2_with fail
              go_region
              all_goals
                go_wp2
                go_roundw
                case rel => exact ⟨j + 1, by have := HLT.out; omega, by go_num, HN3.out, HBL.out.drew, k0⟩
                case measure => have := HLT.out; simp [intOf]; omega
          · have HANY : Hid ((A.any fun a => decide (a = nm)) = false) := hide (by
              cases hb : A.any fun a => decide (a = nm) with
              | false => rfl
              | true =>
                obtain ⟨s, hs, e⟩ := List.any_eq_true.1 hb
                rw [← HA.out] at hs
                obtain ⟨y, hy, rfl⟩ := List.mem_map.1 hs
                obtain ⟨k, hk, rfl⟩ := List.mem_iff_getElem.1 hy
                simp only [List.length_take] at hk
                simp only [List.getElem_take] at e
                exact absurd (by simpa using e) (HNO.out k (by omega) _ (List.getElem?_eq_getElem _)))
            have hji : ¬ (j : Int) < (i : Int) := by omega
            go_wp2
            go_ret
            exact ⟨retI (by rw [← HQ.out, HANY.out]; rfl), HBL.out⟩
      · have hs : suitsB (.units xu) ⟨nm, m, md⟩ = true := by have h0 := H0.out; simp [suitsB]; omega
        simp only [Bool.false_eq_true, if_false, hs, Bool.true_eq_false]
        clear hs
        obtain ⟨Q, hQ⟩ : ∃ Q : Int, (if (A.any fun a => decide (a = nm)) = true then (22 : Int) else 0) = Q := ⟨_, rfl⟩
        rw [hQ]
        have HQ := hide hQ
        clear hQ
        go_enter Try.func84, Try.ntmps84
        go_wp2_with fail
        first
        | rw [hw1]
        | skip
        try rw [hD]
        clear hw1 hD
        go_wp2_with fail
        refine (HF.out _ HP1.out).mono ?_
        rintro e w2 ⟨rfl, hb2⟩
        have k0 := Below.keeps hb2 (Nat.le_refl _) k0
        have k1 := Below.keeps hb2 (Nat.le_refl _) k1
        have k2 := Below.keeps hb2 (Nat.le_refl _) k2
        have c0 := Below.keeps hb2 (Nat.le_refl _) c0
        have x2 := Below.keeps hb2 (Nat.le_refl _) x2
        have HB2 := hide (HB1.out.trans (hb2.mono HB1.out.size))
        clear hb2
        go_wp2
        go_loopw [9] (fun tj wr => ∃ j : Nat, j ≤ i ∧ tj = .int .i64 j ∧ (∀ k, k < j → ∀ n, l[k]? = some n → ¬ n.nm = nm) ∧ Below w.heap.size w wr ∧ wr.cell? ⟨D, 0, none⟩ = some (.string nm)) (fun tj _ => i - (intOf tj).toNat)
        case atStart => exact ⟨0, Nat.zero_le _, rfl, fun k hk => absurd hk (Nat.not_lt_zero _), HB2.out, k0⟩
        case round =>
          clear HB2 k0
          obtain ⟨j, hj, rfl, hno, hbl, k0⟩ := hrel
          have HNO := hide hno
          have HBL := hide hbl
          clear hno hbl
          by_cases hlt : j < i
          · have HLT := hide hlt
            have hj0 : (0 : Int) ≤ (j : Int) := by omega
            have hj1 : (j : Int) < ((l.length : Nat) : Int) := by omega
            have hj2 : (j : Int) < (i : Int) := by omega
            obtain ⟨f0, _, _⟩ := HCE.out j l[j] (List.getElem?_eq_getElem (by omega))
            have f0 := Below.keeps HBL.out (Nat.le_refl _) f0
            have HM : Hid (l[j].nm ∈ A) := hide (by
              rw [← HA.out]
              exact List.mem_map.2 ⟨l[j], List.mem_iff_getElem.2 ⟨j, by simp; omega, by simp⟩, rfl⟩)
            have HN2 : Hid (¬ l[j].nm = nm → ∀ k, k < j + 1 → ∀ n, l[k]? = some n → ¬ n.nm = nm) := hide (fun hne k hk n hn => by
              by_cases e : k = j
              · subst e
                rw [List.getElem?_eq_getElem (by omega)] at hn
                cases hn
                exact hne
              · exact HNO.out k (by omega) n hn)
            clear HNO
            generalize l[j] = y at *
            by_cases hy : y.nm = nm
            · rw [hy] at f0 HM
              have HANY : Hid ((A.any fun a => decide (a = nm)) = true) := hide (List.any_eq_true.2 ⟨nm, HM.out, by simp⟩)
              go_wp2_with fail
              go_region
              all_goals
                go_wp2
                go_ret
                exact ⟨retI (by rw [← HQ.out, HANY.out]; rfl), HBL.out.drew⟩
            · have hne := str_neP hy
              have HN3 := hide (HN2.out hy)
              clear HN2
              go_wp2_with fail
              go_region
              all_goals
                go_wp2
                go_roundw
                case rel => exact ⟨j + 1, by have := HLT.out; omega, by go_num, HN3.out, HBL.out.drew, k0⟩
                case measure => have := HLT.out; simp [intOf]; omega
          · have HANY : Hid ((A.any fun a => decide (a = nm)) = false) := hide (by
              cases hb : A.any fun a => decide (a = nm) with
              | false => rfl
              | true =>
                obtain ⟨s, hs, e⟩ := List.any_eq_true.1 hb
                rw [← HA.out] at hs
                obtain ⟨y, hy, rfl⟩ := List.mem_map.1 hs
                obtain ⟨k, hk, rfl⟩ := List.mem_iff_getElem.1 hy
                simp only [List.length_take] at hk
                simp only [List.getElem_take] at e
                exact absurd (by simpa using e) (HNO.out k (by omega) _ (List.getElem?_eq_getElem _)))
            have hji : ¬ (j : Int) < (i : Int) := by omega
            go_wp2
            go_ret
            exact ⟨retI (by rw [← HQ.out, HANY.out]; rfl), HBL.out⟩
end Go.Proofs.Ytkpambipgcjaiaa
