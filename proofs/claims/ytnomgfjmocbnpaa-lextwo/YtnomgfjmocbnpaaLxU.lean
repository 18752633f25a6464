/- Layer 7's law LexTwo. -/
import Derived.Test.YtnomgfjmocbnpaaLxT
import Derived.Test.YtnomgfjmocbnpaaLxO
import Derived.Deep.RegionHeld3
namespace Go.Proofs.Ytnomgfjmocbnpaa
open Go.ChangeShapes Go.WideShapes Go.ChangeAt Go.RowKit Go.DsMem Go.DsLx
set_option linter.unusedVariables false
set_option maxHeartbeats 8000000 in
set_option maxRecDepth 20000 in
theorem two7 (a b : ByteArray) (w : World) (hs : a.size ≤ 140737488355328) (hs2 : b.size ≤ 140737488355328) : Calls Try.prog 5 #[.string a, .string b] w fun e w' => e = .returned (.bool true) ∧ Below w.heap.size w w' := by
  have HT := hide (fun w => tokens_any a w hs)
  have HT2 := hide (fun w => tokens_any b w hs2)
  have HT3 : Hid (a.size + 1 + b.size ≤ 8192 → ∀ w, _) := hide (fun (h : a.size + 1 + b.size ≤ 8192) w => tokens_any (a ++ ⟨#[10]⟩ ++ b) w (by rw [size_app, size_app]; show a.size + 1 + b.size ≤ _; omega))
  have HP : Hid (a.size + 1 + b.size ≤ 8192 → (tokensF a).2.2 = 0 → (tokensF b).2.2 = 0 → (tokensF (a ++ ⟨#[10]⟩ ++ b)).2.2 = 0 ∧ (tokensF (a ++ ⟨#[10]⟩ ++ b)).1 = (tokensF a).1 ++ (tokensF b).1.map (sh (a.size + 1))) := fun h h1 h2 => by
    have := tokens_two (pre_app a b) (post_two a b) (by rw [size_app, size_app]; exact h) h1
    exact ⟨this.1.trans h2, this.2 h2⟩
  have HK := hide known7
  have HLa : Hid (a.size ≤ 8192 → (tokensF a).2.2 = 0 → (tokensF a).1.length ≤ a.size) := fun _ h => by have := (tokens_placed h).len (Nat.zero_le _); omega
  have HLb : Hid (b.size ≤ 8192 → (tokensF b).2.2 = 0 → (tokensF b).1.length ≤ b.size) := fun _ h => by have := (tokens_placed h).len (Nat.zero_le _); omega
  have HAT : Hid ((tokensF b).2.2 = 0 → ∀ (j : Nat) (t : Tk), (tokensF b).1[j]? = some t → t.at_ ≤ b.size) := fun h j t ht => by have := ((tokens_placed h).drop j).here ht; omega
  obtain ⟨R1, hR1⟩ : ∃ R, tokensF a = R := ⟨_, rfl⟩
  obtain ⟨R2, hR2⟩ : ∃ R, tokensF b = R := ⟨_, rfl⟩
  obtain ⟨R3, hR3⟩ : ∃ R, tokensF (a ++ ⟨#[10]⟩ ++ b) = R := ⟨_, rfl⟩
  rw [hR3] at HT3 HP
  rw [hR1] at HT HP HLa
  rw [hR2] at HT2 HP HLb HAT
  clear hR1 hR2 hR3
  obtain ⟨l, p1, e1⟩ := R1
  obtain ⟨m, p2, e2⟩ := R2
  obtain ⟨n, p3, e3⟩ := R3
  simp only at HP
  go_enter Try.func5, Try.ntmps5
  go_wp2_with fail
  refine (HT.out w).mono ?_
  rintro e w1 ⟨uo1, uc1, rfl, ho1, hb1⟩
  simp only at ho1 ⊢
  have HB1 := hide hb1
  have HO1 := hide ho1
  clear ho1 hb1 HT
  go_wp2_with fail
  refine (HT2.out w1).mono ?_
  rintro e w2 ⟨uo2, uc2, rfl, ho2, hb2⟩
  simp only at ho2 ⊢
  have HB2 := hide hb2
  have HO2 := hide ho2
  have HBB := hide (HB1.out.trans (hb2.mono HB1.out.size))
  clear ho2 hb2 HT2
  by_cases hbad : e1 = 0 ∧ e2 = 0 ∧ a.size + 1 + b.size ≤ 8192
  · obtain ⟨rfl, rfl, h8⟩ := hbad
    obtain ⟨rfl, rfl⟩ := HP.out h8 rfl rfl
    have HT4 := hide (HT3.out h8)
    have hla : l.length ≤ a.size := HLa.out (by omega) rfl
    have hlb : m.length ≤ b.size := HLb.out (by omega) rfl
    have HAT2 : Hid (∀ (j : Nat) (t : Tk), m[j]? = some t → t.at_ ≤ b.size) := HAT.out rfl
    clear HLa HLb HAT
    clear HP HT3
    have hd1 : decide ((8192 : Int) - (a.size : Int) ≤ (b.size : Int)) = false := by simp; omega
    go_wp2_with fail
    all_goals first | (refine (HK.out w2).mono ?_; rintro e w3 ⟨rfl, hb3⟩; go_wp2; go_ret; exact ⟨rfl, HBB.out.trans (hb3.mono HBB.out.size)⟩) | skip
    refine (HT4.out w2).mono ?_
    rintro e w3 ⟨uo3, uc3, rfl, ho3, hb3⟩
    have hln : (l ++ m.map (sh (a.size + 1))).length = l.length + m.length := by simp
    simp only [hln] at ho3 ⊢
    have HO3 := hide ho3
    have HB3 := hide hb3
    clear ho3 hb3 HT4
    go_wp2
    have HW3 := hide (HBB.out.trans (HB3.out.mono HBB.out.size))
    go_loopw [14] (fun ti wr => ∃ (i : Nat), i ≤ l.length + m.length ∧ ti = .int .i64 i ∧ Below w3.heap.size w3 wr) (fun ti _ => l.length + m.length - (intOf ti).toNat)
    case atStart => exact ⟨0, Nat.zero_le _, rfl, Below.refl _ _⟩
    case round =>
      obtain ⟨i, hi, rfl, hbw⟩ := hrel
      have HBW := hide hbw
      clear hbw
      by_cases hlt : i < l.length + m.length
      · obtain ⟨g3, rfl, hc3, hg3, hcells3⟩ := tk_cells HO3.out (by omega)
        by_cases hil : i < l.length
        · obtain ⟨t, ht⟩ : ∃ t, l[i]? = some t := ⟨_, List.getElem?_eq_getElem hil⟩
          obtain ⟨g1, rfl, hc1, hg1, hcells1⟩ := tk_cells HO1.out (by omega)
          obtain ⟨a0, a1, a2, a3⟩ := hcells1 i t ht
          obtain ⟨c0, c1, c2, c3⟩ := hcells3 i t (by rw [List.getElem?_append_left hil]; exact ht)
          have K : ∀ (x : Addr) (v : Value), w1.cell? x = some v → wr.cell? x = some v := fun x v h => Below.keeps HBW.out (Nat.le_refl _) (Below.keeps HB3.out (Nat.le_refl _) (Below.keeps HB2.out (Nat.le_refl _) h))
          have K3 : ∀ (x : Addr) (v : Value), w3.cell? x = some v → wr.cell? x = some v := fun x v h => Below.keeps HBW.out (Nat.le_refl _) h
          have b0 := K _ _ a0
          have b1 := K _ _ a1
          have b2 := K _ _ a2
          have b3 := K _ _ a3
          have d0 := K3 _ _ c0
          have d1 := K3 _ _ c1
          have d2 := K3 _ _ c2
          have d3 := K3 _ _ c3
          have hgr : g1 < wr.heap.size := by have := HB2.out.size; have := HB3.out.size; have := HBW.out.size; omega
          have hgr3 : g3 < wr.heap.size := by have := HBW.out.size; omega
          clear K K3 a0 a1 a2 a3 c0 c1 c2 c3 hcells1 hcells3
          obtain ⟨kd, tx, nn, ta⟩ := t
          simp only at b0 b1 b2 b3 d0 d1 d2 d3
          go_wp2
          obtain ⟨wA, hwA⟩ : ∃ wA, wA = wr.alloc (.cells #[.int .i64 kd, .string tx, .int .i64 nn, .int .i64 ta] 39) := ⟨_, rfl⟩
          have hnew : wA.heap[wr.heap.size]? = some (.cells #[.int .i64 kd, .string tx, .int .i64 nn, .int .i64 ta] 39 (0, 0)) := by rw [hwA]; exact heap_alloc_new wr _
          have x0 : wA.cell? ⟨wr.heap.size, 0, none⟩ = some (.int .i64 kd) := by rw [cell_of hnew]; rfl
          have x1 : wA.cell? ⟨wr.heap.size, 1, none⟩ = some (.string tx) := by rw [cell_of hnew]; rfl
          have x2 : wA.cell? ⟨wr.heap.size, 2, none⟩ = some (.int .i64 nn) := by rw [cell_of hnew]; rfl
          have x3 : wA.cell? ⟨wr.heap.size, 3, none⟩ = some (.int .i64 ta) := by rw [cell_of hnew]; rfl
          have hbA : Below wr.heap.size wr wA := by rw [hwA]; exact (Below.refl _ _).alloc (Nat.le_refl _) _
          have f0 := Below.keeps hbA (Nat.le_refl _) d0
          have f1 := Below.keeps hbA (Nat.le_refl _) d1
          have f2 := Below.keeps hbA (Nat.le_refl _) d2
          have f3 := Below.keeps hbA (Nat.le_refl _) d3
          have HBA : Hid (Below w3.heap.size w3 wA) := by refine hide ?_; rw [hwA]; exact HBW.out.alloc HBW.out.size _
          rw [← hwA]
          clear hwA hnew b0 b1 b2 b3 d0 d1 d2 d3 hbA
          generalize wr.heap.size = pA at *
          go_region_held3 (fun w' => w'.cell? ⟨pA, 0, none⟩ = some (.int .i64 kd) ∧ w'.cell? ⟨pA, 1, none⟩ = some (.string tx) ∧ w'.cell? ⟨pA, 2, none⟩ = some (.int .i64 nn) ∧ w'.cell? ⟨pA, 3, none⟩ = some (.int .i64 ta) ∧ w'.cell? ⟨g3, i * 4, none⟩ = some (.int .i64 kd) ∧ w'.cell? ⟨g3, i * 4 + 1, none⟩ = some (.string tx) ∧ w'.cell? ⟨g3, i * 4 + 2, none⟩ = some (.int .i64 nn) ∧ w'.cell? ⟨g3, i * 4 + 3, none⟩ = some (.int .i64 ta)) (go_keep) (fail)
          all_goals go_wp2
          go_roundw
          case rel => exact ⟨i + 1, by omega, rfl, HBA.out.drew⟩
          case measure => simp [intOf]; omega
        · obtain ⟨j, hj⟩ : ∃ j : Nat, j = i - l.length := ⟨_, rfl⟩
          have hjm : j < m.length := by omega
          obtain ⟨t, ht⟩ : ∃ t, m[j]? = some t := ⟨_, List.getElem?_eq_getElem hjm⟩
          have hta := HAT2.out j t ht
          obtain ⟨g2, rfl, hc2, hg2, hcells2⟩ := tk_cells HO2.out (by omega)
          obtain ⟨a0, a1, a2, a3⟩ := hcells2 j t ht
          obtain ⟨c0, c1, c2, c3⟩ := hcells3 i (sh (a.size + 1) t) (by rw [List.getElem?_append_right (by omega), ← hj, List.getElem?_map, ht]; rfl)
          have K : ∀ (x : Addr) (v : Value), w2.cell? x = some v → wr.cell? x = some v := fun x v h => Below.keeps HBW.out (Nat.le_refl _) (Below.keeps HB3.out (Nat.le_refl _) h)
          have K3 : ∀ (x : Addr) (v : Value), w3.cell? x = some v → wr.cell? x = some v := fun x v h => Below.keeps HBW.out (Nat.le_refl _) h
          have b0 := K _ _ a0
          have b1 := K _ _ a1
          have b2 := K _ _ a2
          have b3 := K _ _ a3
          have d0 := K3 _ _ c0
          have d1 := K3 _ _ c1
          have d2 := K3 _ _ c2
          have d3 := K3 _ _ c3
          have hgr : g2 < wr.heap.size := by have := HB3.out.size; have := HBW.out.size; omega
          have hgr3 : g3 < wr.heap.size := by have := HBW.out.size; omega
          clear K K3 a0 a1 a2 a3 c0 c1 c2 c3 hcells2 hcells3
          obtain ⟨kd, tx, nn, ta⟩ := t
          simp only [sh] at b0 b1 b2 b3 d0 d1 d2 d3 hta
          rw [show ((ta + (a.size + 1) : Nat) : Int) = (ta : Int) + (a.size : Int) + 1 by omega] at d3
          subst hj
          go_wp2
          obtain ⟨wA, hwA⟩ : ∃ wA, wA = wr.alloc (.cells #[.int .i64 kd, .string tx, .int .i64 nn, .int .i64 ((ta : Int) + (a.size : Int) + 1)] 39) := ⟨_, rfl⟩
          have hnew : wA.heap[wr.heap.size]? = some (.cells #[.int .i64 kd, .string tx, .int .i64 nn, .int .i64 ((ta : Int) + (a.size : Int) + 1)] 39 (0, 0)) := by rw [hwA]; exact heap_alloc_new wr _
          have x0 : wA.cell? ⟨wr.heap.size, 0, none⟩ = some (.int .i64 kd) := by rw [cell_of hnew]; rfl
          have x1 : wA.cell? ⟨wr.heap.size, 1, none⟩ = some (.string tx) := by rw [cell_of hnew]; rfl
          have x2 : wA.cell? ⟨wr.heap.size, 2, none⟩ = some (.int .i64 nn) := by rw [cell_of hnew]; rfl
          have x3 : wA.cell? ⟨wr.heap.size, 3, none⟩ = some (.int .i64 ((ta : Int) + (a.size : Int) + 1)) := by rw [cell_of hnew]; rfl
          have hbA : Below wr.heap.size wr wA := by rw [hwA]; exact (Below.refl _ _).alloc (Nat.le_refl _) _
          have f0 := Below.keeps hbA (Nat.le_refl _) d0
          have f1 := Below.keeps hbA (Nat.le_refl _) d1
          have f2 := Below.keeps hbA (Nat.le_refl _) d2
          have f3 := Below.keeps hbA (Nat.le_refl _) d3
          have HBA : Hid (Below w3.heap.size w3 wA) := by refine hide ?_; rw [hwA]; exact HBW.out.alloc HBW.out.size _
          rw [← hwA]
          clear hwA hnew b0 b1 b2 b3 d0 d1 d2 d3 hbA
          generalize wr.heap.size = pA at *
          go_region_held3 (fun w' => w'.cell? ⟨pA, 0, none⟩ = some (.int .i64 kd) ∧ w'.cell? ⟨pA, 1, none⟩ = some (.string tx) ∧ w'.cell? ⟨pA, 2, none⟩ = some (.int .i64 nn) ∧ w'.cell? ⟨pA, 3, none⟩ = some (.int .i64 ((ta : Int) + (a.size : Int) + 1)) ∧ w'.cell? ⟨g3, i * 4, none⟩ = some (.int .i64 kd) ∧ w'.cell? ⟨g3, i * 4 + 1, none⟩ = some (.string tx) ∧ w'.cell? ⟨g3, i * 4 + 2, none⟩ = some (.int .i64 nn) ∧ w'.cell? ⟨g3, i * 4 + 3, none⟩ = some (.int .i64 ((ta : Int) + (a.size : Int) + 1))) (go_keep) (fail)
          all_goals go_wp2
          go_roundw
          case rel => exact ⟨i + 1, by omega, rfl, HBA.out.drew⟩
          case measure => simp [intOf]; omega
      · go_wp2_with fail
        refine (HK.out _).mono ?_
        rintro e w4 ⟨rfl, hb4⟩
        have HW4 := hide (HW3.out.trans (HBW.out.mono HW3.out.size))
        go_wp2
        go_ret
        exact ⟨rfl, HW4.out.trans (hb4.mono HW4.out.size)⟩
  · go_wp2_with fail
    all_goals first | (refine (HK.out w2).mono ?_; rintro e w3 ⟨rfl, hb3⟩; go_wp2; go_ret; exact ⟨rfl, HBB.out.trans (hb3.mono HBB.out.size)⟩) | (exfalso; omega)
end Go.Proofs.Ytnomgfjmocbnpaa
