/- Layer 7's law LexPlaces. -/
import Derived.Test.YtfbkcipjfjoifaaLxN
import Derived.Deep.RegionHeld3
namespace Go.Proofs.Ytfbkcipjfjoifaa
open Go.ChangeShapes Go.WideShapes Go.ChangeAt Go.RowKit Go.DsMem Go.DsLx
set_option linter.unusedVariables false
theorem Placed.here {s : ByteArray} {a : Nat} {l : List Tk} {i : Nat} {t : Tk} (h : Placed s a (l.drop i)) (ht : l[i]? = some t) : a ≤ t.at_ ∧ 1 ≤ t.text.size ∧ t.at_ + t.text.size ≤ s.size ∧ foldS (s.extract t.at_ (t.at_ + t.text.size)) = t.text ∧ Placed s (t.at_ + t.text.size) (l.drop (i + 1)) := by
  obtain ⟨hl, e⟩ := List.getElem?_eq_some_iff.1 ht
  rw [List.drop_eq_getElem_cons hl, e] at h
  exact h
theorem Placed.len {s : ByteArray} : ∀ {a : Nat} {l : List Tk}, Placed s a l → a ≤ s.size → a + l.length ≤ s.size
  | _, [], _, h => h
  | _, t :: l, h, _ => by
    have := Placed.len (l := l) h.2.2.2.2 h.2.2.1
    have := h.1
    have := h.2.1
    simp only [List.length_cons]
    omega
set_option maxHeartbeats 8000000 in
set_option maxRecDepth 20000 in
theorem places7 (s : ByteArray) (w : World) (hs : s.size ≤ 140737488355328) : Calls Try.prog 6 #[.string s] w fun e w' => e = .returned (.bool true) ∧ Below w.heap.size w w' := by
  have HT := hide (tokens_any s w hs)
  have HP : Hid ((tokensF s).2.2 = 0 → Placed s 0 (tokensF s).1) := fun h => tokens_placed h
  have HBIG : Hid ((tokensF s).2.2 = 0 → s.size ≤ 8192) := fun h => by
    unfold tokensF at h
    split at h
    · cases h
    · omega
  have HF : Hid (∀ (x : ByteArray) (w : World), x.size ≤ 8192 → Calls Try.prog 15 #[.string x] w fun e w' => e = .returned (.string (foldS x)) ∧ Below w.heap.size w w') := fun x w h => fold_any x w (by omega)
  have HK := hide known7
  obtain ⟨R, hR⟩ : ∃ R, tokensF s = R := ⟨_, rfl⟩
  rw [hR] at HT HP HBIG
  clear hR
  obtain ⟨l, p, er⟩ := R
  go_enter Try.func6, Try.ntmps6
  go_wp2_with fail
  refine HT.out.mono ?_
  rintro e w1 ⟨uo, uc, rfl, ho, hb⟩
  simp only at ho ⊢
  have HB := hide hb
  have HO := hide ho
  clear ho hb
  by_cases he : er = 0
  · subst he
    have hpl := hide (HP.out rfl)
    have hsz := HBIG.out rfl
    have hll : l.length ≤ s.size := by have := hpl.out.len (Nat.zero_le _); omega
    clear HP HBIG HT
    go_wp2
    go_loopw [6, 7] (fun ta ti wr => ∃ (a i : Nat), a ≤ s.size ∧ i ≤ l.length ∧ ta = .int .i64 a ∧ ti = .int .i64 i ∧ Placed s a (l.drop i) ∧ Below w1.heap.size w1 wr) (fun _ ti _ => l.length - (intOf ti).toNat)
    case atStart => exact ⟨0, 0, Nat.zero_le _, Nat.zero_le _, rfl, rfl, hpl.out, Below.refl _ _⟩
    case round =>
      obtain ⟨a, i, ha, hi, rfl, rfl, hpa, hbw⟩ := hrel
      have HPA := hide hpa
      have HBW := hide hbw
      clear hpa hbw
      by_cases hlt : i < l.length
      · obtain ⟨t, ht⟩ : ∃ t, l[i]? = some t := ⟨_, List.getElem?_eq_getElem hlt⟩
        obtain ⟨g, rfl, hc, hg, hcells⟩ := tk_cells HO.out (by omega)
        obtain ⟨a0, a1, a2, a3⟩ := hcells i t ht
        have b0 := Below.keeps HBW.out (Nat.le_refl _) a0
        have b1 := Below.keeps HBW.out (Nat.le_refl _) a1
        have b2 := Below.keeps HBW.out (Nat.le_refl _) a2
        have b3 := Below.keeps HBW.out (Nat.le_refl _) a3
        obtain ⟨q1, q2, q3, q4, q5⟩ := HPA.out.here ht
        have HQ4 := hide q4
        have HQ5 := hide q5
        clear hcells a0 a1 a2 a3 q4 q5 HPA
        obtain ⟨kd, tx, nn, ta⟩ := t
        simp only at b0 b1 b2 b3 q1 q2 q3 HQ4 HQ5
        go_wp2_with fail
        obtain ⟨wA, hwA⟩ : ∃ wA, wA = wr.alloc (.cells #[.int .i64 kd, .string tx, .int .i64 nn, .int .i64 ta] 39) := ⟨_, rfl⟩
        have hnew : wA.heap[wr.heap.size]? = some (.cells #[.int .i64 kd, .string tx, .int .i64 nn, .int .i64 ta] 39 (0, 0)) := by rw [hwA]; exact heap_alloc_new wr _
        have x1 : wA.cell? ⟨wr.heap.size, 1, none⟩ = some (.string tx) := by rw [cell_of hnew]; rfl
        have x3 : wA.cell? ⟨wr.heap.size, 3, none⟩ = some (.int .i64 ta) := by rw [cell_of hnew]; rfl
        have HBA : Hid (Below w1.heap.size w1 wA) := by refine hide ?_; rw [hwA]; exact HBW.out.alloc HBW.out.size _
        rw [← hwA]
        clear hwA hnew b0 b1 b2 b3
        generalize wr.heap.size = p1 at *
        have KP : Hid (∀ w', Below wA.heap.size wA w' → w'.cell? ⟨p1, 1, none⟩ = some (.string tx) ∧ w'.cell? ⟨p1, 3, none⟩ = some (.int .i64 ta)) := fun w' hw => ⟨Below.keeps hw (Nat.le_refl _) x1, Below.keeps hw (Nat.le_refl _) x3⟩
        have hbd : Below wA.heap.size wA wA.drew := Below.drew (Below.refl _ _)
        obtain ⟨c, hcE⟩ : ∃ c : Nat, ta + tx.size = c := ⟨_, rfl⟩
        obtain ⟨d, hdE⟩ : ∃ d : Nat, s.size - tx.size = d := ⟨_, rfl⟩
        rw [hcE] at HQ4 HQ5
        have hw1 : IntKind.i64.wrap ((ta : Int) + (tx.size : Int)) = (c : Int) := by rw [show (ta : Int) + (tx.size : Int) = (c : Int) by omega]; rw [IntKind.wrap_i64]; omega
        have hw2 : IntKind.i64.wrap ((s.size : Int) - (tx.size : Int)) = (d : Int) := by rw [show (s.size : Int) - (tx.size : Int) = (d : Int) by omega]; rw [IntKind.wrap_i64]; omega
        have hd1 : decide (ta < a) = false := by simp; omega
        have hd2 : ((tx.size : Int) == 0) = false := beq_false_of_ne (by omega)
        have hd3 : decide (d < ta) = false := by simp; omega
        have hd4 : decide ((d : Int) < (ta : Int)) = false := by simp; omega
        have e1 : (0 : Int) ≤ (ta : Int) := by omega
        have e2 : (ta : Int) ≤ (c : Int) := by omega
        have e3 : (c : Int) ≤ (s.size : Int) := by omega
        have HFO : Hid (∀ w : World, Calls Try.prog 15 #[.string (s.extract ta c)] w fun e w' => e = .returned (.string tx) ∧ Below w.heap.size w w') := fun w => by
          have := HF.out (s.extract ta c) w (by simp only [ByteArray.size_extract]; omega)
          rw [HQ4.out] at this
          exact this
        (go_region_held3 (fun w' => w'.cell? ⟨p1, 1, none⟩ = some (.string tx) ∧ w'.cell? ⟨p1, 3, none⟩ = some (.int .i64 ta)) (first | go_keep | (exact KP.out _ (by assumption)))
              (first
                | (go_at_call 15; refine (HFO.out _).mono ?_; rintro e wF ⟨rfl, hbF⟩; have hbG : Below wA.heap.size wA wF := Below.trans hbd hbF)))
        all_goals go_wp2
        go_roundw
        case rel => exact ⟨c, i + 1, by omega, by omega, rfl, rfl, HQ5.out, HBA.out.trans (hbG.mono HBA.out.size)⟩
        case measure => simp [intOf]; omega
      · go_wp2_with fail
        refine (HK.out _).mono ?_
        rintro e w2 ⟨rfl, hb2⟩
        go_wp2
        go_ret
        exact ⟨rfl, (HB.out.trans (HBW.out.mono HB.out.size)).trans (hb2.mono (HB.out.trans (HBW.out.mono HB.out.size)).size)⟩
  · have hd : decide (¬ (er : Int) = 0) = true := by simp [he]
    have hd2 : (er != 0) = true := by simp [he]
    clear HP HBIG HT
    go_wp2_with fail
    refine (HK.out _).mono ?_
    rintro e w2 ⟨rfl, hb2⟩
    go_wp2
    go_ret
    exact ⟨rfl, HB.out.trans (hb2.mono HB.out.size)⟩
end Go.Proofs.Ytfbkcipjfjoifaa
