/- The walk of LogKeeps. -/
import Derived.Test.YtgobnnciijlpaaaDoorLkD
import Derived.Test.YtgobnnciijlpaaaDoorCnt
import Derived.Test.YtgobnnciijlpaaaDoorLgL
import Derived.Deep.RegionHeld
import Derived.Deep.CutRange
import Derived.Deep.CutBlock
namespace Go.Proofs.YtgobnnciijlpaaaDoor
open Go.ChangeShapes Go.WideShapes Go.ChangeAt Go.RowKit Go.DsMem Go.DsDk Go.DsLg
set_option linter.unusedVariables false

set_option maxHeartbeats 100000000 in
set_option maxRecDepth 100000 in
/-- the law LogKeeps -/
theorem logKeeps_walk (acts : List A4) (x : Option Addr) (cx : Nat) (w : World) (ht : Tab w) (hA : Acts4At w (.slice x acts.length cx) acts) :
    Calls Tryd.prog 7 #[.slice x acts.length cx] w fun e w' => e = .returned (.bool true) ∧ Below w.heap.size w w' := by
  have RA := hide hA
  have HT := hide ht
  clear hA ht
  go_enter Tryd.func7, Tryd.ntmps7
  go_wp2_with fail
  refine (new_any _).mono ?_
  rintro e w1 ⟨rfl, hD, B1⟩
  have HO1 := hide (Own.new (Below.refl w.heap.size w) (Nat.le_refl _) hD B1)
  clear hD B1
  go_wp2_with fail
  refine (open_any _ _ _ _ HO1.out.dk (HT.out.below HO1.out.below (Nat.le_refl _))).mono ?_
  rintro e w3 ⟨v3, M3, -, hok⟩
  obtain ⟨l, x3, rs3, rfl, N3, hO3⟩ := hok (by rw [show openB Dk.new = KO1 from rfl, kO1])
  obtain ⟨x3o, x3c, rfl, -⟩ := own_shape hO3.snap
  obtain ⟨r3o, r3c, rfl, -⟩ := id hO3.recs
  have HU := hide (Up.first HO1.out M3 hO3)
  clear hok M3 hO3 HO1
  go_wp2
  go_loopw [4, 8, 9, 10] (fun lv sv rv i wr => ∃ k : Nat, k ≤ acts.length ∧ k ≤ 40 ∧ i = .int .i64 k ∧ Up w wr w.heap.size k lv sv rv) (fun _ _ _ i _ => 40 - (intOf i).toNat)
  case atStart => exact ⟨0, Nat.zero_le _, Nat.zero_le _, rfl, HU.out⟩
  case round =>
    obtain ⟨k, hk, hk40, rfl, hst⟩ := hrel
    by_cases hlt : k < acts.length ∧ k < 40
    · obtain ⟨h2, h3⟩ := hlt
      obtain ⟨ao, cp, hsl, hall⟩ := RA.out
      obtain ⟨ga, o, bo, bc, ko, kc, hao, hin⟩ := hall k acts[k] (List.getElem?_eq_getElem h2)
      obtain ⟨rfl, _, rfl⟩ : x = ao ∧ True ∧ cx = cp := by simpa using hsl
      subst hao
      have hin' := hin.mono (w' := wr) (fun a v hc => Below.keeps hst.below.1 (Nat.le_refl _) hc)
      generalize acts[k] = A at hin hin'
      obtain ⟨c0, c1, c2, c3, rb, rk, lb, ln⟩ := hin'
      have HST := hide hst
      have HIN := hide hin
      have HLN := hide ln
      clear rb rk hin hall hsl lb ln
      obtain ⟨v, D, l4, size, snap, recs, next, seq, f, all, so, sc, ro, rc, hup⟩ := hst
      have HU0 := hide hup
      clear hup
      obtain ⟨n0, hn0⟩ : ∃ n0, n0 = wr.heap.size := ⟨_, rfl⟩
      obtain ⟨wa, hwa⟩ : ∃ wa, wa = wr.alloc (.cells #[.int .i64 A.kind, .slice bo A.b.length bc, .int .i64 A.n, .slice ko A.keep.length kc] 38) := ⟨_, rfl⟩
      have hX : wa.heap[n0]? = some (.cells #[.int .i64 A.kind, .slice bo A.b.length bc, .int .i64 A.n, .slice ko A.keep.length kc] 38 (0, 0)) := by rw [hwa, hn0]; exact heap_alloc_new wr _
      have HX := hide hX
      have HWA := hide hwa
      have HN0 := hide hn0
      clear hX hwa hn0
      have hBA : Below wr.heap.size wr wa := by rw [HWA.out]; exact (Below.refl _ _).alloc (Nat.le_refl _) _
      have HSA := hide (HST.out.grew hBA)
      have HBA := hide hBA
      have HUA := hide (HU0.out.grew hBA)
      have HOF := hide (show ¬ foot w.heap.size v n0 by intro hf; have := HU0.out.own.own.dk.foot_lt hf; rw [HN0.out] at this; omega)
      have HL0 := hide (show n0 ≠ l4 by have := block_lt HU0.out.own.log; rw [HN0.out]; omega)
      clear hBA
      by_cases hbig : 1000 < A.b.length
      · go_wp2
        rw [← HWA.out]
        go_roundw
        case rel => exact ⟨k + 1, by omega, by omega, by go_num, HSA.out.mono (by omega)⟩
        case measure => simp [intOf]; omega
      go_upto_block 2 with fail
      rw [← HWA.out, ← HN0.out]
      clear c0 c1 c2 c3
      go_cut [12, 13, 14] from 39 to 191 (fun s12 s13 s14 wc => Aft w wc w.heap.size k n0 (.slice so snap.length sc) (.slice ro recs.length rc) (.pointer (some ⟨l4, 0, none⟩)) s12 s13 s14 ∧ wc.heap[n0]? = some (.cells #[.int .i64 A.kind, .slice bo A.b.length bc, .int .i64 A.n, .slice ko A.keep.length kc] 38 (0, 0)))
      case first =>
        have hk1 := cell_of (k := 1) HX.out
        have hk2 := cell_of (k := 2) HX.out
        have hk3 := cell_of (k := 3) HX.out
        have hk0 := cell_of (k := 0) HX.out
        simp only [List.getElem?_toArray, List.getElem?_cons_zero, List.getElem?_cons_succ] at hk0 hk1 hk2 hk3
        rcases (show A.kind = 0 ∨ A.kind = 1 ∨ A.kind = 2 ∨ A.kind = 3 ∨ A.kind = 4 ∨ A.kind = 5 ∨ (A.kind ≠ 0 ∧ A.kind ≠ 1 ∧ A.kind ≠ 2 ∧ A.kind ≠ 3 ∧ A.kind ≠ 4 ∧ A.kind ≠ 5) by omega) with hkd | hkd | hkd | hkd | hkd | hkd | hx
        · rw [hkd]
          have HTL := hide (HT.out.below HUA.out.own.own.below (Nat.le_refl _))
          go_wp2_with fail
          refine (lappend_any l4 _ v D ⟨next, size, false⟩ _ A.b wa HUA.out.own.log HUA.out.own.own.dk HUA.out.own.lof HTL.out (rd_in HIN.out.rb HUA.out.own.own.below (Nat.le_refl _)) (by have := HUA.out.nx; show next < _; omega) (by have := HUA.out.sz; show size < _; omega)).mono ?_
          rintro e w1' ⟨rfl, v1, hm1⟩
          have HX1 := hide ((hm1.only.block n0 (block_lt HX.out) (fun e => by rcases e with e | e; exact HOF.out e; exact HL0.out e)).trans HX.out)
          have hd1 := cell_of (k := 1) HX1.out
          simp only [List.getElem?_toArray, List.getElem?_cons_zero, List.getElem?_cons_succ] at hd1
          have HH1 := hide (HUA.out.held.lmoved HUA.out.hl hm1)
          have HO1 := hide (HUA.out.own.moved hm1)
          have HM1 := hide hm1
          clear hm1 hk0 hk1 hk2 hk3
          obtain ⟨ro', rc', hsh, hrc, hnone⟩ := HH1.out.shape
          obtain ⟨rfl, _, rfl⟩ : ro = ro' ∧ True ∧ rc = rc' := by simpa using hsh
          clear hsh
          obtain ⟨vals, hvl, hvc, hve⟩ := HH1.out.cells
          have HVC := hide (hvc ro recs.length rc rfl)
          have HVE := hide hve
          have HNO := hide hnone
          have hrl : recs.length ≤ 40 := by have := HUA.out.st.nxt; have := HUA.out.nx; omega
          clear hvc hve hnone
          obtain ⟨i0, hi0, hz0, hz1, hz2⟩ := info_parts infoB
          have HI0 := hide hi0
          have HZ0 := hide hz0
          have HZ1 := hide hz1
          have HZ2 := hide hz2
          clear hi0 hz0 hz1 hz2
          go_wp2
          go_region_law (refine step_append_grows (by rfl) (.tmp 75) (.tmp 78) 29 (by rfl) 28 i0 (.slice none 0 0) 1 24 (by exact Tryd.underlying29) (by exact HI0.out) (by exact HZ0.out) (by exact HZ1.out) (by exact HZ2.out) (by rfl) (by decide) ro recs.length recs.length vals (by rfl) (by exact fun h => ⟨(HNO.out h).1, (HNO.out h).1⟩) (by rw [hvl, Nat.mul_one]) (by exact fun b hb j u hu => Below.keeps ((Below.refl _ _).drew.alloc (Nat.le_refl _) _) (Nat.le_refl _) (HVC.out b hb j u hu)) ⟨w1'.heap.size, 0, none⟩ 1 1 [.slice bo A.b.length bc] (by rfl) (by rfl) (by exact new_cell1 _ _ _) (by intro u hu; simp at hu; subst hu; rfl) (by omega) (by unfold maxLen; omega) (by omega) ?_; intro v2 w2 hown2 hgrow2)
          obtain ⟨recs2, hr2⟩ : ∃ r2, r2 = recs ++ [A.b] := ⟨_, rfl⟩
          obtain ⟨r2o, r2c, rfl⟩ : ∃ r2o r2c, v2 = .slice r2o recs2.length r2c := by
            obtain ⟨a, b, c, _⟩ := own_shape hown2
            exact ⟨a, b, by rw [c, hr2]; simp⟩
          have HB2 := hide (((Below.refl w1'.heap.size w1').alloc (Nat.le_refl _) (.cells #[.slice bo A.b.length bc] 28)).drew.grown hgrow2 (by rw [ad_size]; omega) (fun _ h => by cases h))
          have HAF := hide (show Aft w w2 w.heap.size k n0 (.slice so snap.length sc) (.slice ro recs.length rc) (.pointer (some ⟨l4, 0, none⟩)) (.slice so snap.length sc) (.slice r2o recs2.length r2c) (.int .i64 (appB D ⟨next, size, false⟩ A.b).2.2) by
            have hsz2 : (w1'.alloc (Obj.cells #[Value.slice bo A.b.length bc] 28)).drew.heap.size = w1'.heap.size + 1 := ad_size _ _
            have hBx := HO1.out.own.below.trans ((((Below.refl w1'.heap.size w1').alloc (Nat.le_refl _) (.cells #[.slice bo A.b.length bc] 28)).drew).mono HO1.out.own.size)
            have hH2 : Held w w2 w.heap.size v1 (.slice r2o recs2.length r2c) (recs ++ [A.b]) := Held.more (recs := recs) hBx (by rw [hsz2]; have := HO1.out.own.size; omega) hvl HVE.out HIN.out.rb hown2 (fun q hq => by have := HO1.out.own.dk.foot_lt hq; rw [hsz2]; omega)
            have hj : ∀ j, (Value.slice r2o recs2.length r2c).ownBlock = some j → w1'.heap.size ≤ j := fun j hj => by have := (hown2.lt j hj).1; rw [hsz2] at this; omega
            subst hr2
            exact HUA.out.append (by omega) h3 HM1.out HB2.out hH2 hj HOF.out (block_lt HX.out))
          have HX2 := hide ((HB2.out.block n0 (block_lt HX1.out)).trans HX1.out)
          clear hown2 hgrow2 hr2
          go_wp2
          go_meet
          case rel => exact ⟨HAF.out, HX2.out⟩
        · rw [hkd]
          have HTL := hide (HT.out.below HUA.out.own.own.below (Nat.le_refl _))
          go_wp2_with fail
          refine (lappend_any l4 _ v D ⟨next, size, false⟩ _ A.b wa HUA.out.own.log HUA.out.own.own.dk HUA.out.own.lof HTL.out (rd_in HIN.out.rb HUA.out.own.own.below (Nat.le_refl _)) (by have := HUA.out.nx; show next < _; omega) (by have := HUA.out.sz; show size < _; omega)).mono ?_
          rintro e w1' ⟨rfl, v1, hm1⟩
          have HX1 := hide ((hm1.only.block n0 (block_lt HX.out) (fun e => by rcases e with e | e; exact HOF.out e; exact HL0.out e)).trans HX.out)
          have hd1 := cell_of (k := 1) HX1.out
          simp only [List.getElem?_toArray, List.getElem?_cons_zero, List.getElem?_cons_succ] at hd1
          have HH1 := hide (HUA.out.held.lmoved HUA.out.hl hm1)
          have HO1 := hide (HUA.out.own.moved hm1)
          have HM1 := hide hm1
          clear hm1 hk0 hk1 hk2 hk3
          obtain ⟨ro', rc', hsh, hrc, hnone⟩ := HH1.out.shape
          obtain ⟨rfl, _, rfl⟩ : ro = ro' ∧ True ∧ rc = rc' := by simpa using hsh
          clear hsh
          obtain ⟨vals, hvl, hvc, hve⟩ := HH1.out.cells
          have HVC := hide (hvc ro recs.length rc rfl)
          have HVE := hide hve
          have HNO := hide hnone
          have hrl : recs.length ≤ 40 := by have := HUA.out.st.nxt; have := HUA.out.nx; omega
          clear hvc hve hnone
          obtain ⟨i0, hi0, hz0, hz1, hz2⟩ := info_parts infoB
          have HI0 := hide hi0
          have HZ0 := hide hz0
          have HZ1 := hide hz1
          have HZ2 := hide hz2
          clear hi0 hz0 hz1 hz2
          go_wp2
          go_region_law (refine step_append_grows (by rfl) (.tmp 75) (.tmp 78) 29 (by rfl) 28 i0 (.slice none 0 0) 1 24 (by exact Tryd.underlying29) (by exact HI0.out) (by exact HZ0.out) (by exact HZ1.out) (by exact HZ2.out) (by rfl) (by decide) ro recs.length recs.length vals (by rfl) (by exact fun h => ⟨(HNO.out h).1, (HNO.out h).1⟩) (by rw [hvl, Nat.mul_one]) (by exact fun b hb j u hu => Below.keeps ((Below.refl _ _).drew.alloc (Nat.le_refl _) _) (Nat.le_refl _) (HVC.out b hb j u hu)) ⟨w1'.heap.size, 0, none⟩ 1 1 [.slice bo A.b.length bc] (by rfl) (by rfl) (by exact new_cell1 _ _ _) (by intro u hu; simp at hu; subst hu; rfl) (by omega) (by unfold maxLen; omega) (by omega) ?_; intro v2 w2 hown2 hgrow2)
          obtain ⟨recs2, hr2⟩ : ∃ r2, r2 = recs ++ [A.b] := ⟨_, rfl⟩
          obtain ⟨r2o, r2c, rfl⟩ : ∃ r2o r2c, v2 = .slice r2o recs2.length r2c := by
            obtain ⟨a, b, c, _⟩ := own_shape hown2
            exact ⟨a, b, by rw [c, hr2]; simp⟩
          have HB2 := hide (((Below.refl w1'.heap.size w1').alloc (Nat.le_refl _) (.cells #[.slice bo A.b.length bc] 28)).drew.grown hgrow2 (by rw [ad_size]; omega) (fun _ h => by cases h))
          have HAF := hide (show Aft w w2 w.heap.size k n0 (.slice so snap.length sc) (.slice ro recs.length rc) (.pointer (some ⟨l4, 0, none⟩)) (.slice so snap.length sc) (.slice r2o recs2.length r2c) (.int .i64 (appB D ⟨next, size, false⟩ A.b).2.2) by
            have hsz2 : (w1'.alloc (Obj.cells #[Value.slice bo A.b.length bc] 28)).drew.heap.size = w1'.heap.size + 1 := ad_size _ _
            have hBx := HO1.out.own.below.trans ((((Below.refl w1'.heap.size w1').alloc (Nat.le_refl _) (.cells #[.slice bo A.b.length bc] 28)).drew).mono HO1.out.own.size)
            have hH2 : Held w w2 w.heap.size v1 (.slice r2o recs2.length r2c) (recs ++ [A.b]) := Held.more (recs := recs) hBx (by rw [hsz2]; have := HO1.out.own.size; omega) hvl HVE.out HIN.out.rb hown2 (fun q hq => by have := HO1.out.own.dk.foot_lt hq; rw [hsz2]; omega)
            have hj : ∀ j, (Value.slice r2o recs2.length r2c).ownBlock = some j → w1'.heap.size ≤ j := fun j hj => by have := (hown2.lt j hj).1; rw [hsz2] at this; omega
            subst hr2
            exact HUA.out.append (by omega) h3 HM1.out HB2.out hH2 hj HOF.out (block_lt HX.out))
          have HX2 := hide ((HB2.out.block n0 (block_lt HX1.out)).trans HX1.out)
          clear hown2 hgrow2 hr2
          go_wp2
          go_meet
          case rel => exact ⟨HAF.out, HX2.out⟩
        · rw [hkd]
          have HTL := hide (HT.out.below HUA.out.own.own.below (Nat.le_refl _))
          go_wp2_with fail
          refine (lappend_any l4 _ v D ⟨next, size, false⟩ _ A.b wa HUA.out.own.log HUA.out.own.own.dk HUA.out.own.lof HTL.out (rd_in HIN.out.rb HUA.out.own.own.below (Nat.le_refl _)) (by have := HUA.out.nx; show next < _; omega) (by have := HUA.out.sz; show size < _; omega)).mono ?_
          rintro e w1' ⟨rfl, v1, hm1⟩
          have HX1 := hide ((hm1.only.block n0 (block_lt HX.out) (fun e => by rcases e with e | e; exact HOF.out e; exact HL0.out e)).trans HX.out)
          have hd1 := cell_of (k := 1) HX1.out
          simp only [List.getElem?_toArray, List.getElem?_cons_zero, List.getElem?_cons_succ] at hd1
          have HH1 := hide (HUA.out.held.lmoved HUA.out.hl hm1)
          have HO1 := hide (HUA.out.own.moved hm1)
          have HM1 := hide hm1
          clear hm1 hk0 hk1 hk2 hk3
          obtain ⟨ro', rc', hsh, hrc, hnone⟩ := HH1.out.shape
          obtain ⟨rfl, _, rfl⟩ : ro = ro' ∧ True ∧ rc = rc' := by simpa using hsh
          clear hsh
          obtain ⟨vals, hvl, hvc, hve⟩ := HH1.out.cells
          have HVC := hide (hvc ro recs.length rc rfl)
          have HVE := hide hve
          have HNO := hide hnone
          have hrl : recs.length ≤ 40 := by have := HUA.out.st.nxt; have := HUA.out.nx; omega
          clear hvc hve hnone
          obtain ⟨i0, hi0, hz0, hz1, hz2⟩ := info_parts infoB
          have HI0 := hide hi0
          have HZ0 := hide hz0
          have HZ1 := hide hz1
          have HZ2 := hide hz2
          clear hi0 hz0 hz1 hz2
          go_wp2
          go_region_law (refine step_append_grows (by rfl) (.tmp 75) (.tmp 78) 29 (by rfl) 28 i0 (.slice none 0 0) 1 24 (by exact Tryd.underlying29) (by exact HI0.out) (by exact HZ0.out) (by exact HZ1.out) (by exact HZ2.out) (by rfl) (by decide) ro recs.length recs.length vals (by rfl) (by exact fun h => ⟨(HNO.out h).1, (HNO.out h).1⟩) (by rw [hvl, Nat.mul_one]) (by exact fun b hb j u hu => Below.keeps ((Below.refl _ _).drew.alloc (Nat.le_refl _) _) (Nat.le_refl _) (HVC.out b hb j u hu)) ⟨w1'.heap.size, 0, none⟩ 1 1 [.slice bo A.b.length bc] (by rfl) (by rfl) (by exact new_cell1 _ _ _) (by intro u hu; simp at hu; subst hu; rfl) (by omega) (by unfold maxLen; omega) (by omega) ?_; intro v2 w2 hown2 hgrow2)
          obtain ⟨recs2, hr2⟩ : ∃ r2, r2 = recs ++ [A.b] := ⟨_, rfl⟩
          obtain ⟨r2o, r2c, rfl⟩ : ∃ r2o r2c, v2 = .slice r2o recs2.length r2c := by
            obtain ⟨a, b, c, _⟩ := own_shape hown2
            exact ⟨a, b, by rw [c, hr2]; simp⟩
          have HB2 := hide (((Below.refl w1'.heap.size w1').alloc (Nat.le_refl _) (.cells #[.slice bo A.b.length bc] 28)).drew.grown hgrow2 (by rw [ad_size]; omega) (fun _ h => by cases h))
          have HAF := hide (show Aft w w2 w.heap.size k n0 (.slice so snap.length sc) (.slice ro recs.length rc) (.pointer (some ⟨l4, 0, none⟩)) (.slice so snap.length sc) (.slice r2o recs2.length r2c) (.int .i64 (appB D ⟨next, size, false⟩ A.b).2.2) by
            have hsz2 : (w1'.alloc (Obj.cells #[Value.slice bo A.b.length bc] 28)).drew.heap.size = w1'.heap.size + 1 := ad_size _ _
            have hBx := HO1.out.own.below.trans ((((Below.refl w1'.heap.size w1').alloc (Nat.le_refl _) (.cells #[.slice bo A.b.length bc] 28)).drew).mono HO1.out.own.size)
            have hH2 : Held w w2 w.heap.size v1 (.slice r2o recs2.length r2c) (recs ++ [A.b]) := Held.more (recs := recs) hBx (by rw [hsz2]; have := HO1.out.own.size; omega) hvl HVE.out HIN.out.rb hown2 (fun q hq => by have := HO1.out.own.dk.foot_lt hq; rw [hsz2]; omega)
            have hj : ∀ j, (Value.slice r2o recs2.length r2c).ownBlock = some j → w1'.heap.size ≤ j := fun j hj => by have := (hown2.lt j hj).1; rw [hsz2] at this; omega
            subst hr2
            exact HUA.out.append (by omega) h3 HM1.out HB2.out hH2 hj HOF.out (block_lt HX.out))
          have HX2 := hide ((HB2.out.block n0 (block_lt HX1.out)).trans HX1.out)
          clear hown2 hgrow2 hr2
          go_wp2
          go_meet
          case rel => exact ⟨HAF.out, HX2.out⟩
        · rw [hkd]
          have HTL := hide (HT.out.below HUA.out.own.own.below (Nat.le_refl _))
          go_wp2_with fail
          refine (lappend_any l4 _ v D ⟨next, size, false⟩ _ A.b wa HUA.out.own.log HUA.out.own.own.dk HUA.out.own.lof HTL.out (rd_in HIN.out.rb HUA.out.own.own.below (Nat.le_refl _)) (by have := HUA.out.nx; show next < _; omega) (by have := HUA.out.sz; show size < _; omega)).mono ?_
          rintro e w1' ⟨rfl, v1, hm1⟩
          have HX1 := hide ((hm1.only.block n0 (block_lt HX.out) (fun e => by rcases e with e | e; exact HOF.out e; exact HL0.out e)).trans HX.out)
          have hd1 := cell_of (k := 1) HX1.out
          simp only [List.getElem?_toArray, List.getElem?_cons_zero, List.getElem?_cons_succ] at hd1
          have HH1 := hide (HUA.out.held.lmoved HUA.out.hl hm1)
          have HO1 := hide (HUA.out.own.moved hm1)
          have HM1 := hide hm1
          clear hm1 hk0 hk1 hk2 hk3
          obtain ⟨ro', rc', hsh, hrc, hnone⟩ := HH1.out.shape
          obtain ⟨rfl, _, rfl⟩ : ro = ro' ∧ True ∧ rc = rc' := by simpa using hsh
          clear hsh
          obtain ⟨vals, hvl, hvc, hve⟩ := HH1.out.cells
          have HVC := hide (hvc ro recs.length rc rfl)
          have HVE := hide hve
          have HNO := hide hnone
          have hrl : recs.length ≤ 40 := by have := HUA.out.st.nxt; have := HUA.out.nx; omega
          clear hvc hve hnone
          obtain ⟨i0, hi0, hz0, hz1, hz2⟩ := info_parts infoB
          have HI0 := hide hi0
          have HZ0 := hide hz0
          have HZ1 := hide hz1
          have HZ2 := hide hz2
          clear hi0 hz0 hz1 hz2
          go_wp2
          go_region_law (refine step_append_grows (by rfl) (.tmp 75) (.tmp 78) 29 (by rfl) 28 i0 (.slice none 0 0) 1 24 (by exact Tryd.underlying29) (by exact HI0.out) (by exact HZ0.out) (by exact HZ1.out) (by exact HZ2.out) (by rfl) (by decide) ro recs.length recs.length vals (by rfl) (by exact fun h => ⟨(HNO.out h).1, (HNO.out h).1⟩) (by rw [hvl, Nat.mul_one]) (by exact fun b hb j u hu => Below.keeps ((Below.refl _ _).drew.alloc (Nat.le_refl _) _) (Nat.le_refl _) (HVC.out b hb j u hu)) ⟨w1'.heap.size, 0, none⟩ 1 1 [.slice bo A.b.length bc] (by rfl) (by rfl) (by exact new_cell1 _ _ _) (by intro u hu; simp at hu; subst hu; rfl) (by omega) (by unfold maxLen; omega) (by omega) ?_; intro v2 w2 hown2 hgrow2)
          obtain ⟨recs2, hr2⟩ : ∃ r2, r2 = recs ++ [A.b] := ⟨_, rfl⟩
          obtain ⟨r2o, r2c, rfl⟩ : ∃ r2o r2c, v2 = .slice r2o recs2.length r2c := by
            obtain ⟨a, b, c, _⟩ := own_shape hown2
            exact ⟨a, b, by rw [c, hr2]; simp⟩
          have HB2 := hide (((Below.refl w1'.heap.size w1').alloc (Nat.le_refl _) (.cells #[.slice bo A.b.length bc] 28)).drew.grown hgrow2 (by rw [ad_size]; omega) (fun _ h => by cases h))
          have HAF := hide (show Aft w w2 w.heap.size k n0 (.slice so snap.length sc) (.slice ro recs.length rc) (.pointer (some ⟨l4, 0, none⟩)) (.slice so snap.length sc) (.slice r2o recs2.length r2c) (.int .i64 (appB D ⟨next, size, false⟩ A.b).2.2) by
            have hsz2 : (w1'.alloc (Obj.cells #[Value.slice bo A.b.length bc] 28)).drew.heap.size = w1'.heap.size + 1 := ad_size _ _
            have hBx := HO1.out.own.below.trans ((((Below.refl w1'.heap.size w1').alloc (Nat.le_refl _) (.cells #[.slice bo A.b.length bc] 28)).drew).mono HO1.out.own.size)
            have hH2 : Held w w2 w.heap.size v1 (.slice r2o recs2.length r2c) (recs ++ [A.b]) := Held.more (recs := recs) hBx (by rw [hsz2]; have := HO1.out.own.size; omega) hvl HVE.out HIN.out.rb hown2 (fun q hq => by have := HO1.out.own.dk.foot_lt hq; rw [hsz2]; omega)
            have hj : ∀ j, (Value.slice r2o recs2.length r2c).ownBlock = some j → w1'.heap.size ≤ j := fun j hj => by have := (hown2.lt j hj).1; rw [hsz2] at this; omega
            subst hr2
            exact HUA.out.append (by omega) h3 HM1.out HB2.out hH2 hj HOF.out (block_lt HX.out))
          have HX2 := hide ((HB2.out.block n0 (block_lt HX1.out)).trans HX1.out)
          clear hown2 hgrow2 hr2
          go_wp2
          go_meet
          case rel => exact ⟨HAF.out, HX2.out⟩
        · rw [hkd]
          have HTL := hide (HT.out.below HUA.out.own.own.below (Nat.le_refl _))
          go_wp2_with fail
          refine (linstall_any l4 _ v D ⟨next, size, false⟩ _ A.b wa HUA.out.own.log HUA.out.own.own.dk HUA.out.own.lof HTL.out (rd_in HIN.out.rb HUA.out.own.own.below (Nat.le_refl _)) (by have := HUA.out.nx; show next < _; omega)).mono ?_
          rintro e w1' ⟨rfl, v1, hm1⟩
          have HX1 := hide ((hm1.only.block n0 (block_lt HX.out) (fun e => by rcases e with e | e; exact HOF.out e; exact HL0.out e)).trans HX.out)
          have hd1 := cell_of (k := 1) HX1.out
          simp only [List.getElem?_toArray, List.getElem?_cons_zero, List.getElem?_cons_succ] at hd1
          have HAF := hide (HUA.out.install (by omega) h3 hm1 HIN.out.rb HOF.out (block_lt HX.out))
          clear hm1
          go_wp2
          go_meet
          case rel => exact ⟨HAF.out, HX1.out⟩
        · rw [hkd]
          go_wp2_with fail
          refine (count_any _ _ wa HLN.out (by decide)).mono ?_
          rintro e w4 ⟨rfl, hw4⟩
          rw [hw4]
          clear hw4 w4
          obtain ⟨hc1, hc2⟩ := cnt_lt (k := A.n) (n := 9) (by decide)
          go_wp2_with fail
          refine (fail_any _ v D (1 + cnt A.n 9) wa HUA.out.own.own.dk (by omega)).mono ?_
          rintro e w4 ⟨rfl, hm⟩
          have HU4 := hide ((HUA.out.fail hm).mono (Nat.le_succ k))
          clear hm
          go_wp2
          go_roundw
          case rel => exact ⟨k + 1, by omega, by omega, by go_num, .mk _ _ _ _ _ _ _ _ _ _ _ _ _ _ HU4.out⟩
          case measure => simp [intOf]; omega
        · obtain ⟨x0, x1, x2, x3, x4, x5⟩ := hx
          go_wp2
          go_meet
          case rel => exact ⟨HUA.out.still HOF.out _, HX.out⟩
      case rest =>
        rename World => wc
        obtain ⟨haf, hXc⟩ := hcut
        have HXC := hide hXc
        clear hXc HX HUA HU0 HSA HST HOF HL0 HBA
        cases haf with
        | up lv s r h =>
          have HUP := hide h
          clear h
          go_wp2
          go_roundw
          case rel => exact ⟨k + 1, by omega, by omega, by go_num, HUP.out⟩
          case measure => simp [intOf]; omega
        | down v3 D3 snap0 snap1 recs0 recs1 so1 sc1 ro1 rc1 lv own off hc hs hs1 held held1 hl0 hl1 =>
          have HO3 := hide own
          have HF3 := hide off
          have HC3 := hide hc
          have HS0 := hide hs
          have HS1 := hide hs1
          have HH0 := hide held
          have HH1 := hide held1
          clear own off hc hs hs1 held held1
          have hq0 := cell_of (k := 0) HXC.out
          have hq3 := cell_of (k := 3) HXC.out
          simp only [List.getElem?_toArray, List.getElem?_cons_zero, List.getElem?_cons_succ] at hq0 hq3
          go_wp2_with fail
          refine (crash_any _ v3 D3 A.keep _ wc HO3.out.dk (rdi_in HIN.out.rk HO3.out.below (Nat.le_refl _)) (fun h0 q hq hf => by have := rdi_blk HIN.out.rk h0 hq; have := HO3.out.mine q hf; omega)).mono ?_
          rintro e w4 ⟨rfl, v4, hm4⟩
          obtain ⟨xs, xr, hwh, hfine⟩ : ∃ xs xr, (xs = snap0 ∧ xr = recs0 ∨ xs = snap1 ∧ xr = recs1) ∧ Fine (D3.crash A.keep) xs xr (k + 1) := by
            rcases HC3.out A.keep with h | h
            · exact ⟨_, _, .inl ⟨rfl, rfl⟩, h⟩
            · exact ⟨_, _, .inr ⟨rfl, rfl⟩, h⟩
          have HWH := hide hwh
          have HD4 := hide (show Down w w4 w.heap.size (k + 1) v4 (D3.crash A.keep) xs xr (.slice ro recs.length rc) recs0 (.slice ro1 recs1.length rc1) recs1 from ⟨HO3.out.moved hm4, hfine, HH0.out.moved hm4, HH1.out.moved hm4⟩)
          have HX4 := hide ((hm4.only.block n0 (block_lt HXC.out) HF3.out).trans HXC.out)
          have HF4 := hide (off_grow hm4.grow HF3.out (block_lt HXC.out))
          generalize D3.crash A.keep = D4 at HD4
          clear hm4 hwh hfine hq0 hq3 HXC HF3 HH0 HH1 HO3 HC3
          have hq0 := cell_of (k := 0) HX4.out
          have hq2 := cell_of (k := 2) HX4.out
          have hq3 := cell_of (k := 3) HX4.out
          simp only [List.getElem?_toArray, List.getElem?_cons_zero, List.getElem?_cons_succ] at hq0 hq2 hq3
          go_upto_if 108 with fail
          go_cut [14] from 106 to 120 (fun s14 wd => ∃ v5 D5, Down w wd w.heap.size (k + 1) v5 D5 xs xr (.slice ro recs.length rc) recs0 (.slice ro1 recs1.length rc1) recs1)
          case first =>
            by_cases hk7 : A.kind = 7
            · go_wp2_with fail
              refine (count_any _ _ w4 HLN.out (by decide)).mono ?_
              rintro e w5 ⟨rfl, hw5⟩
              rw [hw5]
              clear hw5 w5
              obtain ⟨hc1, hc2⟩ := cnt_lt (k := A.n) (n := 5) (by decide)
              go_wp2_with fail
              refine (fail_any _ v4 D4 (1 + cnt A.n 5) w4 HD4.out.own.dk (by omega)).mono ?_
              rintro e w5 ⟨rfl, hm5⟩
              have HO5 := hide (HD4.out.own.moved hm5)
              have HX5 := hide ((hm5.only.block n0 (block_lt HX4.out) HF4.out).trans HX4.out)
              have HM5 := hide hm5
              clear hm5 hq0 hq2 hq3
              go_wp2_with fail
              refine (open_any _ v4 (D4.fail (1 + cnt A.n 5)) w5 HO5.out.dk (HT.out.below HO5.out.below (Nat.le_refl _))).mono ?_
              rintro e w6 ⟨v6, M6, hbad, hok⟩
              obtain ⟨val, rfl⟩ : ∃ val, e = .returned val := by
                by_cases herr : (openB (D4.fail (1 + cnt A.n 5))).2.err = 0
                · obtain ⟨_, _, _, rfl, _⟩ := hok herr
                  exact ⟨_, rfl⟩
                · exact ⟨_, hbad herr⟩
              have HO6 := hide (HO5.out.moved M6)
              have HX6 := hide ((M6.only.block n0 (block_lt HX5.out) HF4.out).trans HX5.out)
              have HF6 := hide (off_grow M6.grow HF4.out (block_lt HX5.out))
              have HM6 := hide M6
              clear M6 hbad hok
              have hp3 := cell_of (k := 3) HX6.out
              simp only [List.getElem?_toArray, List.getElem?_cons_zero, List.getElem?_cons_succ] at hp3
              go_wp2_with fail
              refine (crash_any _ v6 _ A.keep _ w6 HO6.out.dk (rdi_in HIN.out.rk HO6.out.below (Nat.le_refl _)) (fun h0 q hq hf => by have := rdi_blk HIN.out.rk h0 hq; have := HO6.out.mine q hf; omega)).mono ?_
              rintro e w7 ⟨rfl, v7, hm7⟩
              have HD7 := hide (show Down w w7 w.heap.size (k + 1) v7 _ xs xr (.slice ro recs.length rc) recs0 (.slice ro1 recs1.length rc1) recs1 from ⟨HO6.out.moved hm7, HD4.out.fine.torn (by omega) _ _, ((HD4.out.held.moved HM5.out).moved HM6.out).moved hm7, ((HD4.out.held'.moved HM5.out).moved HM6.out).moved hm7⟩)
              clear hm7 hp3
              go_wp2
              go_meet
              case rel => exact ⟨_, _, HD7.out⟩
            · go_wp2
              go_meet
              case rel => exact ⟨_, _, HD4.out⟩
          case rest =>
            rename World => wd
            clear hq0 hq2 hq3
            obtain ⟨v5, D5, hd5⟩ := hcut
            have HD5 := hide hd5
            clear hd5 HD4 HX4 HF4
            have HP5 := hide (HD5.out.fine.opened (by omega))
            go_wp2_with fail
            refine (open_any _ v5 D5 wd HD5.out.own.dk (HT.out.below HD5.out.own.below (Nat.le_refl _))).mono ?_
            rintro e w7 ⟨v7, M7, -, hok⟩
            obtain ⟨l7, x7, rs7, rfl, E7, hO7⟩ := hok HP5.out.1
            have ht7 := hO7.told
            rw [HP5.out.2.1, HP5.out.2.2.1] at ht7
            obtain ⟨x7o, x7c, rfl, -⟩ := own_shape ht7.snap
            obtain ⟨r7o, r7c, rfl, -⟩ := id ht7.recs
            have HT7 := hide ht7
            have HD7 := hide (HD5.out.moved M7 HP5.out.2.2.2)
            clear hok M7 hO7 ht7
            generalize (openB D5).1 = D7 at HD7
            clear HP5 HD5
            have HP7 := hide (HD7.out.fine.opened (by omega))
            go_wp2_with fail
            refine (open_any _ v7 D7 w7 HD7.out.own.dk (HT.out.below HD7.out.own.below (Nat.le_refl _))).mono ?_
            rintro e w8 ⟨v8, M8, -, hok⟩
            obtain ⟨l8, x8, rs8, rfl, E8, hO8⟩ := hok HP7.out.1
            have ht8 := hO8.told
            rw [HP7.out.2.1, HP7.out.2.2.1] at ht8
            obtain ⟨x8o, x8c, rfl, -⟩ := own_shape ht8.snap
            obtain ⟨r8o, r8c, rfl, -⟩ := id ht8.recs
            have HT8 := hide ht8
            have HT78 := hide (HT7.out.dmoved M8)
            have HW8 := hide (HD7.out.own.moved M8).below
            have HZ8 := hide (HD7.out.own.moved M8).size
            have HHA := hide (HD7.out.held.moved M8)
            have HHB := hide (HD7.out.held'.moved M8)
            have HM8 := hide M8
            have HO8 := hide hO8
            have hxr : xr.length ≤ 41 := by have := HD7.out.fine.count; omega
            clear hok M8 hO8 ht8 HT7
            have s1 := run_conv_rd (P := Tryd.prog) Tryd.underlying28 Tryd.underlying5 Tryd.underlying9 (Rd.own HT78.out.snap)
            have s2 := run_conv_rd (P := Tryd.prog) Tryd.underlying28 Tryd.underlying5 Tryd.underlying9 (Rd.own HT8.out.snap)
            generalize bstr xs = tt at s1 s2
            go_upto_region 43 with (go_at_call 27; refine (rsame_any xr xr _ _ w8 HT78.out.recs.rds HT8.out.recs.rds (by omega) (by omega)).mono ?_; rintro e w9 ⟨rfl, B9⟩; rw [show decide (xr = xr) = true by simp]; have HB9 := hide B9; clear B9)
            clear s1 s2
            have HW9 := hide (HW8.out.trans (HB9.out.mono HZ8.out))
            go_cut [23] from 162 to 171 (fun s23 wx => (∃ b : Bool, s23 = .bool b ∧ b = decide (xs = snap0 ∧ xr = recs0)) ∧ Below w8.heap.size w8 wx)
            case first =>
              have s1 := run_conv_rd (P := Tryd.prog) Tryd.underlying28 Tryd.underlying5 Tryd.underlying9 ((Rd.own HT78.out.snap).below HB9.out)
              have s3 := run_conv_rd (P := Tryd.prog) Tryd.underlying28 Tryd.underlying5 Tryd.underlying9 (rd_in HS0.out HW9.out (Nat.le_refl _))
              by_cases hp : xs = snap0
              · have HE : Hid (decide (xs = snap0 ∧ xr = recs0) = decide (xr = recs0)) := by show _ = _; simp [hp]
                rw [← hp] at s3
                clear hp
                generalize bstr xs = tt at s1 s3
                go_wp2_with (go_at_call 27; refine (rsame_any xr recs0 _ _ w9 (HT78.out.recs.rds.below HB9.out) ((HHA.out.grew HB9.out).rds HW9.out) (by omega) (by omega)).mono ?_; rintro e w10 ⟨rfl, B10⟩; have HB10 := hide (HB9.out.trans (B10.mono HB9.out.size)); clear B10)
                go_meet
                case rel => exact ⟨⟨_, rfl, HE.out.symm⟩, HB10.out⟩
              · have HE : Hid (decide (xs = snap0 ∧ xr = recs0) = false) := by show _ = _; simp [hp]
                have hdf := text_ne hp
                clear hp
                generalize bstr xs = tt at s1 hdf
                generalize bstr snap0 = t0 at s3 hdf
                go_wp2
                go_meet
                case rel => exact ⟨⟨_, rfl, HE.out.symm⟩, HB9.out⟩
            case rest =>
              rename World => wx
              obtain ⟨⟨b0, rfl, hb0⟩, hbx⟩ := hcut
              have HE0 := hide hb0
              clear hb0
              have HBX := hide hbx
              have HWX := hide (HW8.out.trans (hbx.mono HZ8.out))
              clear hbx HB9 HW9
              go_upto_region 44 with fail
              go_cut [24] from 172 to 181 (fun s24 wy => (∃ b : Bool, s24 = .bool b ∧ b = decide (xs = snap1 ∧ xr = recs1)) ∧ Below w8.heap.size w8 wy)
              case first =>
                have s1 := run_conv_rd (P := Tryd.prog) Tryd.underlying28 Tryd.underlying5 Tryd.underlying9 ((Rd.own HT78.out.snap).below HBX.out)
                have s3 := run_conv_rd (P := Tryd.prog) Tryd.underlying28 Tryd.underlying5 Tryd.underlying9 (rd_in HS1.out HWX.out (Nat.le_refl _))
                by_cases hp : xs = snap1
                · have HE : Hid (decide (xs = snap1 ∧ xr = recs1) = decide (xr = recs1)) := by show _ = _; simp [hp]
                  rw [show bstr snap1 = bstr xs by rw [hp]] at s3
                  clear hp
                  generalize bstr xs = tt at s1 s3
                  go_wp2_with (go_at_call 27; refine (rsame_any xr recs1 _ _ wx (HT78.out.recs.rds.below HBX.out) ((HHB.out.grew HBX.out).rds HWX.out) (by omega) (by omega)).mono ?_; rintro e w10 ⟨rfl, B10⟩; have HB10 := hide (HBX.out.trans (B10.mono HBX.out.size)); clear B10)
                  go_meet
                  case rel => exact ⟨⟨_, rfl, HE.out.symm⟩, HB10.out⟩
                · have HE : Hid (decide (xs = snap1 ∧ xr = recs1) = false) := by show _ = _; simp [hp]
                  have hdf := text_ne hp
                  clear hp
                  generalize bstr xs = tt at s1 hdf
                  generalize bstr snap1 = t0 at s3 hdf
                  go_wp2
                  go_meet
                  case rel => exact ⟨⟨_, rfl, HE.out.symm⟩, HBX.out⟩
              case rest =>
                rename World => wy
                obtain ⟨⟨b1, rfl, hb1⟩, hby⟩ := hcut
                have HE1 := hide hb1
                clear hb1
                have HBY := hide hby
                clear hby HBX HWX
                by_cases hnow : xs = snap1 ∧ xr = recs1
                · have HU9 := hide (Up.again (sv := .slice so1 snap1.length sc1) (rv := .slice ro1 recs1.length rc1) HD7.out.own HD7.out.fine (by omega) HM8.out HO8.out HBY.out (by rw [hnow.1]; exact HS1.out) (by rw [hnow.2]; exact HD7.out.held'))
                  have h1 := HE1.out
                  rw [decide_eq_true hnow] at h1
                  subst h1
                  clear hnow HE0 HE1
                  cases b0
                  all_goals
                    go_wp2
                    go_roundw
                    case rel => exact ⟨k + 1, by omega, by omega, by go_num, HU9.out⟩
                    case measure => simp [intOf]; omega
                · have hwas : xs = snap0 ∧ xr = recs0 := HWH.out.resolve_right hnow
                  have HU9 := hide (Up.again (sv := .slice so snap.length sc) (rv := .slice ro recs.length rc) HD7.out.own HD7.out.fine (by omega) HM8.out HO8.out HBY.out (by rw [hwas.1]; exact HS0.out) (by rw [hwas.2]; exact HD7.out.held))
                  have h1 := HE1.out
                  have h0 := HE0.out
                  rw [decide_eq_false hnow] at h1
                  rw [decide_eq_true hwas] at h0
                  subst h1
                  subst h0
                  clear hnow hwas HE0 HE1
                  go_wp2
                  go_roundw
                  case rel => exact ⟨k + 1, by omega, by omega, by go_num, HU9.out⟩
                  case measure => simp [intOf]; omega
    · have HST := hide hst
      clear hst
      rcases (show ¬ k < acts.length ∨ (k < acts.length ∧ ¬ k < 40) by omega) with h2 | ⟨h2, h3⟩
      all_goals
        go_wp2_with (go_at_call 31; refine (known4_any _ (HT.out.below HST.out.below.1 (Nat.le_refl _))).mono ?_; rintro e w5 ⟨rfl, B5⟩; have HB5 := hide (HST.out.below.1.trans (B5.mono HST.out.below.2)); clear B5)
        go_ret
        exact ⟨rfl, HB5.out⟩
end Go.Proofs.YtgobnnciijlpaaaDoor
