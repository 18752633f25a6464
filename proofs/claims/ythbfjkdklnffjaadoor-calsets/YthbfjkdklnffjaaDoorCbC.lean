/- The walk of package cal's month.fiscal. -/
import Derived.Test.YthbfjkdklnffjaaDoorCbB
namespace Go.Proofs.YthbfjkdklnffjaaDoor
open Go.ChangeShapes Go.WideShapes Go.ChangeAt Go.RowKit Go.DsMem Go.DsMk
set_option linter.unusedVariables false

theorem jan_vld {y b : Int} (h1 : 1 ≤ y) (h2 : y ≤ 9999) (h3 : 1 ≤ b) (h4 : b ≤ 12) : DsCal.vld y b 1 := ⟨h1, h2, by omega, by have := DsCal.dlen_bd (y := y) (m := b) h3 h4; omega⟩
theorem fday_bd {b p y : Int} {i : Nat} (h : DsCal.vld y b 1) (hp : okP p) (hi : i ≤ 12) : 1 ≤ fday b p y i ∧ fday b p y i ≤ 3652500 := by
  have h1 := fm_bd h
  have h2 := cumW_bd hp i
  unfold fday; omega
theorem fday_succ (b p y : Int) (i : Nat) : fday b p y (i + 1) = fday b p y i + wk p i * 7 := by unfold fday; rw [show cumW p (i + 1) = cumW p i + wk p i from rfl]; omega

set_option maxHeartbeats 4000000 in
set_option maxRecDepth 20000 in
/-- cal.month.fiscal -/
theorem Gc.fiscal {W w : World} (h : Gc W w) (y m f s p b : Int) (hm : IsMo y m f s) (hp : okP p) (hb1 : 1 ≤ b) (hb2 : b ≤ 12) :
    Calls Tryd.prog 41 #[moV y m f s, .int .i64 p, .int .i64 b] w fun e w' => e = .returned (.int .u32 (fisN y f s p b)) ∧ Gc W w' := by
  obtain ⟨b1, b2, b3, b4, b5, b6, b7, b8⟩ := isMo_bd hm
  have HG := hide h
  have HP := hide hp
  have hp0 : 0 ≤ p ∧ p ≤ 1000 := by unfold okP at hp; omega
  obtain ⟨hp0, hp1⟩ := hp0
  obtain ⟨k0, hk0⟩ : ∃ k0, p / 100 = k0 := ⟨_, rfl⟩
  obtain ⟨k1, hk1⟩ : ∃ k1, p / 10 % 10 = k1 := ⟨_, rfl⟩
  obtain ⟨k2, hk2⟩ : ∃ k2, p % 10 = k2 := ⟨_, rfl⟩
  have WK : Hid (∀ i : Nat, wk p i = if i % 3 = 0 then k0 else if i % 3 = 1 then k1 else k2) := fun i => by unfold wk; rw [hk0, hk1, hk2]
  have WB : Hid (∀ i : Nat, 4 ≤ wk p i ∧ wk p i ≤ 5) := wk_bd hp
  obtain ⟨lo, hlo⟩ : ∃ lo, max (y - 1) 1 = lo := ⟨_, rfl⟩
  have hlo1 : 1 ≤ lo := by omega
  have hlo2 : lo ≤ y := by omega
  have hlo3 : y ≤ lo + 1 := by omega
  have HFN : Hid (fisN y f s p b = fiY f s b p lo (y - lo + 1).toNat) := by show _ = _; unfold fisN; rw [hlo]
  clear h hm hp
  unfold moV
  go_enter Tryd.func41, Tryd.ntmps41
  go_wp2
  obtain ⟨wB, hwB⟩ : ∃ wB, wB = w.alloc (.cells #[.int .i64 y, .int .i64 m, .int .i64 f, .int .i64 s] 67) := ⟨_, rfl⟩
  have hblk : wB.heap[w.heap.size]? = some (.cells #[.int .i64 y, .int .i64 m, .int .i64 f, .int .i64 s] 67 (0, 0)) := by rw [hwB]; exact heap_alloc_new w _
  have HZ : Hid (w.heap.size + 1 = wB.heap.size) := by rw [hwB]; show _ = _; simp
  have HGB : Hid (Gc W wB) := by rw [hwB]; exact HG.out.alloc _
  rw [← hwB, HZ.out]
  clear hwB
  obtain ⟨wA, hwA⟩ : ∃ wA, wA = wB.alloc (.cells #[.int .i64 k0, .int .i64 k1, .int .i64 k2] 94) := ⟨_, rfl⟩
  have hblk3 : wA.heap[wB.heap.size]? = some (.cells #[.int .i64 k0, .int .i64 k1, .int .i64 k2] 94 (0, 0)) := by rw [hwA]; exact heap_alloc_new wB _
  have hblk2 : wA.heap[w.heap.size]? = some (.cells #[.int .i64 y, .int .i64 m, .int .i64 f, .int .i64 s] 67 (0, 0)) := by rw [hwA]; exact heap_keep hblk
  have HGA : Hid (Gc W wA) := by rw [hwA]; exact HGB.out.alloc _
  rw [← hwA]
  clear hwA hblk
  have HB2 := hide hblk2
  have HB3 := hide hblk3
  clear hblk2 hblk3
  generalize wB.heap.size = p7 at *
  generalize w.heap.size = p3 at *
  have HGW : Hid (Gc wA wA) := HGA.out.here
  rw [hk0, hk1, hk2]
  clear hk0 hk1 hk2 hlo
  go_loopw [8, 9] (fun d t wr => ∃ j : Nat, (j : Int) ≤ y - lo + 1 ∧ t = .int .i64 (lo + j) ∧ d = .int .u32 (fiY f s b p lo j) ∧ Gc wA wr) (fun _ t _ => (y + 1 - intOf t).toNat)
  case atStart => exact ⟨0, by omega, by simp, rfl, HGW.out⟩
  case round =>
    obtain ⟨j, hj, rfl, rfl, hg⟩ := hrel
    have hblk : wr.heap[p3]? = some (.cells #[.int .i64 y, .int .i64 m, .int .i64 f, .int .i64 s] 67 (0, 0)) := by rw [hg.below.block _ (block_lt HB2.out)]; exact HB2.out
    have c0 : wr.cell? ⟨p3, 0, none⟩ = some (.int .i64 y) := by rw [cell_of hblk]; rfl
    have HGr := hide hg
    clear hg hblk
    by_cases hlt : lo + j ≤ y
    · have HV : Hid (DsCal.vld (lo + j) b 1) := jan_vld (by omega) (by omega) hb1 hb2
      have HNR := hide (fm_nres HV.out)
      have hfm := fm_bd HV.out
      have HF0 : Hid (fday b p (lo + j) 0 = fm b (lo + j)) := by show _ = _; unfold fday; simp [cumW]
      have HFB : Hid (∀ i : Nat, i ≤ 12 → 1 ≤ fday b p (lo + j) i ∧ fday b p (lo + j) i ≤ 3652500) := fun i hi => fday_bd HV.out HP.out hi
      go_wp2_with fail
      refine (Dt.nth_yes (lo + j) b 0 1 _ HGr.out.lens HV.out ⟨by omega, by omega, by omega, by omega, by omega⟩).mono ?_
      rw [HNR.out]
      rintro e w1 ⟨rfl, rfl⟩
      go_wp2
      go_loopw [8, 10, 37] (fun d t i wz => ∃ k : Nat, k ≤ 12 ∧ i = .int .i64 k ∧ t = .int .i64 (fday b p (lo + j) k) ∧ d = .int .u32 (fiI f s b p (lo + j) (fiY f s b p lo j) k) ∧ Gc wA wz) (fun _ _ i _ => 12 - (intOf i).toNat)
      case atStart => exact ⟨0, by omega, rfl, by rw [HF0.out], rfl, HGr.out⟩
      case round =>
        obtain ⟨k, hk, rfl, rfl, rfl, hg2⟩ := hrel
        have hblk : wr.heap[p3]? = some (.cells #[.int .i64 y, .int .i64 m, .int .i64 f, .int .i64 s] 67 (0, 0)) := by rw [hg2.below.block _ (block_lt HB2.out)]; exact HB2.out
        have c0 : wr.cell? ⟨p3, 0, none⟩ = some (.int .i64 y) := by rw [cell_of hblk]; rfl
        have c1 : wr.cell? ⟨p3, 1, none⟩ = some (.int .i64 m) := by rw [cell_of hblk]; rfl
        have c2 : wr.cell? ⟨p3, 2, none⟩ = some (.int .i64 f) := by rw [cell_of hblk]; rfl
        have c3 : wr.cell? ⟨p3, 3, none⟩ = some (.int .i64 s) := by rw [cell_of hblk]; rfl
        have HG2 := hide hg2
        clear hg2 hblk
        by_cases hlt2 : k < 12
        · have hfb := HFB.out k (by omega)
          have hfb2 := HFB.out (k + 1) (by omega)
          have HFS := hide (fday_succ b p (lo + j) k)
          have hw := WB.out k
          have HWK := hide (WK.out k)
          have hdl := fiI_lt f s b p (lo + j) (fiY f s b p lo j) (fiY_lt f s b p lo j) k
          have hth := theseN_lt f s [fday b p (lo + j) k]
          have eo := or32 (fiI f s b p (lo + j) (fiY f s b p lo j) k) (theseN f s [fday b p (lo + j) k]) (by omega) (by omega)
          have HST : Hid (fiI f s b p (lo + j) (fiY f s b p lo j) (k + 1) = fiI f s b p (lo + j) (fiY f s b p lo j) k ||| theseN f s [fday b p (lo + j) k]) := rfl
          have HTH := hide (rfl : theseN f s [fday b p (lo + j) k] = theseN f s [fday b p (lo + j) k])
          generalize hie : fiI f s b p (lo + j) (fiY f s b p lo j) k = D at *
          generalize hde : fday b p (lo + j) k = dd at *
          generalize hte : theseN f s [dd] = tt at *
          have G1 := hide hie
          have G2 := hide hde
          have G3 := hide hte
          clear hie hde hte
          generalize hwe : wk p k = ww at *
          have G4 := hide hwe
          clear hwe
          go_wp2_with fail
          refine (Gc.these (HG2.out.alloc _) y m f s [dd] _ (rdi_one dd _) (by simp) (by intro k hk; simp at hk; subst hk; omega) b5 b6 (by omega) b8).mono ?_
          rw [G3.out]
          rintro e w2 ⟨rfl, hg⟩
          have HG3 := hide hg
          have hblk3 : w2.heap[p7]? = some (.cells #[.int .i64 k0, .int .i64 k1, .int .i64 k2] 94 (0, 0)) := by rw [hg.below.block _ (block_lt HB3.out)]; exact HB3.out
          have d0 : w2.cell? ⟨p7, 0, none⟩ = some (.int .i64 k0) := by rw [cell_of hblk3]; rfl
          have d1 : w2.cell? ⟨p7, 1, none⟩ = some (.int .i64 k1) := by rw [cell_of hblk3]; rfl
          have d2 : w2.cell? ⟨p7, 2, none⟩ = some (.int .i64 k2) := by rw [cell_of hblk3]; rfl
          have dk : w2.cell? ⟨p7, k % 3, none⟩ = some (.int .i64 ww) := by
            rw [HWK.out]
            have h3 : k % 3 = 0 ∨ k % 3 = 1 ∨ k % 3 = 2 := by omega
            rcases h3 with h3 | h3 | h3 <;> rw [h3] <;> simp [d0, d1, d2]
          clear hg hblk3 d0 d1 d2
          go_wp2
          go_roundw
          case rel => exact ⟨k + 1, by omega, by go_num, by rw [HFS.out], by rw [HST.out], HG3.out⟩
          case measure => simp [intOf]; omega
        · obtain rfl : k = 12 := by omega
          go_wp2
          go_roundw
          case rel => exact ⟨j + 1, by omega, by go_num, rfl, HG2.out⟩
          case measure => simp [intOf]; omega
    · have HE : Hid (fiY f s b p lo j = fisN y f s p b) := by show _ = _; rw [HFN.out]; congr 1; omega
      go_wp2
      go_ret
      exact ⟨ret_int (by rw [HE.out]), HGA.out.more HGr.out.below⟩
end Go.Proofs.YthbfjkdklnffjaaDoor
