/- Layer 6's law: the walk of known. -/
import Derived.Test.YthbfjkdklnffjaaDoorCeR
namespace Go.Proofs.YthbfjkdklnffjaaDoor
open Go.ChangeShapes Go.WideShapes Go.ChangeAt Go.RowKit Go.DsMem Go.DsMk
set_option linter.unusedVariables false

set_option maxHeartbeats 8000000 in
set_option maxRecDepth 20000 in
/-- dayshiftlaw06.known -/
theorem Gc.known6 {W w : World} (h : Gc W w) : Calls Tryd.prog 10 #[] w fun e w' => e = .returned (.bool true) ∧ Gc W w' := by
  have HG := hide h
  clear h
  have HDY := hide num_days
  go_enter Tryd.func10, Tryd.ntmps10
  go_wp2_with fail
  have HK0 := hide (Kn.new w)
  obtain ⟨wA, hwA⟩ : ∃ wA, wA = ((w.alloc (.cells #[.int .i64 31] 2)).alloc (.cells #[.int .i64 1, .slice (some ⟨w.heap.size, 0, none⟩) 1 1, .slice none 0 0, .string ⟨#[]⟩] 31)).alloc (.cells #[.string ⟨#[119, 111, 114, 107]⟩, .int .i64 1, .slice (some ⟨w.heap.size, 0, none⟩) 1 1, .slice none 0 0, .string ⟨#[]⟩] 48) := ⟨_, rfl⟩
  have HGA : Hid (Gc W wA) := by refine hide ?_; rw [hwA]; exact ((HG.out.alloc _).alloc _).alloc _
  have hzA : wA.heap.size = w.heap.size + 1 + 1 + 1 := by rw [hwA]; simp
  rw [← hwA] at HK0 ⊢
  rw [← hzA]
  have e2 : w.heap.size + 1 + 1 = w.heap.size + 2 := rfl
  rw [e2]
  clear e2
  generalize w.heap.size = p at *
  have HR1 := hide (RdI.new1 wA (-1) 2)
  obtain ⟨wB, hwB⟩ : ∃ wB, wB = wA.alloc (.cells #[.int .i64 (-1)] 2) := ⟨_, rfl⟩
  have HBB : Hid (Below wA.heap.size wA wB) := by refine hide ?_; rw [hwB]; exact (Below.refl _ _).alloc (Nat.le_refl _) _
  rw [← hwB] at HR1 ⊢
  clear hwA hwB hzA
  have HKB := hide (HK0.out.below HBB.out)
  have HGB := hide (HGA.out.more HBB.out)
  refine (day_known 2024 3 29 738974 wB (by unfold DsCal.vld; decide +kernel) (by decide) (by decide) HDY.out.1).mono ?_
  rintro e w1 ⟨rfl, rfl⟩
  go_wp2_with fail
  refine (in_known HKB.out HGB.out.here 5 [-1] ⟨#[119, 111, 114, 107]⟩ (some ⟨wA.heap.size, 0, none⟩) 1 HR1.out (by simp) 738974 true known_a).mono ?_
  rintro e w2 ⟨rfl, hg2⟩
  have HK2 := hide (HKB.out.below hg2.below)
  have HG2 := hide (HGB.out.more hg2.below)
  clear hg2
  go_wp2_with fail
  have HR3 := hide (RdI.new2 w2 445 1 2)
  obtain ⟨w3, hw3⟩ : ∃ w3, w3 = w2.alloc (.cells #[.int .i64 445, .int .i64 1] 2) := ⟨_, rfl⟩
  have HB3 : Hid (Below w2.heap.size w2 w3) := by refine hide ?_; rw [hw3]; exact (Below.refl _ _).alloc (Nat.le_refl _) _
  rw [← hw3] at HR3 ⊢
  clear hw3
  have HK3 := hide (HK2.out.below HB3.out)
  have HG3 := hide (HG2.out.more HB3.out)
  refine (day_known 2024 4 1 738977 w3 (by unfold DsCal.vld; decide +kernel) (by decide) (by decide) HDY.out.2.2.1).mono ?_
  rintro e w3' ⟨rfl, hw3'⟩
  rw [hw3']
  clear hw3' w3'
  go_wp2_with fail
  refine (in_known HK3.out HG3.out.here 6 [445, 1] ⟨#[]⟩ (some ⟨w2.heap.size, 0, none⟩) 2 HR3.out (by simp) 738977 true known_b).mono ?_
  rintro e w4 ⟨rfl, hg4⟩
  have HK4 := hide (HK3.out.below hg4.below)
  have HG4 := hide (HG3.out.more hg4.below)
  clear hg4
  go_wp2_with fail
  have KP : Hid (∀ w', Below w4.heap.size w4.drew w' → w'.cell? ⟨p + 1, 0, none⟩ = some (.int .i64 1) ∧ w'.cell? ⟨p + 1, 1, none⟩ = some (.slice (some ⟨p, 0, none⟩) 1 1) ∧ w'.cell? ⟨p + 1, 2, none⟩ = some (.slice none 0 0) ∧ w'.cell? ⟨p + 1, 3, none⟩ = some (.string ⟨#[]⟩)) := fun w' hb => ⟨Below.keeps hb (Nat.le_refl _) (w := w4.drew) HK4.out.n0, Below.keeps hb (Nat.le_refl _) (w := w4.drew) HK4.out.n1, Below.keeps hb (Nat.le_refl _) (w := w4.drew) HK4.out.n2, Below.keeps hb (Nat.le_refl _) (w := w4.drew) HK4.out.n3⟩
  obtain ⟨k0, k1, k2, k3⟩ := KP.out w4.drew (Below.refl _ _)
  first
    | (go_region_held3 (fun w' => w'.cell? ⟨p + 1, 0, none⟩ = some (.int .i64 1) ∧ w'.cell? ⟨p + 1, 1, none⟩ = some (.slice (some ⟨p, 0, none⟩) 1 1) ∧ w'.cell? ⟨p + 1, 2, none⟩ = some (.slice none 0 0) ∧ w'.cell? ⟨p + 1, 3, none⟩ = some (.string ⟨#[]⟩))
        (first | go_keep | (exact KP.out _ (by assumption)))
        (first
          | (go_at_call 17; refine (day_known 2024 3 30 738975 _ (by unfold DsCal.vld; decide +kernel) (by decide) (by decide) HDY.out.2.1).mono ?_; rintro e w5 ⟨rfl, rfl⟩)
          | (go_at_call 18; refine (shift_known (HK4.out.below (Below.refl _ _).drew) HG4.out.drew.here).mono ?_; rintro e w6 ⟨rfl, hg6⟩; have hb6 : Below w4.heap.size w4.drew w6 := hg6.below)))
    | fail
  have HB6 := hide hb6
  clear hg6 hb6 k0 k1 k2 k3
  have HBX6 : Hid (Below w4.heap.size w4 w6) := (Below.refl _ _).drew.trans HB6.out
  have HK6 := hide (HK4.out.below HBX6.out)
  have HG6 := hide (HG4.out.more HBX6.out)
  go_wp2_with fail
  have HR7 := hide (RdI.new2 w6 445 1 2)
  obtain ⟨w7, hw7⟩ : ∃ w7, w7 = w6.alloc (.cells #[.int .i64 445, .int .i64 1] 2) := ⟨_, rfl⟩
  have HB7 : Hid (Below w6.heap.size w6 w7) := by refine hide ?_; rw [hw7]; exact (Below.refl _ _).alloc (Nat.le_refl _) _
  rw [← hw7] at HR7 ⊢
  clear hw7
  have HK7 := hide (HK6.out.below HB7.out)
  have HG7 := hide (HG6.out.more HB7.out)
  refine (day_known 2024 3 25 738970 w7 (by unfold DsCal.vld; decide +kernel) (by decide) (by decide) HDY.out.2.2.2).mono ?_
  rintro e w7' ⟨rfl, hw7'⟩
  rw [hw7']
  clear hw7' w7'
  go_wp2_with fail
  refine (in_known HK7.out HG7.out.here 6 [445, 1] ⟨#[]⟩ (some ⟨w6.heap.size, 0, none⟩) 2 HR7.out (by simp) 738970 false known_d).mono ?_
  rintro e w8 ⟨rfl, hg8⟩
  have HG8 := hide (HG7.out.more hg8.below)
  clear hg8
  go_wp2_with fail
  refine (day_known 2024 4 1 738977 w8 (by unfold DsCal.vld; decide +kernel) (by decide) (by decide) HDY.out.2.2.1).mono ?_
  rintro e w9 ⟨rfl, hw9⟩
  rw [hw9]
  clear hw9 w9
  go_wp2
  go_ret
  exact ⟨rfl, HG8.out⟩
end Go.Proofs.YthbfjkdklnffjaaDoor
