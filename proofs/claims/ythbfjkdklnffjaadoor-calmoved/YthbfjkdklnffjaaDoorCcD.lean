/- Package cal: numbersCanBe, operation by operation (written by gen_ccc.py). -/
import Derived.Test.YthbfjkdklnffjaaDoorCcC
namespace Go.Proofs.YthbfjkdklnffjaaDoor
open Go.ChangeShapes Go.WideShapes Go.ChangeAt Go.RowKit Go.DsMem Go.DsMk
set_option linter.unusedVariables false

set_option maxHeartbeats 4000000 in
set_option maxRecDepth 20000 in
theorem Gc.nums2 {W w : World} (h : Gc W w) (ns : List Int) (no : Option Addr) (nc : Nat) (ko : Option Addr) (kl kc : Nat) (nm : ByteArray) (hr : RdI w (.slice no ns.length nc) ns) (hl : ns.length ≤ 1000000) :
    Calls Tryd.prog 48 #[ndV 2 no ns.length nc ko kl kc nm] w fun e w' => e = .returned (.bool (ns.all DsCal.rightB)) ∧ Gc W w' := by
  have HG := hide h
  have HR := hide hr
  clear h hr
  unfold ndV
  go_enter Tryd.func48, Tryd.ntmps48
  go_wp2_with fail
  obtain ⟨wA, hwA⟩ : ∃ wA, wA = w.alloc (.cells #[.int .i64 2, .slice no ns.length nc, .slice ko kl kc, .string nm] 31) := ⟨_, rfl⟩
  have hbx : NBox wA w.heap.size 2 no ns.length nc ko kl kc nm := by rw [hwA]; exact NBox.new _ _ _ _ _ _ _ _ _
  have HGA : Hid (Gc W wA) := by rw [hwA]; exact HG.out.alloc _
  have HRA : Hid (RdI wA (.slice no ns.length nc) ns) := by rw [hwA]; exact HR.out.below ((Below.refl _ _).alloc (Nat.le_refl _) _)
  rw [← hwA]
  clear hwA
  generalize w.heap.size = p1 at *
  have KP : Hid (∀ w', Gc wA w' → w'.cell? ⟨p1, 1, none⟩ = some (.slice no ns.length nc)) := fun w' hw => (hbx.below hw.below).c1
  have cb1 := hbx.c1
  refine (Gc.all_right (W := wA) HGA.out.here ns _ HRA.out hl DsCal.rightB (fun k w' g => (Dt.right_any k w').mono fun e w3 ⟨he, hw⟩ => ⟨he, by rw [hw]; exact g⟩)).mono ?_
  rintro e w2 ⟨rfl, hg⟩
  have HG2 := hide hg
  clear hg
  go_wp2
  go_ret
  exact ⟨rfl, HGA.out.more HG2.out.below⟩

set_option maxHeartbeats 4000000 in
set_option maxRecDepth 20000 in
theorem Gc.nums3 {W w : World} (h : Gc W w) (ns : List Int) (no : Option Addr) (nc : Nat) (ko : Option Addr) (kl kc : Nat) (nm : ByteArray) (hr : RdI w (.slice no ns.length nc) ns) (hl : ns.length ≤ 1000000) :
    Calls Tryd.prog 48 #[ndV 3 no ns.length nc ko kl kc nm] w fun e w' => e = .returned (.bool (ns.all (endB 31))) ∧ Gc W w' := by
  have HG := hide h
  have HR := hide hr
  clear h hr
  unfold ndV
  go_enter Tryd.func48, Tryd.ntmps48
  go_wp2
  obtain ⟨wA, hwA⟩ : ∃ wA, wA = w.alloc (.cells #[.int .i64 3, .slice no ns.length nc, .slice ko kl kc, .string nm] 31) := ⟨_, rfl⟩
  have hbx : NBox wA w.heap.size 3 no ns.length nc ko kl kc nm := by rw [hwA]; exact NBox.new _ _ _ _ _ _ _ _ _
  have HGA : Hid (Gc W wA) := by rw [hwA]; exact HG.out.alloc _
  have HRA : Hid (RdI wA (.slice no ns.length nc) ns) := by rw [hwA]; exact HR.out.below ((Below.refl _ _).alloc (Nat.le_refl _) _)
  rw [← hwA]
  clear hwA
  generalize w.heap.size = p1 at *
  have KP : Hid (∀ w', Gc wA w' → w'.cell? ⟨p1, 1, none⟩ = some (.slice no ns.length nc)) := fun w' hw => (hbx.below hw.below).c1
  have cb1 := hbx.c1
  have hg0 : Gc wA wA.drew := HGA.out.here.drew
  go_region_held3 (fun w' => w'.cell? ⟨p1, 1, none⟩ = some (.slice no ns.length nc)) (first | go_keep | (exact KP.out _ (by assumption)) | (exact KP.out _ (Gc.alloc (by assumption) _)))
    (first
      | (go_at_call 61; refine (Gc.fromEnd2 (W := wA) (by assumption) 31 (by decide) (by decide)).mono ?_; rintro e w' ⟨p, rfl, HF, hgA⟩)
      | (go_at_call 59; refine (Gc.all_end (W := wA) (by assumption) ns _ (by exact HRA.out.below (Gc.below (W := wA) (by assumption))) hl _ (endB 31) (by exact HF.out _ (Below.refl _ _))).mono ?_; rintro e w' ⟨rfl, hgB⟩))
  all_goals go_wp2
  go_ret
  exact ⟨rfl, HGA.out.more (Gc.below (W := wA) (by assumption))⟩

set_option maxHeartbeats 4000000 in
set_option maxRecDepth 20000 in
theorem Gc.nums5 {W w : World} (h : Gc W w) (ns : List Int) (no : Option Addr) (nc : Nat) (ko : Option Addr) (kl kc : Nat) (nm : ByteArray) (hr : RdI w (.slice no ns.length nc) ns) (hl : ns.length ≤ 1000000) :
    Calls Tryd.prog 48 #[ndV 5 no ns.length nc ko kl kc nm] w fun e w' => e = .returned (.bool (ns.all (endB 31))) ∧ Gc W w' := by
  have HG := hide h
  have HR := hide hr
  clear h hr
  unfold ndV
  go_enter Tryd.func48, Tryd.ntmps48
  go_wp2
  obtain ⟨wA, hwA⟩ : ∃ wA, wA = w.alloc (.cells #[.int .i64 5, .slice no ns.length nc, .slice ko kl kc, .string nm] 31) := ⟨_, rfl⟩
  have hbx : NBox wA w.heap.size 5 no ns.length nc ko kl kc nm := by rw [hwA]; exact NBox.new _ _ _ _ _ _ _ _ _
  have HGA : Hid (Gc W wA) := by rw [hwA]; exact HG.out.alloc _
  have HRA : Hid (RdI wA (.slice no ns.length nc) ns) := by rw [hwA]; exact HR.out.below ((Below.refl _ _).alloc (Nat.le_refl _) _)
  rw [← hwA]
  clear hwA
  generalize w.heap.size = p1 at *
  have KP : Hid (∀ w', Gc wA w' → w'.cell? ⟨p1, 1, none⟩ = some (.slice no ns.length nc)) := fun w' hw => (hbx.below hw.below).c1
  have cb1 := hbx.c1
  have hg0 : Gc wA wA.drew := HGA.out.here.drew
  go_region_held3 (fun w' => w'.cell? ⟨p1, 1, none⟩ = some (.slice no ns.length nc)) (first | go_keep | (exact KP.out _ (by assumption)) | (exact KP.out _ (Gc.alloc (by assumption) _)))
    (first
      | (go_at_call 61; refine (Gc.fromEnd2 (W := wA) (by assumption) 31 (by decide) (by decide)).mono ?_; rintro e w' ⟨p, rfl, HF, hgA⟩)
      | (go_at_call 59; refine (Gc.all_end (W := wA) (by assumption) ns _ (by exact HRA.out.below (Gc.below (W := wA) (by assumption))) hl _ (endB 31) (by exact HF.out _ (Below.refl _ _))).mono ?_; rintro e w' ⟨rfl, hgB⟩))
  all_goals go_wp2
  go_ret
  exact ⟨rfl, HGA.out.more (Gc.below (W := wA) (by assumption))⟩

set_option maxHeartbeats 4000000 in
set_option maxRecDepth 20000 in
theorem Gc.nums4 {W w : World} (h : Gc W w) (x0 x1 : Int) (no : Option Addr) (nc : Nat) (ko : Option Addr) (kl kc : Nat) (nm : ByteArray) (hr : RdI w (.slice no 2 nc) [x0, x1]) :
    Calls Tryd.prog 48 #[ndV 4 no 2 nc ko kl kc nm] w fun e w' => e = .returned (.bool (betB 0 6 x0 && endB 5 x1)) ∧ Gc W w' := by
  have HG := hide h
  have HR := hide hr
  clear h hr
  unfold ndV
  go_enter Tryd.func48, Tryd.ntmps48
  go_wp2
  obtain ⟨wA, hwA⟩ : ∃ wA, wA = w.alloc (.cells #[.int .i64 4, .slice no 2 nc, .slice ko kl kc, .string nm] 31) := ⟨_, rfl⟩
  have hbx : NBox wA w.heap.size 4 no 2 nc ko kl kc nm := by rw [hwA]; exact NBox.new _ _ _ _ _ _ _ _ _
  have HGA : Hid (Gc W wA) := by rw [hwA]; exact HG.out.alloc _
  have HRA : Hid (RdI wA (.slice no 2 nc) [x0, x1]) := by rw [hwA]; exact HR.out.below ((Below.refl _ _).alloc (Nat.le_refl _) _)
  rw [← hwA]
  clear hwA
  generalize w.heap.size = p1 at *
  have KP : Hid (∀ w', Gc wA w' → w'.cell? ⟨p1, 1, none⟩ = some (.slice no 2 nc)) := fun w' hw => (hbx.below hw.below).c1
  have cb1 := hbx.c1
  have hg0 : Gc wA wA.drew := HGA.out.here.drew
  go_region_held3 (fun w' => w'.cell? ⟨p1, 1, none⟩ = some (.slice no 2 nc)) (first | go_keep | (exact KP.out _ (by assumption)) | (exact KP.out _ (Gc.alloc (by assumption) _)))
    (first
      | (go_at_call 60; refine (Gc.between2 (W := wA) (by assumption) 0 6).mono ?_; rintro e w' ⟨p, q, rfl, HF, hgA⟩)
      | (go_at_call 61; refine (Gc.fromEnd2 (W := w') hgA.here 5 (by decide) (by decide)).mono ?_; rintro e w'' ⟨p2, rfl, HF2, hgB⟩; have hgC := hgA.more hgB.below)
      | (go_at_call 62; refine (Gc.each_nth (W := wA) (by exact Gc.alloc hgC _) x0 x1 _ (by exact (HRA.out.below hgC.below).below ((Below.refl _ _).alloc (Nat.le_refl _) _)) _ p q p2 (betB 0 6) (endB 5) (by rw [cell_of (heap_alloc_new w'' _)]; rfl) (by rw [cell_of (heap_alloc_new w'' _)]; rfl) (by exact HF.out _ (hgB.below.trans (((Below.refl _ _).alloc (Nat.le_refl _) _).mono hgB.below.size))) (by exact HF2.out _ ((Below.refl _ _).alloc (Nat.le_refl _) _))).mono ?_; rintro e w3 ⟨rfl, hgD⟩))
  all_goals go_wp2
  go_ret
  exact ⟨rfl, HGA.out.more (Gc.below (W := wA) (by assumption))⟩

theorem rdi_three (w : World) (a b c : Int) (t : TypeId) : RdI (w.alloc (.cells #[.int .i64 a, .int .i64 b, .int .i64 c] t)) (.slice (some ⟨w.heap.size, 0, none⟩) 3 3) [a, b, c] := by
  refine ⟨_, 3, rfl, Nat.le_refl _, fun h => (by cases h), fun ad ha j u hu => ?_⟩
  obtain rfl : (⟨w.heap.size, 0, none⟩ : Addr) = ad := Option.some.inj ha
  rw [add_mk, World.cell?_alloc_mark]
  match j, hu with
  | 0, hu => simp at hu; subst hu; rfl
  | 1, hu => simp at hu; subst hu; rfl
  | 2, hu => simp at hu; subst hu; rfl

set_option maxHeartbeats 4000000 in
set_option maxRecDepth 20000 in
theorem Gc.nums6 {W w : World} (h : Gc W w) (x0 x1 : Int) (no : Option Addr) (nc : Nat) (ko : Option Addr) (kl kc : Nat) (nm : ByteArray) (hr : RdI w (.slice no 2 nc) [x0, x1]) :
    Calls Tryd.prog 48 #[ndV 6 no 2 nc ko kl kc nm] w fun e w' => e = .returned (.bool (oneB [445, 454, 544] x0 && betB 1 12 x1)) ∧ Gc W w' := by
  have HG := hide h
  have HR := hide hr
  clear h hr
  unfold ndV
  go_enter Tryd.func48, Tryd.ntmps48
  go_wp2
  obtain ⟨wA, hwA⟩ : ∃ wA, wA = w.alloc (.cells #[.int .i64 6, .slice no 2 nc, .slice ko kl kc, .string nm] 31) := ⟨_, rfl⟩
  have hbx : NBox wA w.heap.size 6 no 2 nc ko kl kc nm := by rw [hwA]; exact NBox.new _ _ _ _ _ _ _ _ _
  have HGA : Hid (Gc W wA) := by rw [hwA]; exact HG.out.alloc _
  have HRA : Hid (RdI wA (.slice no 2 nc) [x0, x1]) := by rw [hwA]; exact HR.out.below ((Below.refl _ _).alloc (Nat.le_refl _) _)
  rw [← hwA]
  clear hwA
  generalize w.heap.size = p1 at *
  have KP : Hid (∀ w', Gc wA w' → w'.cell? ⟨p1, 1, none⟩ = some (.slice no 2 nc)) := fun w' hw => (hbx.below hw.below).c1
  have cb1 := hbx.c1
  have hg0 : Gc wA wA.drew := HGA.out.here.drew
  go_region_held3 (fun w' => w'.cell? ⟨p1, 1, none⟩ = some (.slice no 2 nc)) (first | go_keep | (exact KP.out _ (by assumption)) | (exact KP.out _ (Gc.alloc (by assumption) _)))
    (first
      | (go_at_call 63; refine (Gc.oneOf2 (W := wA) (by exact Gc.alloc hg0 _) _ _ _ [445, 454, 544] (by exact rdi_three _ _ _ _ _) (by decide)).mono ?_; rintro e w' ⟨p, rfl, HF, hgA⟩)
      | (go_at_call 60; refine (Gc.between2 (W := w') hgA.here 1 12).mono ?_; rintro e w'' ⟨p2, q2, rfl, HF2, hgB⟩; have hgC := hgA.more hgB.below)
      | (go_at_call 62; refine (Gc.each_fis (W := wA) (by exact Gc.alloc hgC _) x0 x1 _ (by exact (HRA.out.below hgC.below).below ((Below.refl _ _).alloc (Nat.le_refl _) _)) _ p p2 q2 (oneB [445, 454, 544]) (betB 1 12) (by rw [cell_of (heap_alloc_new w'' _)]; rfl) (by rw [cell_of (heap_alloc_new w'' _)]; rfl) (by exact HF.out _ (hgB.below.trans (((Below.refl _ _).alloc (Nat.le_refl _) _).mono hgB.below.size))) (by exact HF2.out _ ((Below.refl _ _).alloc (Nat.le_refl _) _))).mono ?_; rintro e w3 ⟨rfl, hgD⟩))
  all_goals go_wp2
  go_ret
  exact ⟨rfl, HGA.out.more (Gc.below (W := wA) (by assumption))⟩
end Go.Proofs.YthbfjkdklnffjaaDoor
