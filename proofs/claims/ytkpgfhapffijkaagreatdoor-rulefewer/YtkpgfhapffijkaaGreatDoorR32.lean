/- Package cal: numbersCanBe. -/
import Derived.Test.YtkpgfhapffijkaaGreatDoorR11
import Derived.Test.YtkpgfhapffijkaaGreatDoorR31
namespace Go.Proofs.YtkpgfhapffijkaaGreatDoor
open Go.ChangeShapes Go.WideShapes Go.ChangeAt Go.RowKit Go.DsMem Go.DsMk
set_option linter.unusedVariables false
theorem Gc.between2 {W w : World} (h : Gc W w) (a b : Int) :
    Calls Tryz.prog 205 #[.int .i64 a, .int .i64 b] w fun e w' => ∃ p q : Nat, e = .returned (.func (.func 222) #[] #[.pointer (some ⟨p, 0, none⟩), .pointer (some ⟨q, 0, none⟩)]) ∧
      Hid (∀ w1, Below w'.heap.size w' w1 → ∀ k w2, Gc w1 w2 → Calls Tryz.prog 222 #[.int .i64 k, .pointer (some ⟨p, 0, none⟩), .pointer (some ⟨q, 0, none⟩)] w2 fun e w3 => e = .returned (.bool (betB a b k)) ∧ Gc w1 w3) ∧ Gc W w' :=
  (Gc.between h a b).mono fun e w' ⟨p, q, he, ⟨h1, h2⟩, hg⟩ => ⟨p, q, he, fun w1 hb k w2 g2 => by
    have c1 := Below.keeps g2.below (Nat.le_refl _) (Below.keeps hb (Nat.le_refl _) h1)
    have c2 := Below.keeps g2.below (Nat.le_refl _) (Below.keeps hb (Nat.le_refl _) h2)
    exact (betF a b k p q w2 c1 c2).mono fun e w3 ⟨he, hw⟩ => ⟨he, by rw [hw]; exact g2⟩, h.more hg.below⟩
theorem Gc.fromEnd2 {W w : World} (h : Gc W w) (a : Int) (ha0 : 0 ≤ a) (ha : a ≤ 100) :
    Calls Tryz.prog 206 #[.int .i64 a] w fun e w' => ∃ p : Nat, e = .returned (.func (.func 223) #[] #[.pointer (some ⟨p, 0, none⟩)]) ∧
      Hid (∀ w1, Below w'.heap.size w' w1 → ∀ k w2, Gc w1 w2 → Calls Tryz.prog 223 #[.int .i64 k, .pointer (some ⟨p, 0, none⟩)] w2 fun e w3 => e = .returned (.bool (endB a k)) ∧ Gc w1 w3) ∧ Gc W w' :=
  (Gc.fromEnd h a).mono fun e w' ⟨p, he, h1, hg⟩ => ⟨p, he, fun w1 hb k w2 g2 => by
    have c1 := Below.keeps g2.below (Nat.le_refl _) (Below.keeps hb (Nat.le_refl _) h1)
    exact (endF a k p w2 ha0 ha c1).mono fun e w3 ⟨he, hw⟩ => ⟨he, by rw [hw]; exact g2⟩, h.more hg.below⟩
theorem Gc.oneOf2 {W w : World} (h : Gc W w) (ao : Option Addr) (n cap : Nat) (l : List Int) (hr : RdI w (.slice ao n cap) l) (hl : l.length ≤ 1000000) :
    Calls Tryz.prog 208 #[.slice ao n cap] w fun e w' => ∃ p : Nat, e = .returned (.func (.func 224) #[] #[.pointer (some ⟨p, 0, none⟩)]) ∧
      Hid (∀ w1, Below w'.heap.size w' w1 → ∀ k w2, Gc w1 w2 → Calls Tryz.prog 224 #[.int .i64 k, .pointer (some ⟨p, 0, none⟩)] w2 fun e w3 => e = .returned (.bool (oneB l k)) ∧ Gc w1 w3) ∧ Gc W w' :=
  (Gc.oneOf h ao n cap).mono fun e w' ⟨p, he, h1, hg⟩ => ⟨p, he, fun w1 hb k w2 g2 => by
    have c1 := Below.keeps g2.below (Nat.le_refl _) (Below.keeps hb (Nat.le_refl _) h1)
    have hr2 := ((hr.below hg.below).below hb).below g2.below
    exact (oneF l k p _ w2 c1 hr2 hl).mono fun e w3 ⟨he, hw⟩ => ⟨he, by rw [hw]; exact g2⟩, h.more hg.below⟩
/-- whether the numbers of a node that has its operation's shape can be -/
def numsB (op : Int) (ns : List Int) : Bool :=
  if op = 1 then ns.all (betB 0 127) else if op = 2 then ns.all DsCal.rightB else if op = 3 ∨ op = 5 then ns.all (endB 31)
  else if op = 4 then (betB 0 6 (ns.getD 0 0) && endB 5 (ns.getD 1 0)) else if op = 6 then (oneB [445, 454, 544] (ns.getD 0 0) && betB 1 12 (ns.getD 1 0)) else true
/-- what a node's box gives -/
structure NBox (w : World) (p : Nat) (op : Int) (no : Option Addr) (nl nc : Nat) (ko : Option Addr) (kl kc : Nat) (nm : ByteArray) : Prop where
  c0 : w.cell? ⟨p, 0, none⟩ = some (.int .i64 op)
  c1 : w.cell? ⟨p, 1, none⟩ = some (.slice no nl nc)
  c2 : w.cell? ⟨p, 2, none⟩ = some (.slice ko kl kc)
  c3 : w.cell? ⟨p, 3, none⟩ = some (.string nm)
theorem NBox.below {w w' : World} {p : Nat} {op : Int} {no : Option Addr} {nl nc : Nat} {ko : Option Addr} {kl kc : Nat} {nm : ByteArray} (h : NBox w p op no nl nc ko kl kc nm) (hb : Below w.heap.size w w') : NBox w' p op no nl nc ko kl kc nm :=
  ⟨Below.keeps hb (Nat.le_refl _) h.c0, Below.keeps hb (Nat.le_refl _) h.c1, Below.keeps hb (Nat.le_refl _) h.c2, Below.keeps hb (Nat.le_refl _) h.c3⟩
theorem NBox.new (w : World) (op : Int) (no : Option Addr) (nl nc : Nat) (ko : Option Addr) (kl kc : Nat) (nm : ByteArray) : NBox (w.alloc (.cells #[.int .i64 op, .slice no nl nc, .slice ko kl kc, .string nm] 49)) w.heap.size op no nl nc ko kl kc nm := by
  have h := heap_alloc_new w (.cells #[.int .i64 op, .slice no nl nc, .slice ko kl kc, .string nm] 49)
  exact ⟨by rw [cell_of h]; rfl, by rw [cell_of h]; rfl, by rw [cell_of h]; rfl, by rw [cell_of h]; rfl⟩
set_option maxHeartbeats 4000000 in
set_option maxRecDepth 20000 in
theorem Gc.nums1 {W w : World} (h : Gc W w) (ns : List Int) (no : Option Addr) (nc : Nat) (ko : Option Addr) (kl kc : Nat) (nm : ByteArray) (hr : RdI w (.slice no ns.length nc) ns) (hl : ns.length ≤ 1000000) :
    Calls Tryz.prog 178 #[ndV 1 no ns.length nc ko kl kc nm] w fun e w' => e = .returned (.bool (ns.all (betB 0 127))) ∧ Gc W w' := by
  have HG := hide h
  have HR := hide hr
  clear h hr
  unfold ndV
  go_enter Tryz.func178, Tryz.ntmps178
  go_wp2
  obtain ⟨wA, hwA⟩ : ∃ wA, wA = w.alloc (.cells #[.int .i64 1, .slice no ns.length nc, .slice ko kl kc, .string nm] 49) := ⟨_, rfl⟩
  have hbx : NBox wA w.heap.size 1 no ns.length nc ko kl kc nm := by rw [hwA]; exact NBox.new _ _ _ _ _ _ _ _ _
  have HGA : Hid (Gc W wA) := by rw [hwA]; exact HG.out.alloc _
  have HRA : Hid (RdI wA (.slice no ns.length nc) ns) := by rw [hwA]; exact HR.out.below ((Below.refl _ _).alloc (Nat.le_refl _) _)
  rw [← hwA]
  clear hwA
  generalize w.heap.size = p1 at *
  have KP : Hid (∀ w', Gc wA w' → w'.cell? ⟨p1, 1, none⟩ = some (.slice no ns.length nc)) := fun w' hw => (hbx.below hw.below).c1
  have cb1 := hbx.c1
  have hg0 : Gc wA wA.drew := HGA.out.here.drew
  go_region_held3 (fun w' => w'.cell? ⟨p1, 1, none⟩ = some (.slice no ns.length nc)) (first | go_keep | (exact KP.out _ (by assumption)))
    (first
      | (go_at_call 205; refine (Gc.between2 (W := wA) (by assumption) 0 127).mono ?_; rintro e w' ⟨p, q, rfl, HF, hgA⟩)
      | (go_at_call 204; refine (Gc.all_bet (W := wA) (by assumption) ns _ (by exact HRA.out.below (Gc.below (W := wA) (by assumption))) hl _ _ (betB 0 127) (by exact HF.out _ (Below.refl _ _))).mono ?_; rintro e w' ⟨rfl, hgB⟩))
  all_goals go_wp2
  go_ret
  exact ⟨rfl, HGA.out.more (Gc.below (W := wA) (by assumption))⟩
end Go.Proofs.YtkpgfhapffijkaaGreatDoor

/- Package cal: numbersCanBe, operation by operation (written by gen_ccc.py). -/
namespace Go.Proofs.YtkpgfhapffijkaaGreatDoor
open Go.ChangeShapes Go.WideShapes Go.ChangeAt Go.RowKit Go.DsMem Go.DsMk
set_option linter.unusedVariables false
set_option maxHeartbeats 4000000 in
set_option maxRecDepth 20000 in
theorem Gc.nums2 {W w : World} (h : Gc W w) (ns : List Int) (no : Option Addr) (nc : Nat) (ko : Option Addr) (kl kc : Nat) (nm : ByteArray) (hr : RdI w (.slice no ns.length nc) ns) (hl : ns.length ≤ 1000000) :
    Calls Tryz.prog 178 #[ndV 2 no ns.length nc ko kl kc nm] w fun e w' => e = .returned (.bool (ns.all DsCal.rightB)) ∧ Gc W w' := by
  have HG := hide h
  have HR := hide hr
  clear h hr
  unfold ndV
  go_enter Tryz.func178, Tryz.ntmps178
  go_wp2_with fail
  obtain ⟨wA, hwA⟩ : ∃ wA, wA = w.alloc (.cells #[.int .i64 2, .slice no ns.length nc, .slice ko kl kc, .string nm] 49) := ⟨_, rfl⟩
  have hbx : NBox wA w.heap.size 2 no ns.length nc ko kl kc nm := by rw [hwA]; exact NBox.new _ _ _ _ _ _ _ _ _
  have HGA : Hid (Gc W wA) := by rw [hwA]; exact HG.out.alloc _
  have HRA : Hid (RdI wA (.slice no ns.length nc) ns) := by rw [hwA]; exact HR.out.below ((Below.refl _ _).alloc (Nat.le_refl _) _)
  rw [← hwA]
  clear hwA
  generalize w.heap.size = p1 at *
  have KP : Hid (∀ w', Gc wA w' → w'.cell? ⟨p1, 1, none⟩ = some (.slice no ns.length nc)) := fun w' hw => (hbx.below hw.below).c1
  have cb1 := hbx.c1
  refine (Gc.all_right (W := wA) HGA.out.here ns _ HRA.out hl DsCal.rightB (fun k w' g => (Dt.right_any k w').mono fun e w3 ⟨he, hw⟩ => ⟨he, by rw [hw]; exact g⟩)).mono ?_
  rintro e w2 ⟨rfl, hg⟩
  have HG2 := hide hg
  clear hg
  go_wp2
  go_ret
  exact ⟨rfl, HGA.out.more HG2.out.below⟩
set_option maxHeartbeats 4000000 in
set_option maxRecDepth 20000 in
theorem Gc.nums3 {W w : World} (h : Gc W w) (ns : List Int) (no : Option Addr) (nc : Nat) (ko : Option Addr) (kl kc : Nat) (nm : ByteArray) (hr : RdI w (.slice no ns.length nc) ns) (hl : ns.length ≤ 1000000) :
    Calls Tryz.prog 178 #[ndV 3 no ns.length nc ko kl kc nm] w fun e w' => e = .returned (.bool (ns.all (endB 31))) ∧ Gc W w' := by
  have HG := hide h
  have HR := hide hr
  clear h hr
  unfold ndV
  go_enter Tryz.func178, Tryz.ntmps178
  go_wp2
  obtain ⟨wA, hwA⟩ : ∃ wA, wA = w.alloc (.cells #[.int .i64 3, .slice no ns.length nc, .slice ko kl kc, .string nm] 49) := ⟨_, rfl⟩
  have hbx : NBox wA w.heap.size 3 no ns.length nc ko kl kc nm := by rw [hwA]; exact NBox.new _ _ _ _ _ _ _ _ _
  have HGA : Hid (Gc W wA) := by rw [hwA]; exact HG.out.alloc _
  have HRA : Hid (RdI wA (.slice no ns.length nc) ns) := by rw [hwA]; exact HR.out.below ((Below.refl _ _).alloc (Nat.le_refl _) _)
  rw [← hwA]
  clear hwA
  generalize w.heap.size = p1 at *
  have KP : Hid (∀ w', Gc wA w' → w'.cell? ⟨p1, 1, none⟩ = some (.slice no ns.length nc)) := fun w' hw => (hbx.below hw.below).c1
  have cb1 := hbx.c1
  have hg0 : Gc wA wA.drew := HGA.out.here.drew
  go_region_held3 (fun w' => w'.cell? ⟨p1, 1, none⟩ = some (.slice no ns.length nc)) (first | go_keep | (exact KP.out _ (by assumption)) | (exact KP.out _ (Gc.alloc (by assumption) _)))
    (first
      | (go_at_call 206; refine (Gc.fromEnd2 (W := wA) (by assumption) 31 (by decide) (by decide)).mono ?_; rintro e w' ⟨p, rfl, HF, hgA⟩)
      | (go_at_call 204; refine (Gc.all_end (W := wA) (by assumption) ns _ (by exact HRA.out.below (Gc.below (W := wA) (by assumption))) hl _ (endB 31) (by exact HF.out _ (Below.refl _ _))).mono ?_; rintro e w' ⟨rfl, hgB⟩))
  all_goals go_wp2
  go_ret
  exact ⟨rfl, HGA.out.more (Gc.below (W := wA) (by assumption))⟩
set_option maxHeartbeats 4000000 in
set_option maxRecDepth 20000 in
theorem Gc.nums5 {W w : World} (h : Gc W w) (ns : List Int) (no : Option Addr) (nc : Nat) (ko : Option Addr) (kl kc : Nat) (nm : ByteArray) (hr : RdI w (.slice no ns.length nc) ns) (hl : ns.length ≤ 1000000) :
    Calls Tryz.prog 178 #[ndV 5 no ns.length nc ko kl kc nm] w fun e w' => e = .returned (.bool (ns.all (endB 31))) ∧ Gc W w' := by
  have HG := hide h
  have HR := hide hr
  clear h hr
  unfold ndV
  go_enter Tryz.func178, Tryz.ntmps178
  go_wp2
  obtain ⟨wA, hwA⟩ : ∃ wA, wA = w.alloc (.cells #[.int .i64 5, .slice no ns.length nc, .slice ko kl kc, .string nm] 49) := ⟨_, rfl⟩
  have hbx : NBox wA w.heap.size 5 no ns.length nc ko kl kc nm := by rw [hwA]; exact NBox.new _ _ _ _ _ _ _ _ _
  have HGA : Hid (Gc W wA) := by rw [hwA]; exact HG.out.alloc _
  have HRA : Hid (RdI wA (.slice no ns.length nc) ns) := by rw [hwA]; exact HR.out.below ((Below.refl _ _).alloc (Nat.le_refl _) _)
  rw [← hwA]
  clear hwA
  generalize w.heap.size = p1 at *
  have KP : Hid (∀ w', Gc wA w' → w'.cell? ⟨p1, 1, none⟩ = some (.slice no ns.length nc)) := fun w' hw => (hbx.below hw.below).c1
  have cb1 := hbx.c1
  have hg0 : Gc wA wA.drew := HGA.out.here.drew
  go_region_held3 (fun w' => w'.cell? ⟨p1, 1, none⟩ = some (.slice no ns.length nc)) (first | go_keep | (exact KP.out _ (by assumption)) | (exact KP.out _ (Gc.alloc (by assumption) _)))
    (first
      | (go_at_call 206; refine (Gc.fromEnd2 (W := wA) (by assumption) 31 (by decide) (by decide)).mono ?_; rintro e w' ⟨p, rfl, HF, hgA⟩)
      | (go_at_call 204; refine (Gc.all_end (W := wA) (by assumption) ns _ (by exact HRA.out.below (Gc.below (W := wA) (by assumption))) hl _ (endB 31) (by exact HF.out _ (Below.refl _ _))).mono ?_; rintro e w' ⟨rfl, hgB⟩))
  all_goals go_wp2
  go_ret
  exact ⟨rfl, HGA.out.more (Gc.below (W := wA) (by assumption))⟩
set_option maxHeartbeats 4000000 in
set_option maxRecDepth 20000 in
theorem Gc.nums4 {W w : World} (h : Gc W w) (x0 x1 : Int) (no : Option Addr) (nc : Nat) (ko : Option Addr) (kl kc : Nat) (nm : ByteArray) (hr : RdI w (.slice no 2 nc) [x0, x1]) :
    Calls Tryz.prog 178 #[ndV 4 no 2 nc ko kl kc nm] w fun e w' => e = .returned (.bool (betB 0 6 x0 && endB 5 x1)) ∧ Gc W w' := by
  have HG := hide h
  have HR := hide hr
  clear h hr
  unfold ndV
  go_enter Tryz.func178, Tryz.ntmps178
  go_wp2
  obtain ⟨wA, hwA⟩ : ∃ wA, wA = w.alloc (.cells #[.int .i64 4, .slice no 2 nc, .slice ko kl kc, .string nm] 49) := ⟨_, rfl⟩
  have hbx : NBox wA w.heap.size 4 no 2 nc ko kl kc nm := by rw [hwA]; exact NBox.new _ _ _ _ _ _ _ _ _
  have HGA : Hid (Gc W wA) := by rw [hwA]; exact HG.out.alloc _
  have HRA : Hid (RdI wA (.slice no 2 nc) [x0, x1]) := by rw [hwA]; exact HR.out.below ((Below.refl _ _).alloc (Nat.le_refl _) _)
  rw [← hwA]
  clear hwA
  generalize w.heap.size = p1 at *
  have KP : Hid (∀ w', Gc wA w' → w'.cell? ⟨p1, 1, none⟩ = some (.slice no 2 nc)) := fun w' hw => (hbx.below hw.below).c1
  have cb1 := hbx.c1
  have hg0 : Gc wA wA.drew := HGA.out.here.drew
  go_region_held3 (fun w' => w'.cell? ⟨p1, 1, none⟩ = some (.slice no 2 nc)) (first | go_keep | (exact KP.out _ (by assumption)) | (exact KP.out _ (Gc.alloc (by assumption) _)))
    (first
      | (go_at_call 205; refine (Gc.between2 (W := wA) (by assumption) 0 6).mono ?_; rintro e w' ⟨p, q, rfl, HF, hgA⟩)
      | (go_at_call 206; refine (Gc.fromEnd2 (W := w') hgA.here 5 (by decide) (by decide)).mono ?_; rintro e w'' ⟨p2, rfl, HF2, hgB⟩; have hgC := hgA.more hgB.below)
      | (go_at_call 207; refine (Gc.each_nth (W := wA) (by exact Gc.alloc hgC _) x0 x1 _ (by exact (HRA.out.below hgC.below).below ((Below.refl _ _).alloc (Nat.le_refl _) _)) _ p q p2 (betB 0 6) (endB 5) (by rw [cell_of (heap_alloc_new w'' _)]; rfl) (by rw [cell_of (heap_alloc_new w'' _)]; rfl) (by exact HF.out _ (hgB.below.trans (((Below.refl _ _).alloc (Nat.le_refl _) _).mono hgB.below.size))) (by exact HF2.out _ ((Below.refl _ _).alloc (Nat.le_refl _) _))).mono ?_; rintro e w3 ⟨rfl, hgD⟩))
  all_goals go_wp2
  go_ret
  exact ⟨rfl, HGA.out.more (Gc.below (W := wA) (by assumption))⟩
theorem rdi_three (w : World) (a b c : Int) (t : TypeId) : RdI (w.alloc (.cells #[.int .i64 a, .int .i64 b, .int .i64 c] t)) (.slice (some ⟨w.heap.size, 0, none⟩) 3 3) [a, b, c] := by
  refine ⟨_, 3, rfl, Nat.le_refl _, fun h => (by cases h), fun ad ha j u hu => ?_⟩
  obtain rfl : (⟨w.heap.size, 0, none⟩ : Addr) = ad := Option.some.inj ha
  rw [add_mk, World.cell?_alloc_mark]
  match j, hu with
  | 0, hu => simp at hu; subst hu; rfl
  | 1, hu => simp at hu; subst hu; rfl
  | 2, hu => simp at hu; subst hu; rfl
set_option maxHeartbeats 4000000 in
set_option maxRecDepth 20000 in
theorem Gc.nums6 {W w : World} (h : Gc W w) (x0 x1 : Int) (no : Option Addr) (nc : Nat) (ko : Option Addr) (kl kc : Nat) (nm : ByteArray) (hr : RdI w (.slice no 2 nc) [x0, x1]) :
    Calls Tryz.prog 178 #[ndV 6 no 2 nc ko kl kc nm] w fun e w' => e = .returned (.bool (oneB [445, 454, 544] x0 && betB 1 12 x1)) ∧ Gc W w' := by
  have HG := hide h
  have HR := hide hr
  clear h hr
  unfold ndV
  go_enter Tryz.func178, Tryz.ntmps178
  go_wp2
  obtain ⟨wA, hwA⟩ : ∃ wA, wA = w.alloc (.cells #[.int .i64 6, .slice no 2 nc, .slice ko kl kc, .string nm] 49) := ⟨_, rfl⟩
  have hbx : NBox wA w.heap.size 6 no 2 nc ko kl kc nm := by rw [hwA]; exact NBox.new _ _ _ _ _ _ _ _ _
  have HGA : Hid (Gc W wA) := by rw [hwA]; exact HG.out.alloc _
  have HRA : Hid (RdI wA (.slice no 2 nc) [x0, x1]) := by rw [hwA]; exact HR.out.below ((Below.refl _ _).alloc (Nat.le_refl _) _)
  rw [← hwA]
  clear hwA
  generalize w.heap.size = p1 at *
  have KP : Hid (∀ w', Gc wA w' → w'.cell? ⟨p1, 1, none⟩ = some (.slice no 2 nc)) := fun w' hw => (hbx.below hw.below).c1
  have cb1 := hbx.c1
  have hg0 : Gc wA wA.drew := HGA.out.here.drew
  go_region_held3 (fun w' => w'.cell? ⟨p1, 1, none⟩ = some (.slice no 2 nc)) (first | go_keep | (exact KP.out _ (by assumption)) | (exact KP.out _ (Gc.alloc (by assumption) _)))
    (first
      | (go_at_call 208; refine (Gc.oneOf2 (W := wA) (by exact Gc.alloc hg0 _) _ _ _ [445, 454, 544] (by exact rdi_three _ _ _ _ _) (by decide)).mono ?_; rintro e w' ⟨p, rfl, HF, hgA⟩)
      | (go_at_call 205; refine (Gc.between2 (W := w') hgA.here 1 12).mono ?_; rintro e w'' ⟨p2, q2, rfl, HF2, hgB⟩; have hgC := hgA.more hgB.below)
      | (go_at_call 207; refine (Gc.each_fis (W := wA) (by exact Gc.alloc hgC _) x0 x1 _ (by exact (HRA.out.below hgC.below).below ((Below.refl _ _).alloc (Nat.le_refl _) _)) _ p p2 q2 (oneB [445, 454, 544]) (betB 1 12) (by rw [cell_of (heap_alloc_new w'' _)]; rfl) (by rw [cell_of (heap_alloc_new w'' _)]; rfl) (by exact HF.out _ (hgB.below.trans (((Below.refl _ _).alloc (Nat.le_refl _) _).mono hgB.below.size))) (by exact HF2.out _ ((Below.refl _ _).alloc (Nat.le_refl _) _))).mono ?_; rintro e w3 ⟨rfl, hgD⟩))
  all_goals go_wp2
  go_ret
  exact ⟨rfl, HGA.out.more (Gc.below (W := wA) (by assumption))⟩
end Go.Proofs.YtkpgfhapffijkaaGreatDoor

/- Package cal: numbersCanBe joined; hasShape. -/
namespace Go.Proofs.YtkpgfhapffijkaaGreatDoor
open Go.ChangeShapes Go.WideShapes Go.ChangeAt Go.RowKit Go.DsMem Go.DsMk
set_option linter.unusedVariables false
set_option maxHeartbeats 1000000 in
theorem Gc.numsE {W w : World} (h : Gc W w) (op : Int) (no : Option Addr) (nl nc : Nat) (ko : Option Addr) (kl kc : Nat) (nm : ByteArray) (h1 : op ≠ 1) (h2 : op ≠ 2) (h3 : op ≠ 3) (h4 : op ≠ 4) (h5 : op ≠ 5) (h6 : op ≠ 6) :
    Calls Tryz.prog 178 #[ndV op no nl nc ko kl kc nm] w fun e w' => e = .returned (.bool true) ∧ Gc W w' := by
  have HG := hide h
  have b1 : (op == 1) = false := by simpa using h1
  have b2 : (op == 2) = false := by simpa using h2
  have b3 : (op == 3) = false := by simpa using h3
  have b4 : (op == 4) = false := by simpa using h4
  have b5 : (op == 5) = false := by simpa using h5
  have b6 : (op == 6) = false := by simpa using h6
  clear h h1 h2 h3 h4 h5 h6
  unfold ndV
  go_enter Tryz.func178, Tryz.ntmps178
  go_wp2
  go_ret
  exact ⟨rfl, HG.out.alloc _⟩
/-- cal.numbersCanBe -/
theorem Gc.numbers {W w : World} (h : Gc W w) (op : Int) (ns : List Int) (no : Option Addr) (nc : Nat) (ko : Option Addr) (kl kc : Nat) (nm : ByteArray) (hr : RdI w (.slice no ns.length nc) ns) (hl : ns.length ≤ 1000000) (h2 : op = 4 ∨ op = 6 → ns.length = 2) :
    Calls Tryz.prog 178 #[ndV op no ns.length nc ko kl kc nm] w fun e w' => e = .returned (.bool (numsB op ns)) ∧ Gc W w' := by
  unfold numsB
  by_cases c1 : op = 1
  · subst c1; rw [if_pos rfl]; exact h.nums1 ns no nc ko kl kc nm hr hl
  rw [if_neg c1]
  by_cases c2 : op = 2
  · subst c2; rw [if_pos rfl]; exact h.nums2 ns no nc ko kl kc nm hr hl
  rw [if_neg c2]
  by_cases c3 : op = 3
  · subst c3; rw [if_pos (.inl rfl)]; exact h.nums3 ns no nc ko kl kc nm hr hl
  by_cases c5 : op = 5
  · subst c5; rw [if_pos (.inr rfl)]; exact h.nums5 ns no nc ko kl kc nm hr hl
  rw [if_neg (by omega)]
  by_cases c4 : op = 4
  · subst c4
    match ns, h2 (.inl rfl) with
    | [x0, x1], _ => rw [if_pos rfl]; exact h.nums4 x0 x1 no nc ko kl kc nm hr
  rw [if_neg c4]
  by_cases c6 : op = 6
  · subst c6
    match ns, h2 (.inr rfl) with
    | [x0, x1], _ => rw [if_pos rfl]; exact h.nums6 x0 x1 no nc ko kl kc nm hr
  rw [if_neg c6]
  exact h.numsE op no ns.length nc ko kl kc nm c1 c2 c3 c4 c5 c6
/-- how many numbers and kids a node has at least and at most, and whether it has a name -/
def shpN (op : Int) : Int × Int × Int × Int × Bool :=
  if op = 1 then (1, 1, 0, 0, false) else if op = 2 then (0, 64, 0, 0, false) else if op = 3 then (0, 64, 0, 0, false) else if op = 4 then (2, 2, 0, 0, false)
  else if op = 5 then (1, 1, 0, 0, true) else if op = 6 then (2, 2, 0, 0, false) else if op = 7 then (0, 0, 1, 8, false) else if op = 8 then (0, 0, 1, 8, false)
  else if op = 9 then (0, 0, 1, 1, false) else if op = 10 then (0, 0, 0, 0, true) else (0, 0, 0, 0, false)
def shapeB (op : Int) (nl kl : Nat) (nm : ByteArray) : Bool :=
  decide (1 ≤ op ∧ op ≤ 10) && (decide ((shpN op).1 ≤ (nl : Int)) && decide ((nl : Int) ≤ (shpN op).2.1) && decide ((shpN op).2.2.1 ≤ (kl : Int)) && decide ((kl : Int) ≤ (shpN op).2.2.2.1) && ((!nm.toList.isEmpty) == (shpN op).2.2.2.2))
theorem tabS_at {w : World} (h : TabS w) (op : Int) (h1 : 1 ≤ op) (h2 : op ≤ 10) : w.cell? ⟨4, op.toNat * 5, none⟩ = some (.int .i64 (shpN op).1) ∧ w.cell? ⟨4, op.toNat * 5 + 1, none⟩ = some (.int .i64 (shpN op).2.1) ∧ w.cell? ⟨4, op.toNat * 5 + 2, none⟩ = some (.int .i64 (shpN op).2.2.1) ∧
    w.cell? ⟨4, op.toNat * 5 + 3, none⟩ = some (.int .i64 (shpN op).2.2.2.1) ∧ w.cell? ⟨4, op.toNat * 5 + 4, none⟩ = some (.bool (shpN op).2.2.2.2) := by
  have hc : op = 1 ∨ op = 2 ∨ op = 3 ∨ op = 4 ∨ op = 5 ∨ op = 6 ∨ op = 7 ∨ op = 8 ∨ op = 9 ∨ op = 10 := by omega
  rcases hc with rfl | rfl | rfl | rfl | rfl | rfl | rfl | rfl | rfl | rfl
  · exact ⟨h 1 0 _ (by decide) rfl, h 1 1 _ (by decide) rfl, h 1 2 _ (by decide) rfl, h 1 3 _ (by decide) rfl, h 1 4 _ (by decide) rfl⟩
  · exact ⟨h 2 0 _ (by decide) rfl, h 2 1 _ (by decide) rfl, h 2 2 _ (by decide) rfl, h 2 3 _ (by decide) rfl, h 2 4 _ (by decide) rfl⟩
  · exact ⟨h 3 0 _ (by decide) rfl, h 3 1 _ (by decide) rfl, h 3 2 _ (by decide) rfl, h 3 3 _ (by decide) rfl, h 3 4 _ (by decide) rfl⟩
  · exact ⟨h 4 0 _ (by decide) rfl, h 4 1 _ (by decide) rfl, h 4 2 _ (by decide) rfl, h 4 3 _ (by decide) rfl, h 4 4 _ (by decide) rfl⟩
  · exact ⟨h 5 0 _ (by decide) rfl, h 5 1 _ (by decide) rfl, h 5 2 _ (by decide) rfl, h 5 3 _ (by decide) rfl, h 5 4 _ (by decide) rfl⟩
  · exact ⟨h 6 0 _ (by decide) rfl, h 6 1 _ (by decide) rfl, h 6 2 _ (by decide) rfl, h 6 3 _ (by decide) rfl, h 6 4 _ (by decide) rfl⟩
  · exact ⟨h 7 0 _ (by decide) rfl, h 7 1 _ (by decide) rfl, h 7 2 _ (by decide) rfl, h 7 3 _ (by decide) rfl, h 7 4 _ (by decide) rfl⟩
  · exact ⟨h 8 0 _ (by decide) rfl, h 8 1 _ (by decide) rfl, h 8 2 _ (by decide) rfl, h 8 3 _ (by decide) rfl, h 8 4 _ (by decide) rfl⟩
  · exact ⟨h 9 0 _ (by decide) rfl, h 9 1 _ (by decide) rfl, h 9 2 _ (by decide) rfl, h 9 3 _ (by decide) rfl, h 9 4 _ (by decide) rfl⟩
  · exact ⟨h 10 0 _ (by decide) rfl, h 10 1 _ (by decide) rfl, h 10 2 _ (by decide) rfl, h 10 3 _ (by decide) rfl, h 10 4 _ (by decide) rfl⟩
set_option maxHeartbeats 4000000 in
set_option maxRecDepth 20000 in
/-- cal.hasShape, of an operation that there is -/
theorem Gc.shape1 {W w : World} (h : Gc W w) (op : Int) (no : Option Addr) (nl nc : Nat) (ko : Option Addr) (kl kc : Nat) (nm : ByteArray) (h1 : 1 ≤ op) (h2 : op ≤ 10) (hnl : nl ≤ 9223372036854775807) (hkl : kl ≤ 9223372036854775807) (s0 s1 s2 s3 : Int) (s4 : Bool) (HS : Hid (shpN op = (s0, s1, s2, s3, s4))) (R : Bool) (HR : Hid (R = (decide (s0 ≤ (nl : Int)) && decide ((nl : Int) ≤ s1) && decide (s2 ≤ (kl : Int)) && decide ((kl : Int) ≤ s3) && ((!nm.toList.isEmpty) == s4)))) :
    Calls Tryz.prog 177 #[ndV op no nl nc ko kl kc nm] w fun e w' => e = .returned (.bool R) ∧ Gc W w' := by
  obtain ⟨t0, t1, t2, t3, t4⟩ := tabS_at (h.alloc (.cells #[.int .i64 op, .slice no nl nc, .slice ko kl kc, .string nm] 49)).shps op h1 h2
  rw [HS.out] at t0 t1 t2 t3 t4
  simp only at t0 t1 t2 t3 t4
  have HG := hide h
  clear h
  unfold ndV
  go_enter Tryz.func177, Tryz.ntmps177
  go_wp2
  go_quiet (fail)
  clear t0 t1 t2 t3 t4
  go_wp2
  all_goals
    go_ret
    refine ⟨ret_bool ?_, ((HG.out.alloc _).alloc _).drewN _⟩
    rw [HR.out]
    first | (simp [*]; done) | (simp [*]; intros; omega)
set_option maxHeartbeats 1000000 in
theorem Gc.shape0 {W w : World} (h : Gc W w) (op : Int) (no : Option Addr) (nl nc : Nat) (ko : Option Addr) (kl kc : Nat) (nm : ByteArray) (ho : op < 1 ∨ 10 < op) :
    Calls Tryz.prog 177 #[ndV op no nl nc ko kl kc nm] w fun e w' => e = .returned (.bool false) ∧ Gc W w' := by
  have HG := hide h
  clear h
  unfold ndV
  by_cases h1 : op < 1
  · go_enter Tryz.func177, Tryz.ntmps177
    go_wp2
    go_ret
    exact ⟨rfl, HG.out.alloc _⟩
  · have h2 : 10 < op := by omega
    clear ho
    go_enter Tryz.func177, Tryz.ntmps177
    go_wp2
    go_ret
    exact ⟨rfl, HG.out.alloc _⟩
/-- cal.hasShape -/
theorem Gc.shape {W w : World} (h : Gc W w) (op : Int) (no : Option Addr) (nl nc : Nat) (ko : Option Addr) (kl kc : Nat) (nm : ByteArray) (hnl : nl ≤ 9223372036854775807) (hkl : kl ≤ 9223372036854775807) :
    Calls Tryz.prog 177 #[ndV op no nl nc ko kl kc nm] w fun e w' => e = .returned (.bool (shapeB op nl kl nm)) ∧ Gc W w' := by
  unfold shapeB
  by_cases ho : 1 ≤ op ∧ op ≤ 10
  · rw [decide_eq_true ho, Bool.true_and]
    exact h.shape1 op no nl nc ko kl kc nm ho.1 ho.2 hnl hkl _ _ _ _ _ rfl _ rfl
  · rw [decide_eq_false ho, Bool.false_and]
    exact h.shape0 op no nl nc ko kl kc nm (by omega)
end Go.Proofs.YtkpgfhapffijkaaGreatDoor

/- Package cal: nodes as trees, where they lie; canBe. -/
namespace Go.Proofs.YtkpgfhapffijkaaGreatDoor
open Go.ChangeShapes Go.WideShapes Go.ChangeAt Go.RowKit Go.DsMem Go.DsMk
set_option linter.unusedVariables false
/-- whether a node can be, at most f nodes deep -/
def canB : Nat → Nd → Bool
  | 0, _ => false
  | f + 1, .mk op ns kids nm => shapeB op ns.length kids.length nm && numsB op ns && kids.all (canB f)
set_option maxHeartbeats 4000000 in
set_option maxRecDepth 20000 in
theorem canBe0 {W w : World} (h : Gc W w) (v : NVal) : Calls Tryz.prog 146 #[v.val, .int .i64 17] w fun e w' => e = .returned (.bool false) ∧ Gc W w' := by
  have HG := hide h
  clear h
  unfold NVal.val ndV
  go_enter Tryz.func146, Tryz.ntmps146
  go_wp2
  go_ret
  exact ⟨rfl, HG.out.alloc _⟩
theorem NBox.all {w : World} {p : Nat} {op : Int} {no : Option Addr} {nl nc : Nat} {ko : Option Addr} {kl kc : Nat} {nm : ByteArray} (h : NBox w p op no nl nc ko kl kc nm) {w' : World} (hb : Below w.heap.size w w') :
    w'.cell? ⟨p, 0, none⟩ = some (.int .i64 op) ∧ w'.cell? ⟨p, 1, none⟩ = some (.slice no nl nc) ∧ w'.cell? ⟨p, 2, none⟩ = some (.slice ko kl kc) ∧ w'.cell? ⟨p, 3, none⟩ = some (.string nm) := by
  have := h.below hb; exact ⟨this.c0, this.c1, this.c2, this.c3⟩
theorem shape_len {op : Int} {nl kl : Nat} {nm : ByteArray} (h : shapeB op nl kl nm = true) : nl ≤ 64 ∧ kl ≤ 8 ∧ (op = 4 ∨ op = 6 → nl = 2) := by
  unfold shapeB at h
  simp only [Bool.and_eq_true, decide_eq_true_eq] at h
  obtain ⟨⟨h1, h2⟩, ⟨⟨⟨h3, h4⟩, h5⟩, h6⟩, _⟩ := h
  have hc : op = 1 ∨ op = 2 ∨ op = 3 ∨ op = 4 ∨ op = 5 ∨ op = 6 ∨ op = 7 ∨ op = 8 ∨ op = 9 ∨ op = 10 := by omega
  rcases hc with rfl | rfl | rfl | rfl | rfl | rfl | rfl | rfl | rfl | rfl <;> simp [shpN] at h3 h4 h5 h6 <;> omega
set_option maxHeartbeats 8000000 in
set_option maxRecDepth 20000 in
theorem canBe_step (f : Nat) (hf : f ≤ 15) (ih : ∀ (t : Nd) (v : NVal) (W w : World), Gc W w → NdAt w v t → Calls Tryz.prog 146 #[v.val, .int .i64 (17 - f)] w fun e w' => e = .returned (.bool (canB f t)) ∧ Gc W w')
    (t : Nd) (v : NVal) (W w : World) (h : Gc W w) (hv : NdAt w v t) : Calls Tryz.prog 146 #[v.val, .int .i64 (17 - (f + 1 : Nat))] w fun e w' => e = .returned (.bool (canB (f + 1) t)) ∧ Gc W w' := by
  have HIH := hide ih
  have HG := hide h
  clear ih h
  obtain ⟨op, ns, kids, nm, no, nc, ko, kc, g, o, K, hn, hnl, hkl, hkc, hko, hcs, hks⟩ := hv
  have HN := hide hn
  have HCS := hide hcs
  have HKS := hide hks
  have HKO := hide hko
  clear hn hcs hks hko
  obtain ⟨dp, hdp⟩ : ∃ dp : Int, (17 : Int) - ((f + 1 : Nat) : Int) = dp := ⟨_, rfl⟩
  have hdp1 : 1 ≤ dp := by omega
  have hdp2 : dp ≤ 16 := by omega
  have HDP : Hid (dp + 1 = 17 - (f : Int)) := by show _ = _; omega
  rw [hdp]
  clear hdp
  obtain ⟨bs, hbs⟩ : ∃ b, shapeB op ns.length kids.length nm = b := ⟨_, rfl⟩
  have HBS := hide hbs
  have HR0 : Hid (canB (f + 1) (.mk op ns kids nm) = (bs && numsB op ns && kids.all (canB f))) := by show _ = _; unfold canB; rw [hbs]
  clear hbs
  unfold NVal.val
  simp only
  unfold ndV
  go_enter Tryz.func146, Tryz.ntmps146
  go_wp2_with fail
  obtain ⟨wA, hwA⟩ : ∃ wA, wA = w.alloc (.cells #[.int .i64 op, .slice no ns.length nc, .slice ko kids.length kc, .string nm] 49) := ⟨_, rfl⟩
  have hbx : NBox wA w.heap.size op no ns.length nc ko kids.length kc nm := by rw [hwA]; exact NBox.new _ _ _ _ _ _ _ _ _
  have HBL : Hid (Below w.heap.size w wA) := by rw [hwA]; exact (Below.refl _ _).alloc (Nat.le_refl _) _
  have HGA : Hid (Gc wA wA) := (HG.out.more HBL.out).here
  rw [← hwA]
  have HBX := hide hbx
  clear hwA hbx
  generalize w.heap.size = p2 at HBX ⊢
  refine (Gc.shape HGA.out op no ns.length nc ko kids.length kc nm (by omega) (by omega)).mono ?_
  rw [HBS.out]
  rintro e w1 ⟨rfl, g1⟩
  have HG1 := hide g1
  obtain ⟨c0, c1, c2, c3⟩ := HBX.out.all g1.below
  clear g1
  cases bs
  · have HR : Hid (canB (f + 1) (.mk op ns kids nm) = false) := by show _ = _; rw [HR0.out]; rfl
    go_wp2
    go_ret
    exact ⟨ret_bool (by rw [HR.out]), (HG.out.more HBL.out).more HG1.out.below⟩
  · obtain ⟨hn64, hk8, hn2⟩ := shape_len HBS.out
    have HN2 := hide hn2
    clear hn2
    obtain ⟨bn, hbn⟩ : ∃ b, numsB op ns = b := ⟨_, rfl⟩
    have HBN := hide hbn
    clear hbn
    go_wp2_with fail
    refine (Gc.numbers HG1.out op ns no nc ko kids.length kc nm ((HN.out.below HBL.out).below HG1.out.below) (by omega) HN2.out).mono ?_
    rw [HBN.out]
    rintro e w2 ⟨rfl, g2⟩
    have HG2 := hide g2
    clear c0 c1 c2 c3
    obtain ⟨c0, c1, c2, c3⟩ := HBX.out.all g2.below
    clear g2
    cases bn
    · have HR : Hid (canB (f + 1) (.mk op ns kids nm) = false) := by show _ = _; rw [HR0.out, HBN.out]; rfl
      go_wp2
      go_ret
      exact ⟨ret_bool (by rw [HR.out]), (HG.out.more HBL.out).more HG2.out.below⟩
    · have HR : Hid (canB (f + 1) (.mk op ns kids nm) = kids.all (canB f)) := by show _ = _; rw [HR0.out, HBN.out]; simp
      go_wp2
      go_loopw [22] (fun t wr => ∃ i : Nat, i ≤ kids.length ∧ t = .int .i64 i ∧ (kids.take i).all (canB f) = true ∧ Gc wA wr) (fun t _ => kids.length - (intOf t).toNat)
      case atStart => exact ⟨0, Nat.zero_le _, rfl, by simp, HG2.out⟩
      case round =>
        obtain ⟨i, hi, rfl, hall, hg⟩ := hrel
        have HA := hide hall
        have HGr := hide hg
        clear hall hg
        by_cases hlt : i < kids.length
        · obtain rfl := HKO.out (by omega)
          have HBW : Hid (∀ a u, w.cell? a = some u → wr.cell? a = some u) := fun a u hc => Below.keeps (HBL.out.trans (HGr.out.below.mono HBL.out.size)) (Nat.le_refl _) hc
          have hin := (HCS.out i hlt).mono HBW.out
          obtain ⟨k0, k1, k2, k3⟩ := hin
          have HM : Hid (kids[i] ∈ kids) := List.getElem_mem hlt
          have HTK : Hid (kids.take (i + 1) = kids.take i ++ [kids[i]]) := List.take_succ_eq_append_getElem hlt
          have HKD := hide ((HKS.out i hlt).mono HBW.out)
          generalize kids[i] = kt at *
          generalize K i = kv at *
          obtain ⟨b, hb⟩ : ∃ b, canB f kt = b := ⟨_, rfl⟩
          have HB := hide hb
          clear hb
          have HCALL := hide (HIH.out kt kv wA (wr.alloc (.cells #[.int .i64 kv.op, .slice kv.no kv.nl kv.nc, .slice kv.ko kv.kl kv.kc, .string kv.nm] 49)) (HGr.out.alloc _) (HKD.out.grew ((Below.refl _ _).alloc (Nat.le_refl _) _)))
          unfold NVal.val ndV at HCALL
          rw [← HDP.out, HB.out] at HCALL
          go_wp2_with fail
          refine HCALL.out.mono ?_
          rintro e w3 ⟨rfl, g3⟩
          have HG3 := hide g3
          clear g3
          cases b
          · have HE : Hid (kids.all (canB f) = false) := by
              show _ = _
              rw [Bool.eq_false_iff]; intro hc
              have := List.all_eq_true.1 hc kt HM.out
              rw [HB.out] at this; cases this
            go_wp2
            go_ret
            exact ⟨ret_bool (by rw [HR.out, HE.out]), (HG.out.more HBL.out).more HG3.out.below⟩
          · have HS : Hid ((kids.take (i + 1)).all (canB f) = true) := by show _ = _; rw [HTK.out, List.all_append, HA.out]; simp [HB.out]
            go_wp2
            go_roundw
            case rel => exact ⟨i + 1, by omega, by go_num, HS.out, HG3.out⟩
            case measure => simp [intOf]; omega
        · have HE : Hid (kids.all (canB f) = true) := by have := HA.out; rwa [List.take_of_length_le (by omega)] at this
          go_wp2
          go_ret
          exact ⟨ret_bool (by rw [HR.out, HE.out]), (HG.out.more HBL.out).more HGr.out.below⟩
/-- cal.canBe -/
theorem canBe_any : ∀ (f : Nat), f ≤ 16 → ∀ (t : Nd) (v : NVal) (W w : World), Gc W w → NdAt w v t → Calls Tryz.prog 146 #[v.val, .int .i64 (17 - f)] w fun e w' => e = .returned (.bool (canB f t)) ∧ Gc W w'
  | 0, _, t, v, W, w, h, _ => by rw [show canB 0 t = false by cases t; rfl]; exact canBe0 h v
  | f + 1, hf, t, v, W, w, h, hv => canBe_step f (by omega) (canBe_any f (by omega)) t v W w h hv
def rightN (t : Nd) : Bool := canB 16 t
set_option maxHeartbeats 1000000 in
/-- cal.Right -/
theorem Gc.right {W w : World} (h : Gc W w) (t : Nd) (v : NVal) (hv : NdAt w v t) : Calls Tryz.prog 123 #[v.val] w fun e w' => e = .returned (.bool (rightN t)) ∧ Gc W w' := by
  have HC := hide (canBe_any 16 (by decide) t v W (w.alloc (.cells #[.int .i64 v.op, .slice v.no v.nl v.nc, .slice v.ko v.kl v.kc, .string v.nm] 49)) (h.alloc _) (hv.grew ((Below.refl _ _).alloc (Nat.le_refl _) _)))
  clear h hv
  unfold NVal.val ndV at *
  go_enter Tryz.func123, Tryz.ntmps123
  go_wp2_with fail
  refine HC.out.mono ?_
  rintro e w3 ⟨rfl, g3⟩
  have HG3 := hide g3
  clear g3
  go_wp2
  go_ret
  exact ⟨rfl, HG3.out⟩
end Go.Proofs.YtkpgfhapffijkaaGreatDoor

/- Package cal: calendars, where they lie; Find. -/
namespace Go.Proofs.YtkpgfhapffijkaaGreatDoor
open Go.ChangeShapes Go.WideShapes Go.ChangeAt Go.RowKit Go.DsMem Go.DsMk
set_option linter.unusedVariables false
/-- the slice (co, its length, cc) is these calendars -/
structure CalsAt (w : World) (co : Option Addr) (cc : Nat) (cs : List (ByteArray × Nd)) (g o : Nat) (V : Nat → NVal) : Prop where
  len : cs.length ≤ 17592186043904
  cap : cs.length ≤ cc
  at_ : 0 < cs.length → co = some ⟨g, o, none⟩
  name : ∀ j (hj : j < cs.length), w.cell? ⟨g, o + j * 5, none⟩ = some (.string cs[j].1)
  cell : ∀ j, j < cs.length → NIn w g (o + j * 5 + 1) (V j)
  node : ∀ j (hj : j < cs.length), NdAt w (V j) cs[j].2
theorem CalsAt.grew {w w' : World} {co : Option Addr} {cc : Nat} {cs : List (ByteArray × Nd)} {g o : Nat} {V : Nat → NVal} (h : CalsAt w co cc cs g o V) (hb : Below w.heap.size w w') : CalsAt w' co cc cs g o V :=
  ⟨h.len, h.cap, h.at_, fun j hj => Below.keeps hb (Nat.le_refl _) (h.name j hj), fun j hj => (h.cell j hj).mono fun _ _ hc => Below.keeps hb (Nat.le_refl _) hc, fun j hj => (h.node j hj).grew hb⟩
/-- the place of the first calendar with a name; their number, if there is none -/
def fiC (cs : List (ByteArray × Nd)) (nm : ByteArray) : Nat := cs.findIdx fun c => c.1.toList == nm.toList
def fiV (cs : List (ByteArray × Nd)) (nm : ByteArray) : Int := if fiC cs nm < cs.length then (fiC cs nm : Int) else -1
theorem fiV_at {cs : List (ByteArray × Nd)} {nm : ByteArray} {i : Nat} (hi : i < cs.length) (h1 : (cs[i].1.toList == nm.toList) = true) (h2 : ∀ j (hj : j < cs.length), j < i → (cs[j].1.toList == nm.toList) = false) : fiV cs nm = i := by
  have : fiC cs nm = i := (List.findIdx_eq hi).2 ⟨h1, fun j hj => h2 j (by omega) hj⟩
  unfold fiV; rw [this, if_pos hi]
theorem fiV_none {cs : List (ByteArray × Nd)} {nm : ByteArray} (h2 : ∀ j (hj : j < cs.length), (cs[j].1.toList == nm.toList) = false) : fiV cs nm = -1 := by
  have : fiC cs nm = cs.length := by
    unfold fiC; rw [List.findIdx_eq_length]
    intro x hx
    obtain ⟨j, hj, rfl⟩ := List.getElem_of_mem hx
    exact h2 j hj
  unfold fiV; rw [this, if_neg (by omega)]
set_option maxHeartbeats 4000000 in
set_option maxRecDepth 20000 in
/-- cal.Find -/
theorem Gc.find {W w : World} (h : Gc W w) (co : Option Addr) (cc : Nat) (cs : List (ByteArray × Nd)) (g o : Nat) (V : Nat → NVal) (hc : CalsAt w co cc cs g o V) (nm : ByteArray) :
    Calls Tryz.prog 179 #[.slice co cs.length cc, .string nm] w fun e w' => e = .returned (.int .i64 (fiV cs nm)) ∧ Gc W w' := by
  have HG := hide h
  have HC := hide hc
  have hlen := hc.len
  clear h hc
  go_enter Tryz.func179, Tryz.ntmps179
  go_wp2
  go_loopw [9] (fun t wr => ∃ i : Nat, i ≤ cs.length ∧ t = .int .i64 i ∧ (∀ j (hj : j < cs.length), j < i → (cs[j].1.toList == nm.toList) = false) ∧ Gc w wr) (fun t _ => cs.length - (intOf t).toNat)
  case atStart => exact ⟨0, Nat.zero_le _, rfl, fun j _ hj => by omega, HG.out.here⟩
  case round =>
    obtain ⟨i, hi, rfl, hall, hg⟩ := hrel
    have HA := hide hall
    have HGr := hide hg
    clear hall hg
    by_cases hlt : i < cs.length
    · obtain rfl := HC.out.at_ (by omega)
      have HCr := hide (HC.out.grew HGr.out.below)
      have k := HCr.out.name i hlt
      obtain ⟨k0, k1, k2, k3⟩ := HCr.out.cell i hlt
      generalize V i = kv at *
      obtain ⟨b, hb⟩ : ∃ b, (cs[i].1.toList == nm.toList) = b := ⟨_, rfl⟩
      have HB := hide hb
      have HS : Hid ((cs[i].1.toList == nm.toList) = false → ∀ j (hj : j < cs.length), j < i + 1 → (cs[j].1.toList == nm.toList) = false) := fun hq j hj hji => by
        by_cases e : j = i
        · subst e; exact hq
        · exact HA.out j hj (by omega)
      have HE : Hid ((cs[i].1.toList == nm.toList) = true → fiV cs nm = i) := fun hq => fiV_at hlt hq HA.out
      generalize cs[i].1 = cn at *
      cases b
      · go_wp2
        go_roundw
        case rel => exact ⟨i + 1, by omega, by go_num, HS.out HB.out, HGr.out.alloc _⟩
        case measure => simp [intOf]; omega
      · go_wp2
        go_ret
        exact ⟨ret_int (by rw [HE.out HB.out]), (HG.out.more HGr.out.below).alloc _⟩
    · have HE : Hid (fiV cs nm = -1) := fiV_none fun j hj => HA.out j hj (by omega)
      go_wp2
      go_ret
      exact ⟨ret_int (by rw [HE.out]), HG.out.more HGr.out.below⟩
end Go.Proofs.YtkpgfhapffijkaaGreatDoor

/- Package cal: what is met of a node, as a plain function; the walk of follow. -/
namespace Go.Proofs.YtkpgfhapffijkaaGreatDoor
open Go.ChangeShapes Go.WideShapes Go.ChangeAt Go.RowKit Go.DsMem Go.DsMk
set_option linter.unusedVariables false
/-- the calendar with a name, if there is one -/
def calOf (cs : List (ByteArray × Nd)) (nm : ByteArray) : Option Nd := (cs[fiC cs nm]?).map Prod.snd
/-- the first error that is met, and how many nodes are met -/
def meetF (cs : List (ByteArray × Nd)) : Nat → Nd → Nat → Bool → Nat → Int × Nat
  | 0, _, _, _, met => (23, met + 1)
  | f + 1, .mk op ns kids nm, refs, inw, met =>
    if 256 < met + 1 ∨ (op = 5 ∧ inw = true) then (23, met + 1)
    else if op = 10 ∨ op = 5 then
      match calOf cs nm with
      | none => (21, met + 1)
      | some t => if refs = 24 then (23, met + 1) else meetF cs f t (refs + 1) (inw || op == 5) (met + 1)
    else kids.foldl (fun st k => if st.1 ≠ 0 then st else meetF cs f k refs inw st.2) (0, met + 1)
theorem foldl_keep {α : Type} (P : α → α → Prop) (hr : ∀ a, P a a) (ht : ∀ a b c, P a b → P b c → P a c) (g : α → Nd → α) (l : List Nd) (hs : ∀ a k, k ∈ l → P a (g a k)) (a : α) : P a (l.foldl g a) := by
  induction l generalizing a with
  | nil => exact hr a
  | cons k l ih => exact ht _ _ _ (hs a k (by simp)) (ih (fun a k hk => hs a k (by simp [hk])) _)
theorem meetF_up (cs : List (ByteArray × Nd)) : ∀ (f : Nat) (t : Nd) (refs : Nat) (inw : Bool) (met : Nat), met < (meetF cs f t refs inw met).2
  | 0, _, _, _, met => by simp [meetF]
  | f + 1, .mk op ns kids nm, refs, inw, met => by
    unfold meetF
    split
    · simp
    · split
      · split
        · simp
        · split
          · simp
          · have := meetF_up cs f (by assumption) (refs + 1) (inw || op == 5) (met + 1); omega
      · have := foldl_keep (fun a b : Int × Nat => a.2 ≤ b.2) (fun _ => Nat.le_refl _) (fun _ _ _ => Nat.le_trans) (fun st k => if st.1 ≠ 0 then st else meetF cs f k refs inw st.2) kids (fun a k _ => by
          show a.2 ≤ (if a.1 ≠ 0 then a else meetF cs f k refs inw a.2).2
          split
          · exact Nat.le_refl _
          · exact Nat.le_of_lt (meetF_up cs f k refs inw a.2)) (0, met + 1)
        exact this
theorem meetF_small (cs : List (ByteArray × Nd)) : ∀ (f : Nat) (t : Nd) (refs : Nat) (inw : Bool) (met : Nat), (meetF cs f t refs inw met).1 = 0 → (meetF cs f t refs inw met).2 ≤ 256
  | 0, _, _, _, met => by simp [meetF]
  | f + 1, .mk op ns kids nm, refs, inw, met => by
    unfold meetF
    split
    · simp
    · rename_i hno
      split
      · split
        · simp
        · split
          · simp
          · exact meetF_small cs f _ _ _ _
      · have := foldl_keep (fun a b : Int × Nat => (a.1 = 0 → a.2 ≤ 256) → (b.1 = 0 → b.2 ≤ 256)) (fun _ h => h) (fun _ _ _ h1 h2 h => h2 (h1 h)) (fun st k => if st.1 ≠ 0 then st else meetF cs f k refs inw st.2) kids (fun a k _ => by
          show (a.1 = 0 → a.2 ≤ 256) → ((if a.1 ≠ 0 then a else meetF cs f k refs inw a.2).1 = 0 → (if a.1 ≠ 0 then a else meetF cs f k refs inw a.2).2 ≤ 256)
          intro ha
          split
          · exact ha
          · exact meetF_small cs f k refs inw a.2) (0, met + 1)
        exact this (fun _ => by show met + 1 ≤ 256; omega)
def spV (refs : Nat) (inw : Bool) : Value := .agg #[.int .i64 refs, .bool inw]
/-- the walk's object -/
def WkAt (w : World) (pw : Nat) (co : Option Addr) (cl cc met : Nat) : Prop := w.heap[pw]? = some (.cells #[.slice co cl cc, .int .i64 met] 217 (0, 0))
theorem WkAt.c0 {w : World} {pw : Nat} {co : Option Addr} {cl cc met : Nat} (h : WkAt w pw co cl cc met) : w.cell? ⟨pw, 0, none⟩ = some (.slice co cl cc) := by rw [cell_of h]; rfl
theorem WkAt.c1 {w : World} {pw : Nat} {co : Option Addr} {cl cc met : Nat} (h : WkAt w pw co cl cc met) : w.cell? ⟨pw, 1, none⟩ = some (.int .i64 met) ∧ w.frozen? ⟨pw, 1, none⟩ = false := ⟨by rw [cell_of h]; rfl, frozen_of h⟩
theorem WkAt.set {w : World} {pw : Nat} {co : Option Addr} {cl cc met : Nat} (h : WkAt w pw co cl cc met) (m : Nat) : WkAt (w.setCell ⟨pw, 1, none⟩ (.int .i64 m)) pw co cl cc m := by unfold WkAt; rw [hset_same h]; rfl
theorem WkAt.below {w w' : World} {pw : Nat} {co : Option Addr} {cl cc met : Nat} (h : WkAt w pw co cl cc met) (hb : Below w.heap.size w w') : WkAt w' pw co cl cc met := by unfold WkAt; rw [hb.block _ (block_lt h)]; exact h
/-- what a call of meet or follow does -/
def Met (w : World) (pw : Nat) (co : Option Addr) (cl cc : Nat) (r : Int × Nat) (e : Ending) (w' : World) : Prop := e = .returned (.int .i64 r.1) ∧ WkAt w' pw co cl cc r.2 ∧ Only (· = pw) w w'
theorem Only.gc {W w w' : World} {pw : Nat} (h : Gc W w) (ho : Only (· = pw) w w') (hp : W.heap.size ≤ pw) : Gc W w' :=
  ⟨h.bits, h.len, h.shp, h.below.trans (ho.toBelow h.below.size (fun i hi => by rw [hi]; exact hp))⟩
end Go.Proofs.YtkpgfhapffijkaaGreatDoor

/- Package cal: the walk of follow. -/
namespace Go.Proofs.YtkpgfhapffijkaaGreatDoor
open Go.ChangeShapes Go.WideShapes Go.ChangeAt Go.RowKit Go.DsMem Go.DsMk
set_option linter.unusedVariables false
/-- meet is met, at most f nodes on -/
def MeetOk (f : Nat) : Prop := ∀ (t : Nd) (v : NVal) (refs : Nat) (inw : Bool) (met : Nat) (W w : World) (pw : Nat) (co : Option Addr) (cc : Nat) (cs : List (ByteArray × Nd)) (g o : Nat) (V : Nat → NVal),
  Gc W w → W.heap.size ≤ pw → NdAt W v t → CalsAt W co cc cs g o V → WkAt w pw co cs.length cc met → met ≤ 256 → 257 ≤ met + f → refs ≤ 24 →
  Calls Tryz.prog 124 #[.pointer (some ⟨pw, 0, none⟩), v.val, spV refs inw] w (Met w pw co cs.length cc (meetF cs f t refs inw met))
def followF (cs : List (ByteArray × Nd)) (f : Nat) (nm : ByteArray) (op : Int) (refs : Nat) (inw : Bool) (met : Nat) : Int × Nat :=
  match calOf cs nm with
  | none => (21, met)
  | some t => if refs = 24 then (23, met) else meetF cs f t (refs + 1) (inw || op == 5) met
theorem Met.of {w w' : World} {pw : Nat} {co : Option Addr} {cl cc : Nat} {r : Int × Nat} {e : Ending} (h : e = .returned (.int .i64 r.1) ∧ WkAt w' pw co cl cc r.2 ∧ Only (· = pw) w w') : Met w pw co cl cc r e w' := h
theorem calOf_some {cs : List (ByteArray × Nd)} {nm : ByteArray} (h : fiC cs nm < cs.length) : calOf cs nm = some cs[fiC cs nm].2 := by unfold calOf; rw [List.getElem?_eq_getElem h]; rfl
theorem calOf_none {cs : List (ByteArray × Nd)} {nm : ByteArray} (h : ¬ fiC cs nm < cs.length) : calOf cs nm = none := by unfold calOf; rw [List.getElem?_eq_none (by omega)]; rfl
set_option maxHeartbeats 8000000 in
set_option maxRecDepth 20000 in
/-- cal.walk.follow -/
theorem follow_step (f : Nat) (ih : MeetOk f) (op : Int) (no : Option Addr) (nl nc : Nat) (ko : Option Addr) (kl kc : Nat) (nm : ByteArray) (refs : Nat) (inw : Bool) (met : Nat) (W w : World) (pw : Nat) (co : Option Addr) (cc : Nat) (cs : List (ByteArray × Nd)) (g o : Nat) (V : Nat → NVal)
    (h : Gc W w) (hp : W.heap.size ≤ pw) (hc : CalsAt W co cc cs g o V) (hw : WkAt w pw co cs.length cc met) (hm : met ≤ 256) (hf : 257 ≤ met + f) (hr : refs ≤ 24) :
    Calls Tryz.prog 147 #[.pointer (some ⟨pw, 0, none⟩), ndV op no nl nc ko kl kc nm, spV refs inw] w (Met w pw co cs.length cc (followF cs f nm op refs inw met)) := by
  have HIH := hide ih
  have HG := hide h
  have HC := hide hc
  have HW := hide hw
  have hlen := hc.len
  clear ih h hc hw
  unfold ndV spV
  go_enter Tryz.func147, Tryz.ntmps147
  go_wp2
  obtain ⟨wB, hwB⟩ : ∃ wB, wB = w.alloc (.cells #[.int .i64 op, .slice no nl nc, .slice ko kl kc, .string nm] 49) := ⟨_, rfl⟩
  have hbx : NBox wB w.heap.size op no nl nc ko kl kc nm := by rw [hwB]; exact NBox.new _ _ _ _ _ _ _ _ _
  have HZ : Hid (w.heap.size + 1 = wB.heap.size) := by rw [hwB]; show _ = _; simp
  have HBL : Hid (Below w.heap.size w wB) := by rw [hwB]; exact (Below.refl _ _).alloc (Nat.le_refl _) _
  rw [← hwB, HZ.out]
  clear hwB
  obtain ⟨wA, hwA⟩ : ∃ wA, wA = wB.alloc (.cells #[.int .i64 refs, .bool inw] 220) := ⟨_, rfl⟩
  have hsp : wA.heap[wB.heap.size]? = some (.cells #[.int .i64 refs, .bool inw] 220 (0, 0)) := by rw [hwA]; exact heap_alloc_new wB _
  have HBA : Hid (Below w.heap.size w wA) := by rw [hwA]; exact HBL.out.trans (((Below.refl _ _).alloc (Nat.le_refl _) _).mono HBL.out.size)
  have HBX : Hid (NBox wA w.heap.size op no nl nc ko kl kc nm) := by rw [hwA]; exact hbx.below ((Below.refl _ _).alloc (Nat.le_refl _) _)
  rw [← hwA]
  have HSP := hide hsp
  clear hwA hbx hsp
  have HGA : Hid (Gc W wA) := HG.out.more HBA.out
  have HWA : Hid (WkAt wA pw co cs.length cc met) := HW.out.below HBA.out
  generalize hp5 : wB.heap.size = p5 at HSP HZ ⊢
  generalize hp4 : w.heap.size = p4 at HBX HZ ⊢
  have b3 := HBX.out.c3
  have k0 := HWA.out.c0
  have hg0 : Gc wA wA.drew := HGA.out.here.drew
  have KP : Hid (∀ w', Gc wA w' → w'.cell? ⟨pw, 0, none⟩ = some (.slice co cs.length cc) ∧ w'.cell? ⟨p4, 3, none⟩ = some (.string nm)) := fun w' hw => ⟨(HWA.out.below hw.below).c0, (HBX.out.below hw.below).c3⟩
  have HCA : Hid (∀ w', Gc wA w' → CalsAt w' co cc cs g o V) := fun w' hw => HC.out.grew (HGA.out.more hw.below).below
  go_region_held3 (fun w' => w'.cell? ⟨pw, 0, none⟩ = some (.slice co cs.length cc) ∧ w'.cell? ⟨p4, 3, none⟩ = some (.string nm)) (first | go_keep | (exact KP.out _ (by assumption)))
    ((go_at_call 179; refine (Gc.find (W := wA) (by assumption) co cc cs g o V (by exact HCA.out _ (by assumption)) nm).mono ?_; rintro e w1 ⟨rfl, hgF⟩))
  have HGF := hide hgF
  have HON : Hid (Only (· = pw) w w1) := Only.below (HBA.out.trans (HGF.out.below.mono HBA.out.size))
  have HWF : Hid (WkAt w1 pw co cs.length cc met) := HWA.out.below HGF.out.below
  clear hgF hg0 k0 b3 KP
  by_cases hfi : fiC cs nm < cs.length
  · have HV : Hid (fiV cs nm = (fiC cs nm : Int)) := by show _ = _; unfold fiV; rw [if_pos hfi]
    rw [HV.out]
    have HCO := hide (calOf_some hfi)
    have HFF : Hid (followF cs f nm op refs inw met = if refs = 24 then (23, met) else meetF cs f cs[fiC cs nm].2 (refs + 1) (inw || op == 5) met) := by show _ = _; unfold followF; rw [HCO.out]
    have HNI := hide ((HCA.out w1 HGF.out).cell _ hfi)
    have HND : Hid (NdAt W (V (fiC cs nm)) cs[fiC cs nm].2) := HC.out.node _ hfi
    obtain rfl := HC.out.at_ (by omega)
    generalize cs[fiC cs nm].2 = kt at *
    generalize hie : fiC cs nm = i at *
    have HIE := hide hie
    clear hie
    generalize V i = kv at *
    have hspc : w1.heap[p5]? = some (.cells #[.int .i64 refs, .bool inw] 220 (0, 0)) := by rw [HGF.out.below.block _ (block_lt HSP.out)]; exact HSP.out
    have s0 : w1.cell? ⟨p5, 0, none⟩ = some (.int .i64 refs) := by rw [cell_of hspc]; rfl
    have s1 : w1.cell? ⟨p5, 1, none⟩ = some (.bool inw) := by rw [cell_of hspc]; rfl
    have q0 := (HBX.out.below HGF.out.below).c0
    have k0 := HWF.out.c0
    obtain ⟨n0, n1, n2, n3⟩ := HNI.out
    by_cases hr24 : refs = 24
    · have HR : Hid (followF cs f nm op refs inw met = (23, met)) := by show _ = _; rw [HFF.out, if_pos hr24]
      have r24 : ((refs : Int) == 24) = true := by simp; omega
      clear hr24
      go_wp2
      go_ret
      exact Met.of ⟨ret_int (by rw [HR.out]), by rw [HR.out]; exact HWF.out, HON.out⟩
    · have HR : Hid (followF cs f nm op refs inw met = meetF cs f kt (refs + 1) (inw || op == 5) met) := by show _ = _; rw [HFF.out, if_neg hr24]
      have r24 : ((refs : Int) == 24) = false := by simp; omega
      have hwrap : IntKind.i64.wrap ((refs : Int) + 1) = (refs : Int) + 1 := by rw [IntKind.wrap_i64]; omega
      obtain ⟨bw, hbw⟩ : ∃ b, (inw || op == 5) = b := ⟨_, rfl⟩
      rw [hbw] at HR
      have i0 : (0 : Int) ≤ (i : Int) := by omega
      have il : (i : Int) < (cs.length : Int) := by omega
      have hg1 : Gc W w1.drew := (HGA.out.more HGF.out.below).drew
      have HW1 : Hid (WkAt w1.drew pw (some ⟨g, o, none⟩) cs.length cc met) := HWF.out.below (Below.refl _ _).drew
      have HCALL := hide (HIH.out kt kv (refs + 1) bw met W w1.drew pw (some ⟨g, o, none⟩) cc cs g o V hg1 hp HND.out HC.out HW1.out hm hf (by omega))
      unfold NVal.val ndV spV at HCALL
      have ecast : (((refs + 1 : Nat) : Int)) = (refs : Int) + 1 := by omega
      rw [ecast] at HCALL
      clear hr24 ecast hg1
      have hpw : pw < w.heap.size := block_lt HW.out
      have ne4 : ¬ p4 = pw := by omega
      have ne5 : ¬ p5 = pw := by have := HZ.out; omega
      have neg : ¬ g = pw := fun e => by have := World.block_lt_of_cell? W _ (HC.out.name i (by omega)); simp at this; omega
      have KPM : Hid (∀ w2 m2, WkAt w2 pw (some ⟨g, o, none⟩) cs.length cc m2 → Only (· = pw) w1.drew w2 → w2.cell? ⟨pw, 0, none⟩ = some (.slice (some ⟨g, o, none⟩) cs.length cc) ∧ w2.cell? ⟨p5, 0, none⟩ = some (.int .i64 refs) ∧ w2.cell? ⟨p5, 1, none⟩ = some (.bool inw) ∧ w2.cell? ⟨p4, 0, none⟩ = some (.int .i64 op) ∧ w2.cell? ⟨g, o + i * 5 + 1, none⟩ = some (.int .i64 kv.op) ∧ w2.cell? ⟨g, o + i * 5 + 1 + 1, none⟩ = some (.slice kv.no kv.nl kv.nc) ∧ w2.cell? ⟨g, o + i * 5 + 1 + 2, none⟩ = some (.slice kv.ko kv.kl kv.kc) ∧ w2.cell? ⟨g, o + i * 5 + 1 + 3, none⟩ = some (.string kv.nm)) := fun w2 m2 hk ho =>
        ⟨hk.c0, ho.cell (w := w1.drew) s0 ne5, ho.cell (w := w1.drew) s1 ne5, ho.cell (w := w1.drew) q0 ne4, ho.cell (w := w1.drew) n0 neg, ho.cell (w := w1.drew) n1 neg, ho.cell (w := w1.drew) n2 neg, ho.cell (w := w1.drew) n3 neg⟩
      clear hpw ne4 ne5 neg
      go_wp2
      cases inw
      · simp only [Bool.false_or] at hbw
        first
          | (go_region_held3 (fun w' => w'.cell? ⟨pw, 0, none⟩ = some (.slice (some ⟨g, o, none⟩) cs.length cc) ∧ w'.cell? ⟨p5, 0, none⟩ = some (.int .i64 refs) ∧ w'.cell? ⟨p5, 1, none⟩ = some (.bool false) ∧ w'.cell? ⟨p4, 0, none⟩ = some (.int .i64 op) ∧ w'.cell? ⟨g, o + i * 5 + 1, none⟩ = some (.int .i64 kv.op) ∧ w'.cell? ⟨g, o + i * 5 + 1 + 1, none⟩ = some (.slice kv.no kv.nl kv.nc) ∧ w'.cell? ⟨g, o + i * 5 + 1 + 2, none⟩ = some (.slice kv.ko kv.kl kv.kc) ∧ w'.cell? ⟨g, o + i * 5 + 1 + 3, none⟩ = some (.string kv.nm)) (first | go_keep | (exact KPM.out _ _ (by assumption) (by assumption))) ((go_at_call 124; refine HCALL.out.mono ?_; rintro e w2 ⟨rfl, hwk, hon⟩)))
          | fail
        have HWK := hide hwk
        have HON2 := hide hon
        clear hwk hon
        go_wp2
        go_ret
        exact Met.of ⟨ret_int (by rw [HR.out]), by rw [HR.out]; exact HWK.out, HON.out.drew.trans HON2.out (fun _ _ h => h)⟩
      · simp only [Bool.true_or] at hbw
        subst hbw
        have hHeld := KPM.out w1.drew met HW1.out (Only.refl _ _)
        refine wp_region_noPanic ?_
        refine wp_region_held (S := (fun w' => w'.cell? ⟨pw, 0, none⟩ = some (.slice (some ⟨g, o, none⟩) cs.length cc) ∧ w'.cell? ⟨p5, 0, none⟩ = some (.int .i64 refs) ∧ w'.cell? ⟨p5, 1, none⟩ = some (.bool true) ∧ w'.cell? ⟨p4, 0, none⟩ = some (.int .i64 op) ∧ w'.cell? ⟨g, o + i * 5 + 1, none⟩ = some (.int .i64 kv.op) ∧ w'.cell? ⟨g, o + i * 5 + 1 + 1, none⟩ = some (.slice kv.no kv.nl kv.nc) ∧ w'.cell? ⟨g, o + i * 5 + 1 + 2, none⟩ = some (.slice kv.ko kv.kl kv.kc) ∧ w'.cell? ⟨g, o + i * 5 + 1 + 3, none⟩ = some (.string kv.nm))) (by kernel_rfl) ?_
        change wpAnyH _ _ _ _ _ _ _ _ (World.drew _)
        refine wpAnyH_take (i := 0) (v := ?v0) rfl (by kernel_rfl) (by kernel_rfl) (by kernel_rfl) (fun _ _ _ h => h) (Or.inl ⟨by rfl, ?y0⟩) (by assumption) ?r0
        case y0 => intro w hSw; (try dsimp only at hSw); go_simp; first | done | with_reducible rfl
        simp only [Act.put, List.getElem_toArray, List.getElem_cons_zero, List.setIfInBounds_toArray, List.set_cons_zero, List.set_cons_succ]
        refine wpAnyH_take (i := 1) (v := ?v1) rfl (by kernel_rfl) (by kernel_rfl) (by kernel_rfl) (fun _ _ _ h => h) (Or.inl ⟨by rfl, ?y1⟩) (by assumption) ?r1
        case y1 => intro w hSw; (try dsimp only at hSw); go_simp; first | done | with_reducible rfl
        simp only [Act.put, List.getElem_toArray, List.getElem_cons_zero, List.getElem_cons_succ, List.setIfInBounds_toArray, List.set_cons_zero, List.set_cons_succ]
        refine wpAnyH_take (i := 2) (v := ?v2) rfl (by kernel_rfl) (by kernel_rfl) (by kernel_rfl) (fun _ _ _ h => h) (Or.inl ⟨by rfl, ?y2⟩) (by assumption) ?r2
        case y2 => intro w hSw; (try dsimp only at hSw); go_simp; first | done | with_reducible rfl
        simp only [Act.put, List.getElem_toArray, List.getElem_cons_zero, List.getElem_cons_succ, List.setIfInBounds_toArray, List.set_cons_zero, List.set_cons_succ]
        refine wpAnyH_take (i := 3) (v := ?v3) rfl (by kernel_rfl) (by kernel_rfl) (by kernel_rfl) (fun _ _ _ h => h) (Or.inl ⟨by rfl, ?y3⟩) (by assumption) ?r3
        case y3 => intro w hSw; (try dsimp only at hSw); go_simp; first | done | with_reducible rfl
        simp only [Act.put, List.getElem_toArray, List.getElem_cons_zero, List.getElem_cons_succ, List.setIfInBounds_toArray, List.set_cons_zero, List.set_cons_succ]
        refine wpAnyH_take (i := 4) (v := ?v4) rfl (by kernel_rfl) (by kernel_rfl) (by kernel_rfl) (fun _ _ _ h => h) (Or.inl ⟨by rfl, ?y4⟩) (by assumption) ?r4
        case y4 => intro w hSw; (try dsimp only at hSw); go_simp; first | done | with_reducible rfl
        simp only [Act.put, List.getElem_toArray, List.getElem_cons_zero, List.getElem_cons_succ, List.setIfInBounds_toArray, List.set_cons_zero, List.set_cons_succ]
        refine wpAnyH_take (i := 5) (v := ?v5) rfl (by kernel_rfl) (by kernel_rfl) (by kernel_rfl) (fun _ _ _ h => h) (Or.inl ⟨by rfl, ?y5⟩) (by assumption) ?r5
        case y5 => intro w hSw; (try dsimp only at hSw); go_simp; first | done | with_reducible rfl
        simp only [Act.put, List.getElem_toArray, List.getElem_cons_zero, List.getElem_cons_succ, List.setIfInBounds_toArray, List.set_cons_zero, List.set_cons_succ]
        refine wpAnyH_take (i := 6) (v := ?v6) rfl (by kernel_rfl) (by kernel_rfl) (by kernel_rfl) (fun _ _ _ h => h) (Or.inl ⟨by rfl, ?y6⟩) (by assumption) ?r6
        case y6 => intro w hSw; (try dsimp only at hSw); go_simp; first | done | with_reducible rfl
        simp only [Act.put, List.getElem_toArray, List.getElem_cons_zero, List.getElem_cons_succ, List.setIfInBounds_toArray, List.set_cons_zero, List.set_cons_succ]
        refine wpAnyH_take (i := 7) (v := ?v7) rfl (by kernel_rfl) (by kernel_rfl) (by kernel_rfl) (fun _ _ _ h => h) (Or.inl ⟨by rfl, ?y7⟩) (by assumption) ?r7
        case y7 => intro w hSw; (try dsimp only at hSw); go_simp; first | done | with_reducible rfl
        simp only [Act.put, List.getElem_toArray, List.getElem_cons_zero, List.getElem_cons_succ, List.setIfInBounds_toArray, List.set_cons_zero, List.set_cons_succ]
        refine wpAnyH_take (i := 8) (v := ?v8) rfl (by kernel_rfl) (by kernel_rfl) (by kernel_rfl) (fun _ _ _ h => h) (Or.inl ⟨by rfl, ?y8⟩) (by assumption) ?r8
        case y8 => intro w hSw; (try dsimp only at hSw); go_simp; first | done | with_reducible rfl
        simp only [Act.put, List.getElem_toArray, List.getElem_cons_zero, List.getElem_cons_succ, List.setIfInBounds_toArray, List.set_cons_zero, List.set_cons_succ]
        refine wpAnyH_take (i := 9) (v := ?v9) rfl (by kernel_rfl) (by kernel_rfl) (by kernel_rfl) (fun _ _ _ h => h) (Or.inl ⟨by rfl, ?y9⟩) (by assumption) ?r9
        case y9 => intro w hSw; (try dsimp only at hSw); go_simp; first | done | with_reducible rfl
        simp only [Act.put, List.getElem_toArray, List.getElem_cons_zero, List.getElem_cons_succ, List.setIfInBounds_toArray, List.set_cons_zero, List.set_cons_succ]
        refine wpAnyH_take (i := 10) (v := ?v10) rfl (by kernel_rfl) (by kernel_rfl) (by kernel_rfl) (fun _ _ _ h => h) (Or.inl ⟨by rfl, ?y10⟩) (by assumption) ?r10
        case y10 => intro w hSw; (try dsimp only at hSw); go_simp; first | done | with_reducible rfl
        simp only [Act.put, List.getElem_toArray, List.getElem_cons_zero, List.getElem_cons_succ, List.setIfInBounds_toArray, List.set_cons_zero, List.set_cons_succ]
        refine wpAnyH_take (i := 11) (v := ?v11) rfl (by kernel_rfl) (by kernel_rfl) (by kernel_rfl) (fun _ _ _ h => h) (Or.inl ⟨by rfl, ?y11⟩) (by assumption) ?r11
        case y11 => intro w hSw; (try dsimp only at hSw); go_simp; first | done | with_reducible rfl
        simp only [Act.put, List.getElem_toArray, List.getElem_cons_zero, List.getElem_cons_succ, List.setIfInBounds_toArray, List.set_cons_zero, List.set_cons_succ]
        refine wpAnyH_take (i := 12) (v := ?v12) rfl (by kernel_rfl) (by kernel_rfl) (by kernel_rfl) (fun _ _ _ h => h) (Or.inl ⟨by rfl, ?y12⟩) (by assumption) ?r12
        case y12 => intro w hSw; (try dsimp only at hSw); go_simp; first | done | with_reducible rfl
        simp only [Act.put, List.getElem_toArray, List.getElem_cons_zero, List.getElem_cons_succ, List.setIfInBounds_toArray, List.set_cons_zero, List.set_cons_succ]
        refine wpAnyH_take (i := 13) (v := ?v13) rfl (by kernel_rfl) (by kernel_rfl) (by kernel_rfl) (fun _ _ _ h => h) (Or.inl ⟨by rfl, ?y13⟩) (by assumption) ?r13
        case y13 => intro w hSw; (try dsimp only at hSw); go_simp; first | done | with_reducible rfl
        simp only [Act.put, List.getElem_toArray, List.getElem_cons_zero, List.getElem_cons_succ, List.setIfInBounds_toArray, List.set_cons_zero, List.set_cons_succ]
        refine wpAnyH_take (i := 14) (v := ?v14) rfl (by kernel_rfl) (by kernel_rfl) (by kernel_rfl) (fun _ _ _ h => h) (Or.inl ⟨by rfl, ?y14⟩) (by assumption) ?r14
        case y14 => intro w hSw; (try dsimp only at hSw); go_simp; first | done | with_reducible rfl
        simp only [Act.put, List.getElem_toArray, List.getElem_cons_zero, List.getElem_cons_succ, List.setIfInBounds_toArray, List.set_cons_zero, List.set_cons_succ]
        refine wpAnyH_take (i := 15) (v := undef) rfl (by kernel_rfl) (by kernel_rfl) (by kernel_rfl) (fun _ _ _ h => h) (Or.inr ⟨by rfl, rfl⟩) (by assumption) ?_
        simp only [Act.put, List.getElem_toArray, List.getElem_cons_zero, List.getElem_cons_succ, List.setIfInBounds_toArray, List.set_cons_zero, List.set_cons_succ]
        refine wpAnyH_take (i := 16) (v := undef) rfl (by kernel_rfl) (by kernel_rfl) (by kernel_rfl) (fun _ _ _ h => h) (Or.inr ⟨by rfl, rfl⟩) (by assumption) ?_
        simp only [Act.put, List.getElem_toArray, List.getElem_cons_zero, List.getElem_cons_succ, List.setIfInBounds_toArray, List.set_cons_zero, List.set_cons_succ]
        refine wpAnyH_take (i := 17) (v := undef) rfl (by kernel_rfl) (by kernel_rfl) (by kernel_rfl) (fun _ _ _ h => h) (Or.inr ⟨by rfl, rfl⟩) (by assumption) ?_
        simp only [Act.put, List.getElem_toArray, List.getElem_cons_zero, List.getElem_cons_succ, List.setIfInBounds_toArray, List.set_cons_zero, List.set_cons_succ]
        refine wpAnyH_take (i := 18) (v := ?v18) rfl (by kernel_rfl) (by kernel_rfl) (by kernel_rfl) (fun _ _ _ h => h) (Or.inl ⟨by rfl, ?y18⟩) (by assumption) ?r18
        case y18 => intro w hSw; (try dsimp only at hSw); go_simp; first | done | with_reducible rfl
        simp only [Act.put, List.getElem_toArray, List.getElem_cons_zero, List.getElem_cons_succ, List.setIfInBounds_toArray, List.set_cons_zero, List.set_cons_succ]
        refine wpAnyH_take (i := 19) (v := ?v19) rfl (by kernel_rfl) (by kernel_rfl) (by kernel_rfl) (fun _ _ _ h => h) (Or.inl ⟨by rfl, ?y19⟩) (by assumption) ?r19
        case y19 => intro w hSw; (try dsimp only at hSw); go_simp; first | done | with_reducible rfl
        simp only [Act.put, List.getElem_toArray, List.getElem_cons_zero, List.getElem_cons_succ, List.setIfInBounds_toArray, List.set_cons_zero, List.set_cons_succ]
        refine wpAnyH_ready (rs := [20]) (by kernel_rfl) (by simp) ?_
        refine AllReadyH.cons rfl (fun K hK => ?step) ?more
        case more => exact AllReadyH.nil
        go_simp
        go_at_call 124
        refine HCALL.out.mono ?_
        rintro e w2 ⟨rfl, hwk, hon⟩
        go_wp2_with fail
        refine hK.out _ _ (KPM.out _ _ hwk hon) (fun hHeld2 => ?_)
        clear hK K
        refine wpAnyH_take (i := 21) (v := ?v21) rfl (by kernel_rfl) (by kernel_rfl) (by kernel_rfl) (fun _ _ _ h => h) (Or.inl ⟨by rfl, ?y21⟩) (by assumption) ?r21
        case y21 => intro w hSw; (try dsimp only at hSw); go_simp; first | done | with_reducible rfl
        simp only [Act.put, List.getElem_toArray, List.getElem_cons_zero, List.getElem_cons_succ, List.setIfInBounds_toArray, List.set_cons_zero, List.set_cons_succ]
        refine wpAnyH_done (by kernel_rfl) (NoPanic.normal ?_) _
        clear hHeld hHeld2
        have HWK := hide hwk
        have HON2 := hide hon
        clear hwk hon
        go_wp2
        go_ret
        exact Met.of ⟨ret_int (by rw [HR.out]), by rw [HR.out]; exact HWK.out, HON.out.drew.trans HON2.out (fun _ _ h => h)⟩
  · have HV : Hid (fiV cs nm = -1) := by show _ = _; unfold fiV; rw [if_neg hfi]
    have HR : Hid (followF cs f nm op refs inw met = (21, met)) := by show _ = _; unfold followF; rw [calOf_none hfi]
    rw [HV.out]
    go_wp2
    go_ret
    exact Met.of ⟨ret_int (by rw [HR.out]), by rw [HR.out]; exact HWF.out, HON.out⟩
end Go.Proofs.YtkpgfhapffijkaaGreatDoor

/- Package cal: the walk of meet. -/
namespace Go.Proofs.YtkpgfhapffijkaaGreatDoor
open Go.ChangeShapes Go.WideShapes Go.ChangeAt Go.RowKit Go.DsMem Go.DsMk
set_option linter.unusedVariables false
/-- kids up to one -/
def metK (cs : List (ByteArray × Nd)) (f refs : Nat) (inw : Bool) (m : Nat) (l : List Nd) : Int × Nat := l.foldl (fun st k => if st.1 ≠ 0 then st else meetF cs f k refs inw st.2) (0, m)
theorem metK_snoc (cs : List (ByteArray × Nd)) (f refs : Nat) (inw : Bool) (m : Nat) (l : List Nd) (k : Nd) (h : (metK cs f refs inw m l).1 = 0) : metK cs f refs inw m (l ++ [k]) = meetF cs f k refs inw (metK cs f refs inw m l).2 := by
  unfold metK at *
  rw [List.foldl_append]
  simp only [List.foldl_cons, List.foldl_nil]
  rw [if_neg (by rw [h]; simp)]
theorem metK_err (cs : List (ByteArray × Nd)) (f refs : Nat) (inw : Bool) (m : Nat) (l r : List Nd) (h : (metK cs f refs inw m l).1 ≠ 0) : metK cs f refs inw m (l ++ r) = metK cs f refs inw m l := by
  unfold metK at *
  rw [List.foldl_append]
  generalize l.foldl (fun st k => if st.1 ≠ 0 then st else meetF cs f k refs inw st.2) (0, m) = st at *
  induction r with
  | nil => rfl
  | cons k r ih => simp only [List.foldl_cons]; rw [if_pos h]; exact ih
theorem metK_small (cs : List (ByteArray × Nd)) (f refs : Nat) (inw : Bool) (m : Nat) (hm : m ≤ 256) (l : List Nd) : (metK cs f refs inw m l).1 = 0 → (metK cs f refs inw m l).2 ≤ 256 := by
  have := foldl_keep (fun a b : Int × Nat => (a.1 = 0 → a.2 ≤ 256) → (b.1 = 0 → b.2 ≤ 256)) (fun _ h => h) (fun _ _ _ h1 h2 h => h2 (h1 h)) (fun st k => if st.1 ≠ 0 then st else meetF cs f k refs inw st.2) l (fun a k _ => by
    show (a.1 = 0 → a.2 ≤ 256) → ((if a.1 ≠ 0 then a else meetF cs f k refs inw a.2).1 = 0 → (if a.1 ≠ 0 then a else meetF cs f k refs inw a.2).2 ≤ 256)
    intro ha
    split
    · exact ha
    · exact meetF_small cs f k refs inw a.2) (0, m)
  exact this (fun _ => hm)
theorem metK_up (cs : List (ByteArray × Nd)) (f refs : Nat) (inw : Bool) (m : Nat) (l : List Nd) : m ≤ (metK cs f refs inw m l).2 :=
  foldl_keep (fun a b : Int × Nat => a.2 ≤ b.2) (fun _ => Nat.le_refl _) (fun _ _ _ => Nat.le_trans) (fun st k => if st.1 ≠ 0 then st else meetF cs f k refs inw st.2) l (fun a k _ => by
    show a.2 ≤ (if a.1 ≠ 0 then a else meetF cs f k refs inw a.2).2
    split
    · exact Nat.le_refl _
    · exact Nat.le_of_lt (meetF_up cs f k refs inw a.2)) (0, m)
theorem block_lt_cell {w : World} {p k : Nat} {v : Value} (h : w.cell? ⟨p, k, none⟩ = some v) : p < w.heap.size := World.block_lt_of_cell? w _ h
/-- the world behind the first rows of meet -/
theorem met_world {w : World} {pw : Nat} {co : Option Addr} {cl cc met : Nat} (h : WkAt w pw co cl cc met) (op : Int) (no : Option Addr) (nl nc : Nat) (ko : Option Addr) (kl kc : Nat) (nm : ByteArray) (refs : Nat) (inw : Bool) :
    WkAt (((w.setCell ⟨pw, 1, none⟩ (.int .i64 ((met : Int) + 1))).alloc (.cells #[.int .i64 op, .slice no nl nc, .slice ko kl kc, .string nm] 49)).alloc (.cells #[.int .i64 refs, .bool inw] 220)) pw co cl cc (met + 1) ∧
    Only (· = pw) w (((w.setCell ⟨pw, 1, none⟩ (.int .i64 ((met : Int) + 1))).alloc (.cells #[.int .i64 op, .slice no nl nc, .slice ko kl kc, .string nm] 49)).alloc (.cells #[.int .i64 refs, .bool inw] 220)) ∧
    NBox (((w.setCell ⟨pw, 1, none⟩ (.int .i64 ((met : Int) + 1))).alloc (.cells #[.int .i64 op, .slice no nl nc, .slice ko kl kc, .string nm] 49)).alloc (.cells #[.int .i64 refs, .bool inw] 220)) w.heap.size op no nl nc ko kl kc nm ∧
    (((w.setCell ⟨pw, 1, none⟩ (.int .i64 ((met : Int) + 1))).alloc (.cells #[.int .i64 op, .slice no nl nc, .slice ko kl kc, .string nm] 49)).alloc (.cells #[.int .i64 refs, .bool inw] 220)).heap[w.heap.size + 1]? = some (.cells #[.int .i64 refs, .bool inw] 220 (0, 0)) := by
  have hs := h.set (met + 1)
  have ec : (((met + 1 : Nat) : Int)) = (met : Int) + 1 := by omega
  rw [ec] at hs
  obtain ⟨wS, hwS⟩ : ∃ wS, wS = w.setCell ⟨pw, 1, none⟩ (.int .i64 ((met : Int) + 1)) := ⟨_, rfl⟩
  have hz : wS.heap.size = w.heap.size := by rw [hwS]; simp [World.setCell]
  have ho : Only (· = pw) w wS := by rw [hwS]; exact Only.set _ _ _ _
  rw [← hwS] at hs ⊢
  clear hwS
  have hA := Only.alloc (fun k => k = pw) wS (.cells #[.int .i64 op, .slice no nl nc, .slice ko kl kc, .string nm] 49)
  have hbx := NBox.new wS op no nl nc ko kl kc nm
  rw [hz] at hbx
  obtain ⟨wT, hwT⟩ : ∃ wT, wT = wS.alloc (.cells #[.int .i64 op, .slice no nl nc, .slice ko kl kc, .string nm] 49) := ⟨_, rfl⟩
  have hzT : wT.heap.size = w.heap.size + 1 := by rw [hwT]; simp [hz]
  have hsT : WkAt wT pw co cl cc (met + 1) := by rw [hwT]; exact hs.below ((Below.refl _ _).alloc (Nat.le_refl _) _)
  rw [← hwT] at hA hbx ⊢
  clear hwT
  have hN := heap_alloc_new wT (.cells #[.int .i64 refs, .bool inw] 220)
  rw [hzT] at hN
  exact ⟨hsT.below ((Below.refl _ _).alloc (Nat.le_refl _) _), (ho.trans hA (fun _ _ h => h)).trans (Only.alloc (fun k => k = pw) wT _) (fun _ _ h => h), hbx.below ((Below.refl _ _).alloc (Nat.le_refl _) _), hN⟩
set_option maxHeartbeats 8000000 in
set_option maxRecDepth 20000 in
/-- cal.walk.meet -/
theorem meet_step (f : Nat) (ih : MeetOk f) : MeetOk (f + 1) := by
  intro t v refs inw met W w pw co cc cs g o V h hp hv hc hw hm hf hr
  have HIH := hide ih
  have HG := hide h
  have HC := hide hc
  have HW := hide hw
  clear ih h hc hw
  obtain ⟨op, ns, kids, nm, no, nc, ko, kc, kg, kO, K, hn, hnl, hkl, hkc, hko, hcs, hks⟩ := hv
  have HCS := hide hcs
  have HKS := hide hks
  have HKO := hide hko
  clear hn hcs hks hko
  have HMF : Hid (meetF cs (f + 1) (.mk op ns kids nm) refs inw met = if 256 < met + 1 ∨ (op = 5 ∧ inw = true) then (23, met + 1) else if op = 10 ∨ op = 5 then followF cs f nm op refs inw (met + 1) else metK cs f refs inw (met + 1) kids) := by
    show _ = _
    unfold meetF followF metK
    rfl
  unfold NVal.val
  simp only
  unfold ndV spV
  have hpw : pw < w.heap.size := block_lt HW.out
  obtain ⟨k1, f1⟩ := HW.out.c1
  have ne4 : ¬ pw = w.heap.size := by omega
  have ne5 : ¬ pw = w.heap.size + 1 := by omega
  have ne4' : ¬ w.heap.size = pw := by omega
  have ne5' : ¬ w.heap.size + 1 = pw := by omega
  by_cases c1 : 256 < met + 1
  · have HR : Hid (meetF cs (f + 1) (.mk op ns kids nm) refs inw met = (23, met + 1)) := by show _ = _; rw [HMF.out, if_pos (.inl c1)]
    have c1' : (256 : Int) < (met : Int) + 1 := by omega
    go_enter Tryz.func124, Tryz.ntmps124
    go_wp2
    go_ret
    obtain ⟨hwk, hon, -, -⟩ := met_world HW.out op no ns.length nc ko kids.length kc nm refs inw
    exact Met.of ⟨ret_int (by rw [HR.out]), by rw [HR.out]; exact hwk, hon⟩
  have c1' : ¬ (256 : Int) < (met : Int) + 1 := by omega
  by_cases c2 : op = 5 ∧ inw = true
  · have HR : Hid (meetF cs (f + 1) (.mk op ns kids nm) refs inw met = (23, met + 1)) := by show _ = _; rw [HMF.out, if_pos (.inr c2)]
    obtain ⟨rfl, rfl⟩ := c2
    go_enter Tryz.func124, Tryz.ntmps124
    go_wp2
    go_ret
    obtain ⟨hwk, hon, -, -⟩ := met_world HW.out 5 no ns.length nc ko kids.length kc nm refs true
    exact Met.of ⟨ret_int (by rw [HR.out]), by rw [HR.out]; exact hwk, hon⟩
  by_cases c5 : op = 5
  · have HR : Hid (meetF cs (f + 1) (.mk op ns kids nm) refs inw met = followF cs f nm op refs inw (met + 1)) := by show _ = _; rw [HMF.out, if_neg (fun h => h.elim c1 c2), if_pos (.inr c5)]
    obtain rfl : inw = false := by cases inw <;> simp_all
    subst c5
    clear c2
    go_enter Tryz.func124, Tryz.ntmps124
    go_wp2_with fail
    obtain ⟨wA, hwA⟩ : ∃ wA, wA = ((w.setCell ⟨pw, 1, none⟩ (.int .i64 ((met : Int) + 1))).alloc (.cells #[.int .i64 5, .slice no ns.length nc, .slice ko kids.length kc, .string nm] 49)).alloc (.cells #[.int .i64 refs, .bool false] 220) := ⟨_, rfl⟩
    obtain ⟨hwk, hon, hbx, hsp⟩ := met_world HW.out 5 no ns.length nc ko kids.length kc nm refs false
    rw [← hwA] at hwk hon hbx hsp
    rw [← hwA]
    have HWK := hide hwk
    have HON := hide hon
    clear hwk hon hbx hsp hwA
    have HCALL := hide (follow_step f HIH.out 5 no ns.length nc ko kids.length kc nm refs false (met + 1) W wA pw co cc cs g o V (Only.gc HG.out HON.out hp) hp HC.out HWK.out (by omega) (by omega) hr)
    unfold ndV spV at HCALL
    refine HCALL.out.mono ?_
    rintro e w2 ⟨rfl, hwk, hon⟩
    have HWK2 := hide hwk
    have HON2 := hide hon
    clear hwk hon
    go_wp2
    go_ret
    exact Met.of ⟨ret_int (by rw [HR.out]), by rw [HR.out]; exact HWK2.out, HON.out.trans HON2.out (fun _ _ h => h)⟩
  by_cases c10 : op = 10
  · have HR : Hid (meetF cs (f + 1) (.mk op ns kids nm) refs inw met = followF cs f nm op refs inw (met + 1)) := by show _ = _; rw [HMF.out, if_neg (fun h => h.elim c1 c2), if_pos (.inl c10)]
    subst c10
    clear c2 c5
    go_enter Tryz.func124, Tryz.ntmps124
    go_wp2_with fail
    obtain ⟨wA, hwA⟩ : ∃ wA, wA = ((w.setCell ⟨pw, 1, none⟩ (.int .i64 ((met : Int) + 1))).alloc (.cells #[.int .i64 10, .slice no ns.length nc, .slice ko kids.length kc, .string nm] 49)).alloc (.cells #[.int .i64 refs, .bool inw] 220) := ⟨_, rfl⟩
    obtain ⟨hwk, hon, hbx, hsp⟩ := met_world HW.out 10 no ns.length nc ko kids.length kc nm refs inw
    rw [← hwA] at hwk hon hbx hsp
    rw [← hwA]
    have HWK := hide hwk
    have HON := hide hon
    clear hwk hon hbx hsp hwA
    have HCALL := hide (follow_step f HIH.out 10 no ns.length nc ko kids.length kc nm refs inw (met + 1) W wA pw co cc cs g o V (Only.gc HG.out HON.out hp) hp HC.out HWK.out (by omega) (by omega) hr)
    unfold ndV spV at HCALL
    refine HCALL.out.mono ?_
    rintro e w2 ⟨rfl, hwk, hon⟩
    have HWK2 := hide hwk
    have HON2 := hide hon
    clear hwk hon
    go_wp2
    go_ret
    exact Met.of ⟨ret_int (by rw [HR.out]), by rw [HR.out]; exact HWK2.out, HON.out.trans HON2.out (fun _ _ h => h)⟩
  have HR : Hid (meetF cs (f + 1) (.mk op ns kids nm) refs inw met = metK cs f refs inw (met + 1) kids) := by show _ = _; rw [HMF.out, if_neg (fun h => h.elim c1 c2), if_neg (by omega)]
  have b5 : (op == 5) = false := by simpa using c5
  have b10 : (op == 10) = false := by simpa using c10
  clear c2 c5 c10
  go_enter Tryz.func124, Tryz.ntmps124
  go_wp2
  obtain ⟨wA, hwA⟩ : ∃ wA, wA = ((w.setCell ⟨pw, 1, none⟩ (.int .i64 ((met : Int) + 1))).alloc (.cells #[.int .i64 op, .slice no ns.length nc, .slice ko kids.length kc, .string nm] 49)).alloc (.cells #[.int .i64 refs, .bool inw] 220) := ⟨_, rfl⟩
  obtain ⟨hwk, hon, hbx, hsp⟩ := met_world HW.out op no ns.length nc ko kids.length kc nm refs inw
  rw [← hwA] at hwk hon hbx hsp
  rw [← hwA]
  have HWK := hide hwk
  have HON := hide hon
  have HSP := hide hsp
  have HZA : Hid (w.heap.size < wA.heap.size) := block_lt_cell hbx.c0
  clear hwk hon hbx hsp hwA
  generalize hp5 : w.heap.size + 1 = p5 at HSP ⊢
  go_loopw [46] (fun t wr => ∃ i : Nat, i ≤ kids.length ∧ t = .int .i64 i ∧ (metK cs f refs inw (met + 1) (kids.take i)).1 = 0 ∧ WkAt wr pw co cs.length cc (metK cs f refs inw (met + 1) (kids.take i)).2 ∧ Only (· = pw) wA wr) (fun t _ => kids.length - (intOf t).toNat)
  case atStart => exact ⟨0, Nat.zero_le _, rfl, rfl, HWK.out, Only.refl _ _⟩
  case round =>
    obtain ⟨i, hi, rfl, hm0, hwk, hon⟩ := hrel
    have HM0 := hide hm0
    have HWKr := hide hwk
    have HONr := hide hon
    have HSM := hide (metK_small cs f refs inw (met + 1) (by omega) (kids.take i) hm0)
    have HUP := hide (metK_up cs f refs inw (met + 1) (kids.take i))
    clear hm0 hwk hon
    have HGr : Hid (Gc W wr) := Only.gc (Only.gc HG.out HON.out hp) HONr.out hp
    by_cases hlt : i < kids.length
    · obtain rfl := HKO.out (by omega)
      have HBW : Hid (∀ a u, W.cell? a = some u → wr.cell? a = some u) := fun a u hc => Below.keeps HGr.out.below (Nat.le_refl _) hc
      have hin := (HCS.out i hlt).mono HBW.out
      obtain ⟨n0, n1, n2, n3⟩ := hin
      have hspr : wr.heap[p5]? = some (.cells #[.int .i64 refs, .bool inw] 220 (0, 0)) := by rw [HONr.out.block p5 (block_lt HSP.out) (by omega)]; exact HSP.out
      have s0 : wr.cell? ⟨p5, 0, none⟩ = some (.int .i64 refs) := by rw [cell_of hspr]; rfl
      have s1 : wr.cell? ⟨p5, 1, none⟩ = some (.bool inw) := by rw [cell_of hspr]; rfl
      have HKD := hide (HKS.out i hlt)
      have HTK : Hid (kids.take (i + 1) = kids.take i ++ [kids[i]]) := List.take_succ_eq_append_getElem hlt
      have HTD : Hid (kids = kids.take (i + 1) ++ kids.drop (i + 1)) := (List.take_append_drop _ _).symm
      generalize hke : kids[i] = kt at *
      clear hke
      generalize K i = kv at *
      generalize hme : (metK cs f refs inw (met + 1) (kids.take i)).2 = mi at *
      have HME := hide hme
      have HST := hide (metK_snoc cs f refs inw (met + 1) (kids.take i) kt HM0.out)
      rw [hme] at HST
      clear hme hspr
      have hp5r : p5 < wr.heap.size := World.block_lt_of_cell? wr _ s0
      have ne1 : ¬ p5 = wr.heap.size := by omega
      obtain ⟨wC, hwC⟩ : ∃ wC, wC = wr.alloc (.cells #[.int .i64 kv.op, .slice kv.no kv.nl kv.nc, .slice kv.ko kv.kl kv.kc, .string kv.nm] 49) := ⟨_, rfl⟩
      have HBC : Hid (Below wr.heap.size wr wC) := by rw [hwC]; exact (Below.refl _ _).alloc (Nat.le_refl _) _
      have HCALL := hide (HIH.out kt kv refs inw mi W wC pw co cc cs g o V (HGr.out.more HBC.out) hp HKD.out HC.out (HWKr.out.below HBC.out) HSM.out (by have := HUP.out; omega) hr)
      unfold NVal.val ndV spV at HCALL
      go_wp2_with fail
      rw [← hwC]
      refine HCALL.out.mono ?_
      rintro e w2 ⟨rfl, hwk2, hon2⟩
      have HWK2 := hide hwk2
      have HON2 : Hid (Only (· = pw) wA w2) := HONr.out.trans ((Only.below HBC.out).trans hon2 (fun _ _ h => h)) (fun _ _ h => h)
      clear hwk2 hon2 hwC n0 n1 n2 n3 s0 s1
      have HSM2 := hide (meetF_small cs f kt refs inw mi)
      generalize hre : meetF cs f kt refs inw mi = r at *
      clear hre
      obtain ⟨r1, r2⟩ := r
      by_cases e0 : r1 = 0
      · subst e0
        go_wp2
        go_roundw
        case rel => exact ⟨i + 1, by omega, by go_num, by rw [HTK.out, HST.out], by rw [HTK.out, HST.out]; exact HWK2.out, HON2.out⟩
        case measure => simp [intOf]; omega
      · have HE : Hid (metK cs f refs inw (met + 1) kids = (r1, r2)) := by
          show _ = _
          rw [HTD.out, metK_err cs f refs inw (met + 1) _ _ (by rw [HTK.out, HST.out]; exact e0), HTK.out, HST.out]
        have b0 : (r1 == 0) = false := by simpa using e0
        clear e0
        go_wp2
        go_ret
        exact Met.of ⟨ret_int (by rw [HR.out, HE.out]), by rw [HR.out, HE.out]; exact HWK2.out, HON.out.trans HON2.out (fun _ _ h => h)⟩
    · have HE : Hid (kids.take i = kids) := List.take_of_length_le (by omega)
      have HM1 := HM0.out
      have HW1 := HWKr.out
      rw [HE.out] at HM1 HW1
      have HMM := hide HM1
      have HWW := hide HW1
      clear HM1 HW1
      go_wp2
      go_ret
      exact Met.of ⟨ret_int (by rw [HR.out, HMM.out]), by rw [HR.out]; exact HWW.out, HON.out.trans HONr.out (fun _ _ h => h)⟩
theorem meet_any : ∀ f, MeetOk f
  | 0 => fun t v refs inw met W w pw co cc cs g o V _ _ _ _ _ hm hf _ => by omega
  | f + 1 => meet_step f (meet_any f)
end Go.Proofs.YtkpgfhapffijkaaGreatDoor

/- Package cal: the walk of refuse. -/
namespace Go.Proofs.YtkpgfhapffijkaaGreatDoor
open Go.ChangeShapes Go.WideShapes Go.ChangeAt Go.RowKit Go.DsMem Go.DsMk
set_option linter.unusedVariables false
/-- the error of asking for a node's days, among calendars, at a day -/
def refF (cs : List (ByteArray × Nd)) (t : Nd) (day : Int) : Int :=
  if 24 < cs.length then 3 else if rightN t = false then 1 else if (cs.all fun c => rightN c.2) = false then 1 else if DsCal.rightB day = false then 6 else (meetF cs 257 t 0 false 0).1
set_option maxHeartbeats 8000000 in
set_option maxRecDepth 20000 in
/-- cal.refuse -/
theorem Gc.refuse {W w : World} (h : Gc W w) (co : Option Addr) (cc : Nat) (cs : List (ByteArray × Nd)) (g o : Nat) (V : Nat → NVal) (hc : CalsAt w co cc cs g o V) (t : Nd) (v : NVal) (hv : NdAt w v t) (day : Int) :
    Calls Tryz.prog 83 #[.slice co cs.length cc, v.val, .int .i64 day] w fun e w' => e = .returned (.int .i64 (refF cs t day)) ∧ Gc W w' := by
  have HG := hide h
  have HC := hide hc
  have HV := hide hv
  have hlen := hc.len
  clear h hc hv
  obtain ⟨R, hR⟩ : ∃ R, refF cs t day = R := ⟨_, rfl⟩
  have HR := hide hR
  rw [hR]
  clear hR
  have HRF : Hid (R = if 24 < cs.length then 3 else if rightN t = false then 1 else if (cs.all fun c => rightN c.2) = false then 1 else if DsCal.rightB day = false then 6 else (meetF cs 257 t 0 false 0).1) := by show _ = _; rw [← HR.out]; rfl
  unfold NVal.val ndV
  by_cases c24 : 24 < cs.length
  · have HE : Hid (R = 3) := by show _ = _; rw [HRF.out, if_pos c24]
    have c24' : (24 : Int) < (cs.length : Int) := by omega
    go_enter Tryz.func83, Tryz.ntmps83
    go_wp2
    go_ret
    exact ⟨ret_int (by rw [HE.out]), HG.out.alloc _⟩
  have c24' : ¬ (24 : Int) < (cs.length : Int) := by omega
  obtain ⟨br, hbr⟩ : ∃ b, rightN t = b := ⟨_, rfl⟩
  have HBR := hide hbr
  clear hbr
  go_enter Tryz.func83, Tryz.ntmps83
  go_wp2_with fail
  obtain ⟨wA, hwA⟩ : ∃ wA, wA = w.alloc (.cells #[.int .i64 v.op, .slice v.no v.nl v.nc, .slice v.ko v.kl v.kc, .string v.nm] 49) := ⟨_, rfl⟩
  have hbx : NBox wA w.heap.size v.op v.no v.nl v.nc v.ko v.kl v.kc v.nm := by rw [hwA]; exact NBox.new _ _ _ _ _ _ _ _ _
  have HBL : Hid (Below w.heap.size w wA) := by rw [hwA]; exact (Below.refl _ _).alloc (Nat.le_refl _) _
  rw [← hwA]
  have HBX := hide hbx
  clear hwA hbx
  have HGA : Hid (Gc W wA) := HG.out.more HBL.out
  have HGW : Hid (Gc wA wA) := HGA.out.here
  generalize w.heap.size = p4 at HBX ⊢
  have HCALL := hide (HGW.out.right t v (HV.out.grew HBL.out))
  unfold NVal.val ndV at HCALL
  rw [HBR.out] at HCALL
  refine HCALL.out.mono ?_
  rintro e w1 ⟨rfl, g1⟩
  have HG1 := hide g1
  clear g1
  cases br
  · have HE : Hid (R = 1) := by show _ = _; rw [HRF.out, if_neg c24, HBR.out]; rfl
    go_wp2
    go_ret
    exact ⟨ret_int (by rw [HE.out]), HGA.out.more HG1.out.below⟩
  go_wp2
  go_loopw [18] (fun t wr => ∃ i : Nat, i ≤ cs.length ∧ t = .int .i64 i ∧ ((cs.take i).all fun c => rightN c.2) = true ∧ Gc wA wr) (fun t _ => cs.length - (intOf t).toNat)
  case atStart => exact ⟨0, Nat.zero_le _, rfl, by simp, HG1.out⟩
  case round =>
    obtain ⟨i, hi, rfl, hall, hg⟩ := hrel
    have HA := hide hall
    have HGr := hide hg
    clear hall hg
    by_cases hlt : i < cs.length
    · obtain rfl := HC.out.at_ (by omega)
      have HCr := hide ((HC.out.grew HBL.out).grew HGr.out.below)
      have k := HCr.out.name i hlt
      obtain ⟨n0, n1, n2, n3⟩ := HCr.out.cell i hlt
      have HKD := hide (HCr.out.node i hlt)
      have HM : Hid (cs[i] ∈ cs) := List.getElem_mem hlt
      have HTK : Hid (cs.take (i + 1) = cs.take i ++ [cs[i]]) := List.take_succ_eq_append_getElem hlt
      generalize cs[i] = c at *
      generalize V i = kv at *
      obtain ⟨bc, hbc⟩ : ∃ b, rightN c.2 = b := ⟨_, rfl⟩
      have HBC := hide hbc
      clear hbc
      have HCALL2 := hide (Gc.right (HGr.out.alloc (.cells #[.string c.1, .int .i64 kv.op, .slice kv.no kv.nl kv.nc, .slice kv.ko kv.kl kv.kc, .string kv.nm] 105)) c.2 kv (HKD.out.grew ((Below.refl _ _).alloc (Nat.le_refl _) _)))
      unfold NVal.val ndV at HCALL2
      rw [HBC.out] at HCALL2
      go_wp2_with fail
      refine HCALL2.out.mono ?_
      rintro e w2 ⟨rfl, g2⟩
      have HG2 := hide g2
      clear g2 k n0 n1 n2 n3
      cases bc
      · have HE : Hid (R = 1) := by
          show _ = _
          rw [HRF.out, if_neg c24, HBR.out, if_neg (by simp), if_pos]
          rw [Bool.eq_false_iff]; intro hq
          have := List.all_eq_true.1 hq c HM.out
          simp only [HBC.out] at this; cases this
        go_wp2
        go_ret
        exact ⟨ret_int (by rw [HE.out]), HGA.out.more HG2.out.below⟩
      · have HS : Hid (((cs.take (i + 1)).all fun c => rightN c.2) = true) := by show _ = _; rw [HTK.out, List.all_append, HA.out]; simp [HBC.out]
        go_wp2
        go_roundw
        case rel => exact ⟨i + 1, by omega, by go_num, HS.out, HG2.out⟩
        case measure => simp [intOf]; omega
    · have HALL : Hid ((cs.all fun c => rightN c.2) = true) := by have := HA.out; rwa [List.take_of_length_le (by omega)] at this
      obtain ⟨bd, hbd⟩ : ∃ b, DsCal.rightB day = b := ⟨_, rfl⟩
      have HBD := hide hbd
      clear hbd
      go_wp2_with fail
      refine (Dt.right_any day _).mono ?_
      rw [HBD.out]
      rintro e w2 ⟨rfl, rfl⟩
      cases bd
      · have HE : Hid (R = 6) := by show _ = _; rw [HRF.out, if_neg c24, HBR.out, if_neg (by simp), HALL.out, if_neg (by simp), HBD.out]; rfl
        go_wp2
        go_ret
        exact ⟨ret_int (by rw [HE.out]), HGA.out.more HGr.out.below⟩
      · have HE : Hid (R = (meetF cs 257 t 0 false 0).1) := by show _ = _; rw [HRF.out, if_neg c24, HBR.out, if_neg (by simp), HALL.out, if_neg (by simp), HBD.out, if_neg (by simp)]
        obtain ⟨b0, b1, b2, b3⟩ := HBX.out.all HGr.out.below
        rename World => wz
        have hp4 : p4 < wz.heap.size := block_lt_cell b0
        have ne4 : ¬ p4 = wz.heap.size := by omega
        obtain ⟨wC, hwC⟩ : ∃ wC, wC = wz.alloc (.cells #[.slice co cs.length cc, .int .i64 0] 217) := ⟨_, rfl⟩
        have hwk : WkAt wC wz.heap.size co cs.length cc 0 := by rw [hwC]; exact heap_alloc_new wz _
        have HBC : Hid (Below wz.heap.size wz wC) := by rw [hwC]; exact (Below.refl _ _).alloc (Nat.le_refl _) _
        have HGC : Hid (Gc wA wC) := HGr.out.more HBC.out
        have HCALL3 := hide (meet_any 257 t v 0 false 0 wA wC wz.heap.size co cc cs g o V HGC.out HGr.out.below.size (HV.out.grew HBL.out) (HC.out.grew HBL.out) hwk (by decide) (by decide) (by decide))
        unfold NVal.val ndV spV at HCALL3
        clear hwk
        go_wp2_with fail
        rw [← hwC]
        refine HCALL3.out.mono ?_
        rintro e w3 ⟨rfl, -, hon⟩
        have HG3 : Hid (Gc wA w3) := Only.gc HGC.out hon HGr.out.below.size
        clear hon hwC
        go_wp2
        go_ret
        exact ⟨ret_int (by rw [HE.out]), HGA.out.more HG3.out.below⟩
end Go.Proofs.YtkpgfhapffijkaaGreatDoor
