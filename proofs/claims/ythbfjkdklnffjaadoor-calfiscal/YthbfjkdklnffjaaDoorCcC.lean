/- Package cal: numbersCanBe. -/
import Derived.Test.YthbfjkdklnffjaaDoorCcB
namespace Go.DsMk
end Go.DsMk
namespace Go.Proofs.YthbfjkdklnffjaaDoor
open Go.ChangeShapes Go.WideShapes Go.ChangeAt Go.RowKit Go.DsMem Go.DsMk
set_option linter.unusedVariables false

theorem Gc.between2 {W w : World} (h : Gc W w) (a b : Int) :
    Calls Tryd.prog 60 #[.int .i64 a, .int .i64 b] w fun e w' => ∃ p q : Nat, e = .returned (.func (.func 70) #[] #[.pointer (some ⟨p, 0, none⟩), .pointer (some ⟨q, 0, none⟩)]) ∧
      Hid (∀ w1, Below w'.heap.size w' w1 → ∀ k w2, Gc w1 w2 → Calls Tryd.prog 70 #[.int .i64 k, .pointer (some ⟨p, 0, none⟩), .pointer (some ⟨q, 0, none⟩)] w2 fun e w3 => e = .returned (.bool (betB a b k)) ∧ Gc w1 w3) ∧ Gc W w' :=
  (Gc.between h a b).mono fun e w' ⟨p, q, he, ⟨h1, h2⟩, hg⟩ => ⟨p, q, he, fun w1 hb k w2 g2 => by
    have c1 := Below.keeps g2.below (Nat.le_refl _) (Below.keeps hb (Nat.le_refl _) h1)
    have c2 := Below.keeps g2.below (Nat.le_refl _) (Below.keeps hb (Nat.le_refl _) h2)
    exact (betF a b k p q w2 c1 c2).mono fun e w3 ⟨he, hw⟩ => ⟨he, by rw [hw]; exact g2⟩, h.more hg.below⟩
theorem Gc.fromEnd2 {W w : World} (h : Gc W w) (a : Int) (ha0 : 0 ≤ a) (ha : a ≤ 100) :
    Calls Tryd.prog 61 #[.int .i64 a] w fun e w' => ∃ p : Nat, e = .returned (.func (.func 71) #[] #[.pointer (some ⟨p, 0, none⟩)]) ∧
      Hid (∀ w1, Below w'.heap.size w' w1 → ∀ k w2, Gc w1 w2 → Calls Tryd.prog 71 #[.int .i64 k, .pointer (some ⟨p, 0, none⟩)] w2 fun e w3 => e = .returned (.bool (endB a k)) ∧ Gc w1 w3) ∧ Gc W w' :=
  (Gc.fromEnd h a).mono fun e w' ⟨p, he, h1, hg⟩ => ⟨p, he, fun w1 hb k w2 g2 => by
    have c1 := Below.keeps g2.below (Nat.le_refl _) (Below.keeps hb (Nat.le_refl _) h1)
    exact (endF a k p w2 ha0 ha c1).mono fun e w3 ⟨he, hw⟩ => ⟨he, by rw [hw]; exact g2⟩, h.more hg.below⟩
theorem Gc.oneOf2 {W w : World} (h : Gc W w) (ao : Option Addr) (n cap : Nat) (l : List Int) (hr : RdI w (.slice ao n cap) l) (hl : l.length ≤ 1000000) :
    Calls Tryd.prog 63 #[.slice ao n cap] w fun e w' => ∃ p : Nat, e = .returned (.func (.func 72) #[] #[.pointer (some ⟨p, 0, none⟩)]) ∧
      Hid (∀ w1, Below w'.heap.size w' w1 → ∀ k w2, Gc w1 w2 → Calls Tryd.prog 72 #[.int .i64 k, .pointer (some ⟨p, 0, none⟩)] w2 fun e w3 => e = .returned (.bool (oneB l k)) ∧ Gc w1 w3) ∧ Gc W w' :=
  (Gc.oneOf h ao n cap).mono fun e w' ⟨p, he, h1, hg⟩ => ⟨p, he, fun w1 hb k w2 g2 => by
    have c1 := Below.keeps g2.below (Nat.le_refl _) (Below.keeps hb (Nat.le_refl _) h1)
    have hr2 := ((hr.below hg.below).below hb).below g2.below
    exact (oneF l k p _ w2 c1 hr2 hl).mono fun e w3 ⟨he, hw⟩ => ⟨he, by rw [hw]; exact g2⟩, h.more hg.below⟩

/-- whether the numbers of a node that has its operation's shape can be -/
def numsB (op : Int) (ns : List Int) : Bool :=
  if op = 1 then ns.all (betB 0 127) else if op = 2 then ns.all DsCal.rightB else if op = 3 ∨ op = 5 then ns.all (endB 31)
  else if op = 4 then (betB 0 6 (ns.getD 0 0) && endB 5 (ns.getD 1 0)) else if op = 6 then (oneB [445, 454, 544] (ns.getD 0 0) && betB 1 12 (ns.getD 1 0)) else true

/-- what a node's box gives -/
structure NBox (w : World) (p : Nat) (op : Int) (no : Option Addr) (nl nc : Nat) (ko : Option Addr) (kl kc : Nat) (nm : ByteArray) : Prop where
  c0 : w.cell? ⟨p, 0, none⟩ = some (.int .i64 op)
  c1 : w.cell? ⟨p, 1, none⟩ = some (.slice no nl nc)
  c2 : w.cell? ⟨p, 2, none⟩ = some (.slice ko kl kc)
  c3 : w.cell? ⟨p, 3, none⟩ = some (.string nm)
theorem NBox.below {w w' : World} {p : Nat} {op : Int} {no : Option Addr} {nl nc : Nat} {ko : Option Addr} {kl kc : Nat} {nm : ByteArray} (h : NBox w p op no nl nc ko kl kc nm) (hb : Below w.heap.size w w') : NBox w' p op no nl nc ko kl kc nm :=
  ⟨Below.keeps hb (Nat.le_refl _) h.c0, Below.keeps hb (Nat.le_refl _) h.c1, Below.keeps hb (Nat.le_refl _) h.c2, Below.keeps hb (Nat.le_refl _) h.c3⟩
theorem NBox.new (w : World) (op : Int) (no : Option Addr) (nl nc : Nat) (ko : Option Addr) (kl kc : Nat) (nm : ByteArray) : NBox (w.alloc (.cells #[.int .i64 op, .slice no nl nc, .slice ko kl kc, .string nm] 31)) w.heap.size op no nl nc ko kl kc nm := by
  have h := heap_alloc_new w (.cells #[.int .i64 op, .slice no nl nc, .slice ko kl kc, .string nm] 31)
  exact ⟨by rw [cell_of h]; rfl, by rw [cell_of h]; rfl, by rw [cell_of h]; rfl, by rw [cell_of h]; rfl⟩
def ndV (op : Int) (no : Option Addr) (nl nc : Nat) (ko : Option Addr) (kl kc : Nat) (nm : ByteArray) : Value := .agg #[.int .i64 op, .slice no nl nc, .slice ko kl kc, .string nm]

set_option maxHeartbeats 4000000 in
set_option maxRecDepth 20000 in
theorem Gc.nums1 {W w : World} (h : Gc W w) (ns : List Int) (no : Option Addr) (nc : Nat) (ko : Option Addr) (kl kc : Nat) (nm : ByteArray) (hr : RdI w (.slice no ns.length nc) ns) (hl : ns.length ≤ 1000000) :
    Calls Tryd.prog 48 #[ndV 1 no ns.length nc ko kl kc nm] w fun e w' => e = .returned (.bool (ns.all (betB 0 127))) ∧ Gc W w' := by
  have HG := hide h
  have HR := hide hr
  clear h hr
  unfold ndV
  go_enter Tryd.func48, Tryd.ntmps48
  go_wp2
  obtain ⟨wA, hwA⟩ : ∃ wA, wA = w.alloc (.cells #[.int .i64 1, .slice no ns.length nc, .slice ko kl kc, .string nm] 31) := ⟨_, rfl⟩
  have hbx : NBox wA w.heap.size 1 no ns.length nc ko kl kc nm := by rw [hwA]; exact NBox.new _ _ _ _ _ _ _ _ _
  have HGA : Hid (Gc W wA) := by rw [hwA]; exact HG.out.alloc _
  have HRA : Hid (RdI wA (.slice no ns.length nc) ns) := by rw [hwA]; exact HR.out.below ((Below.refl _ _).alloc (Nat.le_refl _) _)
  rw [← hwA]
  clear hwA
  generalize w.heap.size = p1 at *
  have KP : Hid (∀ w', Gc wA w' → w'.cell? ⟨p1, 1, none⟩ = some (.slice no ns.length nc)) := fun w' hw => (hbx.below hw.below).c1
  have cb1 := hbx.c1
  have hg0 : Gc wA wA.drew := HGA.out.here.drew
  go_region_held3 (fun w' => w'.cell? ⟨p1, 1, none⟩ = some (.slice no ns.length nc)) (first | go_keep | (exact KP.out _ (by assumption)))
    (first
      | (go_at_call 60; refine (Gc.between2 (W := wA) (by assumption) 0 127).mono ?_; rintro e w' ⟨p, q, rfl, HF, hgA⟩)
      | (go_at_call 59; refine (Gc.all_bet (W := wA) (by assumption) ns _ (by exact HRA.out.below (Gc.below (W := wA) (by assumption))) hl _ _ (betB 0 127) (by exact HF.out _ (Below.refl _ _))).mono ?_; rintro e w' ⟨rfl, hgB⟩))
  all_goals go_wp2
  go_ret
  exact ⟨rfl, HGA.out.more (Gc.below (W := wA) (by assumption))⟩
end Go.Proofs.YthbfjkdklnffjaaDoor
