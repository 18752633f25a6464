/- What the laws of package mask hold on to: the table stands, nothing old has turned; package mask's contracts under it. The walk of known. -/
import Derived.Test.YthbfjkdklnffjaaDoorMkF
namespace Go.Proofs.YthbfjkdklnffjaaDoor
open Go.ChangeShapes Go.WideShapes Go.ChangeAt Go.RowKit Go.DsMem Go.DsMk
set_option linter.unusedVariables false

/-- out of W, with the table there, has come w: nothing old has turned -/
structure Gd (W w : World) : Prop where
  tab : TabT W
  below : Below W.heap.size W w
theorem Gd.here {W : World} (h : TabT W) : Gd W W := ⟨h, Below.refl _ _⟩
theorem Gd.tabT {W w : World} (h : Gd W w) : TabT w := fun q hq => Below.keeps h.below (Nat.le_refl _) (h.tab q hq)
theorem Gd.more {W w w' : World} (h : Gd W w) (hb : Below w.heap.size w w') : Gd W w' := ⟨h.tab, h.below.trans (hb.mono h.below.size)⟩
theorem Gd.drewN {W w : World} (h : Gd W w) (n : Nat) : Gd W (w.drewN n) := h.more (below_drewN _ _)
theorem Gd.drew {W w : World} (h : Gd W w) : Gd W w.drew := h.more (Below.refl _ _).drew
theorem Gd.alloc {W w : World} (h : Gd W w) (o : Obj) : Gd W (w.alloc o) := h.more ((Below.refl _ _).alloc (Nat.le_refl _) o)

theorem Gd.all {W w : World} (h : Gd W w) (n : Int) : Calls Tryd.prog 54 #[.int .i64 n] w fun e w' => e = .returned (.int .u32 (allN n)) ∧ Gd W w' :=
  (all_any n w).mono fun _ _ ⟨he, hw⟩ => ⟨he, by rw [hw]; exact h⟩
theorem Gd.week {W w : World} (h : Gd W w) (bits : Nat) (first n : Int) (hbits : bits < 256) (hf1 : -9223372036854775808 ≤ first) (hf2 : first ≤ 9223372036854775807) {x : Nat} (hx : weekN bits first n = x) :
    Calls Tryd.prog 53 #[.int .u8 bits, .int .i64 first, .int .i64 n] w fun e w' => e = .returned (.int .u32 x) ∧ Gd W w' :=
  (week_any bits first n w hbits hf1 hf2).mono fun _ _ ⟨he, hw⟩ => ⟨by rw [he, hx], by rw [hw]; exact h⟩
theorem Gd.has {W w : World} (h : Gd W w) (x : Nat) (d : Int) (hx : x < 4294967296) {b : Bool} (hb : hasB x d = b) :
    Calls Tryd.prog 28 #[.int .u32 x, .int .i64 d] w fun e w' => e = .returned (.bool b) ∧ Gd W w' :=
  (has_any x d w hx).mono fun _ _ ⟨he, hw⟩ => ⟨by rw [he, hb], by rw [hw]; exact h⟩
theorem Gd.count {W w : World} (h : Gd W w) (x : Nat) (hx : x < 4294967296) {c : Nat} (hc : (dl x).length = c) :
    Calls Tryd.prog 56 #[.int .u32 x] w fun e w' => e = .returned (.int .i64 c) ∧ Gd W w' :=
  (count_any x w hx).mono fun _ _ ⟨he, n, hw⟩ => ⟨by rw [he, hc], by rw [hw]; exact h.drewN n⟩
theorem Gd.nth {W w : World} (h : Gd W w) (x : Nat) (k : Int) (hx : x < 4294967296) (hk1 : -9223372036854775808 ≤ k) (hk2 : k ≤ 9223372036854775807) {c : Nat} (hc : nthL (dl x) k = c) :
    Calls Tryd.prog 40 #[.int .u32 x, .int .i64 k] w fun e w' => e = .returned (.int .i64 c) ∧ Gd W w' :=
  (nth_any x k w hx h.tabT hk1 hk2).mono fun _ _ ⟨he, n, hw⟩ => ⟨by rw [he, hc], by rw [hw]; exact h.drewN n⟩
theorem Gd.next {W w : World} (h : Gd W w) (x : Nat) (k : Int) (hx : x < 4294967296) {c : Nat} (hc : nextL (dl x) k = c) :
    Calls Tryd.prog 57 #[.int .u32 x, .int .i64 k] w fun e w' => e = .returned (.int .i64 c) ∧ Gd W w' :=
  (next_any x k w hx h.tabT).mono fun _ _ ⟨he, hw⟩ => ⟨by rw [he, hc], by rw [hw]; exact h⟩
theorem Gd.not {W w : World} (h : Gd W w) (x : Nat) (n : Int) (hx : x < 4294967296) {c : Nat} (hc : difN (allN n) x = c) :
    Calls Tryd.prog 43 #[.int .u32 x, .int .i64 n] w fun e w' => e = .returned (.int .u32 c) ∧ Gd W w' :=
  (not_any x n w hx).mono fun _ _ ⟨he, hw⟩ => ⟨by rw [he, hc], by rw [hw]; exact h⟩

theorem Gd.week_k {W w : World} (h : Gd W w) {x : Nat} (hx : weekN 31 3 29 = x) :
    Calls Tryd.prog 53 #[.int .u8 31, .int .i64 3, .int .i64 29] w fun e w' => e = .returned (.int .u32 x) ∧ Gd W w' :=
  h.week 31 3 29 (by decide) (by decide) (by decide) hx

end Go.Proofs.YthbfjkdklnffjaaDoor
