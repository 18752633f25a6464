/- A disk of the program and one of the reference, side by side. -/
import Derived.Test.YtgobnnciijlpaaaDoorRfB
import Derived.Test.YtgobnnciijlpaaaDoorRfD
import Derived.Test.YtgobnnciijlpaaaDoorRfE
import Derived.Test.YtgobnnciijlpaaaDoorBy
namespace Go.Proofs.YtgobnnciijlpaaaDoor
open Go.ChangeShapes Go.WideShapes Go.ChangeAt Go.RowKit Go.DsMem Go.DsDk
set_option linter.unusedVariables false

/-- a disk of the program that is D, one of the reference that is E: both a law's own, and apart -/
structure Both (W w : World) (p : Nat) (v : Nat → Value) (D : Dk) (S : Nat → Prop) (r g : Nat) (u : Nat → Value) (E : Dk) : Prop where
  own : Own W.heap.size W w p v D
  ref : RefAt w S r g u E
  mine : W.heap.size ≤ r ∧ W.heap.size ≤ g
  apart : ∀ k, foot p v k → ¬ S k
section
variable {W w w' : World} {p r g : Nat} {v v' u u' : Nat → Value} {D D' E E' : Dk} {S T : Nat → Prop}
theorem Both.left (h : Both W w p v D S r g u E) (hm : Moved w p v w' v' D') : Both W w' p v' D' S r g u E := by
  refine ⟨h.own.moved hm, h.ref.stays hm.only (fun k hk hf => h.apart k hf hk), h.mine, fun k hk hs => ?_⟩
  rcases hm.grow k hk with h1 | h1
  · exact h.apart k h1 hs
  · have := h.ref.lt k hs; omega
theorem Both.right (h : Both W w p v D S r g u E) (hm : RMoved w S r g w' u' E') : Both W w' p v D (fun k => S k ∨ w.heap.size ≤ k ∧ k < w'.heap.size) r g u' E' := by
  have hn : ∀ k, foot p v k → ¬ (k = r ∨ k = g) := fun k hk e => by rcases e with rfl | rfl; exact h.apart _ hk h.ref.sr; exact h.apart _ hk h.ref.sg
  have hB : Below W.heap.size w w' := hm.only.toBelow h.own.size (fun i hi => by rcases hi with rfl | rfl; exact h.mine.1; exact h.mine.2)
  refine ⟨⟨h.own.dk.stays hm.only hn, h.own.mine, h.own.below.trans hB, Nat.le_trans h.own.size hm.only.size⟩, hm.dk, h.mine, fun k hk hs => ?_⟩
  rcases hs with hs | hs
  · exact h.apart k hk hs
  · have := h.own.dk.foot_lt hk; omega
theorem Both.grew (h : Both W w p v D S r g u E) (hb : Below w.heap.size w w') : Both W w' p v D S r g u E := ⟨h.own.grew hb, h.ref.below hb, h.mine, h.apart⟩
theorem Both.drew (h : Both W w p v D S r g u E) : Both W w.drew p v D S r g u E := h.grew (Below.refl _ _).drew
theorem Both.alloc (h : Both W w p v D S r g u E) (o : Obj) : Both W (w.alloc o) p v D S r g u E := h.grew ((Below.refl _ _).alloc (Nat.le_refl _) o)
/-- something else of the law's own is written -/
theorem Both.only (h : Both W w p v D S r g u E) (ho : Only T w w') (hT : ∀ k, T k → W.heap.size ≤ k ∧ ¬ foot p v k ∧ ¬ S k) : Both W w' p v D S r g u E :=
  ⟨⟨h.own.dk.stays ho (fun k hk ht => (hT k ht).2.1 hk), h.own.mine, h.own.below.trans (ho.toBelow h.own.size fun i hi => (hT i hi).1), Nat.le_trans h.own.size ho.size⟩, h.ref.stays ho (fun k hk ht => (hT k ht).2.2 hk), h.mine, h.apart⟩
theorem Both.lt (h : Both W w p v D S r g u E) {k : Nat} (hk : w.heap.size ≤ k) : W.heap.size ≤ k ∧ ¬ foot p v k ∧ ¬ S k :=
  ⟨Nat.le_trans h.own.size hk, fun hf => by have := h.own.dk.foot_lt hf; omega, fun hs => by have := h.ref.lt k hs; omega⟩
theorem Both.argT {sl : Value} {b : List UInt8} (h : Both W w p v D S r g u E) (hr : Rd W sl b) : 0 < b.length → InT (fun k => k ≠ r ∧ k ≠ g) sl := by
  intro h0 a n c hs
  obtain ⟨ao, cap, e, hl, hn, hrd⟩ := hr
  rw [hs] at e
  simp only [Value.slice.injEq] at e
  obtain ⟨rfl, _, _⟩ := e
  have hc := hrd a rfl 0 b[0] (List.getElem?_eq_getElem h0)
  have := World.block_lt_of_cell? W _ hc
  rw [add_block] at this
  have h1 := h.mine.1
  have h2 := h.mine.2
  exact ⟨by omega, by omega⟩
theorem Both.argI {sl : Value} {b : List Int} (h : Both W w p v D S r g u E) (hr : RdI W sl b) : 0 < b.length → InT (fun k => k ≠ r ∧ k ≠ g) sl := by
  intro h0 a n c hs
  obtain ⟨ao, cap, e, hl, hn, hrd⟩ := hr
  rw [hs] at e
  simp only [Value.slice.injEq] at e
  obtain ⟨rfl, _, _⟩ := e
  have hc := hrd a rfl 0 b[0] (List.getElem?_eq_getElem h0)
  have := World.block_lt_of_cell? W _ hc
  rw [add_block] at this
  have h1 := h.mine.1
  have h2 := h.mine.2
  exact ⟨by omega, by omega⟩
theorem Moved.keeps (hm : Moved w p v w' v' D') {n j : Nat} {x : Value} (hc : w.cell? ⟨n, j, none⟩ = some x) (hn : ¬ foot p v n) : w'.cell? ⟨n, j, none⟩ = some x := hm.only.cell hc hn
theorem RMoved.keeps (hm : RMoved w S r g w' u' E') (h : RefAt w S r g u E) {n j : Nat} {x : Value} (hc : w.cell? ⟨n, j, none⟩ = some x) (hn : ¬ S n) : w'.cell? ⟨n, j, none⟩ = some x :=
  hm.only.cell hc (fun e => by
    rcases e with e | e
    · exact hn (by have e2 : n = r := e; rw [e2]; exact h.sr)
    · exact hn (by have e2 : n = g := e; rw [e2]; exact h.sg))
theorem RMoved.onlyS (hm : RMoved w S r g w' u' E') (h : RefAt w S r g u E) : Only S w w' := hm.only.mono fun i _ e => by
  rcases e with rfl | rfl
  · exact h.sr
  · exact h.sg
end

end Go.Proofs.YtgobnnciijlpaaaDoor
