/- Package dayshiftref11: Drop, DropAll, Clean (written by gencn.py where they are alike). -/
import Derived.Test.YtliinilbfacpbaaCnA
namespace Go.Proofs.Ytliinilbfacpbaa
open Go.ChangeShapes Go.WideShapes Go.ChangeAt Go.RowKit Go.DsMem Go.DsCo
set_option linter.unusedVariables false
theorem BoxC.only' {S : Nat → Prop} {w w' : World} {p : Nat} {c : Cn} (h : BoxC w p c) (ho : Only S w w') (hs : ¬ S p) : BoxC w' p c := ⟨ho.cell h.c0 hs, ho.cell h.c1 hs⟩
/-- a list of the call's own that grows: from block b on -/
structure OutSt (w wr : World) (out : List Cn) (vo : Option Addr) (vc : Nat) : Prop where
  row : wr.ownsRow w.heap.size 24 2 (.slice vo out.length vc) out.length (cnRows out)
  below : Below w.heap.size w wr
theorem OutSt.start {w wr : World} (hb : Below w.heap.size w wr) : OutSt w wr [] none 0 := ⟨World.ownsRow_nil _ _ _ _, hb⟩
theorem OutSt.keep {w wr w' : World} {out : List Cn} {vo : Option Addr} {vc : Nat} (h : OutSt w wr out vo vc) (hb : Below wr.heap.size wr w') : OutSt w w' out vo vc :=
  ⟨own2_same h.row (fun k hk => hb.block k (h.row.lt k hk).2), h.below.trans (hb.mono h.below.size)⟩
/-- behind an append of one -/
theorem OutSt.step {w wr w2 w3 : World} {out : List Cn} {vo : Option Addr} {vc : Nat} {x : Cn} {g cap : Nat} (h : OutSt w wr out vo vc) (hb : Below wr.heap.size wr w2)
    (hown : w3.ownsRow w.heap.size 24 2 (.slice (some ⟨g, 0, none⟩) (out.length + 1) cap) (out.length + 1) (cnRows out ++ encC x)) (hgr : w2.grownBy w3 (Value.slice vo out.length vc).ownBlock) : OutSt w w3 (out ++ [x]) (some ⟨g, 0, none⟩) cap := by
  have hlt := h.row.lt
  refine ⟨by rw [cnRows_snoc]; simpa using hown, ?_⟩
  refine (h.below.trans (hb.mono h.below.size)).trans ((Only.grown hgr).toBelow (by have := h.below.size; have := hb.size; omega) fun i e => (hlt i e).1)
theorem heap_keepC {w : World} {o : Obj} {k : Nat} {x : Obj} (h : w.heap[k]? = some x) : (w.alloc o).heap[k]? = some x := by
  rw [((Below.refl w.heap.size w).alloc (Nat.le_refl _) o).block k (block_lt h)]; exact h
/-- the store's list is set -/
theorem RfSt.set {w0 wr : World} {p b : Nat} {uo : Option Addr} {uc : Nat} {L out : List Cn} {vo : Option Addr} {vc : Nat} (h : RfSt wr p b uo uc L) (hb : b ≤ w0.heap.size) (hp : p < w0.heap.size) (ho : OutSt w0 wr out vo vc) (hf : Fine out) :
    RfSt (wr.setCell ⟨p, 0, none⟩ (.slice vo out.length vc)) p b vo vc out ∧ Only (· = p) w0 (wr.setCell ⟨p, 0, none⟩ (.slice vo out.length vc)) := by
  have ho' : Only (· = p) wr (wr.setCell ⟨p, 0, none⟩ (.slice vo out.length vc)) := Only.set _ p 0 _
  refine ⟨⟨?_, ?_, hf⟩, (Only.below ho.below).trans ho' (fun _ _ h => h)⟩
  · rw [hset_same h.hd]; rfl
  · refine own2_base (own2_same ho.row (fun k hk => ho'.block k (ho.row.lt k hk).2 ?_)) hb
    have := (ho.row.lt k hk).1
    show ¬ k = p
    omega
/-- what is done to the store -/
def Moved (w : World) (p b : Nat) (L : List Cn) (v : Value) (e : Ending) (w' : World) : Prop := e = .returned v ∧ (∃ uo uc, RfSt w' p b uo uc L) ∧ Only (· = p) w w'
theorem Moved.of {w : World} {p b : Nat} {L : List Cn} {v : Value} {e : Ending} {w' : World} (h : e = .returned v ∧ (∃ uo uc, RfSt w' p b uo uc L) ∧ Only (· = p) w w') : Moved w p b L v e w' := h
end Go.Proofs.Ytliinilbfacpbaa
