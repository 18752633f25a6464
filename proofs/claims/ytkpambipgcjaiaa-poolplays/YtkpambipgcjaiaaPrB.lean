/- Law 13: the two pools side by side; do. -/
import Derived.Test.YtkpambipgcjaiaaRqE
import Derived.Test.YtkpambipgcjaiaaRpG
import Derived.Test.YtkpambipgcjaiaaPkA
namespace Go.Proofs.Ytkpambipgcjaiaa
open Go.ChangeShapes Go.WideShapes Go.ChangeAt Go.RowKit Go.DsMem Go.DsCo Go.DsPl Go.DsMap
set_option linter.unusedVariables false
set_option linter.unusedSimpArgs false
/-- the two pools lie apart -/
theorem sep {w : World} {p a b pr b0 : Nat} {R : List Rk} {H H2 : List Hd} {X : List Rt} {uo vo : Option Addr} {uc vc : Nat} (h : PoAt w p a b R H) (r : RpAt w pr b0 X H2 uo vo uc vc) :
    (pr ≠ p ∧ pr ≠ a ∧ pr ≠ b) ∧ (∀ k, (Value.slice uo X.length uc).ownBlock = some k → k ≠ p ∧ k ≠ a ∧ k ≠ b) ∧ (∀ k, (Value.slice vo H2.length vc).ownBlock = some k → k ≠ p ∧ k ≠ a ∧ k ≠ b) := by
  obtain ⟨es, ck, ha⟩ := h.mks.map
  obtain ⟨es2, ck2, hb⟩ := h.mhs.map
  have hp := h.blk
  have key : ∀ k (cs : Array Value) (T : TypeId), w.heap[k]? = some (.cells cs T (0, 0)) → T ≠ 76 → k ≠ p ∧ k ≠ a ∧ k ≠ b := fun k cs T hk hT => by
    refine ⟨fun e => ?_, fun e => ?_, fun e => ?_⟩
    · rw [e, hp] at hk
      simp at hk
      exact hT hk.2.symm
    · rw [e, ha] at hk; cases hk
    · rw [e, hb] at hk; cases hk
  refine ⟨key pr _ _ r.blk (by decide), fun k hk => ?_, fun k hk => ?_⟩
  · rcases r.rs.2 with ⟨h0, _⟩ | ⟨g1, cap, cur, e1, _, hb1, _⟩
    · rw [h0] at hk; cases hk
    · rw [e1] at hk
      cases (show some g1 = some k from hk)
      exact key k _ _ hb1 (by decide)
  · rcases r.hs.2 with ⟨h0, _⟩ | ⟨g1, cap, cur, e1, _, hb1, _⟩
    · rw [h0] at hk; cases hk
    · rw [e1] at hk
      cases (show some g1 = some k from hk)
      exact key k _ _ hb1 (by decide)
theorem RpAt.keepP {w w' : World} {p a b pr b0 : Nat} {R : List Rk} {H H2 : List Hd} {X : List Rt} {uo vo : Option Addr} {uc vc : Nat} (r : RpAt w pr b0 X H2 uo vo uc vc) (h : PoAt w p a b R H) (ho : Only (fun k => k = a ∨ k = b) w w') : RpAt w' pr b0 X H2 uo vo uc vc := by
  obtain ⟨s1, s2, s3⟩ := sep h r
  exact ⟨by rw [ho.block pr (block_lt r.blk) (fun e => by rcases e with e | e <;> omega)]; exact r.blk,
    own3_same r.rs (fun k hk => ho.block k (r.rs.lt k hk).2 (fun e => by have := s2 k hk; rcases e with e | e <;> omega)),
    own4_same r.hs (fun k hk => ho.block k (r.hs.lt k hk).2 (fun e => by have := s3 k hk; rcases e with e | e <;> omega)), r.nx, r.nh⟩
theorem PoAt.keepR {w w' : World} {p a b pr b0 : Nat} {R : List Rk} {H H2 : List Hd} {X : List Rt} {uo vo : Option Addr} {uc vc : Nat} (h : PoAt w p a b R H) (r : RpAt w pr b0 X H2 uo vo uc vc) (ho : Only (fun k => k = pr ∨ (Value.slice uo X.length uc).ownBlock = some k) w w') : PoAt w' p a b R H := by
  obtain ⟨s1, s2, s3⟩ := sep h r
  refine h.only ho (fun e => ?_) (fun e => ?_) (fun e => ?_)
  · rcases e with e | e
    · exact s1.1 e.symm
    · exact (s2 p e).1 rfl
  · rcases e with e | e
    · exact s1.2.1 e.symm
    · exact (s2 a e).2.1 rfl
  · rcases e with e | e
    · exact s1.2.2 e.symm
    · exact (s2 b e).2.2 rfl
/-- the two pools, alike -/
structure Duo (W w : World) (p a b : Nat) (R : List Rk) (H : List Hd) (pr : Nat) (X : List Rt) (uo vo : Option Addr) (uc vc : Nat) : Prop where
  po : PoAt w p a b R H
  rp : RpAt w pr (pr + 1) X H uo vo uc vc
  rk : rkR X = R
  bel : Below W.heap.size W w
  ga : W.heap.size ≤ a
  gb : W.heap.size ≤ b
  gr : W.heap.size ≤ pr
  rl : R.length ≤ 20
theorem Duo.xl {W w : World} {p a b : Nat} {R : List Rk} {H : List Hd} {pr : Nat} {X : List Rt} {uo vo : Option Addr} {uc vc : Nat} (d : Duo W w p a b R H pr X uo vo uc vc) : X.length ≤ 20 := by
  have := d.rl
  rw [← d.rk, rkR_len] at this
  exact this
theorem Duo.below {W w w' : World} {p a b : Nat} {R : List Rk} {H : List Hd} {pr : Nat} {X : List Rt} {uo vo : Option Addr} {uc vc : Nat} (d : Duo W w p a b R H pr X uo vo uc vc) (hb : Below w.heap.size w w') : Duo W w' p a b R H pr X uo vo uc vc :=
  ⟨d.po.below hb, d.rp.below hb, d.rk, d.bel.trans (hb.mono d.bel.size), d.ga, d.gb, d.gr, d.rl⟩
/-- what do tells -/
def DoT (W w : World) (p a b pr : Nat) (R : List Rk) (H : List Hd) (X : List Rt) (uo : Option Addr) (uc : Nat) (e : Ending) (w' : World) : Prop :=
  e = .returned (.bool true) ∧ (∃ R' H' X' vo' vc', Duo W w' p a b R' H' pr X' uo vo' uc vc' ∧ H'.length ≤ H.length + 20) ∧ Only (fun k => k = a ∨ k = b ∨ k = pr ∨ (Value.slice uo X.length uc).ownBlock = some k) w w'
end Go.Proofs.Ytkpambipgcjaiaa
