/- Package dayshiftref13: Resize; what lies apart. -/
import Derived.Test.YtkpambipgcjaiaaRqC
import Derived.Test.YtkpambipgcjaiaaPrA
namespace Go.DsPl
open Go.DsCo Go.DsMap
set_option linter.unusedVariables false
/-- a resource with other units -/
def reX (X : List Rt3) (i : Nat) (n : Int) : List Rt3 := match X[i]? with | none => X | some x => X.set i (x.1, n, x.2.2)
theorem rkR_len (X : List Rt3) : (rkR X).length = X.length := by simp [rkR]
theorem rkR_set {X : List Rt3} {i : Nat} (hi : i < X.length) (n : Int) (hl : X[i].2.2 = false) (hn : ((rkR X).map (·.1)).Nodup) : rkR (X.set i (X[i].1, n, X[i].2.2)) = setL (rkR X) X[i].1 (.units n) := by
  refine List.ext_getElem? fun j => ?_
  unfold rkR setL
  rw [List.map_map, List.getElem?_map, List.getElem?_map, List.getElem?_set]
  by_cases hij : i = j
  · subst hij
    rw [if_pos rfl, if_pos hi, List.getElem?_eq_getElem hi]
    simp [kdR, hl]
  · rw [if_neg hij]
    by_cases hj : j < X.length
    · rw [List.getElem?_eq_getElem hj]
      simp only [Option.map_some, Function.comp_apply]
      rw [if_neg]
      intro e
      have h1 : ((rkR X).map (·.1))[j]? = some X[j].1 := by simp [rkR, List.getElem?_eq_getElem hj]
      have h2 : ((rkR X).map (·.1))[i]? = some X[i].1 := by simp [rkR, List.getElem?_eq_getElem hi]
      have hjl : j < ((rkR X).map (·.1)).length := by simpa [rkR] using hj
      have hil : i < ((rkR X).map (·.1)).length := by simpa [rkR] using hi
      rw [List.getElem?_eq_getElem hjl] at h1
      rw [List.getElem?_eq_getElem hil] at h2
      have e1 := Option.some.inj h1
      have e2 := Option.some.inj h2
      have hp := List.pairwise_iff_getElem.1 hn
      rcases Nat.lt_or_gt_of_ne hij with hlt | hlt
      · exact hp i j hil hjl hlt (by rw [e1, e2]; exact e.symm)
      · exact hp j i hjl hil hlt (by rw [e1, e2]; exact e)
    · rw [List.getElem?_eq_none (by omega)]
      rfl
end Go.DsPl
namespace Go.Proofs.Ytkpambipgcjaiaa
open Go.ChangeShapes Go.WideShapes Go.ChangeAt Go.RowKit Go.DsMem Go.DsCo Go.DsPl Go.DsMap
set_option linter.unusedVariables false
set_option linter.unusedSimpArgs false
theorem rtRow_len (l : List Rt) : (rtRow l).length = l.length * 3 := by
  induction l with
  | nil => rfl
  | cons x r ih => simp [rtRow, rtC] at ih ⊢; omega
theorem rtRow_set (X : List Rt) (i : Nat) (hi : i < X.length) (n : Int) : (rtRow X).set (i * 3 + 1) (.int .i64 n) = rtRow (X.set i (X[i].1, n, X[i].2.2)) := by
  refine List.ext_getElem? fun m => ?_
  by_cases hm : m < X.length * 3
  · obtain ⟨j, k, hk, rfl⟩ : ∃ j k, k < 3 ∧ m = j * 3 + k := ⟨m / 3, m % 3, by omega, by omega⟩
    have hj : j < X.length := by omega
    have hj2 : j < (X.set i (X[i].1, n, X[i].2.2)).length := by simpa using hj
    rw [rtRow_at _ j k _ hk (List.getElem?_eq_getElem hj2), List.getElem?_set, rtRow_at X j k X[j] hk (List.getElem?_eq_getElem hj)]
    by_cases e : i = j
    · subst e
      rw [List.getElem_set_self]
      match k, hk with
      | 0, _ => rw [if_neg (by omega)]; rfl
      | 1, _ => rw [if_pos rfl, if_pos (by rw [rtRow_len]; omega)]; rfl
      | 2, _ => rw [if_neg (by omega)]; rfl
    · rw [if_neg (by omega), List.getElem_set_ne e]
  · rw [List.getElem?_eq_none (by rw [List.length_set, rtRow_len]; omega), List.getElem?_eq_none (by rw [rtRow_len, List.length_set]; omega)]
/-- the units of a resource are set -/
theorem RpAt.setX {w : World} {pr b0 : Nat} {X : List Rt} {H : List Hd} {g : Nat} {vo : Option Addr} {uc vc : Nat} (h : RpAt w pr b0 X H (some ⟨g, 0, none⟩) vo uc vc) (i : Nat) (hi : i < X.length) (n : Int) :
    RpAt (w.setCell ⟨g, i * 3 + 1, none⟩ (.int .i64 n)) pr b0 (X.set i (X[i].1, n, X[i].2.2)) H (some ⟨g, 0, none⟩) vo uc vc ∧ Only (· = g) w (w.setCell ⟨g, i * 3 + 1, none⟩ (.int .i64 n)) ∧ w.frozen? ⟨g, i * 3 + 1, none⟩ = false := by
  have hS : Only (· = g) w (w.setCell ⟨g, i * 3 + 1, none⟩ (.int .i64 n)) := Only.set _ g (i * 3 + 1) _
  have hl : (X.set i (X[i].1, n, X[i].2.2)).length = X.length := List.length_set
  have hgp : g ≠ pr := h.nx g rfl
  have hvg : ∀ k, (Value.slice vo H.length vc).ownBlock = some k → k ≠ g := fun k hk e => by
    subst e
    rcases h.rs.2 with ⟨h0, _⟩ | ⟨g1, cap, cur, e1, _, hb1, _⟩
    · cases h0
    · rcases h.hs.2 with ⟨h2, _⟩ | ⟨g2, cap2, cur2, e2, _, hb2, _⟩
      · rw [h2] at hk; cases hk
      · rw [e2] at hk
        simp only [Value.slice.injEq, Option.some.injEq, Addr.mk.injEq] at e1
        obtain ⟨⟨rfl, -⟩, -, -⟩ := e1
        have : some g2 = some k := hk
        cases this
        rw [hb1] at hb2
        simp at hb2
  refine ⟨⟨by rw [hS.block pr (block_lt h.blk) (fun e => hgp e.symm), hl]; exact h.blk, ?_, own4_same h.hs (fun k hk => hS.block k (h.hs.lt k hk).2 (hvg k hk)), by rw [hl]; exact h.nx, h.nh⟩, hS, ?_⟩
  · rw [hl]
    refine ⟨by rw [rtRow_len, List.length_set]; , ?_⟩
    rcases h.rs.2 with ⟨h0, _⟩ | ⟨g1, cap, cur, e1, hb0, hb1, h1, h2, h3, h4⟩
    · cases h0
    · simp only [Value.slice.injEq, Option.some.injEq, Addr.mk.injEq] at e1
      obtain ⟨⟨rfl, -⟩, -, rfl⟩ := e1
      refine .inr ⟨g, uc, cur.setIfInBounds (i * 3 + 1) (.int .i64 n), rfl, hb0, hset_same hb1 _, h1, h2, by simpa using h3, ?_⟩
      rw [Array.toList_setIfInBounds, List.take_set, h4, rtRow_set X i hi n]
  · rcases h.rs.2 with ⟨h0, _⟩ | ⟨g1, cap, cur, e1, hb0, hb1, _⟩
    · cases h0
    · simp only [Value.slice.injEq, Option.some.injEq, Addr.mk.injEq] at e1
      obtain ⟨⟨rfl, -⟩, -, -⟩ := e1
      exact frozen_of hb1
end Go.Proofs.Ytkpambipgcjaiaa
