/- The walk of CalSets. -/
import Derived.Test.YthbfjkdklnffjaaDoorCgI
namespace Go.Proofs.YthbfjkdklnffjaaDoor
open Go.ChangeShapes Go.WideShapes Go.ChangeAt Go.RowKit Go.DsMem Go.DsMk
set_option linter.unusedVariables false

/-- two nodes, one behind the other -/
structure Pair (w : World) (p : Nat) (v v' : NVal) (t t' : Nd) : Prop where
  box : w.heap[p]? = some (.cells #[.int .i64 v.op, .slice v.no v.nl v.nc, .slice v.ko v.kl v.kc, .string v.nm, .int .i64 v'.op, .slice v'.no v'.nl v'.nc, .slice v'.ko v'.kl v'.kc, .string v'.nm] 31 (0, 0))
  one_ : NdAt w v t
  two_ : NdAt w v' t'
theorem Pair.grew {w w' : World} {p : Nat} {v v' : NVal} {t t' : Nd} (h : Pair w p v v' t t') (hb : Below w.heap.size w w') : Pair w' p v v' t t' :=
  ⟨by rw [hb.block p (block_lt h.box)]; exact h.box, h.one_.grew hb, h.two_.grew hb⟩
theorem Pair.in0 {w : World} {p : Nat} {v v' : NVal} {t t' : Nd} (h : Pair w p v v' t t') : NIn w p (0 + 0 * 4) v :=
  ⟨by rw [cell_of h.box]; rfl, by rw [cell_of h.box]; rfl, by rw [cell_of h.box]; rfl, by rw [cell_of h.box]; rfl⟩
theorem Pair.in1 {w : World} {p : Nat} {v v' : NVal} {t t' : Nd} (h : Pair w p v v' t t') : NIn w p (0 + 1 * 4) v' :=
  ⟨by rw [cell_of h.box]; rfl, by rw [cell_of h.box]; rfl, by rw [cell_of h.box]; rfl, by rw [cell_of h.box]; rfl⟩
theorem Pair.both {w : World} {p : Nat} {v v' : NVal} {t t' : Nd} (h : Pair w p v v' t t') (op : Int) : NdAt w ⟨op, none, 0, 0, some ⟨p, 0, none⟩, 2, 2, ⟨#[]⟩⟩ (.mk op [] [t, t'] ⟨#[]⟩) :=
  .mk op [] [t, t'] ⟨#[]⟩ none 0 (some ⟨p, 0, none⟩) 2 p 0 (fun j => if j = 0 then v else v') (RdI.nil w) (by simp) (by simp) (by simp) (fun _ => rfl)
    (fun j hj => by
      match j, hj with
      | 0, _ => exact h.in0
      | 1, _ => exact h.in1)
    (fun j hj => by
      match j, hj with
      | 0, _ => exact h.one_
      | 1, _ => exact h.two_)
theorem Pair.one {w : World} {p : Nat} {v v' : NVal} {t t' : Nd} (h : Pair w p v v' t t') (op : Int) : NdAt w ⟨op, none, 0, 0, some ⟨p, 0, none⟩, 1, 2, ⟨#[]⟩⟩ (.mk op [] [t] ⟨#[]⟩) :=
  .mk op [] [t] ⟨#[]⟩ none 0 (some ⟨p, 0, none⟩) 2 p 0 (fun _ => v) (RdI.nil w) (by simp) (by simp) (by simp) (fun _ => rfl)
    (fun j hj => by
      match j, hj with
      | 0, _ => exact h.in0)
    (fun j hj => by
      match j, hj with
      | 0, _ => exact h.one_)
set_option maxHeartbeats 8000000 in
set_option maxRecDepth 20000 in
theorem sets_walk (co : Option Addr) (cc : Nat) (cs : List (ByteArray × Nd)) (g o : Nat) (V : Nat → NVal) (t t' : Nd) (v v' : NVal) (d : Int) (W : World) (h : Gc W W) (hc : CalsAt W co cc cs g o V) (hfc : FitsC cs) (hv : NdAt W v t) (hf : Fits t) (hv' : NdAt W v' t') (hf' : Fits t') :
    Calls Tryd.prog 3 #[.slice co cs.length cc, .agg #[.int .i64 v.op, .slice v.no v.nl v.nc, .slice v.ko v.kl v.kc, .string v.nm], .agg #[.int .i64 v'.op, .slice v'.no v'.nl v'.nc, .slice v'.ko v'.kl v'.kc, .string v'.nm], .int .i64 d] W fun e W' => e = .returned (.bool true) ∧ Below W.heap.size W W' := by
  have HG := hide h
  have HC := hide hc
  have HFC := hide hfc
  have HV := hide hv
  have HF := hide hf
  have HV' := hide hv'
  have HF' := hide hf'
  clear h hc hfc hv hf hv' hf'
  obtain ⟨a, e1, hA⟩ : ∃ a e, inF cs t d = (a, e) := ⟨_, _, rfl⟩
  obtain ⟨b, e2, hB⟩ : ∃ b e, inF cs t' d = (b, e) := ⟨_, _, rfl⟩
  have HA := hide hA
  have HB := hide hB
  clear hA hB
  go_enter Tryd.func3, Tryd.ntmps3
  go_wp2_with fail
  have HB1 := hide (BoxN.new 26 HV.out)
  obtain ⟨wA, hwA⟩ : ∃ wA, wA = W.alloc (.cells #[.int .i64 v.op, .slice v.no v.nl v.nc, .slice v.ko v.kl v.kc, .string v.nm] 26) := ⟨_, rfl⟩
  have HBA : Hid (Below W.heap.size W wA) := by refine hide ?_; rw [hwA]; exact (Below.refl _ _).alloc (Nat.le_refl _) _
  have hzA : wA.heap.size = W.heap.size + 1 := by rw [hwA]; simp
  rw [← hwA] at HB1 ⊢
  rw [← hzA]
  clear hwA hzA
  have HB2 := hide (BoxN.new 26 (HV'.out.grew HBA.out))
  obtain ⟨wB, hwB⟩ : ∃ wB, wB = wA.alloc (.cells #[.int .i64 v'.op, .slice v'.no v'.nl v'.nc, .slice v'.ko v'.kl v'.kc, .string v'.nm] 26) := ⟨_, rfl⟩
  have HBB : Hid (Below wA.heap.size wA wB) := by refine hide ?_; rw [hwB]; exact (Below.refl _ _).alloc (Nat.le_refl _) _
  rw [← hwB] at HB2 ⊢
  clear hwB
  have HB1B := hide (HB1.out.grew HBB.out)
  have HGB : Hid (Gc W wB) := (HG.out.more HBA.out).more HBB.out
  generalize W.heap.size = pA at HB1 HB1B HBA ⊢
  generalize wA.heap.size = pB at HB2 HBB ⊢
  refine (cals_any HGB.out.here co cc cs g o V (HC.out.grew HGB.out.below) HFC.out).mono ?_
  rintro e w1 ⟨co1, cc1, g1, V1, rfl, hc1, hg1⟩
  have HC1 := hide hc1
  have HX1 := hide (HB1B.out.grew hg1.below)
  have HX2 := hide (HB2.out.grew hg1.below)
  have HG1 : Hid (Gc W w1) := HGB.out.more hg1.below
  clear hc1 hg1 HB1 HB1B HB2
  obtain ⟨a0, a1, a2, a3⟩ := HX1.out.cells
  go_wp2_with fail
  refine (given_any HF.out v w1 w1 HG1.out.here HX1.out.node).mono ?_
  rintro e w2 ⟨v2, rfl, hon2, hg2⟩
  have HN2 := hide hon2.at_
  have HC2 := hide (HC1.out.grew hg2.below)
  have HX22 := hide (HX2.out.grew hg2.below)
  have HG2 : Hid (Gc W w2) := HG1.out.more hg2.below
  clear hon2 hg2 a0 a1 a2 a3 HX1 HX2 HC1
  obtain ⟨b0, b1, b2, b3⟩ := HX22.out.cells
  have hpB : pB < w2.heap.size := block_lt HX22.out.box
  go_wp2_with fail
  have HY2 := hide (BoxN.new 31 HN2.out)
  obtain ⟨w3, hw3⟩ : ∃ w3, w3 = w2.alloc (.cells #[.int .i64 v2.op, .slice v2.no v2.nl v2.nc, .slice v2.ko v2.kl v2.kc, .string v2.nm] 31) := ⟨_, rfl⟩
  have HB3 : Hid (Below w2.heap.size w2 w3) := by refine hide ?_; rw [hw3]; exact (Below.refl _ _).alloc (Nat.le_refl _) _
  rw [← hw3] at HY2 ⊢
  clear hw3 b0 b1 b2 b3 hpB
  have HG3 : Hid (Gc W w3) := HG2.out.more HB3.out
  have HC3 := hide (HC2.out.grew HB3.out)
  have HX3 := hide (HX22.out.grew HB3.out)
  generalize w2.heap.size = p2 at HY2 HB3 ⊢
  refine (given_any HF'.out v' w3 w3 HG3.out.here HX3.out.node).mono ?_
  rintro e w4 ⟨v4, rfl, hon4, hg4⟩
  have HN4 := hide hon4.at_
  have HC4 := hide (HC3.out.grew hg4.below)
  have HY4 := hide (HY2.out.grew hg4.below)
  have HG4 : Hid (Gc W w4) := HG3.out.more hg4.below
  clear hon4 hg4 HX3 HX22 HC3 HC2 HY2 HN2
  obtain ⟨c0, c1, c2, c3⟩ := HY4.out.cells
  have hp2 : p2 < w4.heap.size := block_lt HY4.out.box
  go_wp2_with fail
  have HZ4 := hide (BoxN.new 31 HN4.out)
  obtain ⟨w5, hw5⟩ : ∃ w5, w5 = w4.alloc (.cells #[.int .i64 v4.op, .slice v4.no v4.nl v4.nc, .slice v4.ko v4.kl v4.kc, .string v4.nm] 31) := ⟨_, rfl⟩
  have HB5 : Hid (Below w4.heap.size w4 w5) := by refine hide ?_; rw [hw5]; exact (Below.refl _ _).alloc (Nat.le_refl _) _
  rw [← hw5] at HZ4 ⊢
  clear hw5 c0 c1 c2 c3 hp2
  have HG5 : Hid (Gc W w5) := HG4.out.more HB5.out
  have HC5 := hide (HC4.out.grew HB5.out)
  have HY5 := hide (HY4.out.grew HB5.out)
  generalize w4.heap.size = p4 at HZ4 HB5 ⊢
  refine (in_any HG5.out.here HC5.out HY5.out.node d a e1 HA.out).mono ?_
  rintro e w6 ⟨rfl, hg6⟩
  have HG6 : Hid (Gc W w6) := HG5.out.more hg6.below
  have HC6 := hide (HC5.out.grew hg6.below)
  have HY6 := hide (HY5.out.grew hg6.below)
  have HZ6 := hide (HZ4.out.grew hg6.below)
  clear hg6 HC5 HC4 HY4 HY5 HZ4 HN4
  obtain ⟨c0, c1, c2, c3⟩ := HZ6.out.cells
  go_wp2_with fail
  refine (in_any HG6.out.here HC6.out HZ6.out.node d b e2 HB.out).mono ?_
  rintro e w7 ⟨rfl, hg7⟩
  have HG7 : Hid (Gc W w7) := HG6.out.more hg7.below
  have HC7 := hide (HC6.out.grew hg7.below)
  have HY7 := hide (HY6.out.grew hg7.below)
  have HZ7 := hide (HZ6.out.grew hg7.below)
  clear hg7 c0 c1 c2 c3 HC6 HY6 HZ6
  by_cases hE1 : e1 = 0
  · subst hE1
    by_cases hE2 : e2 = 0
    · subst hE2
      obtain ⟨p, pg, q, qh, r, ri, h7, h8, h9, hcase⟩ := sets_plain HA.out HB.out
      have H7 := hide h7
      have H8 := hide h8
      have H9 := hide h9
      clear h7 h8 h9 HA HB
      obtain ⟨c0, c1, c2, c3⟩ := HY7.out.cells
      obtain ⟨d0, d1, d2, d3⟩ := HZ7.out.cells
      go_wp2_with fail
      obtain ⟨w8, hw8⟩ : ∃ w8, w8 = w7.alloc (.cells #[.int .i64 v2.op, .slice v2.no v2.nl v2.nc, .slice v2.ko v2.kl v2.kc, .string v2.nm, .int .i64 v4.op, .slice v4.no v4.nl v4.nc, .slice v4.ko v4.kl v4.kc, .string v4.nm] 31) := ⟨_, rfl⟩
      have HB8 : Hid (Below w7.heap.size w7 w8) := by refine hide ?_; rw [hw8]; exact (Below.refl _ _).alloc (Nat.le_refl _) _
      have HK8 : Hid (w8.heap[w7.heap.size]? = some (.cells #[.int .i64 v2.op, .slice v2.no v2.nl v2.nc, .slice v2.ko v2.kl v2.kc, .string v2.nm, .int .i64 v4.op, .slice v4.no v4.nl v4.nc, .slice v4.ko v4.kl v4.kc, .string v4.nm] 31 (0, 0))) := by refine hide ?_; rw [hw8]; exact heap_alloc_new w7 _
      rw [← hw8]
      clear hw8 c0 c1 c2 c3 d0 d1 d2 d3
      have HG8 : Hid (Gc W w8) := HG7.out.more HB8.out
      have HC8 := hide (HC7.out.grew HB8.out)
      have HP8 : Hid (Pair w8 w7.heap.size v2 v4 t t') := ⟨HK8.out, HY7.out.node.grew HB8.out, HZ7.out.node.grew HB8.out⟩
      clear HC7 HY7 HZ7 HK8
      generalize w7.heap.size = pk at HP8 HB8 ⊢
      refine (in_any HG8.out.here HC8.out (HP8.out.both 7) d p pg H7.out).mono ?_
      rintro e w9 ⟨rfl, hg9⟩
      have HG9 : Hid (Gc W w9) := HG8.out.more hg9.below
      have HC9 := hide (HC8.out.grew hg9.below)
      have HP9 := hide (HP8.out.grew hg9.below)
      clear hg9 HC8 HP8
      go_wp2_with fail
      refine (in_any HG9.out.here HC9.out (HP9.out.both 8) d q qh H8.out).mono ?_
      rintro e wa ⟨rfl, hga⟩
      have HGa : Hid (Gc W wa) := HG9.out.more hga.below
      have HCa := hide (HC9.out.grew hga.below)
      have HPa := hide (HP9.out.grew hga.below)
      clear hga HC9 HP9
      go_wp2_with fail
      refine (in_any HGa.out.here HCa.out (HPa.out.one 9) d r ri H9.out).mono ?_
      rintro e wb ⟨rfl, hgb⟩
      have HGb : Hid (Gc W wb) := HGa.out.more hgb.below
      clear hgb HCa HPa
      rcases hcase with rfl | rfl | ⟨rfl, rfl⟩ | ⟨rfl, rfl⟩ | ⟨rfl, rfl, rfl, hp, hq, hr⟩
      · go_wp2_with (go_at_call 10; refine (HGb.out.known6).mono ?_; rintro e w9 ⟨rfl, hg9⟩; have HGz := hide hg9; clear hg9)
        go_ret
        exact ⟨rfl, HGz.out.below⟩
      · go_wp2_with (go_at_call 10; refine (HGb.out.known6).mono ?_; rintro e w9 ⟨rfl, hg9⟩; have HGz := hide hg9; clear hg9)
        go_ret
        exact ⟨rfl, HGz.out.below⟩
      · go_wp2_with (go_at_call 10; refine (HGb.out.known6).mono ?_; rintro e w9 ⟨rfl, hg9⟩; have HGz := hide hg9; clear hg9)
        go_ret
        exact ⟨rfl, HGz.out.below⟩
      · go_wp2_with (go_at_call 10; refine (HGb.out.known6).mono ?_; rintro e w9 ⟨rfl, hg9⟩; have HGz := hide hg9; clear hg9)
        go_ret
        exact ⟨rfl, HGz.out.below⟩
      · clear H7 H8 H9
        cases a <;> cases b
        all_goals
          simp at hp hq hr
          subst hp hq hr
          go_wp2_with (go_at_call 10; refine (HGb.out.known6).mono ?_; rintro e w9 ⟨rfl, hg9⟩; have HGz := hide hg9; clear hg9)
          go_ret
          exact ⟨rfl, HGz.out.below⟩
    · have hE' : (e2 == 0) = false := by simpa using hE2
      clear hE2
      go_wp2_with (go_at_call 10; refine (HG7.out.known6).mono ?_; rintro e w9 ⟨rfl, hg9⟩; have HGz := hide hg9; clear hg9)
      go_ret
      exact ⟨rfl, HGz.out.below⟩
  · have hE' : (e1 == 0) = false := by simpa using hE1
    clear hE1
    go_wp2_with (go_at_call 10; refine (HG7.out.known6).mono ?_; rintro e w9 ⟨rfl, hg9⟩; have HGz := hide hg9; clear hg9)
    go_ret
    exact ⟨rfl, HGz.out.below⟩
end Go.Proofs.YthbfjkdklnffjaaDoor
