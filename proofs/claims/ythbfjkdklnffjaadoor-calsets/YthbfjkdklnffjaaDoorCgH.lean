/- The walk of CalMoved. -/
import Derived.Test.YthbfjkdklnffjaaDoorCgG
import Derived.Test.YthbfjkdklnffjaaDoorCfFr
namespace Go.Proofs.YthbfjkdklnffjaaDoor
open Go.ChangeShapes Go.WideShapes Go.ChangeAt Go.RowKit Go.DsMem Go.DsMk
set_option linter.unusedVariables false

/-- a node in a box of its own -/
structure BoxN (w : World) (p : Nat) (ty : TypeId) (v : NVal) (t : Nd) : Prop where
  box : w.heap[p]? = some (.cells #[.int .i64 v.op, .slice v.no v.nl v.nc, .slice v.ko v.kl v.kc, .string v.nm] ty (0, 0))
  node : NdAt w v t
theorem BoxN.grew {w w' : World} {p : Nat} {ty : TypeId} {v : NVal} {t : Nd} (h : BoxN w p ty v t) (hb : Below w.heap.size w w') : BoxN w' p ty v t :=
  ⟨by rw [hb.block p (block_lt h.box)]; exact h.box, h.node.grew hb⟩
theorem BoxN.new {w : World} {v : NVal} {t : Nd} (ty : TypeId) (h : NdAt w v t) : BoxN (w.alloc (.cells #[.int .i64 v.op, .slice v.no v.nl v.nc, .slice v.ko v.kl v.kc, .string v.nm] ty)) w.heap.size ty v t :=
  ⟨heap_alloc_new w _, h.grew ((Below.refl _ _).alloc (Nat.le_refl _) _)⟩
theorem BoxN.cells {w : World} {p : Nat} {ty : TypeId} {v : NVal} {t : Nd} (h : BoxN w p ty v t) : w.cell? ⟨p, 0, none⟩ = some (.int .i64 v.op) ∧ w.cell? ⟨p, 1, none⟩ = some (.slice v.no v.nl v.nc) ∧ w.cell? ⟨p, 2, none⟩ = some (.slice v.ko v.kl v.kc) ∧ w.cell? ⟨p, 3, none⟩ = some (.string v.nm) :=
  ⟨by rw [cell_of h.box]; rfl, by rw [cell_of h.box]; rfl, by rw [cell_of h.box]; rfl, by rw [cell_of h.box]; rfl⟩
theorem in_any {W w : World} (g : Gc W w) {co : Option Addr} {cc : Nat} {cs : List (ByteArray × Nd)} {gg o : Nat} {V : Nat → NVal} (hc : CalsAt w co cc cs gg o V) {t : Nd} {v : NVal} (hv : NdAt w v t) (d : Int) (x : Bool) (e : Int) (hx : inF cs t d = (x, e)) :
    Calls Tryd.prog 9 #[.slice co cs.length cc, .agg #[.int .i64 v.op, .slice v.no v.nl v.nc, .slice v.ko v.kl v.kc, .string v.nm], .int .i64 d] w fun r w' => r = .returned (.tuple #[.bool x, .int .i64 e]) ∧ Gc W w' := by
  have := g.inAny co cc cs gg o V hc t v hv d
  rw [hx] at this
  exact this
theorem due_any {W w : World} (g : Gc W w) {co : Option Addr} {cc : Nat} {cs : List (ByteArray × Nd)} {gg o : Nat} {V : Nat → NVal} (hc : CalsAt w co cc cs gg o V) {t t' : Nd} {v v' : NVal} (hv : NdAt w v t) (hv' : NdAt w v' t') (dir d : Int) (hd1 : -9223372036854775808 ≤ dir) (hd2 : dir ≤ 9223372036854775807) (x : Bool) (e : Int) (hx : dueF cs t t' dir d = (x, e)) :
    Calls Tryd.prog 11 #[.slice co cs.length cc, .agg #[.int .i64 v.op, .slice v.no v.nl v.nc, .slice v.ko v.kl v.kc, .string v.nm], .agg #[.int .i64 v'.op, .slice v'.no v'.nl v'.nc, .slice v'.ko v'.kl v'.kc, .string v'.nm], .int .i64 dir, .int .i64 d] w fun r w' => r = .returned (.tuple #[.bool x, .int .i64 e]) ∧ Gc W w' := by
  have := g.due co cc cs gg o V hc t t' v v' hv hv' dir d hd1 hd2
  rw [hx] at this
  exact this
theorem due_err {cs : List (ByteArray × Nd)} {t t' : Nd} {dir d : Int} {x : Bool} {e : Int} (h : dueF cs t t' dir d = (x, e)) (he : ¬ e = 0) : x = false := by
  unfold dueF at h
  split at h
  · exact (Prod.mk.inj h).1.symm
  split at h
  · exact (Prod.mk.inj h).1.symm
  split at h
  · exact (Prod.mk.inj h).1.symm
  split at h
  · exact (Prod.mk.inj h).1.symm
  split at h
  · exact absurd (Prod.mk.inj h).2.symm he
  · exact absurd (Prod.mk.inj h).2.symm he
theorem due_ok {cs : List (ByteArray × Nd)} {t t' : Nd} {dir d : Int} {x : Bool} (h : dueF cs t t' dir d = (x, 0)) :
    ∃ a b, inF cs t d = (a, 0) ∧ inF cs t' d = (b, 0) ∧ ((b = false ∧ x = false) ∨ (a = true ∧ b = true ∧ x = true) ∨ (a = false ∧ b = true ∧ x = false) ∨ (a = false ∧ b = true ∧ x = true ∧ ¬ dir = 0)) := by
  unfold dueF at h
  split at h
  · rename_i h0; exact absurd (Prod.mk.inj h).2 h0
  rename_i h0
  split at h
  · rename_i h1; exact absurd (Prod.mk.inj h).2 h1
  rename_i h1
  split at h
  · have := (Prod.mk.inj h).2; omega
  have h0 : refF cs t d = 0 := Decidable.not_not.1 h0
  have h1 : refF cs t' d = 0 := Decidable.not_not.1 h1
  refine ⟨inB cs 257 t d, inB cs 257 t' d, by unfold inF; rw [if_pos h0], by unfold inF; rw [if_pos h1], ?_⟩
  split at h
  · rename_i hb
    exact .inl ⟨hb, (Prod.mk.inj h).1.symm⟩
  · rename_i hb
    have hb : inB cs 257 t' d = true := by simpa using hb
    split at h
    · rename_i ha
      exact .inr (.inl ⟨ha, hb, (Prod.mk.inj h).1.symm⟩)
    · rename_i ha
      have ha : inB cs 257 t d = false := by simpa using ha
      have hx := (Prod.mk.inj h).1
      cases x with
      | false => exact .inr (.inr (.inl ⟨ha, hb, rfl⟩))
      | true =>
        refine .inr (.inr (.inr ⟨ha, hb, rfl, fun hd => ?_⟩))
        subst hd
        have : awayF d (-0) = [] := if_pos (by decide)
        rw [this] at hx
        simp [dueL] at hx
set_option maxHeartbeats 8000000 in
set_option maxRecDepth 20000 in
theorem moved_walk (co : Option Addr) (cc : Nat) (cs : List (ByteArray × Nd)) (g o : Nat) (V : Nat → NVal) (t t' : Nd) (v v' : NVal) (dir d : Int) (W : World) (h : Gc W W) (hc : CalsAt W co cc cs g o V) (hfc : FitsC cs) (hv : NdAt W v t) (hf : Fits t) (hv' : NdAt W v' t') (hf' : Fits t') (hdir : -9223372036854775808 ≤ dir ∧ dir ≤ 9223372036854775807) :
    Calls Tryd.prog 4 #[.slice co cs.length cc, .agg #[.int .i64 v.op, .slice v.no v.nl v.nc, .slice v.ko v.kl v.kc, .string v.nm], .agg #[.int .i64 v'.op, .slice v'.no v'.nl v'.nc, .slice v'.ko v'.kl v'.kc, .string v'.nm], .int .i64 dir, .int .i64 d] W fun e W' => e = .returned (.bool true) ∧ Below W.heap.size W W' := by
  have HG := hide h
  have HC := hide hc
  have HFC := hide hfc
  have HV := hide hv
  have HF := hide hf
  have HV' := hide hv'
  have HF' := hide hf'
  obtain ⟨hdir1, hdir2⟩ := hdir
  clear h hc hfc hv hf hv' hf'
  obtain ⟨D, E, hDE⟩ : ∃ D E, dueF cs t t' dir d = (D, E) := ⟨_, _, rfl⟩
  have HDE := hide hDE
  clear hDE
  go_enter Tryd.func4, Tryd.ntmps4
  go_wp2_with fail
  have HB1 := hide (BoxN.new 26 HV.out)
  obtain ⟨wA, hwA⟩ : ∃ wA, wA = W.alloc (.cells #[.int .i64 v.op, .slice v.no v.nl v.nc, .slice v.ko v.kl v.kc, .string v.nm] 26) := ⟨_, rfl⟩
  have HBA : Hid (Below W.heap.size W wA) := by refine hide ?_; rw [hwA]; exact (Below.refl _ _).alloc (Nat.le_refl _) _
  have hzA : wA.heap.size = W.heap.size + 1 := by rw [hwA]; simp
  rw [← hwA] at HB1 ⊢
  rw [← hzA]
  clear hwA hzA
  have HB2 := hide (BoxN.new 26 (HV'.out.grew HBA.out))
  obtain ⟨wB, hwB⟩ : ∃ wB, wB = wA.alloc (.cells #[.int .i64 v'.op, .slice v'.no v'.nl v'.nc, .slice v'.ko v'.kl v'.kc, .string v'.nm] 26) := ⟨_, rfl⟩
  have HBB : Hid (Below wA.heap.size wA wB) := by refine hide ?_; rw [hwB]; exact (Below.refl _ _).alloc (Nat.le_refl _) _
  rw [← hwB] at HB2 ⊢
  clear hwB
  have HB1B := hide (HB1.out.grew HBB.out)
  have HGB : Hid (Gc W wB) := (HG.out.more HBA.out).more HBB.out
  generalize W.heap.size = pA at HB1 HB1B HBA ⊢
  generalize wA.heap.size = pB at HB2 HBB ⊢
  refine (cals_any HGB.out.here co cc cs g o V (HC.out.grew HGB.out.below) HFC.out).mono ?_
  rintro e w1 ⟨co1, cc1, g1, V1, rfl, hc1, hg1⟩
  have HC1 := hide hc1
  have HX1 := hide (HB1B.out.grew hg1.below)
  have HX2 := hide (HB2.out.grew hg1.below)
  have HG1 : Hid (Gc W w1) := HGB.out.more hg1.below
  clear hc1 hg1 HB1 HB1B HB2
  obtain ⟨a0, a1, a2, a3⟩ := HX1.out.cells
  go_wp2_with fail
  refine (given_any HF.out v w1 w1 HG1.out.here HX1.out.node).mono ?_
  rintro e w2 ⟨v2, rfl, hon2, hg2⟩
  have HN2 := hide hon2.at_
  have HC2 := hide (HC1.out.grew hg2.below)
  have HX22 := hide (HX2.out.grew hg2.below)
  have HG2 : Hid (Gc W w2) := HG1.out.more hg2.below
  clear hon2 hg2 a0 a1 a2 a3 HX1 HX2 HC1
  obtain ⟨b0, b1, b2, b3⟩ := HX22.out.cells
  have hpB : pB < w2.heap.size := block_lt HX22.out.box
  go_wp2_with fail
  have HY2 := hide (BoxN.new 31 HN2.out)
  obtain ⟨w3, hw3⟩ : ∃ w3, w3 = w2.alloc (.cells #[.int .i64 v2.op, .slice v2.no v2.nl v2.nc, .slice v2.ko v2.kl v2.kc, .string v2.nm] 31) := ⟨_, rfl⟩
  have HB3 : Hid (Below w2.heap.size w2 w3) := by refine hide ?_; rw [hw3]; exact (Below.refl _ _).alloc (Nat.le_refl _) _
  rw [← hw3] at HY2 ⊢
  clear hw3 b0 b1 b2 b3 hpB
  have HG3 : Hid (Gc W w3) := HG2.out.more HB3.out
  have HC3 := hide (HC2.out.grew HB3.out)
  have HX3 := hide (HX22.out.grew HB3.out)
  generalize w2.heap.size = p2 at HY2 HB3 ⊢
  refine (given_any HF'.out v' w3 w3 HG3.out.here HX3.out.node).mono ?_
  rintro e w4 ⟨v4, rfl, hon4, hg4⟩
  have HN4 := hide hon4.at_
  have HC4 := hide (HC3.out.grew hg4.below)
  have HY4 := hide (HY2.out.grew hg4.below)
  have HG4 : Hid (Gc W w4) := HG3.out.more hg4.below
  clear hon4 hg4 HX3 HX22 HC3 HC2 HY2 HN2
  obtain ⟨c0, c1, c2, c3⟩ := HY4.out.cells
  have hp2 : p2 < w4.heap.size := block_lt HY4.out.box
  go_wp2_with fail
  have HZ4 := hide (BoxN.new 31 HN4.out)
  obtain ⟨w5, hw5⟩ : ∃ w5, w5 = w4.alloc (.cells #[.int .i64 v4.op, .slice v4.no v4.nl v4.nc, .slice v4.ko v4.kl v4.kc, .string v4.nm] 31) := ⟨_, rfl⟩
  have HB5 : Hid (Below w4.heap.size w4 w5) := by refine hide ?_; rw [hw5]; exact (Below.refl _ _).alloc (Nat.le_refl _) _
  rw [← hw5] at HZ4 ⊢
  clear hw5 c0 c1 c2 c3 hp2
  have HG5 : Hid (Gc W w5) := HG4.out.more HB5.out
  have HC5 := hide (HC4.out.grew HB5.out)
  have HY5 := hide (HY4.out.grew HB5.out)
  generalize w4.heap.size = p4 at HZ4 HB5 ⊢
  refine (due_any HG5.out.here HC5.out HY5.out.node HZ4.out.node dir d hdir1 hdir2 D E HDE.out).mono ?_
  rintro e w6 ⟨rfl, hg6⟩
  have HG6 : Hid (Gc W w6) := HG5.out.more hg6.below
  have HC6 := hide (HC5.out.grew hg6.below)
  have HY6 := hide (HY5.out.grew hg6.below)
  have HZ6 := hide (HZ4.out.grew hg6.below)
  clear hg6 HC5 HC4 HY4 HY5 HZ4 HN4
  by_cases hE : E = 0
  · subst hE
    obtain ⟨a, b, hA, hB, hcase⟩ := due_ok HDE.out
    have HA := hide hA
    have HB := hide hB
    clear hA hB HDE
    obtain ⟨c0, c1, c2, c3⟩ := HY6.out.cells
    go_wp2_with fail
    refine (in_any HG6.out.here HC6.out HY6.out.node d a 0 HA.out).mono ?_
    rintro e w7 ⟨rfl, hg7⟩
    have HG7 : Hid (Gc W w7) := HG6.out.more hg7.below
    have HC7 := hide (HC6.out.grew hg7.below)
    have HZ7 := hide (HZ6.out.grew hg7.below)
    clear hg7 c0 c1 c2 c3
    obtain ⟨c0, c1, c2, c3⟩ := HZ7.out.cells
    go_wp2_with fail
    refine (in_any HG7.out.here HC7.out HZ7.out.node d b 0 HB.out).mono ?_
    rintro e w8 ⟨rfl, hg8⟩
    have HG8 : Hid (Gc W w8) := HG7.out.more hg8.below
    clear hg8 c0 c1 c2 c3
    have hcase2 : ((a = true ∧ b = false ∧ D = false) ∨ (a = false ∧ b = false ∧ D = false) ∨ (a = true ∧ b = true ∧ D = true) ∨ (a = false ∧ b = true ∧ D = false)) ∨ (a = false ∧ b = true ∧ D = true ∧ ¬ dir = 0) := by
      rcases hcase with ⟨rfl, rfl⟩ | ⟨rfl, rfl, rfl⟩ | ⟨rfl, rfl, rfl⟩ | ⟨rfl, rfl, rfl, hd⟩
      · cases a <;> simp
      · simp
      · simp
      · simp [hd]
    clear hcase
    rcases hcase2 with hc | ⟨rfl, rfl, rfl, hd0⟩
    · by_cases hd0 : dir = 0
      all_goals
        rcases hc with ⟨rfl, rfl, rfl⟩ | ⟨rfl, rfl, rfl⟩ | ⟨rfl, rfl, rfl⟩ | ⟨rfl, rfl, rfl⟩
      all_goals
        go_wp2_with (go_at_call 10; refine (HG8.out.known6).mono ?_; rintro e w9 ⟨rfl, hg9⟩; have HG9 := hide hg9; clear hg9)
        go_ret
        exact ⟨rfl, HG9.out.below⟩
    · go_wp2_with (go_at_call 10; refine (HG8.out.known6).mono ?_; rintro e w9 ⟨rfl, hg9⟩; have HG9 := hide hg9; clear hg9)
      go_ret
      exact ⟨rfl, HG9.out.below⟩
  · obtain rfl := due_err HDE.out hE
    have hE' : (E == 0) = false := by simpa using hE
    clear hE
    go_wp2_with (go_at_call 10; refine (HG6.out.known6).mono ?_; rintro e w9 ⟨rfl, hg9⟩; have HG9 := hide hg9; clear hg9)
    go_ret
    exact ⟨rfl, HG9.out.below⟩
end Go.Proofs.YthbfjkdklnffjaaDoor
