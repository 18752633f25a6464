/- Package lex: the map of kinds by shapes. -/
import Derived.Test.YtkpgfhapffijkaaGreatDoorR04
import Derived.Maps.OwnSet
import Derived.Maps.Views
import Derived.DeepKeys4
import Derived.Carry
namespace Go.Proofs.YtkpgfhapffijkaaGreatDoor
open Go.ChangeShapes Go.WideShapes Go.ChangeAt Go.RowKit Go.DsMem Go.DsLx
set_option linter.unusedVariables false
theorem laidOutK : laidOutB Tryz.prog = true := by kernel_rfl
theorem shpRow : 131 < Tryz.prog.types.size := of_decide_eq_true (by kernel_rfl)
theorem shpLaw : Maps.Keyed Tryz.prog 131 := Maps.Keyed.of_law (deep_law_laid laidOutK (m := 4) (by decide) shpRow (by kernel_rfl) (by kernel_rfl))
theorem shpType : Tryz.prog.keyType 131 = true := by kernel_rfl
theorem shpCells : Tryz.prog.cellsOf 131 = 2 := by kernel_rfl
theorem cells_int1 : Tryz.prog.cellsOf 3 = 1 := by kernel_rfl
theorem cells_bool1 : Tryz.prog.cellsOf 4 = 1 := by kernel_rfl
theorem shp_key (f : Int) (b : Bool) (h1 : 0 ≤ f) (h2 : f ≤ 9) : ∃ kl, keyOf Tryz.prog 131 (shpV f b) = some kl := by
  have w1 : (Lit.int .i64 f).wf = true := WalkArith.wf_i64 ⟨by omega, by omega⟩
  unfold keyOf shpV
  rw [Tryz.underlying131]
  simp only
  rw [if_pos (by rw [shpType]; simp [Value.formed, Tryz.underlying131, shpCells])]
  have hsz : ∃ m, Tryz.prog.types.size = m + 1 := ⟨Tryz.prog.types.size - 1, by have := shpRow; omega⟩
  obtain ⟨m, hm⟩ := hsz
  rw [hm]
  unfold Program.keyLits
  rw [Tryz.underlying131]
  simp [Value.cells, shpCells, Program.keyLits, Tryz.underlying3, Tryz.underlying4, cells_int1, cells_bool1, w1]
theorem shpV_inj {f f' : Int} {b b' : Bool} (h : shpV f b = shpV f' b') : f = f' ∧ b = b' := by
  unfold shpV at h
  simp at h
  exact h
/-- what a list of entries tells of a shape -/
def lookU (U : List (Int × Bool × Int)) (f : Int) (b : Bool) : Int := match U.find? (fun x => decide (x.1 = f ∧ x.2.1 = b)) with | some x => x.2.2 | none => 0
theorem lookU_cons (f' : Int) (b' : Bool) (k : Int) (U : List (Int × Bool × Int)) (f : Int) (b : Bool) : lookU ((f', b', k) :: U) f b = if f' = f ∧ b' = b then k else lookU U f b := by
  unfold lookU
  rw [List.find?_cons]
  by_cases h : f' = f ∧ b' = b
  · simp [h]
  · simp [h]
/-- the map in block B tells what the list tells -/
def KM (B : Nat) (U : List (Int × Bool × Int)) (w : World) : Prop :=
  ∃ (n : Nat) (D : DataW Unit), n ≤ U.length ∧ w.ownsMap Tryz.prog 131 (plainElem Tryz.prog 3) B n D ∧ Maps.IsMap D ∧
    ∀ (f : Int) (b : Bool) (kl : Lit), keyOf Tryz.prog 131 (shpV f b) = some kl → D.atKey kl (.lit (.int .i64 0)) = .lit (.int .i64 (lookU U f b))
theorem KM.same {B : Nat} {U : List (Int × Bool × Int)} {w w' : World} (h : KM B U w) (hb : w'.heap[B]? = w.heap[B]?) : KM B U w' := by
  obtain ⟨n, D, hn, ⟨es, clock, h1, h2⟩, h3⟩ := h
  exact ⟨n, D, hn, ⟨es, clock, by rw [hb]; exact h1, h2⟩, h3⟩
theorem KM.lt {B : Nat} {U : List (Int × Bool × Int)} {w : World} (h : KM B U w) : B < w.heap.size := by
  obtain ⟨n, D, hn, ⟨es, clock, h1, h2⟩, h3⟩ := h
  exact block_lt h1
theorem KM.below {B : Nat} {U : List (Int × Bool × Int)} {w w' : World} (h : KM B U w) (hb : Below w.heap.size w w') : KM B U w' := h.same (hb.block B h.lt)
/-- the world behind m[f, b] = k -/
noncomputable def upd (B : Nat) (f : Int) (b : Bool) (k : Int) (w : World) : World :=
  match (Instr.mapUpdate 123 (.map (some B)) (.agg #[.int .i64 f, .bool b]) (.int .i64 k)).run Tryz.prog w with
  | .ok _ w' => w'
  | _ => w
theorem KM.upd_ok {B : Nat} {U : List (Int × Bool × Int)} {w : World} (h : KM B U w) (hU : U.length ≤ 100) (f : Int) (b : Bool) (k : Int) (h1 : 0 ≤ f) (h2 : f ≤ 9) (k1 : 0 ≤ k) (k2 : k ≤ 9) :
    (Instr.mapUpdate 123 (.map (some B)) (.agg #[.int .i64 f, .bool b]) (.int .i64 k)).run Tryz.prog w = .ok () (upd B f b k w) ∧ KM B ((f, b, k) :: U) (upd B f b k w) ∧ Only (· = B) w (upd B f b k w) := by
  obtain ⟨n, D, hn, hown, hD, hat⟩ := h
  obtain ⟨kl, hkl⟩ := shp_key f b h1 h2
  have hv : plainElem (H := Unit) Tryz.prog 3 (.int .i64 k) = some (.lit (.int .i64 k), []) := plainElem_int Tryz.underlying3 (WalkArith.wf_i64 ⟨by omega, by omega⟩)
  obtain ⟨w', hrun, hown', hturn⟩ := hown.store shpLaw Tryz.underlying123 (by unfold maxLen; omega) (key := .agg #[.int .i64 f, .bool b]) hkl hv
  have e : upd B f b k w = w' := by unfold upd; rw [hrun]
  rw [e]
  refine ⟨hrun, ⟨n + 1, _, by simp; omega, hown', ?_, fun f' b' kl' hkl' => ?_⟩, ?_⟩
  · obtain ⟨es, rfl⟩ := hD; exact ⟨_, rfl⟩
  · rw [lookU_cons]
    by_cases c : kl' = kl
    · subst c
      obtain ⟨rfl, rfl⟩ := shpV_inj (shpLaw.inj hkl' hkl)
      rw [if_pos ⟨rfl, rfl⟩]
      exact Maps.atKey_put_same hD (shpLaw.key hkl) _ _
    · rw [if_neg (fun c' => c (by obtain ⟨rfl, rfl⟩ := c'; exact Option.some.inj (hkl'.symm.trans hkl))), Maps.atKey_put_other c]
      exact hat f' b' kl' hkl'
  · obtain ⟨es, clock, es', clock', hb, rfl⟩ := hturn
    refine ⟨rfl, rfl, rfl, by simp [ChangeMaps.setBlock], fun i hi hne => ?_⟩
    simp only [ChangeMaps.setBlock, Array.getElem?_setIfInBounds]
    rw [if_neg (fun e => hne e.symm)]
/-- the kind of a shape -/
def kindF (f : Int) (b : Bool) : Int := if f = 1 ∧ b = false then 1 else if f = 2 ∧ b = false then 2 else if f = 2 ∧ b = true then 3 else if f = 4 ∧ b = false then 4 else 0
def fourL : List (Int × Bool × Int) := [(1, false, 1), (2, false, 2), (2, true, 3), (4, false, 4)]
theorem kind_of {U : List (Int × Bool × Int)} (h : ∀ x ∈ fourL, x ∈ U) (hall : ∀ x ∈ U, x ∈ fourL) (f : Int) (b : Bool) : lookU U f b = kindF f b := by
  unfold lookU
  cases hf : U.find? (fun x => decide (x.1 = f ∧ x.2.1 = b)) with
  | some x =>
    have hx := hall x (List.mem_of_find?_eq_some hf)
    have hk := List.find?_some hf
    simp only [decide_eq_true_eq] at hk
    obtain ⟨rfl, rfl⟩ := hk
    simp only [fourL, List.mem_cons, List.not_mem_nil, or_false] at hx
    rcases hx with rfl | rfl | rfl | rfl <;> rfl
  | none =>
    rw [List.find?_eq_none] at hf
    have no : ∀ x ∈ fourL, ¬ (x.1 = f ∧ x.2.1 = b) := fun x hx => by have := hf x (h x hx); simpa using this
    have n1 := no (1, false, 1) (by simp [fourL])
    have n2 := no (2, false, 2) (by simp [fourL])
    have n3 := no (2, true, 3) (by simp [fourL])
    have n4 := no (4, false, 4) (by simp [fourL])
    simp only at n1 n2 n3 n4
    unfold kindF
    rw [if_neg (fun c => n1 ⟨c.1.symm, c.2.symm⟩), if_neg (fun c => n2 ⟨c.1.symm, c.2.symm⟩), if_neg (fun c => n3 ⟨c.1.symm, c.2.symm⟩), if_neg (fun c => n4 ⟨c.1.symm, c.2.symm⟩)]
/-- at most j entries -/
def MIn (B j : Nat) (w : World) : Prop := ∃ U, U.length ≤ j ∧ KM B U w
theorem MIn.run {B j : Nat} {w : World} (h : MIn B j w) (hj : j ≤ 50) (f : Int) (b : Bool) (k : Int) (h1 : 0 ≤ f) (h2 : f ≤ 9) (k1 : 0 ≤ k) (k2 : k ≤ 9) :
    (Instr.mapUpdate 123 (.map (some B)) (.agg #[.int .i64 f, .bool b]) (.int .i64 k)).run Tryz.prog w = .ok () (upd B f b k w) := by
  obtain ⟨U, hU, hk⟩ := h
  exact (hk.upd_ok (by omega) f b k h1 h2 k1 k2).1
theorem MIn.next {B j : Nat} {w : World} (h : MIn B j w) (hj : j ≤ 50) (f : Int) (b : Bool) (k : Int) (h1 : 0 ≤ f) (h2 : f ≤ 9) (k1 : 0 ≤ k) (k2 : k ≤ 9) : MIn B (j + 1) (upd B f b k w) := by
  obtain ⟨U, hU, hk⟩ := h
  exact ⟨_, by simp; omega, (hk.upd_ok (by omega) f b k h1 h2 k1 k2).2.1⟩
/-- what kindsOfShapes has made -/
def KFin (w : World) (B : Nat) (w' : World) : Prop := (∃ U, KM B U w' ∧ ∀ f b, lookU U f b = kindF f b) ∧ Below w.heap.size w w'
theorem four_bd {x : Int × Bool × Int} (h : x ∈ fourL) : 0 ≤ x.1 ∧ x.1 ≤ 9 ∧ 0 ≤ x.2.2 ∧ x.2.2 ≤ 9 := by
  simp only [fourL, List.mem_cons, List.not_mem_nil, or_false] at h
  rcases h with rfl | rfl | rfl | rfl <;> decide
theorem fin4 (w : World) (e1 e2 e3 e4 : Int × Bool × Int) (h : ∀ x ∈ fourL, x ∈ [e4, e3, e2, e1]) (h' : ∀ x ∈ [e4, e3, e2, e1], x ∈ fourL) :
    KFin w w.heap.size (upd w.heap.size e4.1 e4.2.1 e4.2.2 (upd w.heap.size e3.1 e3.2.1 e3.2.2 (upd w.heap.size e2.1 e2.2.1 e2.2.2 (upd w.heap.size e1.1 e1.2.1 e1.2.2 (w.alloc (.map #[] 0)).drew)))) := by
  have b1 := four_bd (h' e1 (by simp))
  have b2 := four_bd (h' e2 (by simp))
  have b3 := four_bd (h' e3 (by simp))
  have b4 := four_bd (h' e4 (by simp))
  have k0 : KM w.heap.size [] (w.alloc (.map #[] 0)).drew :=
    ⟨0, .map [], Nat.le_refl _, World.ownsMap_made (H := Unit) w Tryz.prog 131 (plainElem Tryz.prog 3), ⟨_, rfl⟩, fun f b kl _ => rfl⟩
  obtain ⟨-, k1, o1⟩ := k0.upd_ok (by simp) e1.1 e1.2.1 e1.2.2 b1.1 b1.2.1 b1.2.2.1 b1.2.2.2
  obtain ⟨-, k2, o2⟩ := k1.upd_ok (by simp) e2.1 e2.2.1 e2.2.2 b2.1 b2.2.1 b2.2.2.1 b2.2.2.2
  obtain ⟨-, k3, o3⟩ := k2.upd_ok (by simp) e3.1 e3.2.1 e3.2.2 b3.1 b3.2.1 b3.2.2.1 b3.2.2.2
  obtain ⟨-, k4, o4⟩ := k3.upd_ok (by simp) e4.1 e4.2.1 e4.2.2 b4.1 b4.2.1 b4.2.2.1 b4.2.2.2
  refine ⟨⟨_, k4, kind_of h h'⟩, ?_⟩
  have hb : Below w.heap.size w (w.alloc (.map #[] 0)).drew := ((Below.refl _ _).alloc (Nat.le_refl _) _).drew
  have ho := ((o1.trans o2 (fun _ _ h => h)).trans o3 (fun _ _ h => h)).trans o4 (fun _ _ h => h)
  exact hb.trans (ho.toBelow hb.size (fun i hi => by omega))
set_option maxHeartbeats 4000000 in
set_option maxRecDepth 20000 in
/-- lex.kindsOfShapes -/
theorem kinds_any (w : World) : Calls Tryz.prog 45 #[] w fun e w' => e = .returned (.map (some w.heap.size)) ∧ KFin w w.heap.size w' := by
  have hmm := @run_makeMap Tryz.prog
  have hB0 : MIn w.heap.size 0 (w.alloc (.map #[] 0)).drew := by
    refine ⟨[], Nat.le_refl _, 0, .map [], Nat.le_refl _, ?_, ⟨_, rfl⟩, fun f b kl _ => rfl⟩
    exact World.ownsMap_made (H := Unit) w Tryz.prog 131 (plainElem Tryz.prog 3)
  have r00 : ∀ w', MIn w.heap.size 0 w' → (Instr.mapUpdate 123 (.map (some w.heap.size)) (.agg #[.int .i64 1, .bool false]) (.int .i64 1)).run Tryz.prog w' = .ok () (upd w.heap.size 1 false 1 w') := fun w' h => h.run (by decide) 1 false 1 (by decide) (by decide) (by decide) (by decide)
  have r01 : ∀ w', MIn w.heap.size 1 w' → (Instr.mapUpdate 123 (.map (some w.heap.size)) (.agg #[.int .i64 1, .bool false]) (.int .i64 1)).run Tryz.prog w' = .ok () (upd w.heap.size 1 false 1 w') := fun w' h => h.run (by decide) 1 false 1 (by decide) (by decide) (by decide) (by decide)
  have r02 : ∀ w', MIn w.heap.size 2 w' → (Instr.mapUpdate 123 (.map (some w.heap.size)) (.agg #[.int .i64 1, .bool false]) (.int .i64 1)).run Tryz.prog w' = .ok () (upd w.heap.size 1 false 1 w') := fun w' h => h.run (by decide) 1 false 1 (by decide) (by decide) (by decide) (by decide)
  have r03 : ∀ w', MIn w.heap.size 3 w' → (Instr.mapUpdate 123 (.map (some w.heap.size)) (.agg #[.int .i64 1, .bool false]) (.int .i64 1)).run Tryz.prog w' = .ok () (upd w.heap.size 1 false 1 w') := fun w' h => h.run (by decide) 1 false 1 (by decide) (by decide) (by decide) (by decide)
  have r10 : ∀ w', MIn w.heap.size 0 w' → (Instr.mapUpdate 123 (.map (some w.heap.size)) (.agg #[.int .i64 2, .bool false]) (.int .i64 2)).run Tryz.prog w' = .ok () (upd w.heap.size 2 false 2 w') := fun w' h => h.run (by decide) 2 false 2 (by decide) (by decide) (by decide) (by decide)
  have r11 : ∀ w', MIn w.heap.size 1 w' → (Instr.mapUpdate 123 (.map (some w.heap.size)) (.agg #[.int .i64 2, .bool false]) (.int .i64 2)).run Tryz.prog w' = .ok () (upd w.heap.size 2 false 2 w') := fun w' h => h.run (by decide) 2 false 2 (by decide) (by decide) (by decide) (by decide)
  have r12 : ∀ w', MIn w.heap.size 2 w' → (Instr.mapUpdate 123 (.map (some w.heap.size)) (.agg #[.int .i64 2, .bool false]) (.int .i64 2)).run Tryz.prog w' = .ok () (upd w.heap.size 2 false 2 w') := fun w' h => h.run (by decide) 2 false 2 (by decide) (by decide) (by decide) (by decide)
  have r13 : ∀ w', MIn w.heap.size 3 w' → (Instr.mapUpdate 123 (.map (some w.heap.size)) (.agg #[.int .i64 2, .bool false]) (.int .i64 2)).run Tryz.prog w' = .ok () (upd w.heap.size 2 false 2 w') := fun w' h => h.run (by decide) 2 false 2 (by decide) (by decide) (by decide) (by decide)
  have r20 : ∀ w', MIn w.heap.size 0 w' → (Instr.mapUpdate 123 (.map (some w.heap.size)) (.agg #[.int .i64 2, .bool true]) (.int .i64 3)).run Tryz.prog w' = .ok () (upd w.heap.size 2 true 3 w') := fun w' h => h.run (by decide) 2 true 3 (by decide) (by decide) (by decide) (by decide)
  have r21 : ∀ w', MIn w.heap.size 1 w' → (Instr.mapUpdate 123 (.map (some w.heap.size)) (.agg #[.int .i64 2, .bool true]) (.int .i64 3)).run Tryz.prog w' = .ok () (upd w.heap.size 2 true 3 w') := fun w' h => h.run (by decide) 2 true 3 (by decide) (by decide) (by decide) (by decide)
  have r22 : ∀ w', MIn w.heap.size 2 w' → (Instr.mapUpdate 123 (.map (some w.heap.size)) (.agg #[.int .i64 2, .bool true]) (.int .i64 3)).run Tryz.prog w' = .ok () (upd w.heap.size 2 true 3 w') := fun w' h => h.run (by decide) 2 true 3 (by decide) (by decide) (by decide) (by decide)
  have r23 : ∀ w', MIn w.heap.size 3 w' → (Instr.mapUpdate 123 (.map (some w.heap.size)) (.agg #[.int .i64 2, .bool true]) (.int .i64 3)).run Tryz.prog w' = .ok () (upd w.heap.size 2 true 3 w') := fun w' h => h.run (by decide) 2 true 3 (by decide) (by decide) (by decide) (by decide)
  have r30 : ∀ w', MIn w.heap.size 0 w' → (Instr.mapUpdate 123 (.map (some w.heap.size)) (.agg #[.int .i64 4, .bool false]) (.int .i64 4)).run Tryz.prog w' = .ok () (upd w.heap.size 4 false 4 w') := fun w' h => h.run (by decide) 4 false 4 (by decide) (by decide) (by decide) (by decide)
  have r31 : ∀ w', MIn w.heap.size 1 w' → (Instr.mapUpdate 123 (.map (some w.heap.size)) (.agg #[.int .i64 4, .bool false]) (.int .i64 4)).run Tryz.prog w' = .ok () (upd w.heap.size 4 false 4 w') := fun w' h => h.run (by decide) 4 false 4 (by decide) (by decide) (by decide) (by decide)
  have r32 : ∀ w', MIn w.heap.size 2 w' → (Instr.mapUpdate 123 (.map (some w.heap.size)) (.agg #[.int .i64 4, .bool false]) (.int .i64 4)).run Tryz.prog w' = .ok () (upd w.heap.size 4 false 4 w') := fun w' h => h.run (by decide) 4 false 4 (by decide) (by decide) (by decide) (by decide)
  have r33 : ∀ w', MIn w.heap.size 3 w' → (Instr.mapUpdate 123 (.map (some w.heap.size)) (.agg #[.int .i64 4, .bool false]) (.int .i64 4)).run Tryz.prog w' = .ok () (upd w.heap.size 4 false 4 w') := fun w' h => h.run (by decide) 4 false 4 (by decide) (by decide) (by decide) (by decide)
  have m0 : MIn w.heap.size 1 (upd w.heap.size 1 false 1 (w.alloc (.map #[] 0)).drew) := hB0.next (by decide) 1 false 1 (by decide) (by decide) (by decide) (by decide)
  have m1 : MIn w.heap.size 1 (upd w.heap.size 2 false 2 (w.alloc (.map #[] 0)).drew) := hB0.next (by decide) 2 false 2 (by decide) (by decide) (by decide) (by decide)
  have m2 : MIn w.heap.size 1 (upd w.heap.size 2 true 3 (w.alloc (.map #[] 0)).drew) := hB0.next (by decide) 2 true 3 (by decide) (by decide) (by decide) (by decide)
  have m3 : MIn w.heap.size 1 (upd w.heap.size 4 false 4 (w.alloc (.map #[] 0)).drew) := hB0.next (by decide) 4 false 4 (by decide) (by decide) (by decide) (by decide)
  have m01 : MIn w.heap.size 2 (upd w.heap.size 2 false 2 (upd w.heap.size 1 false 1 (w.alloc (.map #[] 0)).drew)) := m0.next (by decide) 2 false 2 (by decide) (by decide) (by decide) (by decide)
  have m02 : MIn w.heap.size 2 (upd w.heap.size 2 true 3 (upd w.heap.size 1 false 1 (w.alloc (.map #[] 0)).drew)) := m0.next (by decide) 2 true 3 (by decide) (by decide) (by decide) (by decide)
  have m03 : MIn w.heap.size 2 (upd w.heap.size 4 false 4 (upd w.heap.size 1 false 1 (w.alloc (.map #[] 0)).drew)) := m0.next (by decide) 4 false 4 (by decide) (by decide) (by decide) (by decide)
  have m10 : MIn w.heap.size 2 (upd w.heap.size 1 false 1 (upd w.heap.size 2 false 2 (w.alloc (.map #[] 0)).drew)) := m1.next (by decide) 1 false 1 (by decide) (by decide) (by decide) (by decide)
  have m12 : MIn w.heap.size 2 (upd w.heap.size 2 true 3 (upd w.heap.size 2 false 2 (w.alloc (.map #[] 0)).drew)) := m1.next (by decide) 2 true 3 (by decide) (by decide) (by decide) (by decide)
  have m13 : MIn w.heap.size 2 (upd w.heap.size 4 false 4 (upd w.heap.size 2 false 2 (w.alloc (.map #[] 0)).drew)) := m1.next (by decide) 4 false 4 (by decide) (by decide) (by decide) (by decide)
  have m20 : MIn w.heap.size 2 (upd w.heap.size 1 false 1 (upd w.heap.size 2 true 3 (w.alloc (.map #[] 0)).drew)) := m2.next (by decide) 1 false 1 (by decide) (by decide) (by decide) (by decide)
  have m21 : MIn w.heap.size 2 (upd w.heap.size 2 false 2 (upd w.heap.size 2 true 3 (w.alloc (.map #[] 0)).drew)) := m2.next (by decide) 2 false 2 (by decide) (by decide) (by decide) (by decide)
  have m23 : MIn w.heap.size 2 (upd w.heap.size 4 false 4 (upd w.heap.size 2 true 3 (w.alloc (.map #[] 0)).drew)) := m2.next (by decide) 4 false 4 (by decide) (by decide) (by decide) (by decide)
  have m30 : MIn w.heap.size 2 (upd w.heap.size 1 false 1 (upd w.heap.size 4 false 4 (w.alloc (.map #[] 0)).drew)) := m3.next (by decide) 1 false 1 (by decide) (by decide) (by decide) (by decide)
  have m31 : MIn w.heap.size 2 (upd w.heap.size 2 false 2 (upd w.heap.size 4 false 4 (w.alloc (.map #[] 0)).drew)) := m3.next (by decide) 2 false 2 (by decide) (by decide) (by decide) (by decide)
  have m32 : MIn w.heap.size 2 (upd w.heap.size 2 true 3 (upd w.heap.size 4 false 4 (w.alloc (.map #[] 0)).drew)) := m3.next (by decide) 2 true 3 (by decide) (by decide) (by decide) (by decide)
  have m012 : MIn w.heap.size 3 (upd w.heap.size 2 true 3 (upd w.heap.size 2 false 2 (upd w.heap.size 1 false 1 (w.alloc (.map #[] 0)).drew))) := m01.next (by decide) 2 true 3 (by decide) (by decide) (by decide) (by decide)
  have m013 : MIn w.heap.size 3 (upd w.heap.size 4 false 4 (upd w.heap.size 2 false 2 (upd w.heap.size 1 false 1 (w.alloc (.map #[] 0)).drew))) := m01.next (by decide) 4 false 4 (by decide) (by decide) (by decide) (by decide)
  have m021 : MIn w.heap.size 3 (upd w.heap.size 2 false 2 (upd w.heap.size 2 true 3 (upd w.heap.size 1 false 1 (w.alloc (.map #[] 0)).drew))) := m02.next (by decide) 2 false 2 (by decide) (by decide) (by decide) (by decide)
  have m023 : MIn w.heap.size 3 (upd w.heap.size 4 false 4 (upd w.heap.size 2 true 3 (upd w.heap.size 1 false 1 (w.alloc (.map #[] 0)).drew))) := m02.next (by decide) 4 false 4 (by decide) (by decide) (by decide) (by decide)
  have m031 : MIn w.heap.size 3 (upd w.heap.size 2 false 2 (upd w.heap.size 4 false 4 (upd w.heap.size 1 false 1 (w.alloc (.map #[] 0)).drew))) := m03.next (by decide) 2 false 2 (by decide) (by decide) (by decide) (by decide)
  have m032 : MIn w.heap.size 3 (upd w.heap.size 2 true 3 (upd w.heap.size 4 false 4 (upd w.heap.size 1 false 1 (w.alloc (.map #[] 0)).drew))) := m03.next (by decide) 2 true 3 (by decide) (by decide) (by decide) (by decide)
  have m102 : MIn w.heap.size 3 (upd w.heap.size 2 true 3 (upd w.heap.size 1 false 1 (upd w.heap.size 2 false 2 (w.alloc (.map #[] 0)).drew))) := m10.next (by decide) 2 true 3 (by decide) (by decide) (by decide) (by decide)
  have m103 : MIn w.heap.size 3 (upd w.heap.size 4 false 4 (upd w.heap.size 1 false 1 (upd w.heap.size 2 false 2 (w.alloc (.map #[] 0)).drew))) := m10.next (by decide) 4 false 4 (by decide) (by decide) (by decide) (by decide)
  have m120 : MIn w.heap.size 3 (upd w.heap.size 1 false 1 (upd w.heap.size 2 true 3 (upd w.heap.size 2 false 2 (w.alloc (.map #[] 0)).drew))) := m12.next (by decide) 1 false 1 (by decide) (by decide) (by decide) (by decide)
  have m123 : MIn w.heap.size 3 (upd w.heap.size 4 false 4 (upd w.heap.size 2 true 3 (upd w.heap.size 2 false 2 (w.alloc (.map #[] 0)).drew))) := m12.next (by decide) 4 false 4 (by decide) (by decide) (by decide) (by decide)
  have m130 : MIn w.heap.size 3 (upd w.heap.size 1 false 1 (upd w.heap.size 4 false 4 (upd w.heap.size 2 false 2 (w.alloc (.map #[] 0)).drew))) := m13.next (by decide) 1 false 1 (by decide) (by decide) (by decide) (by decide)
  have m132 : MIn w.heap.size 3 (upd w.heap.size 2 true 3 (upd w.heap.size 4 false 4 (upd w.heap.size 2 false 2 (w.alloc (.map #[] 0)).drew))) := m13.next (by decide) 2 true 3 (by decide) (by decide) (by decide) (by decide)
  have m201 : MIn w.heap.size 3 (upd w.heap.size 2 false 2 (upd w.heap.size 1 false 1 (upd w.heap.size 2 true 3 (w.alloc (.map #[] 0)).drew))) := m20.next (by decide) 2 false 2 (by decide) (by decide) (by decide) (by decide)
  have m203 : MIn w.heap.size 3 (upd w.heap.size 4 false 4 (upd w.heap.size 1 false 1 (upd w.heap.size 2 true 3 (w.alloc (.map #[] 0)).drew))) := m20.next (by decide) 4 false 4 (by decide) (by decide) (by decide) (by decide)
  have m210 : MIn w.heap.size 3 (upd w.heap.size 1 false 1 (upd w.heap.size 2 false 2 (upd w.heap.size 2 true 3 (w.alloc (.map #[] 0)).drew))) := m21.next (by decide) 1 false 1 (by decide) (by decide) (by decide) (by decide)
  have m213 : MIn w.heap.size 3 (upd w.heap.size 4 false 4 (upd w.heap.size 2 false 2 (upd w.heap.size 2 true 3 (w.alloc (.map #[] 0)).drew))) := m21.next (by decide) 4 false 4 (by decide) (by decide) (by decide) (by decide)
  have m230 : MIn w.heap.size 3 (upd w.heap.size 1 false 1 (upd w.heap.size 4 false 4 (upd w.heap.size 2 true 3 (w.alloc (.map #[] 0)).drew))) := m23.next (by decide) 1 false 1 (by decide) (by decide) (by decide) (by decide)
  have m231 : MIn w.heap.size 3 (upd w.heap.size 2 false 2 (upd w.heap.size 4 false 4 (upd w.heap.size 2 true 3 (w.alloc (.map #[] 0)).drew))) := m23.next (by decide) 2 false 2 (by decide) (by decide) (by decide) (by decide)
  have m301 : MIn w.heap.size 3 (upd w.heap.size 2 false 2 (upd w.heap.size 1 false 1 (upd w.heap.size 4 false 4 (w.alloc (.map #[] 0)).drew))) := m30.next (by decide) 2 false 2 (by decide) (by decide) (by decide) (by decide)
  have m302 : MIn w.heap.size 3 (upd w.heap.size 2 true 3 (upd w.heap.size 1 false 1 (upd w.heap.size 4 false 4 (w.alloc (.map #[] 0)).drew))) := m30.next (by decide) 2 true 3 (by decide) (by decide) (by decide) (by decide)
  have m310 : MIn w.heap.size 3 (upd w.heap.size 1 false 1 (upd w.heap.size 2 false 2 (upd w.heap.size 4 false 4 (w.alloc (.map #[] 0)).drew))) := m31.next (by decide) 1 false 1 (by decide) (by decide) (by decide) (by decide)
  have m312 : MIn w.heap.size 3 (upd w.heap.size 2 true 3 (upd w.heap.size 2 false 2 (upd w.heap.size 4 false 4 (w.alloc (.map #[] 0)).drew))) := m31.next (by decide) 2 true 3 (by decide) (by decide) (by decide) (by decide)
  have m320 : MIn w.heap.size 3 (upd w.heap.size 1 false 1 (upd w.heap.size 2 true 3 (upd w.heap.size 4 false 4 (w.alloc (.map #[] 0)).drew))) := m32.next (by decide) 1 false 1 (by decide) (by decide) (by decide) (by decide)
  have m321 : MIn w.heap.size 3 (upd w.heap.size 2 false 2 (upd w.heap.size 2 true 3 (upd w.heap.size 4 false 4 (w.alloc (.map #[] 0)).drew))) := m32.next (by decide) 2 false 2 (by decide) (by decide) (by decide) (by decide)
  go_enter Tryz.func45, Tryz.ntmps45
  go_wp2
  go_region
  all_goals
    go_wp2
    go_ret
    exact ⟨rfl, fin4 w (_, _, _) (_, _, _) (_, _, _) (_, _, _) (by decide) (by decide)⟩
end Go.Proofs.YtkpgfhapffijkaaGreatDoor
