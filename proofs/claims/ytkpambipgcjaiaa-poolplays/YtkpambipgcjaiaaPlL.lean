/- Package pool: the order of holders as the sort asks it. Written by gen_pl.py. -/
import Derived.Test.YtkpambipgcjaiaaPlJ
import Derived.Test.YtkpambipgcjaiaaShelfC
namespace Go.Proofs.Ytkpambipgcjaiaa
open Go.ChangeShapes Go.WideShapes Go.ChangeAt Go.RowKit Go.DsMem Go.DsCo Go.DsPl
set_option linter.unusedVariables false
open Classical in
/-- cmp.Compare of strings -/
noncomputable def cmpS (a b : ByteArray) : Int := if a.data.toList < b.data.toList then -1 else if b.data.toList < a.data.toList then 1 else 0
/-- byOwnerThenName -/
noncomputable def cmpH (a b : Hd) : Int := if Lib.compareInt a.1.1 b.1.1 ≠ 0 then Lib.compareInt a.1.1 b.1.1 else cmpS a.1.2 b.1.2
theorem cmpH_neg (a b : Hd) : cmpH a b < 0 ↔ aheadH a.1 b.1 := by
  unfold cmpH cmpS Lib.compareInt aheadH
  by_cases h4 : a.1.1 < b.1.1
  · simp [h4]
  · by_cases h5 : b.1.1 < a.1.1
    · have h6 : ¬ a.1.1 = b.1.1 := by omega
      simp [h4, h5, h6]
    · have h6 : a.1.1 = b.1.1 := by omega
      by_cases h1 : a.1.2.data.toList < b.1.2.data.toList
      · simp [h6, h1]
      · by_cases h2 : b.1.2.data.toList < a.1.2.data.toList
        · simp [h6, h1, h2]
        · simp [h6, h1, h2]
theorem bl_ltC (a b : ByteArray) : Op.bytesLess a.toList b.toList = @decide (a.data.toList < b.data.toList) (Classical.propDecidable _) := by
  rw [Lib.toList_data, Lib.toList_data, bytesLess_eq]
  by_cases h : a.data.toList < b.data.toList
  · rw [decide_eq_true h, @decide_eq_true _ (Classical.propDecidable _) h]
  · rw [decide_eq_false h, @decide_eq_false _ (Classical.propDecidable _) h]
set_option maxHeartbeats 1000000 in
theorem cnan_any (s : ByteArray) (w : World) : Calls Try.prog 92 #[.string s] w fun e w' => e = .returned (.bool false) ∧ w' = w := by
  go_enter Try.func92, Try.ntmps92
  go_wp2
  go_ret
  exact ⟨by simp, rfl⟩
theorem gtr_str (a b : ByteArray) (w : World) : (binOp BinOp.gtr 9 (.string a) (.string b)).run Try.prog w = .ok (.bool (!(Op.bytesLess a.toList b.toList || a.toList == b.toList))) w := by
  first
  | kernel_rfl
  | simp [binOp, Op.stringOp, run_underlying Try.underlying9]
set_option maxHeartbeats 1000000 in
theorem ccmpS_any (a b : ByteArray) (w : World) : Calls Try.prog 72 #[.string a, .string b] w fun e w' => e = .returned (.int .i64 (cmpS a b)) ∧ w' = w := by
  have e1 := bl_ltC a b
  have e2 : (Op.bytesLess a.toList b.toList || a.toList == b.toList) = !@decide (b.data.toList < a.data.toList) (Classical.propDecidable _) := by
    rw [Lib.toList_data, Lib.toList_data, bytesLess_eq]
    rcases k_total a.data.toList b.data.toList with h | h | h
    · have h' : ¬ b.data.toList < a.data.toList := fun h2 => k_irrefl _ (k_trans h h2)
      rw [@decide_eq_false _ (Classical.propDecidable _) h']; simp [h]
    · have h' : ¬ b.data.toList < a.data.toList := fun h2 => by rw [h] at h2; exact k_irrefl _ h2
      rw [@decide_eq_false _ (Classical.propDecidable _) h']; simp [h]
    · have h' : ¬ a.data.toList < b.data.toList := fun h2 => k_irrefl _ (k_trans h h2)
      have h'' : ¬ a.data.toList = b.data.toList := fun e => by rw [e] at h; exact k_irrefl _ h
      rw [@decide_eq_true _ (Classical.propDecidable _) h]; simp only [decide_eq_false h', Bool.false_or, beq_eq_false_iff_ne, ne_eq, Bool.not_true]; exact h''
  have hgt := gtr_str a b
  rw [e2, Bool.not_not] at hgt
  clear e2
  by_cases h1 : a.data.toList < b.data.toList
  · have hr : Hid (cmpS a b = -1) := by show _ = _; unfold cmpS; rw [if_pos h1]
    rw [@decide_eq_true _ (Classical.propDecidable _) h1] at e1
    clear hgt
    go_enter Try.func72, Try.ntmps72
    go_wp2_with (go_at_call 92; refine (cnan_any _ _).mono ?_; rintro e w' ⟨rfl, rfl⟩)
    go_ret
    exact ⟨retI hr.out.symm, rfl⟩
  · rw [@decide_eq_false _ (Classical.propDecidable _) h1] at e1
    by_cases h2 : b.data.toList < a.data.toList
    · have hr : Hid (cmpS a b = 1) := by show _ = _; unfold cmpS; rw [if_neg h1, if_pos h2]
      rw [@decide_eq_true _ (Classical.propDecidable _) h2] at hgt
      go_enter Try.func72, Try.ntmps72
      go_wp2_with (go_at_call 92; refine (cnan_any _ _).mono ?_; rintro e w' ⟨rfl, rfl⟩)
      go_ret
      exact ⟨retI hr.out.symm, rfl⟩
    · have hr : Hid (cmpS a b = 0) := by show _ = _; unfold cmpS; rw [if_neg h1, if_neg h2]
      rw [@decide_eq_false _ (Classical.propDecidable _) h2] at hgt
      go_enter Try.func72, Try.ntmps72
      go_wp2_with (go_at_call 92; refine (cnan_any _ _).mono ?_; rintro e w' ⟨rfl, rfl⟩)
      go_ret
      exact ⟨retI hr.out.symm, rfl⟩
theorem ccmpI_any (x y : Int) (w : World) : Calls Try.prog 88 #[.int .i64 x, .int .i64 y] w fun e w' => e = .returned (.int .i64 (Lib.compareInt x y)) ∧ w' = w := by
  have h := AnyG.cmp_Compare_int Try.cmpI x y w
  exact h
set_option maxHeartbeats 1000000 in
/-- cmp.Or of two -/
theorem cor_any (x y : Int) (g : Nat) (w : World) (h0 : w.cell? ⟨g, 0, none⟩ = some (.int .i64 x)) (h1 : w.cell? ⟨g, 1, none⟩ = some (.int .i64 y)) :
    Calls Try.prog 87 #[.slice (some ⟨g, 0, none⟩) 2 2] w fun e w' => e = .returned (.int .i64 (if x ≠ 0 then x else y)) ∧ w' = w := by
  by_cases hx : x = 0
  · have hr : Hid ((if x ≠ 0 then x else y) = y) := by show _ = _; simp [hx]
    have bx : (x != 0) = false := by simp [hx]
    by_cases hy : y = 0
    · have by' : (y != 0) = false := by simp [hy]
      go_enter Try.func87, Try.ntmps87
      go_wp2
      refine wp_loop_rounds 3 ?_
      iterate 3 (rw [rounds_succ]; go_wp2)
      go_ret
      exact ⟨retI rfl, rfl⟩
    · have by' : (y != 0) = true := by simp [hy]
      go_enter Try.func87, Try.ntmps87
      go_wp2
      refine wp_loop_rounds 3 ?_
      iterate 2 (rw [rounds_succ]; go_wp2)
      go_ret
      exact ⟨retI rfl, rfl⟩
  · have hr : Hid ((if x ≠ 0 then x else y) = x) := by show _ = _; simp [hx]
    have bx : (x != 0) = true := by simp [hx]
    go_enter Try.func87, Try.ntmps87
    go_wp2
    refine wp_loop_rounds 3 ?_
    iterate 1 (rw [rounds_succ]; go_wp2)
    go_ret
    exact ⟨retI rfl, rfl⟩
end Go.Proofs.Ytkpambipgcjaiaa
