/- Package cond: the order of conditions as the sort asks it. -/
import Derived.Test.YtliinilbfacpbaaClG
import Derived.Test.YtliinilbfacpbaaShelfC
namespace Go.Proofs.Ytliinilbfacpbaa
open Go.ChangeShapes Go.WideShapes Go.ChangeAt Go.RowKit Go.DsMem Go.DsCo
set_option linter.unusedVariables false
open Classical in
/-- cmp.Compare of strings -/
noncomputable def cmpS (a b : ByteArray) : Int := if a.data.toList < b.data.toList then -1 else if b.data.toList < a.data.toList then 1 else 0
/-- byNameThenDay -/
noncomputable def cmpC (a b : Cn) : Int := if cmpS a.nm b.nm ≠ 0 then cmpS a.nm b.nm else Lib.compareInt a.day b.day
theorem cmpC_neg (a b : Cn) : cmpC a b < 0 ↔ DsCo.ahead a b := by
  unfold cmpC cmpS Lib.compareInt DsCo.ahead Cn.k
  by_cases h1 : a.nm.data.toList < b.nm.data.toList
  · simp [h1]
  · by_cases h2 : b.nm.data.toList < a.nm.data.toList
    · have h3 : ¬ a.nm.data.toList = b.nm.data.toList := fun e => by rw [e] at h2; exact k_irrefl _ h2
      simp [h1, h2, h3]
    · have h3 : a.nm.data.toList = b.nm.data.toList := by
        rcases k_total a.nm.data.toList b.nm.data.toList with h | h | h
        · exact absurd h h1
        · exact h
        · exact absurd h h2
      simp only [h3, if_neg (k_irrefl _)]
      by_cases h4 : a.day < b.day
      · simp [h4]
      · by_cases h5 : b.day < a.day
        · simp [h4, h5]
        · simp [h4, h5]
theorem bl_ltC (a b : ByteArray) : Op.bytesLess a.toList b.toList = @decide (a.data.toList < b.data.toList) (Classical.propDecidable _) := by
  rw [Lib.toList_data, Lib.toList_data, bytesLess_eq]
  by_cases h : a.data.toList < b.data.toList
  · rw [decide_eq_true h, @decide_eq_true _ (Classical.propDecidable _) h]
  · rw [decide_eq_false h, @decide_eq_false _ (Classical.propDecidable _) h]
set_option maxHeartbeats 1000000 in
theorem cnan_any (s : ByteArray) (w : World) : Calls Try.prog 54 #[.string s] w fun e w' => e = .returned (.bool false) ∧ w' = w := by
  go_enter Try.func54, Try.ntmps54
  go_wp2
  go_ret
  exact ⟨by simp, rfl⟩
theorem gtr_str (a b : ByteArray) (w : World) : (binOp BinOp.gtr 9 (.string a) (.string b)).run Try.prog w = .ok (.bool (!(Op.bytesLess a.toList b.toList || a.toList == b.toList))) w := by
  first
  | kernel_rfl
  | simp [binOp, Op.stringOp, run_underlying Try.underlying9]
set_option maxHeartbeats 1000000 in
theorem ccmpS_any (a b : ByteArray) (w : World) : Calls Try.prog 41 #[.string a, .string b] w fun e w' => e = .returned (.int .i64 (cmpS a b)) ∧ w' = w := by
  have e1 := bl_ltC a b
  have e2 : (Op.bytesLess a.toList b.toList || a.toList == b.toList) = !@decide (b.data.toList < a.data.toList) (Classical.propDecidable _) := by
    rw [Lib.toList_data, Lib.toList_data, bytesLess_eq]
    rcases k_total a.data.toList b.data.toList with h | h | h
    · have h' : ¬ b.data.toList < a.data.toList := fun h2 => k_irrefl _ (k_trans h h2)
      rw [@decide_eq_false _ (Classical.propDecidable _) h']; simp [h]
    · have h' : ¬ b.data.toList < a.data.toList := fun h2 => by rw [h] at h2; exact k_irrefl _ h2
      rw [@decide_eq_false _ (Classical.propDecidable _) h']; simp [h]
    · have h' : ¬ a.data.toList < b.data.toList := fun h2 => k_irrefl _ (k_trans h h2)
      have h'' : ¬ a.data.toList = b.data.toList := fun e => by rw [e] at h; exact k_irrefl _ h
      rw [@decide_eq_true _ (Classical.propDecidable _) h]; simp only [decide_eq_false h', Bool.false_or, beq_eq_false_iff_ne, ne_eq, Bool.not_true]; exact h''
  have hgt := gtr_str a b
  rw [e2, Bool.not_not] at hgt
  clear e2
  by_cases h1 : a.data.toList < b.data.toList
  · have hr : Hid (cmpS a b = -1) := by show _ = _; unfold cmpS; rw [if_pos h1]
    rw [@decide_eq_true _ (Classical.propDecidable _) h1] at e1
    clear hgt
    go_enter Try.func41, Try.ntmps41
    go_wp2_with (go_at_call 54; refine (cnan_any _ _).mono ?_; rintro e w' ⟨rfl, rfl⟩)
    go_ret
    exact ⟨ret_intC hr.out.symm, rfl⟩
  · rw [@decide_eq_false _ (Classical.propDecidable _) h1] at e1
    by_cases h2 : b.data.toList < a.data.toList
    · have hr : Hid (cmpS a b = 1) := by show _ = _; unfold cmpS; rw [if_neg h1, if_pos h2]
      rw [@decide_eq_true _ (Classical.propDecidable _) h2] at hgt
      go_enter Try.func41, Try.ntmps41
      go_wp2_with (go_at_call 54; refine (cnan_any _ _).mono ?_; rintro e w' ⟨rfl, rfl⟩)
      go_ret
      exact ⟨ret_intC hr.out.symm, rfl⟩
    · have hr : Hid (cmpS a b = 0) := by show _ = _; unfold cmpS; rw [if_neg h1, if_neg h2]
      rw [@decide_eq_false _ (Classical.propDecidable _) h2] at hgt
      go_enter Try.func41, Try.ntmps41
      go_wp2_with (go_at_call 54; refine (cnan_any _ _).mono ?_; rintro e w' ⟨rfl, rfl⟩)
      go_ret
      exact ⟨ret_intC hr.out.symm, rfl⟩
theorem ccmpI_any (x y : Int) (w : World) : Calls Try.prog 42 #[.int .i64 x, .int .i64 y] w fun e w' => e = .returned (.int .i64 (Lib.compareInt x y)) ∧ w' = w := by
  have h := AnyG.cmp_Compare_int Try.cmpI x y w
  exact h
set_option maxHeartbeats 1000000 in
/-- cmp.Or of two -/
theorem cor_any (x y : Int) (g : Nat) (w : World) (h0 : w.cell? ⟨g, 0, none⟩ = some (.int .i64 x)) (h1 : w.cell? ⟨g, 1, none⟩ = some (.int .i64 y)) :
    Calls Try.prog 40 #[.slice (some ⟨g, 0, none⟩) 2 2] w fun e w' => e = .returned (.int .i64 (if x ≠ 0 then x else y)) ∧ w' = w := by
  by_cases hx : x = 0
  · have hr : Hid ((if x ≠ 0 then x else y) = y) := by show _ = _; simp [hx]
    have bx : (x != 0) = false := by simp [hx]
    by_cases hy : y = 0
    · have by' : (y != 0) = false := by simp [hy]
      go_enter Try.func40, Try.ntmps40
      go_wp2
      refine wp_loop_rounds 3 ?_
      iterate 3 (rw [rounds_succ]; go_wp2)
      go_ret
      exact ⟨ret_intC rfl, rfl⟩
    · have by' : (y != 0) = true := by simp [hy]
      go_enter Try.func40, Try.ntmps40
      go_wp2
      refine wp_loop_rounds 3 ?_
      iterate 2 (rw [rounds_succ]; go_wp2)
      go_ret
      exact ⟨ret_intC rfl, rfl⟩
  · have hr : Hid ((if x ≠ 0 then x else y) = x) := by show _ = _; simp [hx]
    have bx : (x != 0) = true := by simp [hx]
    go_enter Try.func40, Try.ntmps40
    go_wp2
    refine wp_loop_rounds 3 ?_
    iterate 1 (rw [rounds_succ]; go_wp2)
    go_ret
    exact ⟨ret_intC rfl, rfl⟩
end Go.Proofs.Ytliinilbfacpbaa
