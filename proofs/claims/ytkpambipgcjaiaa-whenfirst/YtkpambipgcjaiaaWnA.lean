/- The walks of package when and of what it calls: clocks, windows. -/
import Derived.Test.YtkpambipgcjaiaaRows
import Derived.Test.YtkpambipgcjaiaaWnM
import Derived.WalkKit
import Derived.ProofKit
import Derived.OpenShut
import Derived.Handy
import Derived.WalkSpells
import Derived.Below
namespace Go.Proofs.Ytkpambipgcjaiaa
open Go.ChangeShapes Go.WideShapes Go.ChangeAt Go.RowKit DsWn
set_option linter.unusedVariables false

theorem wret_int {k : IntKind} {a b : Int} (h : a = b) : Ending.returned (.int k a) = .returned (.int k b) := by rw [h]
theorem wret_bool {a b : Bool} (h : a = b) : Ending.returned (.bool a) = .returned (.bool b) := by rw [h]
theorem whide {p : Prop} (h : p) : Hid p := h

/-- when.isMinutes -/
theorem wmin_any (b : Int) (w : World) : Calls Try.prog 76 #[.int .i64 b] w fun e w' => e = .returned (.bool (mB b)) ∧ w' = w := by
  by_cases h0 : 0 ≤ b
  · by_cases h1 : b < 1440
    · have H := whide ((mB_iff b).2 ⟨h0, h1⟩)
      go_enter Try.func76, Try.ntmps76
      go_wp2
      go_ret
      exact ⟨wret_bool H.out.symm, rfl⟩
    · have H := whide ((mB_no b).2 (.inr (by omega)))
      go_enter Try.func76, Try.ntmps76
      go_wp2
      go_ret
      exact ⟨wret_bool H.out.symm, rfl⟩
  · have H := whide ((mB_no b).2 (.inl (by omega)))
    go_enter Try.func76, Try.ntmps76
    go_wp2
    go_ret
    exact ⟨wret_bool H.out.symm, rfl⟩
/-- dayshiftref02.Right -/
theorem rmin_any (b : Int) (w : World) : Calls Try.prog 49 #[.int .i64 b] w fun e w' => e = .returned (.bool (mB b)) ∧ w' = w := by
  by_cases h0 : 0 ≤ b
  · by_cases h1 : b < 1440
    · have H := whide ((mB_iff b).2 ⟨h0, h1⟩)
      go_enter Try.func49, Try.ntmps49
      go_wp2
      go_ret
      exact ⟨wret_bool H.out.symm, rfl⟩
    · have H := whide ((mB_no b).2 (.inr (by omega)))
      go_enter Try.func49, Try.ntmps49
      go_wp2
      go_ret
      exact ⟨wret_bool H.out.symm, rfl⟩
  · have H := whide ((mB_no b).2 (.inl (by omega)))
    go_enter Try.func49, Try.ntmps49
    go_wp2
    go_ret
    exact ⟨wret_bool H.out.symm, rfl⟩
/-- when.around -/
theorem around_any (b : Int) (w : World) (h0 : -1440 ≤ b) (h1 : b ≤ 100000) : Calls Try.prog 78 #[.int .i64 b] w fun e w' => e = .returned (.int .i64 ((b + 1440) % 1440)) ∧ w' = w := by
  go_enter Try.func78, Try.ntmps78
  go_wp2
  go_ret
  exact ⟨rfl, rfl⟩
/-- date.Right -/
theorem wday_yes (n : Int) (w : World) (h0 : 1 ≤ n) (h1 : n ≤ 3652059) : Calls Try.prog 111 #[.int .i64 n] w fun e w' => e = .returned (.bool true) ∧ w' = w := by
  go_enter Try.func111, Try.ntmps111
  go_wp2
  go_ret
  exact ⟨rfl, rfl⟩
theorem wday_no (n : Int) (w : World) (h : n < 1 ∨ 3652059 < n) : Calls Try.prog 111 #[.int .i64 n] w fun e w' => e = .returned (.bool false) ∧ w' = w := by
  rcases h with h | h
  · go_enter Try.func111, Try.ntmps111
    go_wp2
    go_ret
    exact ⟨rfl, rfl⟩
  · have h0 : ¬ n < 1 := by omega
    go_enter Try.func111, Try.ntmps111
    go_wp2
    go_ret
    exact ⟨wret_bool (by simp; omega), rfl⟩
/-- when.window.right -/
theorem wright_any (f t : Int) (w : World) : Calls Try.prog 75 #[.agg #[.int .i64 f, .int .i64 t]] w fun e w' => e = .returned (.bool (mB f && mB t)) ∧ Below w.heap.size w w' := by
  have HF := whide (fun w => wmin_any f w)
  have HT := whide (fun w => wmin_any t w)
  generalize mB f = x at HF ⊢
  generalize mB t = y at HT ⊢
  have B := whide (fun o => (Below.refl w.heap.size w).alloc (Nat.le_refl _) o)
  cases x
  · go_enter Try.func75, Try.ntmps75
    go_wp2_with fail
    refine (HF.out _).mono ?_
    rintro e w' ⟨rfl, rfl⟩
    go_wp2
    go_ret
    exact ⟨rfl, B.out _⟩
  · go_enter Try.func75, Try.ntmps75
    go_wp2_with fail
    refine (HF.out _).mono ?_
    rintro e w' ⟨rfl, rfl⟩
    go_wp2_with fail
    refine (HT.out _).mono ?_
    rintro e w' ⟨rfl, rfl⟩
    go_wp2
    go_ret
    exact ⟨rfl, B.out _⟩
/-- when.window.has -/
theorem whas_any (f t m : Int) (w : World) : Calls Try.prog 77 #[.agg #[.int .i64 f, .int .i64 t], .int .i64 m] w fun e w' => e = .returned (.bool (hasB f t m)) ∧ Below w.heap.size w w' := by
  have B := whide (fun o => (Below.refl w.heap.size w).alloc (Nat.le_refl _) o)
  by_cases h : f ≤ t
  · by_cases h1 : f ≤ m
    · by_cases h2 : m ≤ t
      · have H := whide ((hasB_iff f t m).2 (.inl ⟨h, h1, h2⟩))
        go_enter Try.func77, Try.ntmps77
        go_wp2
        go_ret
        exact ⟨wret_bool H.out.symm, B.out _⟩
      · have H := whide ((hasB_no f t m).2 (.inl ⟨h, .inr (by omega)⟩))
        go_enter Try.func77, Try.ntmps77
        go_wp2
        go_ret
        exact ⟨wret_bool H.out.symm, B.out _⟩
    · have H := whide ((hasB_no f t m).2 (.inl ⟨h, .inl (by omega)⟩))
      go_enter Try.func77, Try.ntmps77
      go_wp2
      go_ret
      exact ⟨wret_bool H.out.symm, B.out _⟩
  · by_cases h1 : f ≤ m
    · have H := whide ((hasB_iff f t m).2 (.inr ⟨by omega, .inl h1⟩))
      go_enter Try.func77, Try.ntmps77
      go_wp2
      go_ret
      exact ⟨wret_bool H.out.symm, B.out _⟩
    · by_cases h2 : m ≤ t
      · have H := whide ((hasB_iff f t m).2 (.inr ⟨by omega, .inr h2⟩))
        go_enter Try.func77, Try.ntmps77
        go_wp2
        go_ret
        exact ⟨wret_bool H.out.symm, B.out _⟩
      · have H := whide ((hasB_no f t m).2 (.inr ⟨by omega, by omega, by omega⟩))
        go_enter Try.func77, Try.ntmps77
        go_wp2
        go_ret
        exact ⟨wret_bool H.out.symm, B.out _⟩
/-- week.Split -/
theorem wsplit_any (c : Int) (w : World) (c0 : -9223372036854775808 ≤ c) (c9 : c ≤ 9223372036854775807) : Calls Try.prog 93 #[.int .i64 c] w fun e w' => e = .returned (.tuple #[.int .i64 (if okC c then c / 1440 else 0), .int .i64 (if okC c then c % 1440 else 0), .int .i64 (if okC c then 0 else 6)]) ∧ w' = w := by
  by_cases h : okC c = true
  · rw [if_pos h, if_pos h, if_pos h]
    have h' : 1440 ≤ c ∧ c ≤ 5258966399 := by simpa [okC] using h
    obtain ⟨h1, h2⟩ := h'
    clear h c0 c9
    go_enter Try.func93, Try.ntmps93
    go_wp2_with fail
    refine (wday_yes _ _ (by omega) (by omega)).mono ?_
    rintro e w' ⟨rfl, rfl⟩
    go_wp2
    go_ret3
    exact ⟨rfl, rfl⟩
  · rw [if_neg h, if_neg h, if_neg h]
    have h' : c < 1440 ∨ 5258966399 < c := by simp [okC] at h; omega
    by_cases hn : c < 0
    · have t0 : -9223372036854775808 ≤ c.tdiv 1440 ∧ c.tdiv 1440 ≤ 0 := by
        rw [Int.tdiv_eq_ediv]
        split
        · omega
        · have : (1440 : Int).sign = 1 := rfl
          rw [this]; omega
      obtain ⟨t0, t1⟩ := t0
      clear h h'
      go_enter Try.func93, Try.ntmps93
      go_wp2_with fail
      refine (wday_no _ _ (by first | omega | (rw [IntWalk.wrap64_in _ (by omega)]; omega))).mono ?_
      rintro e w' ⟨rfl, rfl⟩
      go_wp2
      go_ret3
      exact ⟨rfl, rfl⟩
    · clear h
      go_enter Try.func93, Try.ntmps93
      go_wp2_with fail
      refine (wday_no _ _ (by omega)).mono ?_
      rintro e w' ⟨rfl, rfl⟩
      go_wp2
      go_ret3
      exact ⟨rfl, rfl⟩
end Go.Proofs.Ytkpambipgcjaiaa
