/- The walk of the law WeekOrder. -/
import Derived.Test.YtbkjcnkjlkjknaaDoorKnownB
namespace Go.Proofs.YtbkjcnkjlkjknaaDoor
open Go.ChangeShapes Go.WideShapes Go.ChangeAt Go.RowKit

theorem ordV_mono {a b g : Int} (h : a ≤ b) (_ : okC a) : ordV a g ≤ ordV b g := by
  unfold ordV; split <;> split <;> omega
theorem ordV_next (a g : Int) : ordV (a + 1440) g = ordV a g + 1 := by
  have e : (a + 1440) % 1440 = a % 1440 := by omega
  have f : (a + 1440) / 1440 = a / 1440 + 1 := by omega
  unfold ordV; rw [e, f]; split <;> omega
theorem ordV_bd {a g : Int} (h : okO a g) : 1 ≤ ordV a g ∧ ordV a g ≤ 3652059 := by
  obtain ⟨⟨h1, h2⟩, _, h3⟩ := h
  refine ⟨h3, ?_⟩
  unfold ordV; split <;> omega

set_option maxHeartbeats 2000000 in
theorem weekOrder_none (a b g : Int) (w : World) (ht : Tab w) (a0 : -9223372036854775808 ≤ a) (a9 : a ≤ 9223372036854775807) (b0 : -9223372036854775808 ≤ b) (b9 : b ≤ 9223372036854775807) (h : ¬ okO a g) :
    Calls Tryd.prog 12 #[.int .i64 a, .int .i64 b, .int .i64 g] w fun e w' => e = .returned (.bool true) ∧ Below w.heap.size w w' := by
  have H := hide h
  clear h
  by_cases k : okO b g
  all_goals
    have K := hide k
    clear k
    go_enter Tryd.func12, Tryd.ntmps12
    go_wp2_with fail
    refine (order_no _ _ _ H.out a0 a9).mono ?_
    rintro e w1 ⟨rfl, rfl⟩
    go_wp2_with fail
    first
    | (refine (order_yes _ _ _ K.out).mono ?_; rintro e w1 ⟨rfl, rfl⟩)
    | (refine (order_no _ _ _ K.out b0 b9).mono ?_; rintro e w1 ⟨rfl, rfl⟩)
    go_wp2_with (go_at_call 38; refine (known2_any _ ht).mono ?_; rintro e w' ⟨rfl, rfl⟩)
    go_ret
    exact ⟨rfl, Below.refl _ _⟩
set_option maxHeartbeats 2000000 in
theorem weekOrder_half (a b g : Int) (w : World) (ht : Tab w) (b0 : -9223372036854775808 ≤ b) (b9 : b ≤ 9223372036854775807) (h : okO a g) (k : ¬ okO b g) :
    Calls Tryd.prog 12 #[.int .i64 a, .int .i64 b, .int .i64 g] w fun e w' => e = .returned (.bool true) ∧ Below w.heap.size w w' := by
  have H := hide h
  have K := hide k
  clear h k
  go_enter Tryd.func12, Tryd.ntmps12
  go_wp2_with fail
  refine (order_yes _ _ _ H.out).mono ?_
  rintro e w1 ⟨rfl, rfl⟩
  go_wp2_with fail
  refine (order_no _ _ _ K.out b0 b9).mono ?_
  rintro e w1 ⟨rfl, rfl⟩
  go_wp2_with (go_at_call 38; refine (known2_any _ ht).mono ?_; rintro e w' ⟨rfl, rfl⟩)
  go_ret
  exact ⟨rfl, Below.refl _ _⟩
set_option maxHeartbeats 2000000 in
theorem weekOrder_both (a b g : Int) (w : World) (ht : Tab w) (h : okO a g) (k : okO b g) :
    Calls Tryd.prog 12 #[.int .i64 a, .int .i64 b, .int .i64 g] w fun e w' => e = .returned (.bool true) ∧ Below w.heap.size w w' := by
  have H := hide h
  have K := hide k
  have mono := fun (q : a ≤ b) => ordV_mono (g := g) q h.1
  have NX := hide (ordV_next a g)
  obtain ⟨o1, o2⟩ := ordV_bd h
  obtain ⟨a1, a2⟩ := h.1
  clear h k
  by_cases c : a ≤ b
  all_goals
    have m1 : a ≤ b → ordV a g ≤ ordV b g := mono
    have m2 : ¬ a ≤ b ∨ ordV a g ≤ ordV b g := by omega
    clear mono m1
    by_cases n : okO (a + 1440) g
    all_goals
      have N := hide n
      clear n
      go_enter Tryd.func12, Tryd.ntmps12
      go_wp2_with fail
      refine (order_yes _ _ _ H.out).mono ?_
      rintro e w1 ⟨rfl, rfl⟩
      go_wp2_with fail
      refine (order_yes _ _ _ K.out).mono ?_
      rintro e w1 ⟨rfl, rfl⟩
      generalize ordV b g = vb at m2 ⊢
      go_wp2_with fail
      first
      | (refine (order_yes _ _ _ N.out).mono ?_; rw [NX.out]; rintro e w1 ⟨rfl, rfl⟩)
      | (refine (order_no _ _ _ N.out (by omega) (by omega)).mono ?_; rintro e w1 ⟨rfl, rfl⟩)
      go_wp2_with (go_at_call 38; refine (known2_any _ ht).mono ?_; rintro e w' ⟨rfl, rfl⟩)
      go_ret
      exact ⟨rfl, Below.refl _ _⟩
theorem weekOrder_walk (a b g : Int) (w : World) (ht : Tab w) (ha : (Lit.int .i64 a).wf = true) (hb : (Lit.int .i64 b).wf = true) (_ : (Lit.int .i64 g).wf = true) :
    Calls Tryd.prog 12 #[.int .i64 a, .int .i64 b, .int .i64 g] w fun e w' => e = .returned (.bool true) ∧ Below w.heap.size w w' := by
  obtain ⟨a0, a9⟩ := bounds_i64 ha
  obtain ⟨b0, b9⟩ := bounds_i64 hb
  by_cases h : okO a g
  · by_cases k : okO b g
    · exact weekOrder_both a b g w ht h k
    · exact weekOrder_half a b g w ht b0 b9 h k
  · exact weekOrder_none a b g w ht a0 a9 b0 b9 h
end Go.Proofs.YtbkjcnkjlkjknaaDoor
