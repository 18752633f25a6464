/- dayshiftlaw03.known, and the walk of DiskNil. -/
import Derived.Test.YtgobnnciijlpaaaDkG
namespace Go.Proofs.Ytgobnnciijlpaaa
open Go.ChangeShapes Go.WideShapes Go.ChangeAt Go.RowKit Go.DsMem Go.DsDk
set_option linter.unusedVariables false

def K1 : Dk := (Dk.new.append 0 [97, 98]).1
def K2 : Dk := (K1.sync 0).1
def K3 : Dk := (K2.append 0 [99, 100]).1
def K4 : Dk := K3.crash [1]
theorem k1 : (Dk.new.append 0 [97, 98]).2 = 0 := by decide
theorem k2 : (K1.sync 0).2 = 0 := by decide
theorem k3 : (K2.append 0 [99, 100]).2 = 0 := by decide
theorem k4 : K4.read 0 = ([97, 98, 99], 0) := by decide
theorem k5 : K4.safe 0 = 3 := by decide
theorem kstr : bstr [97, 98, 99] = ⟨#[97, 98, 99]⟩ := rfl

set_option maxHeartbeats 2000000 in
/-- dayshiftlaw03.known -/
theorem known_any (w : World) : Calls Try.prog 20 #[] w fun e w' => e = .returned (.bool true) ∧ Below w.heap.size w w' := by
  have hlit := run_lit (P := Try.prog) Try.underlying27 Try.underlying5
  go_enter Try.func20, Try.ntmps20
  go_wp2_with fail
  refine (new_any _).mono ?_
  rintro e w1 ⟨rfl, hD, hb⟩
  have O1 := Own.new (Below.refl w.heap.size w) (Nat.le_refl _) hD hb
  clear hD hb
  go_wp2_with fail
  refine (append_any _ _ _ 0 _ [97, 98] _ (O1.alloc _).dk (Rd.two _ 97 98 97 98 (by decide) (by decide) _ _)).mono ?_
  rintro e w2 ⟨rfl, v2, hm2⟩
  have O2 : Own w.heap.size w w2 w.heap.size v2 K1 := (O1.alloc _).moved hm2
  clear hm2 O1
  rw [k1]
  go_wp2_with fail
  refine (sync_any _ _ _ 0 _ O2.dk).mono ?_
  rintro e w3 ⟨rfl, hm3⟩
  have O3 : Own w.heap.size w w3 w.heap.size v2 K2 := O2.moved hm3
  clear hm3 O2
  rw [k2]
  go_wp2_with fail
  refine (append_any _ _ _ 0 _ [99, 100] _ (O3.alloc _).dk (Rd.two _ 99 100 99 100 (by decide) (by decide) _ _)).mono ?_
  rintro e w4 ⟨rfl, v4, hm4⟩
  have O4 : Own w.heap.size w w4 w.heap.size v4 K3 := (O3.alloc _).moved hm4
  clear hm4 O3
  rw [k3]
  go_wp2_with fail
  refine (crash_any _ _ _ [1] _ _ (O4.alloc _).dk (RdI.new1 _ 1 _) (fun _ k hk hf => by have := O4.dk.foot_lt hf; simp [Value.ownBlock] at hk; omega)).mono ?_
  rintro e w5 ⟨rfl, v5, hm5⟩
  have O5 : Own w.heap.size w w5 w.heap.size v5 K4 := (O4.alloc _).moved hm5
  clear hm5 O4
  go_wp2_with fail
  refine (read_any _ _ _ 0 _ O5.dk).mono ?_
  rintro e w6 ⟨x, rfl, hx, hb6⟩
  rw [k4] at hx
  rw [k4]
  have O6 := O5.grew hb6
  have hcv := run_conv_rd (P := Try.prog) Try.underlying27 Try.underlying5 Try.underlying9 (Rd.own hx)
  rw [kstr] at hcv
  obtain ⟨ao, cap, rfl, _⟩ := own_shape hx
  simp only [List.length_cons, List.length_nil, Nat.zero_add, Nat.reduceAdd] at hcv
  clear hx hb6 O5
  go_wp2_with (go_at_call 16; refine (safe_any _ _ _ 0 _ O6.dk).mono ?_; rintro e w7 ⟨rfl, hb7⟩; rw [k5]; have O7 := hide (O6.grew hb7).below)
  go_ret
  exact ⟨rfl, O7.out⟩

set_option maxHeartbeats 2000000 in
/-- the law DiskNil -/
theorem diskNil_walk (f : Int) (ao : Option Addr) (n c : Nat) (w : World) : Calls Try.prog 6 #[.int .i64 f, .slice ao n c] w fun e w' => e = .returned (.bool true) ∧ Below w.heap.size w w' := by
  go_enter Try.func6, Try.ntmps6
  go_wp2_with (first
    | (go_at_call 14; refine (read_nil _ _).mono ?_; rintro e w' ⟨rfl, rfl⟩)
    | (go_at_call 22; refine (fail_nil _ _).mono ?_; rintro e w' ⟨rfl, rfl⟩)
    | (go_at_call 12; refine (crash_nil _ _).mono ?_; rintro e w' ⟨rfl, rfl⟩)
    | (go_at_call 11; refine (append_nil _ _ _).mono ?_; rintro e w1 ⟨rfl, B1⟩; have H1 := hide B1; clear B1)
    | (go_at_call 21; refine (sync_nil _ _).mono ?_; rintro e w2 ⟨rfl, B2⟩; have H2 := hide (H1.out.trans (B2.mono H1.out.size)); clear B2)
    | (go_at_call 23; refine (rename_nil _ _ _).mono ?_; rintro e w3 ⟨rfl, B3⟩; have H3 := hide (H2.out.trans (B3.mono H2.out.size)); clear B3)
    | (go_at_call 24; refine (clear_nil _ _).mono ?_; rintro e w4 ⟨rfl, B4⟩; have H4 := hide (H3.out.trans (B4.mono H3.out.size)); clear B4)
    | (go_at_call 16; refine (safe_nil _ _).mono ?_; rintro e w' ⟨rfl, rfl⟩)
    | (go_at_call 19; refine (dead_nil _).mono ?_; rintro e w' ⟨rfl, rfl⟩)
    | (go_at_call 10; refine (copy_nil _).mono ?_; rintro e w' ⟨rfl, rfl⟩)
    | (go_at_call 20; refine (known_any _).mono ?_; rintro e w5 ⟨rfl, B5⟩; have H5 := hide (H4.out.trans (B5.mono H4.out.size)); clear B5))
  go_ret
  exact ⟨rfl, H5.out⟩
end Go.Proofs.Ytgobnnciijlpaaa
