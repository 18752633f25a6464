/- Open, said whole; the walks of add, settle, Append, Install, Next, Size of package log. -/
import Derived.Test.YtgobnnciijlpaaaDoorLgG
namespace Go.Proofs.YtgobnnciijlpaaaDoor
open Go.ChangeShapes Go.WideShapes Go.ChangeAt Go.RowKit Go.DsMem Go.DsDk Go.DsLg
set_option linter.unusedVariables false

/-- log.Open -/
theorem open_any (p : Nat) (v : Nat → Value) (D : Dk) (w : World) (hAt : DiskAt w p v D) (ht : Tab w) :
    Calls Tryd.prog 12 #[.pointer (some ⟨p, 0, none⟩)] w fun e w' => ∃ v', Moved w p v w' v' (openB D).1 ∧
      ((openB D).2.err ≠ 0 → e = .returned (.tuple #[.pointer none, .slice none 0 0, .slice none 0 0, .int .i64 (openB D).2.err])) ∧
      ((openB D).2.err = 0 → ∃ l x rs, e = .returned (.tuple #[.pointer (some ⟨l, 0, none⟩), x, rs, .int .i64 0]) ∧ ∃ E, IsOpen w E w' p v' (openB D).2 l x rs) := by
  by_cases h1 : (snapB (D.b 1)).2.2 = 0
  · by_cases h2 : (behB (snapB (D.b 1)).1 (scanB (D.b 0)).1 (scanB (D.b 0)).2.1).2 = 0
    · by_cases h3 : (scanB (D.b 0)).2.2 < (D.b 0).length
      · by_cases h4 : (replB D 2 0 ((D.b 0).take (scanB (D.b 0)).2.2)).2 = 0
        · refine (open_d p v D w hAt ht h1 h2 h3 h4).mono ?_
          rintro e w' ⟨l, x, rs, rfl, v', hM, hO⟩
          have he : openB D = ((replB D 2 0 ((D.b 0).take (scanB (D.b 0)).2.2)).1, ⟨0, ((snapB (D.b 1)).1 + (behB (snapB (D.b 1)).1 (scanB (D.b 0)).1 (scanB (D.b 0)).2.1).1.length + 1) % 18446744073709551616, (snapB (D.b 1)).2.1, (behB (snapB (D.b 1)).1 (scanB (D.b 0)).1 (scanB (D.b 0)).2.1).1⟩) := by
            unfold openB; rw [if_pos h1, if_pos h2, if_pos h3, if_pos h4]
          rw [he]
          exact ⟨v', hM, fun h => absurd rfl h, fun _ => ⟨l, x, rs, rfl, hO⟩⟩
        · refine (open_c p v D w hAt ht h1 h2 h3 h4).mono ?_
          rintro e w' ⟨rfl, v', hM⟩
          have he : openB D = ((replB D 2 0 ((D.b 0).take (scanB (D.b 0)).2.2)).1, ⟨(replB D 2 0 ((D.b 0).take (scanB (D.b 0)).2.2)).2, 0, [], []⟩) := by
            unfold openB; rw [if_pos h1, if_pos h2, if_pos h3, if_neg h4]
          rw [he]
          exact ⟨v', hM, fun _ => rfl, fun h => absurd h h4⟩
      · refine (open_e p v D w hAt ht h1 h2 h3).mono ?_
        rintro e w' ⟨l, x, rs, rfl, hB, hO⟩
        have he : openB D = (D, ⟨0, ((snapB (D.b 1)).1 + (behB (snapB (D.b 1)).1 (scanB (D.b 0)).1 (scanB (D.b 0)).2.1).1.length + 1) % 18446744073709551616, (snapB (D.b 1)).2.1, (behB (snapB (D.b 1)).1 (scanB (D.b 0)).1 (scanB (D.b 0)).2.1).1⟩) := by
          unfold openB; rw [if_pos h1, if_pos h2, if_neg h3]
        rw [he]
        exact ⟨v, Moved.stay hAt (Only.below hB), fun h => absurd rfl h, fun _ => ⟨l, x, rs, rfl, hO⟩⟩
    · refine (open_b p v D w hAt ht h1 h2).mono ?_
      rintro e w' ⟨rfl, hB⟩
      rw [opens_b h1 h2]
      exact ⟨v, Moved.stay hAt (Only.below hB), fun _ => rfl, fun h => absurd h h2⟩
  · refine (open_a p v D w hAt ht h1).mono ?_
    rintro e w' ⟨rfl, hB⟩
    rw [opens_a h1]
    exact ⟨v, Moved.stay hAt (Only.below hB), fun _ => rfl, fun h => absurd h h1⟩

/-- log.Open of no disk -/
theorem open_nil (w : World) : Calls Tryd.prog 12 #[.pointer none] w fun e w' => e = .returned (.tuple #[.pointer none, .slice none 0 0, .slice none 0 0, .int .i64 2]) ∧ Below w.heap.size w w' := by
  go_enter Tryd.func12, Tryd.ntmps12
  go_wp2_with (go_at_call 41; refine (lread_nil _).mono ?_; rintro e w1 ⟨rfl, B1⟩)
  refine bodyPost_ret (v := .tuple #[.pointer none, .slice none 0 0, .slice none 0 0, .int .i64 2]) (by simp [results, Tryd.results12, go_sem]) rfl ⟨rfl, ?_⟩
  exact B1.alloc B1.size _

section
variable {w : World} {l p next size : Nat} {broken : Bool}
theorem LogAt.c0 (h : LogAt w l p next size broken) : w.cell? ⟨l, 0, none⟩ = some (.pointer (some ⟨p, 0, none⟩)) := (cell_of h).trans rfl
theorem LogAt.c1 (h : LogAt w l p next size broken) : w.cell? ⟨l, 1, none⟩ = some (.int .u64 next) := (cell_of h).trans rfl
theorem LogAt.c2 (h : LogAt w l p next size broken) : w.cell? ⟨l, 2, none⟩ = some (.int .i64 size) := (cell_of h).trans rfl
theorem LogAt.c3 (h : LogAt w l p next size broken) : w.cell? ⟨l, 3, none⟩ = some (.bool broken) := (cell_of h).trans rfl
theorem LogAt.free (h : LogAt w l p next size broken) (k : Nat) : w.frozen? ⟨l, k, none⟩ = false := frozen_of h
theorem LogAt.set1 (h : LogAt w l p next size broken) (n : Nat) : LogAt (w.setCell ⟨l, 1, none⟩ (.int .u64 n)) l p n size broken := by unfold LogAt; rw [hset_same h]; rfl
theorem LogAt.set2 (h : LogAt w l p next size broken) (n : Nat) : LogAt (w.setCell ⟨l, 2, none⟩ (.int .i64 n)) l p next n broken := by unfold LogAt; rw [hset_same h]; rfl
theorem LogAt.set3 (h : LogAt w l p next size broken) (n : Bool) : LogAt (w.setCell ⟨l, 3, none⟩ (.bool n)) l p next size n := by unfold LogAt; rw [hset_same h]; rfl
theorem LogAt.only {w' : World} {S : Nat → Prop} (h : LogAt w l p next size broken) (ho : Only S w w') (hn : ¬ S l) : LogAt w' l p next size broken := by unfold LogAt; rw [ho.block l (block_lt h) hn]; exact h
end
/-- (*Log).Next, Size -/
theorem next_any (l p next size : Nat) (broken : Bool) (w : World) (h : LogAt w l p next size broken) : Calls Tryd.prog 28 #[.pointer (some ⟨l, 0, none⟩)] w fun e w' => e = .returned (.int .u64 next) ∧ w' = w := by
  have h1 := h.c1
  clear h
  go_enter Tryd.func28, Tryd.ntmps28
  go_wp2
  go_ret
  exact ⟨rfl, rfl⟩
theorem size_any (l p next size : Nat) (broken : Bool) (w : World) (h : LogAt w l p next size broken) : Calls Tryd.prog 29 #[.pointer (some ⟨l, 0, none⟩)] w fun e w' => e = .returned (.int .i64 size) ∧ w' = w := by
  have h1 := h.c2
  clear h
  go_enter Tryd.func29, Tryd.ntmps29
  go_wp2
  go_ret
  exact ⟨rfl, rfl⟩
theorem next_nil (w : World) : Calls Tryd.prog 28 #[.pointer none] w fun e w' => e = .returned (.int .u64 0) ∧ w' = w := by
  go_enter Tryd.func28, Tryd.ntmps28
  go_wp2
  go_ret
  exact ⟨rfl, rfl⟩
theorem size_nil (w : World) : Calls Tryd.prog 29 #[.pointer none] w fun e w' => e = .returned (.int .i64 0) ∧ w' = w := by
  go_enter Tryd.func29, Tryd.ntmps29
  go_wp2
  go_ret
  exact ⟨rfl, rfl⟩

/-- (*Log).add -/
theorem add_any (l next size : Nat) (broken : Bool) (p : Nat) (v : Nat → Value) (D : Dk) (sl : Value) (f : List UInt8) (w : World) (hL : LogAt w l p next size broken) (hAt : DiskAt w p v D) (hlf : ¬ foot p v l) (hr : Rd w sl f) :
    Calls Tryd.prog 51 #[.pointer (some ⟨l, 0, none⟩), sl] w fun e w' => e = .returned (.int .i64 (addB D f).2) ∧ ∃ v', Moved w p v w' v' (addB D f).1 := by
  have h0 := hL.c0
  by_cases h1 : (D.append 0 f).2 = 0
  · have HE : Hid (addB D f = (D.append 0 f).1.sync 0) := by show _ = _; unfold addB; rw [if_pos h1]
    have H1 := hide h1
    clear h1
    go_enter Tryd.func51, Tryd.ntmps51
    go_wp2_with (first
      | (go_at_call 23; refine (append_any p v D 0 _ f _ hAt hr).mono ?_; rintro e w1 ⟨rfl, v1, M1⟩; rw [H1.out]; have h01 := (hL.only M1.only hlf).c0)
      | (go_at_call 68; refine (sync_any p v1 _ 0 _ M1.dk).mono ?_; rintro e w2 ⟨rfl, M2⟩))
    go_ret
    rw [HE.out]
    exact ⟨rfl, v1, M1.trans M2⟩
  · have HE : Hid (addB D f = D.append 0 f) := by show _ = _; unfold addB; rw [if_neg h1]
    have hne : ((D.append 0 f).2 != 0) = true := by simp [h1]
    clear h1
    go_enter Tryd.func51, Tryd.ntmps51
    go_wp2_with (go_at_call 23; refine (append_any p v D 0 _ f _ hAt hr).mono ?_; rintro e w1 ⟨rfl, v1, M1⟩)
    go_ret
    rw [HE.out]
    exact ⟨rfl, v1, M1⟩
/-- (*Log).settle -/
theorem settle_any (l next size : Nat) (broken : Bool) (p : Nat) (v : Nat → Value) (D : Dk) (sl : Value) (f : List UInt8) (w : World) (hL : LogAt w l p next size broken) (hAt : DiskAt w p v D) (hlf : ¬ foot p v l) (hr : Rd w sl f) (hs : 0 < f.length → ∀ k, sl.ownBlock = some k → ¬ foot p v k) :
    Calls Tryd.prog 53 #[.pointer (some ⟨l, 0, none⟩), sl] w fun e w' => e = .returned (.int .i64 (setB D f).2) ∧ ∃ v', Moved w p v w' v' (setB D f).1 := by
  have h0 := hL.c0
  by_cases h1 : (replB D 3 1 f).2 = 0
  · have HE : Hid (setB D f = (replB D 3 1 f).1.clear 0) := by show _ = _; unfold setB; rw [if_pos h1]
    have H1 := hide h1
    clear h1
    go_enter Tryd.func53, Tryd.ntmps53
    go_wp2_with (first
      | (go_at_call 44; refine (replace_any p v D 3 1 _ f _ hAt hr hs).mono ?_; rintro e w1 ⟨rfl, v1, M1⟩; rw [H1.out]; have h01 := (hL.only M1.only hlf).c0)
      | (go_at_call 67; refine (clear_any p v1 _ 0 _ M1.dk).mono ?_; rintro e w2 ⟨rfl, v2, M2⟩))
    go_ret
    rw [HE.out]
    exact ⟨rfl, v2, M1.trans M2⟩
  · have HE : Hid (setB D f = replB D 3 1 f) := by show _ = _; unfold setB; rw [if_neg h1]
    have hne : ((replB D 3 1 f).2 != 0) = true := by simp [h1]
    clear h1
    go_enter Tryd.func53, Tryd.ntmps53
    go_wp2_with (go_at_call 44; refine (replace_any p v D 3 1 _ f _ hAt hr hs).mono ?_; rintro e w1 ⟨rfl, v1, M1⟩)
    go_ret
    rw [HE.out]
    exact ⟨rfl, v1, M1⟩
end Go.Proofs.YtgobnnciijlpaaaDoor
