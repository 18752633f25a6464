/- The walks of Install of package log, and of the calls of no log. -/
import Derived.Test.YtgobnnciijlpaaaDoorLgI
namespace Go.Proofs.YtgobnnciijlpaaaDoor
open Go.ChangeShapes Go.WideShapes Go.ChangeAt Go.RowKit Go.DsMem Go.DsDk Go.DsLg
set_option linter.unusedVariables false

theorem lappend_nil (sl : Value) (w : World) : Calls Tryd.prog 15 #[.pointer none, sl] w fun e w' => e = .returned (.int .i64 2) ∧ w' = w := by
  go_enter Tryd.func15, Tryd.ntmps15
  go_wp2_with (go_at_call 50; refine (lframe_nil _ _ _).mono ?_; rintro e w1 ⟨rfl, rfl⟩)
  go_ret
  exact ⟨rfl, rfl⟩
theorem linstall_nil (sl : Value) (w : World) : Calls Tryd.prog 19 #[.pointer none, sl] w fun e w' => e = .returned (.int .i64 2) ∧ w' = w := by
  go_enter Tryd.func19, Tryd.ntmps19
  go_wp2_with (go_at_call 50; refine (lframe_nil _ _ _).mono ?_; rintro e w1 ⟨rfl, rfl⟩)
  go_ret
  exact ⟨rfl, rfl⟩

theorem lessN_lt (n : Nat) : lessN n < 18446744073709551616 := Nat.mod_lt _ (by decide)
theorem lessN_wrap (n : Nat) (h : n < 18446744073709551616) : IntKind.u64.wrap ((n : Int) - ((1 : Nat) : Int)) = (lessN n : Int) := by
  rw [IntKind.wrap_u64]; unfold lessN; omega
theorem fresh_row {w w1 : World} {B : Nat} {n : Nat} {x : Value} {xs : List Value} (hx : w1.ownsRow w.heap.size 5 1 x n xs) {p : Nat} {v : Nat → Value} {D : Dk} (hAt : DiskAt w p v D) : ∀ k, x.ownBlock = some k → ¬ foot p v k := by
  intro k hk hf
  have h1 := (hx.lt k hk).1
  have h2 := hAt.foot_lt hf
  omega

set_option maxHeartbeats 1000000 in
/-- (*Log).Install -/
theorem linstall_any (l p : Nat) (v : Nat → Value) (D : Dk) (L : Lg) (sl : Value) (rec : List UInt8) (w : World) (hL : LogAt w l p L.next L.size L.broken) (hAt : DiskAt w p v D) (hlf : ¬ foot p v l) (ht : Tab w) (hr : Rd w sl rec) (hn : L.next < 18446744073709551616) :
    Calls Tryd.prog 19 #[.pointer (some ⟨l, 0, none⟩), sl] w fun e w' => e = .returned (.int .i64 (insB D L rec).2.2) ∧ ∃ v', LMoved w p v l w' v' (insB D L rec).1 (insB D L rec).2.1 := by
  have hlt := block_lt hL
  cases hbr : L.broken with
  | true =>
    have HE : Hid (insB D L rec = (D, L, 5)) := by show _ = _; unfold insB; rw [if_pos hbr]
    have hL' := hL
    rw [hbr] at hL'
    go_enter Tryd.func19, Tryd.ntmps19
    go_wp2_with (go_at_call 50; refine (lframe_broken l p _ _ _ _ _ hL').mono ?_; rintro e w1 ⟨rfl, rfl⟩)
    go_ret
    rw [HE.out]
    exact ⟨rfl, v, LMoved.stay hAt hL (Below.refl _ _)⟩
  | false =>
    have hL' := hL
    rw [hbr] at hL'
    have hsq := lessN_wrap L.next hn
    by_cases hbig : 60000 < rec.length
    · have HE : Hid (insB D L rec = (D, L, 3)) := by show _ = _; unfold insB; rw [hbr, if_neg (by decide), if_pos hbig]
      have HFR := hide (lframe_big l p L.next L.size 1 (lessN L.next) sl rec w hL' hr hbig hsq)
      clear hsq
      go_enter Tryd.func19, Tryd.ntmps19
      go_wp2_with (go_at_call 50; refine HFR.out.mono ?_; rintro e w1 ⟨rfl, rfl⟩)
      go_ret
      rw [HE.out]
      exact ⟨rfl, v, LMoved.stay hAt hL (Below.refl _ _)⟩
    · have HFR := hide (lframe_any l p L.next L.size 1 (lessN L.next) sl rec w hL' ht hr (by omega) hsq (lessN_lt _))
      clear hsq
      have hX : insB D L rec = if (setB D (frameB (lessN L.next) rec)).2 = 0 then ((setB D (frameB (lessN L.next) rec)).1, ⟨L.next, 0, false⟩, 0) else ((setB D (frameB (lessN L.next) rec)).1, ⟨L.next, L.size, true⟩, (setB D (frameB (lessN L.next) rec)).2) := by
        unfold insB; rw [hbr, if_neg (by decide), if_neg hbig]
      have HAt := hide hAt
      have HL := hide hL'
      clear hAt hL hL' hbig
      by_cases h1 : (setB D (frameB (lessN L.next) rec)).2 = 0
      · have HE : Hid (insB D L rec = ((setB D (frameB (lessN L.next) rec)).1, ⟨L.next, 0, false⟩, 0)) := by show _ = _; rw [hX, if_pos h1]
        have H1 := hide h1
        clear h1 hX
        go_enter Tryd.func19, Tryd.ntmps19
        go_wp2_with (first
          | (go_at_call 50; refine HFR.out.mono ?_; rintro e w1 ⟨x, rfl, hx, B1⟩; have HFX := hide (fresh_row (B := 0) hx HAt.out); obtain ⟨xo, xc, rfl, _⟩ := own_shape hx; have hL1 := HL.out.only (S := fun _ => False) (Only.below B1) (fun h => h); have hA1 := HAt.out.below B1; have HX := hide (Rd.own (frame_pos _ _ _ _ _ hx)); have HL1 := hide hL1; have HA1 := hide hA1; have HB1 := hide B1; clear hx hL1 hA1 B1)
          | (go_at_call 53; refine (settle_any l _ _ _ p v D _ _ _ HL1.out HA1.out hlf HX.out (fun _ => HFX.out)).mono ?_; rintro e w2 ⟨rfl, v2, M2⟩; rw [H1.out]; have hL2 := HL1.out.only M2.only hlf; have c2 := hL2.c2; have f2 := hL2.free 2; have HL2 := hide hL2; have HM2 := hide M2; clear hL2 M2))
        go_ret
        rw [HE.out]
        refine ⟨rfl, v2, ?_⟩
        have hM := (Moved.stay HAt.out (Only.below HB1.out)).trans HM2.out
        refine LMoved.of hM hlf hlt (Only.set _ _ _ _) ?_
        exact HL2.out.set2 0
      · have HE : Hid (insB D L rec = ((setB D (frameB (lessN L.next) rec)).1, ⟨L.next, L.size, true⟩, (setB D (frameB (lessN L.next) rec)).2)) := by show _ = _; rw [hX, if_neg h1]
        have hne : ((setB D (frameB (lessN L.next) rec)).2 != 0) = true := by simp [h1]
        clear h1 hX
        go_enter Tryd.func19, Tryd.ntmps19
        go_wp2_with (first
          | (go_at_call 50; refine HFR.out.mono ?_; rintro e w1 ⟨x, rfl, hx, B1⟩; have HFX := hide (fresh_row (B := 0) hx HAt.out); obtain ⟨xo, xc, rfl, _⟩ := own_shape hx; have hL1 := HL.out.only (S := fun _ => False) (Only.below B1) (fun h => h); have hA1 := HAt.out.below B1; have HX := hide (Rd.own (frame_pos _ _ _ _ _ hx)); have HL1 := hide hL1; have HA1 := hide hA1; have HB1 := hide B1; clear hx hL1 hA1 B1)
          | (go_at_call 53; refine (settle_any l _ _ _ p v D _ _ _ HL1.out HA1.out hlf HX.out (fun _ => HFX.out)).mono ?_; rintro e w2 ⟨rfl, v2, M2⟩; have hL2 := HL1.out.only M2.only hlf; have c3 := hL2.c3; have f3 := hL2.free 3; have HL2 := hide hL2; have HM2 := hide M2; clear hL2 M2))
        go_ret
        rw [HE.out]
        refine ⟨rfl, v2, ?_⟩
        have hM := (Moved.stay HAt.out (Only.below HB1.out)).trans HM2.out
        exact LMoved.of hM hlf hlt (Only.set _ _ _ _) (HL2.out.set3 true)
end Go.Proofs.YtgobnnciijlpaaaDoor
