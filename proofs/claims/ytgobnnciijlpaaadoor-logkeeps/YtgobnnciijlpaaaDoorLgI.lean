/- The walks of frame, Append, Install of package log. -/
import Derived.Test.YtgobnnciijlpaaaDoorLgH
namespace Go.Proofs.YtgobnnciijlpaaaDoor
open Go.ChangeShapes Go.WideShapes Go.ChangeAt Go.RowKit Go.DsMem Go.DsDk Go.DsLg
set_option linter.unusedVariables false

theorem lframe_nil (x sl : Value) (w : World) : Calls Tryd.prog 50 #[.pointer none, x, sl] w fun e w' => e = .returned (.tuple #[.slice none 0 0, .int .i64 2]) ∧ w' = w := by
  go_enter Tryd.func50, Tryd.ntmps50
  go_wp2
  go_ret2
  exact ⟨rfl, rfl⟩
theorem lframe_broken (l p next size : Nat) (x sl : Value) (w : World) (hL : LogAt w l p next size true) : Calls Tryd.prog 50 #[.pointer (some ⟨l, 0, none⟩), x, sl] w fun e w' => e = .returned (.tuple #[.slice none 0 0, .int .i64 5]) ∧ w' = w := by
  have h3 := hL.c3
  clear hL
  go_enter Tryd.func50, Tryd.ntmps50
  go_wp2
  go_ret2
  exact ⟨rfl, rfl⟩
set_option maxRecDepth 10000 in
theorem lframe_big (l p next size less sq : Nat) (sl : Value) (rec : List UInt8) (w : World) (hL : LogAt w l p next size false) (hr : Rd w sl rec) (hbig : 60000 < rec.length) (hsq : IntKind.u64.wrap ((next : Int) - (less : Int)) = (sq : Int)) :
    Calls Tryd.prog 50 #[.pointer (some ⟨l, 0, none⟩), .int .u64 less, sl] w fun e w' => e = .returned (.tuple #[.slice none 0 0, .int .i64 3]) ∧ w' = w := by
  have h3 := hL.c3
  have h1 := hL.c1
  clear hL
  go_enter Tryd.func50, Tryd.ntmps50
  go_wp2_with (go_at_call 32; refine (frame_no _ rec _ _ hr hbig).mono ?_; rintro e w1 ⟨rfl, rfl⟩)
  go_ret2
  exact ⟨rfl, rfl⟩
set_option maxRecDepth 10000 in
theorem lframe_any (l p next size less sq : Nat) (sl : Value) (rec : List UInt8) (w : World) (hL : LogAt w l p next size false) (ht : Tab w) (hr : Rd w sl rec) (hsml : rec.length ≤ 60000) (hsq : IntKind.u64.wrap ((next : Int) - (less : Int)) = (sq : Int)) (hsl : sq < 18446744073709551616) :
    Calls Tryd.prog 50 #[.pointer (some ⟨l, 0, none⟩), .int .u64 less, sl] w fun e w' => ∃ v, e = .returned (.tuple #[v, .int .i64 0]) ∧ w'.ownsRow w.heap.size 5 1 v (16 + rec.length) (bvs (frameB sq rec)) ∧ Below w.heap.size w w' := by
  have h3 := hL.c3
  have h1 := hL.c1
  clear hL
  go_enter Tryd.func50, Tryd.ntmps50
  go_wp2_with (go_at_call 32; refine (frame_any sq rec _ _ ht hr hsl hsml).mono ?_; rintro e w1 ⟨v, rfl, hv, B1⟩)
  go_ret2
  exact ⟨_, rfl, hv, B1⟩

/-- what a call does to a log and its disk, and to nothing else -/
structure LMoved (w : World) (p : Nat) (v : Nat → Value) (l : Nat) (w' : World) (v' : Nat → Value) (D' : Dk) (L' : Lg) : Prop where
  dk : DiskAt w' p v' D'
  log : LogAt w' l p L'.next L'.size L'.broken
  only : Only (fun k => foot p v k ∨ k = l) w w'
  grow : ∀ k, foot p v' k → foot p v k ∨ w.heap.size ≤ k
theorem LMoved.stay {w w' : World} {p : Nat} {v : Nat → Value} {l : Nat} {D : Dk} {L : Lg} (hAt : DiskAt w p v D) (hL : LogAt w l p L.next L.size L.broken) (hb : Below w.heap.size w w') : LMoved w p v l w' v D L :=
  ⟨hAt.below hb, hL.only (S := fun _ => False) (Only.below hb) (fun h => h), Only.below hb, fun _ h => .inl h⟩
/-- the disk has moved, then the log's own block was written -/
theorem LMoved.of {w w1 w2 : World} {p : Nat} {v v1 : Nat → Value} {l : Nat} {D : Dk} {L : Lg} (hM : Moved w p v w1 v1 D) (hlf : ¬ foot p v l) (hlt : l < w.heap.size) (ho : Only (· = l) w1 w2) (hL : LogAt w2 l p L.next L.size L.broken) : LMoved w p v l w2 v1 D L := by
  have hl1 : ¬ foot p v1 l := fun h => by rcases hM.grow l h with h | h; exact hlf h; omega
  exact ⟨hM.dk.stays ho (fun k hk e => hl1 (e ▸ hk)), hL, (hM.only.mono (fun _ _ h => .inl h)).trans ho (fun _ _ h => .inr h), hM.grow⟩

theorem frame_pos (sq : Nat) (rec : List UInt8) (w : World) (B : Nat) (v : Value) (h : w.ownsRow B 5 1 v (16 + rec.length) (bvs (frameB sq rec))) : w.ownsRow B 5 1 v (frameB sq rec).length (bvs (frameB sq rec)) := by rw [frameB_len]; exact h

set_option maxHeartbeats 1000000 in
/-- (*Log).Append -/
theorem lappend_any (l p : Nat) (v : Nat → Value) (D : Dk) (L : Lg) (sl : Value) (rec : List UInt8) (w : World) (hL : LogAt w l p L.next L.size L.broken) (hAt : DiskAt w p v D) (hlf : ¬ foot p v l) (ht : Tab w) (hr : Rd w sl rec) (hn : L.next < 18446744073709551616) (hz : L.size < 4611686018427387904) :
    Calls Tryd.prog 15 #[.pointer (some ⟨l, 0, none⟩), sl] w fun e w' => e = .returned (.int .i64 (appB D L rec).2.2) ∧ ∃ v', LMoved w p v l w' v' (appB D L rec).1 (appB D L rec).2.1 := by
  have hlt := block_lt hL
  cases hbr : L.broken with
  | true =>
    have HE : Hid (appB D L rec = (D, L, 5)) := by show _ = _; unfold appB; rw [if_pos hbr]
    have hL' := hL
    rw [hbr] at hL'
    go_enter Tryd.func15, Tryd.ntmps15
    go_wp2_with (go_at_call 50; refine (lframe_broken l p _ _ _ _ _ hL').mono ?_; rintro e w1 ⟨rfl, rfl⟩)
    go_ret
    rw [HE.out]
    exact ⟨rfl, v, LMoved.stay hAt hL (Below.refl _ _)⟩
  | false =>
    have hL' := hL
    rw [hbr] at hL'
    have hsq : IntKind.u64.wrap ((L.next : Int) - ((0 : Nat) : Int)) = (L.next : Int) := by rw [IntKind.wrap_u64]; omega
    by_cases hbig : 60000 < rec.length
    · have HE : Hid (appB D L rec = (D, L, 3)) := by show _ = _; unfold appB; rw [hbr, if_neg (by decide), if_pos hbig]
      have HFR := hide (lframe_big l p L.next L.size 0 L.next sl rec w hL' hr hbig hsq)
      clear hsq
      go_enter Tryd.func15, Tryd.ntmps15
      go_wp2_with (go_at_call 50; refine HFR.out.mono ?_; rintro e w1 ⟨rfl, rfl⟩)
      go_ret
      rw [HE.out]
      exact ⟨rfl, v, LMoved.stay hAt hL (Below.refl _ _)⟩
    · have HFR := hide (lframe_any l p L.next L.size 0 L.next sl rec w hL' ht hr (by omega) hsq hn)
      clear hsq
      have hX : appB D L rec = if (addB D (frameB L.next rec)).2 = 0 then ((addB D (frameB L.next rec)).1, ⟨(L.next + 1) % 18446744073709551616, L.size + 1, false⟩, 0) else ((addB D (frameB L.next rec)).1, ⟨L.next, L.size, true⟩, (addB D (frameB L.next rec)).2) := by
        unfold appB; rw [hbr, if_neg (by decide), if_neg hbig]
      have HAt := hide hAt
      have HL := hide hL'
      clear hAt hL hL' hbig
      by_cases h1 : (addB D (frameB L.next rec)).2 = 0
      · have HE : Hid (appB D L rec = ((addB D (frameB L.next rec)).1, ⟨(L.next + 1) % 18446744073709551616, L.size + 1, false⟩, 0)) := by show _ = _; rw [hX, if_pos h1]
        have H1 := hide h1
        have hwn : IntKind.u64.wrap ((L.next : Int) + 1) = (((L.next + 1) % 18446744073709551616 : Nat) : Int) := by rw [IntKind.wrap_u64]; omega
        clear h1 hX
        go_enter Tryd.func15, Tryd.ntmps15
        go_wp2_with (first
          | (go_at_call 50; refine HFR.out.mono ?_; rintro e w1 ⟨x, rfl, hx, B1⟩; obtain ⟨xo, xc, rfl, _⟩ := own_shape hx; have hL1 := HL.out.only (S := fun _ => False) (Only.below B1) (fun h => h); have hA1 := HAt.out.below B1; have HX := hide (Rd.own (frame_pos _ _ _ _ _ hx)); have HL1 := hide hL1; have HA1 := hide hA1; have HB1 := hide B1; clear hx hL1 hA1 B1)
          | (go_at_call 51; refine (add_any l _ _ _ p v D _ _ _ HL1.out HA1.out hlf HX.out).mono ?_; rintro e w2 ⟨rfl, v2, M2⟩; rw [H1.out]; have hL2 := HL1.out.only M2.only hlf; have c1 := hL2.c1; have c2 := hL2.c2; have f1 := hL2.free 1; have f2 := hL2.free 2; have HL2 := hide hL2; have HM2 := hide M2; clear hL2 M2))
        go_ret
        rw [HE.out]
        refine ⟨rfl, v2, ?_⟩
        have hM := (Moved.stay HAt.out (Only.below HB1.out)).trans HM2.out
        refine LMoved.of hM hlf hlt ((Only.set _ _ _ _).trans (Only.set _ _ _ _) (fun _ _ h => h)) ?_
        exact (HL2.out.set1 _).set2 _
      · have HE : Hid (appB D L rec = ((addB D (frameB L.next rec)).1, ⟨L.next, L.size, true⟩, (addB D (frameB L.next rec)).2)) := by show _ = _; rw [hX, if_neg h1]
        have hne : ((addB D (frameB L.next rec)).2 != 0) = true := by simp [h1]
        clear h1 hX
        go_enter Tryd.func15, Tryd.ntmps15
        go_wp2_with (first
          | (go_at_call 50; refine HFR.out.mono ?_; rintro e w1 ⟨x, rfl, hx, B1⟩; obtain ⟨xo, xc, rfl, _⟩ := own_shape hx; have hL1 := HL.out.only (S := fun _ => False) (Only.below B1) (fun h => h); have hA1 := HAt.out.below B1; have HX := hide (Rd.own (frame_pos _ _ _ _ _ hx)); have HL1 := hide hL1; have HA1 := hide hA1; have HB1 := hide B1; clear hx hL1 hA1 B1)
          | (go_at_call 51; refine (add_any l _ _ _ p v D _ _ _ HL1.out HA1.out hlf HX.out).mono ?_; rintro e w2 ⟨rfl, v2, M2⟩; have hL2 := HL1.out.only M2.only hlf; have c3 := hL2.c3; have f3 := hL2.free 3; have HL2 := hide hL2; have HM2 := hide M2; clear hL2 M2))
        go_ret
        rw [HE.out]
        refine ⟨rfl, v2, ?_⟩
        have hM := (Moved.stay HAt.out (Only.below HB1.out)).trans HM2.out
        exact LMoved.of hM hlf hlt (Only.set _ _ _ _) (HL2.out.set3 true)
end Go.Proofs.YtgobnnciijlpaaaDoor
