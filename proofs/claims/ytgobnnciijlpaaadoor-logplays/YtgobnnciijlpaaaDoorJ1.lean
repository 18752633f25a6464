/- Some parts of the proof, one behind the other. -/
import Derived.Test.YtgobnnciijlpaaaDoorLgG
import Derived.Test.YtgobnnciijlpaaaDoorBy
import Derived.Test.YtgobnnciijlpaaaDoorLrE
import Derived.Test.YtgobnnciijlpaaaDoorLrB
/- Open, said whole; the walks of add, settle, Append, Install, Next, Size of package log. -/
namespace Go.Proofs.YtgobnnciijlpaaaDoor
open Go.ChangeShapes Go.WideShapes Go.ChangeAt Go.RowKit Go.DsMem Go.DsDk Go.DsLg
set_option linter.unusedVariables false

/-- log.Open -/
theorem open_any (p : Nat) (v : Nat → Value) (D : Dk) (w : World) (hAt : DiskAt w p v D) (ht : Tab w) :
    Calls Tryd.prog 12 #[.pointer (some ⟨p, 0, none⟩)] w fun e w' => ∃ v', Moved w p v w' v' (openB D).1 ∧
      ((openB D).2.err ≠ 0 → e = .returned (.tuple #[.pointer none, .slice none 0 0, .slice none 0 0, .int .i64 (openB D).2.err])) ∧
      ((openB D).2.err = 0 → ∃ l x rs, e = .returned (.tuple #[.pointer (some ⟨l, 0, none⟩), x, rs, .int .i64 0]) ∧ ∃ E, IsOpen w E w' p v' (openB D).2 l x rs) := by
  by_cases h1 : (snapB (D.b 1)).2.2 = 0
  · by_cases h2 : (behB (snapB (D.b 1)).1 (scanB (D.b 0)).1 (scanB (D.b 0)).2.1).2 = 0
    · by_cases h3 : (scanB (D.b 0)).2.2 < (D.b 0).length
      · by_cases h4 : (replB D 2 0 ((D.b 0).take (scanB (D.b 0)).2.2)).2 = 0
        · refine (open_d p v D w hAt ht h1 h2 h3 h4).mono ?_
          rintro e w' ⟨l, x, rs, rfl, v', hM, hO⟩
          have he : openB D = ((replB D 2 0 ((D.b 0).take (scanB (D.b 0)).2.2)).1, ⟨0, ((snapB (D.b 1)).1 + (behB (snapB (D.b 1)).1 (scanB (D.b 0)).1 (scanB (D.b 0)).2.1).1.length + 1) % 18446744073709551616, (snapB (D.b 1)).2.1, (behB (snapB (D.b 1)).1 (scanB (D.b 0)).1 (scanB (D.b 0)).2.1).1⟩) := by
            unfold openB; rw [if_pos h1, if_pos h2, if_pos h3, if_pos h4]
          rw [he]
          exact ⟨v', hM, fun h => absurd rfl h, fun _ => ⟨l, x, rs, rfl, hO⟩⟩
        · refine (open_c p v D w hAt ht h1 h2 h3 h4).mono ?_
          rintro e w' ⟨rfl, v', hM⟩
          have he : openB D = ((replB D 2 0 ((D.b 0).take (scanB (D.b 0)).2.2)).1, ⟨(replB D 2 0 ((D.b 0).take (scanB (D.b 0)).2.2)).2, 0, [], []⟩) := by
            unfold openB; rw [if_pos h1, if_pos h2, if_pos h3, if_neg h4]
          rw [he]
          exact ⟨v', hM, fun _ => rfl, fun h => absurd h h4⟩
      · refine (open_e p v D w hAt ht h1 h2 h3).mono ?_
        rintro e w' ⟨l, x, rs, rfl, hB, hO⟩
        have he : openB D = (D, ⟨0, ((snapB (D.b 1)).1 + (behB (snapB (D.b 1)).1 (scanB (D.b 0)).1 (scanB (D.b 0)).2.1).1.length + 1) % 18446744073709551616, (snapB (D.b 1)).2.1, (behB (snapB (D.b 1)).1 (scanB (D.b 0)).1 (scanB (D.b 0)).2.1).1⟩) := by
          unfold openB; rw [if_pos h1, if_pos h2, if_neg h3]
        rw [he]
        exact ⟨v, Moved.stay hAt (Only.below hB), fun h => absurd rfl h, fun _ => ⟨l, x, rs, rfl, hO⟩⟩
    · refine (open_b p v D w hAt ht h1 h2).mono ?_
      rintro e w' ⟨rfl, hB⟩
      rw [opens_b h1 h2]
      exact ⟨v, Moved.stay hAt (Only.below hB), fun _ => rfl, fun h => absurd h h2⟩
  · refine (open_a p v D w hAt ht h1).mono ?_
    rintro e w' ⟨rfl, hB⟩
    rw [opens_a h1]
    exact ⟨v, Moved.stay hAt (Only.below hB), fun _ => rfl, fun h => absurd h h1⟩

/-- log.Open of no disk -/
theorem open_nil (w : World) : Calls Tryd.prog 12 #[.pointer none] w fun e w' => e = .returned (.tuple #[.pointer none, .slice none 0 0, .slice none 0 0, .int .i64 2]) ∧ Below w.heap.size w w' := by
  go_enter Tryd.func12, Tryd.ntmps12
  go_wp2_with (go_at_call 41; refine (lread_nil _).mono ?_; rintro e w1 ⟨rfl, B1⟩)
  refine bodyPost_ret (v := .tuple #[.pointer none, .slice none 0 0, .slice none 0 0, .int .i64 2]) (by simp [results, Tryd.results12, go_sem]) rfl ⟨rfl, ?_⟩
  exact B1.alloc B1.size _

section
variable {w : World} {l p next size : Nat} {broken : Bool}
theorem LogAt.c0 (h : LogAt w l p next size broken) : w.cell? ⟨l, 0, none⟩ = some (.pointer (some ⟨p, 0, none⟩)) := (cell_of h).trans rfl
theorem LogAt.c1 (h : LogAt w l p next size broken) : w.cell? ⟨l, 1, none⟩ = some (.int .u64 next) := (cell_of h).trans rfl
theorem LogAt.c2 (h : LogAt w l p next size broken) : w.cell? ⟨l, 2, none⟩ = some (.int .i64 size) := (cell_of h).trans rfl
theorem LogAt.c3 (h : LogAt w l p next size broken) : w.cell? ⟨l, 3, none⟩ = some (.bool broken) := (cell_of h).trans rfl
theorem LogAt.free (h : LogAt w l p next size broken) (k : Nat) : w.frozen? ⟨l, k, none⟩ = false := frozen_of h
theorem LogAt.set1 (h : LogAt w l p next size broken) (n : Nat) : LogAt (w.setCell ⟨l, 1, none⟩ (.int .u64 n)) l p n size broken := by unfold LogAt; rw [hset_same h]; rfl
theorem LogAt.set2 (h : LogAt w l p next size broken) (n : Nat) : LogAt (w.setCell ⟨l, 2, none⟩ (.int .i64 n)) l p next n broken := by unfold LogAt; rw [hset_same h]; rfl
theorem LogAt.set3 (h : LogAt w l p next size broken) (n : Bool) : LogAt (w.setCell ⟨l, 3, none⟩ (.bool n)) l p next size n := by unfold LogAt; rw [hset_same h]; rfl
theorem LogAt.only {w' : World} {S : Nat → Prop} (h : LogAt w l p next size broken) (ho : Only S w w') (hn : ¬ S l) : LogAt w' l p next size broken := by unfold LogAt; rw [ho.block l (block_lt h) hn]; exact h
end
/-- (*Log).Next, Size -/
theorem next_any (l p next size : Nat) (broken : Bool) (w : World) (h : LogAt w l p next size broken) : Calls Tryd.prog 28 #[.pointer (some ⟨l, 0, none⟩)] w fun e w' => e = .returned (.int .u64 next) ∧ w' = w := by
  have h1 := h.c1
  clear h
  go_enter Tryd.func28, Tryd.ntmps28
  go_wp2
  go_ret
  exact ⟨rfl, rfl⟩
theorem size_any (l p next size : Nat) (broken : Bool) (w : World) (h : LogAt w l p next size broken) : Calls Tryd.prog 29 #[.pointer (some ⟨l, 0, none⟩)] w fun e w' => e = .returned (.int .i64 size) ∧ w' = w := by
  have h1 := h.c2
  clear h
  go_enter Tryd.func29, Tryd.ntmps29
  go_wp2
  go_ret
  exact ⟨rfl, rfl⟩
theorem next_nil (w : World) : Calls Tryd.prog 28 #[.pointer none] w fun e w' => e = .returned (.int .u64 0) ∧ w' = w := by
  go_enter Tryd.func28, Tryd.ntmps28
  go_wp2
  go_ret
  exact ⟨rfl, rfl⟩
theorem size_nil (w : World) : Calls Tryd.prog 29 #[.pointer none] w fun e w' => e = .returned (.int .i64 0) ∧ w' = w := by
  go_enter Tryd.func29, Tryd.ntmps29
  go_wp2
  go_ret
  exact ⟨rfl, rfl⟩

/-- (*Log).add -/
theorem add_any (l next size : Nat) (broken : Bool) (p : Nat) (v : Nat → Value) (D : Dk) (sl : Value) (f : List UInt8) (w : World) (hL : LogAt w l p next size broken) (hAt : DiskAt w p v D) (hlf : ¬ foot p v l) (hr : Rd w sl f) :
    Calls Tryd.prog 51 #[.pointer (some ⟨l, 0, none⟩), sl] w fun e w' => e = .returned (.int .i64 (addB D f).2) ∧ ∃ v', Moved w p v w' v' (addB D f).1 := by
  have h0 := hL.c0
  by_cases h1 : (D.append 0 f).2 = 0
  · have HE : Hid (addB D f = (D.append 0 f).1.sync 0) := by show _ = _; unfold addB; rw [if_pos h1]
    have H1 := hide h1
    clear h1
    go_enter Tryd.func51, Tryd.ntmps51
    go_wp2_with (first
      | (go_at_call 23; refine (append_any p v D 0 _ f _ hAt hr).mono ?_; rintro e w1 ⟨rfl, v1, M1⟩; rw [H1.out]; have h01 := (hL.only M1.only hlf).c0)
      | (go_at_call 68; refine (sync_any p v1 _ 0 _ M1.dk).mono ?_; rintro e w2 ⟨rfl, M2⟩))
    go_ret
    rw [HE.out]
    exact ⟨rfl, v1, M1.trans M2⟩
  · have HE : Hid (addB D f = D.append 0 f) := by show _ = _; unfold addB; rw [if_neg h1]
    have hne : ((D.append 0 f).2 != 0) = true := by simp [h1]
    clear h1
    go_enter Tryd.func51, Tryd.ntmps51
    go_wp2_with (go_at_call 23; refine (append_any p v D 0 _ f _ hAt hr).mono ?_; rintro e w1 ⟨rfl, v1, M1⟩)
    go_ret
    rw [HE.out]
    exact ⟨rfl, v1, M1⟩
/-- (*Log).settle -/
theorem settle_any (l next size : Nat) (broken : Bool) (p : Nat) (v : Nat → Value) (D : Dk) (sl : Value) (f : List UInt8) (w : World) (hL : LogAt w l p next size broken) (hAt : DiskAt w p v D) (hlf : ¬ foot p v l) (hr : Rd w sl f) (hs : 0 < f.length → ∀ k, sl.ownBlock = some k → ¬ foot p v k) :
    Calls Tryd.prog 53 #[.pointer (some ⟨l, 0, none⟩), sl] w fun e w' => e = .returned (.int .i64 (setB D f).2) ∧ ∃ v', Moved w p v w' v' (setB D f).1 := by
  have h0 := hL.c0
  by_cases h1 : (replB D 3 1 f).2 = 0
  · have HE : Hid (setB D f = (replB D 3 1 f).1.clear 0) := by show _ = _; unfold setB; rw [if_pos h1]
    have H1 := hide h1
    clear h1
    go_enter Tryd.func53, Tryd.ntmps53
    go_wp2_with (first
      | (go_at_call 44; refine (replace_any p v D 3 1 _ f _ hAt hr hs).mono ?_; rintro e w1 ⟨rfl, v1, M1⟩; rw [H1.out]; have h01 := (hL.only M1.only hlf).c0)
      | (go_at_call 67; refine (clear_any p v1 _ 0 _ M1.dk).mono ?_; rintro e w2 ⟨rfl, v2, M2⟩))
    go_ret
    rw [HE.out]
    exact ⟨rfl, v2, M1.trans M2⟩
  · have HE : Hid (setB D f = replB D 3 1 f) := by show _ = _; unfold setB; rw [if_neg h1]
    have hne : ((replB D 3 1 f).2 != 0) = true := by simp [h1]
    clear h1
    go_enter Tryd.func53, Tryd.ntmps53
    go_wp2_with (go_at_call 44; refine (replace_any p v D 3 1 _ f _ hAt hr hs).mono ?_; rintro e w1 ⟨rfl, v1, M1⟩)
    go_ret
    rw [HE.out]
    exact ⟨rfl, v1, M1⟩
end Go.Proofs.YtgobnnciijlpaaaDoor

/- The walks of frame, Append, Install of package log. -/
namespace Go.Proofs.YtgobnnciijlpaaaDoor
open Go.ChangeShapes Go.WideShapes Go.ChangeAt Go.RowKit Go.DsMem Go.DsDk Go.DsLg
set_option linter.unusedVariables false

theorem lframe_nil (x sl : Value) (w : World) : Calls Tryd.prog 50 #[.pointer none, x, sl] w fun e w' => e = .returned (.tuple #[.slice none 0 0, .int .i64 2]) ∧ w' = w := by
  go_enter Tryd.func50, Tryd.ntmps50
  go_wp2
  go_ret2
  exact ⟨rfl, rfl⟩
theorem lframe_broken (l p next size : Nat) (x sl : Value) (w : World) (hL : LogAt w l p next size true) : Calls Tryd.prog 50 #[.pointer (some ⟨l, 0, none⟩), x, sl] w fun e w' => e = .returned (.tuple #[.slice none 0 0, .int .i64 5]) ∧ w' = w := by
  have h3 := hL.c3
  clear hL
  go_enter Tryd.func50, Tryd.ntmps50
  go_wp2
  go_ret2
  exact ⟨rfl, rfl⟩
set_option maxRecDepth 10000 in
theorem lframe_big (l p next size less sq : Nat) (sl : Value) (rec : List UInt8) (w : World) (hL : LogAt w l p next size false) (hr : Rd w sl rec) (hbig : 60000 < rec.length) (hsq : IntKind.u64.wrap ((next : Int) - (less : Int)) = (sq : Int)) :
    Calls Tryd.prog 50 #[.pointer (some ⟨l, 0, none⟩), .int .u64 less, sl] w fun e w' => e = .returned (.tuple #[.slice none 0 0, .int .i64 3]) ∧ w' = w := by
  have h3 := hL.c3
  have h1 := hL.c1
  clear hL
  go_enter Tryd.func50, Tryd.ntmps50
  go_wp2_with (go_at_call 32; refine (frame_no _ rec _ _ hr hbig).mono ?_; rintro e w1 ⟨rfl, rfl⟩)
  go_ret2
  exact ⟨rfl, rfl⟩
set_option maxRecDepth 10000 in
theorem lframe_any (l p next size less sq : Nat) (sl : Value) (rec : List UInt8) (w : World) (hL : LogAt w l p next size false) (ht : Tab w) (hr : Rd w sl rec) (hsml : rec.length ≤ 60000) (hsq : IntKind.u64.wrap ((next : Int) - (less : Int)) = (sq : Int)) (hsl : sq < 18446744073709551616) :
    Calls Tryd.prog 50 #[.pointer (some ⟨l, 0, none⟩), .int .u64 less, sl] w fun e w' => ∃ v, e = .returned (.tuple #[v, .int .i64 0]) ∧ w'.ownsRow w.heap.size 5 1 v (16 + rec.length) (bvs (frameB sq rec)) ∧ Below w.heap.size w w' := by
  have h3 := hL.c3
  have h1 := hL.c1
  clear hL
  go_enter Tryd.func50, Tryd.ntmps50
  go_wp2_with (go_at_call 32; refine (frame_any sq rec _ _ ht hr hsl hsml).mono ?_; rintro e w1 ⟨v, rfl, hv, B1⟩)
  go_ret2
  exact ⟨_, rfl, hv, B1⟩

/-- what a call does to a log and its disk, and to nothing else -/
structure LMoved (w : World) (p : Nat) (v : Nat → Value) (l : Nat) (w' : World) (v' : Nat → Value) (D' : Dk) (L' : Lg) : Prop where
  dk : DiskAt w' p v' D'
  log : LogAt w' l p L'.next L'.size L'.broken
  only : Only (fun k => foot p v k ∨ k = l) w w'
  grow : ∀ k, foot p v' k → foot p v k ∨ w.heap.size ≤ k
theorem LMoved.stay {w w' : World} {p : Nat} {v : Nat → Value} {l : Nat} {D : Dk} {L : Lg} (hAt : DiskAt w p v D) (hL : LogAt w l p L.next L.size L.broken) (hb : Below w.heap.size w w') : LMoved w p v l w' v D L :=
  ⟨hAt.below hb, hL.only (S := fun _ => False) (Only.below hb) (fun h => h), Only.below hb, fun _ h => .inl h⟩
/-- the disk has moved, then the log's own block was written -/
theorem LMoved.of {w w1 w2 : World} {p : Nat} {v v1 : Nat → Value} {l : Nat} {D : Dk} {L : Lg} (hM : Moved w p v w1 v1 D) (hlf : ¬ foot p v l) (hlt : l < w.heap.size) (ho : Only (· = l) w1 w2) (hL : LogAt w2 l p L.next L.size L.broken) : LMoved w p v l w2 v1 D L := by
  have hl1 : ¬ foot p v1 l := fun h => by rcases hM.grow l h with h | h; exact hlf h; omega
  exact ⟨hM.dk.stays ho (fun k hk e => hl1 (e ▸ hk)), hL, (hM.only.mono (fun _ _ h => .inl h)).trans ho (fun _ _ h => .inr h), hM.grow⟩

theorem frame_pos (sq : Nat) (rec : List UInt8) (w : World) (B : Nat) (v : Value) (h : w.ownsRow B 5 1 v (16 + rec.length) (bvs (frameB sq rec))) : w.ownsRow B 5 1 v (frameB sq rec).length (bvs (frameB sq rec)) := by rw [frameB_len]; exact h

set_option maxHeartbeats 1000000 in
/-- (*Log).Append -/
theorem lappend_any (l p : Nat) (v : Nat → Value) (D : Dk) (L : Lg) (sl : Value) (rec : List UInt8) (w : World) (hL : LogAt w l p L.next L.size L.broken) (hAt : DiskAt w p v D) (hlf : ¬ foot p v l) (ht : Tab w) (hr : Rd w sl rec) (hn : L.next < 18446744073709551616) (hz : L.size < 4611686018427387904) :
    Calls Tryd.prog 15 #[.pointer (some ⟨l, 0, none⟩), sl] w fun e w' => e = .returned (.int .i64 (appB D L rec).2.2) ∧ ∃ v', LMoved w p v l w' v' (appB D L rec).1 (appB D L rec).2.1 := by
  have hlt := block_lt hL
  cases hbr : L.broken with
  | true =>
    have HE : Hid (appB D L rec = (D, L, 5)) := by show _ = _; unfold appB; rw [if_pos hbr]
    have hL' := hL
    rw [hbr] at hL'
    go_enter Tryd.func15, Tryd.ntmps15
    go_wp2_with (go_at_call 50; refine (lframe_broken l p _ _ _ _ _ hL').mono ?_; rintro e w1 ⟨rfl, rfl⟩)
    go_ret
    rw [HE.out]
    exact ⟨rfl, v, LMoved.stay hAt hL (Below.refl _ _)⟩
  | false =>
    have hL' := hL
    rw [hbr] at hL'
    have hsq : IntKind.u64.wrap ((L.next : Int) - ((0 : Nat) : Int)) = (L.next : Int) := by rw [IntKind.wrap_u64]; omega
    by_cases hbig : 60000 < rec.length
    · have HE : Hid (appB D L rec = (D, L, 3)) := by show _ = _; unfold appB; rw [hbr, if_neg (by decide), if_pos hbig]
      have HFR := hide (lframe_big l p L.next L.size 0 L.next sl rec w hL' hr hbig hsq)
      clear hsq
      go_enter Tryd.func15, Tryd.ntmps15
      go_wp2_with (go_at_call 50; refine HFR.out.mono ?_; rintro e w1 ⟨rfl, rfl⟩)
      go_ret
      rw [HE.out]
      exact ⟨rfl, v, LMoved.stay hAt hL (Below.refl _ _)⟩
    · have HFR := hide (lframe_any l p L.next L.size 0 L.next sl rec w hL' ht hr (by omega) hsq hn)
      clear hsq
      have hX : appB D L rec = if (addB D (frameB L.next rec)).2 = 0 then ((addB D (frameB L.next rec)).1, ⟨(L.next + 1) % 18446744073709551616, L.size + 1, false⟩, 0) else ((addB D (frameB L.next rec)).1, ⟨L.next, L.size, true⟩, (addB D (frameB L.next rec)).2) := by
        unfold appB; rw [hbr, if_neg (by decide), if_neg hbig]
      have HAt := hide hAt
      have HL := hide hL'
      clear hAt hL hL' hbig
      by_cases h1 : (addB D (frameB L.next rec)).2 = 0
      · have HE : Hid (appB D L rec = ((addB D (frameB L.next rec)).1, ⟨(L.next + 1) % 18446744073709551616, L.size + 1, false⟩, 0)) := by show _ = _; rw [hX, if_pos h1]
        have H1 := hide h1
        have hwn : IntKind.u64.wrap ((L.next : Int) + 1) = (((L.next + 1) % 18446744073709551616 : Nat) : Int) := by rw [IntKind.wrap_u64]; omega
        clear h1 hX
        go_enter Tryd.func15, Tryd.ntmps15
        go_wp2_with (first
          | (go_at_call 50; refine HFR.out.mono ?_; rintro e w1 ⟨x, rfl, hx, B1⟩; obtain ⟨xo, xc, rfl, _⟩ := own_shape hx; have hL1 := HL.out.only (S := fun _ => False) (Only.below B1) (fun h => h); have hA1 := HAt.out.below B1; have HX := hide (Rd.own (frame_pos _ _ _ _ _ hx)); have HL1 := hide hL1; have HA1 := hide hA1; have HB1 := hide B1; clear hx hL1 hA1 B1)
          | (go_at_call 51; refine (add_any l _ _ _ p v D _ _ _ HL1.out HA1.out hlf HX.out).mono ?_; rintro e w2 ⟨rfl, v2, M2⟩; rw [H1.out]; have hL2 := HL1.out.only M2.only hlf; have c1 := hL2.c1; have c2 := hL2.c2; have f1 := hL2.free 1; have f2 := hL2.free 2; have HL2 := hide hL2; have HM2 := hide M2; clear hL2 M2))
        go_ret
        rw [HE.out]
        refine ⟨rfl, v2, ?_⟩
        have hM := (Moved.stay HAt.out (Only.below HB1.out)).trans HM2.out
        refine LMoved.of hM hlf hlt ((Only.set _ _ _ _).trans (Only.set _ _ _ _) (fun _ _ h => h)) ?_
        exact (HL2.out.set1 _).set2 _
      · have HE : Hid (appB D L rec = ((addB D (frameB L.next rec)).1, ⟨L.next, L.size, true⟩, (addB D (frameB L.next rec)).2)) := by show _ = _; rw [hX, if_neg h1]
        have hne : ((addB D (frameB L.next rec)).2 != 0) = true := by simp [h1]
        clear h1 hX
        go_enter Tryd.func15, Tryd.ntmps15
        go_wp2_with (first
          | (go_at_call 50; refine HFR.out.mono ?_; rintro e w1 ⟨x, rfl, hx, B1⟩; obtain ⟨xo, xc, rfl, _⟩ := own_shape hx; have hL1 := HL.out.only (S := fun _ => False) (Only.below B1) (fun h => h); have hA1 := HAt.out.below B1; have HX := hide (Rd.own (frame_pos _ _ _ _ _ hx)); have HL1 := hide hL1; have HA1 := hide hA1; have HB1 := hide B1; clear hx hL1 hA1 B1)
          | (go_at_call 51; refine (add_any l _ _ _ p v D _ _ _ HL1.out HA1.out hlf HX.out).mono ?_; rintro e w2 ⟨rfl, v2, M2⟩; have hL2 := HL1.out.only M2.only hlf; have c3 := hL2.c3; have f3 := hL2.free 3; have HL2 := hide hL2; have HM2 := hide M2; clear hL2 M2))
        go_ret
        rw [HE.out]
        refine ⟨rfl, v2, ?_⟩
        have hM := (Moved.stay HAt.out (Only.below HB1.out)).trans HM2.out
        exact LMoved.of hM hlf hlt (Only.set _ _ _ _) (HL2.out.set3 true)
end Go.Proofs.YtgobnnciijlpaaaDoor

/- The walks of Install of package log, and of the calls of no log. -/
namespace Go.Proofs.YtgobnnciijlpaaaDoor
open Go.ChangeShapes Go.WideShapes Go.ChangeAt Go.RowKit Go.DsMem Go.DsDk Go.DsLg
set_option linter.unusedVariables false

theorem lappend_nil (sl : Value) (w : World) : Calls Tryd.prog 15 #[.pointer none, sl] w fun e w' => e = .returned (.int .i64 2) ∧ w' = w := by
  go_enter Tryd.func15, Tryd.ntmps15
  go_wp2_with (go_at_call 50; refine (lframe_nil _ _ _).mono ?_; rintro e w1 ⟨rfl, rfl⟩)
  go_ret
  exact ⟨rfl, rfl⟩
theorem linstall_nil (sl : Value) (w : World) : Calls Tryd.prog 19 #[.pointer none, sl] w fun e w' => e = .returned (.int .i64 2) ∧ w' = w := by
  go_enter Tryd.func19, Tryd.ntmps19
  go_wp2_with (go_at_call 50; refine (lframe_nil _ _ _).mono ?_; rintro e w1 ⟨rfl, rfl⟩)
  go_ret
  exact ⟨rfl, rfl⟩

theorem lessN_lt (n : Nat) : lessN n < 18446744073709551616 := Nat.mod_lt _ (by decide)
theorem lessN_wrap (n : Nat) (h : n < 18446744073709551616) : IntKind.u64.wrap ((n : Int) - ((1 : Nat) : Int)) = (lessN n : Int) := by
  rw [IntKind.wrap_u64]; unfold lessN; omega
theorem fresh_row {w w1 : World} {B : Nat} {n : Nat} {x : Value} {xs : List Value} (hx : w1.ownsRow w.heap.size 5 1 x n xs) {p : Nat} {v : Nat → Value} {D : Dk} (hAt : DiskAt w p v D) : ∀ k, x.ownBlock = some k → ¬ foot p v k := by
  intro k hk hf
  have h1 := (hx.lt k hk).1
  have h2 := hAt.foot_lt hf
  omega

set_option maxHeartbeats 1000000 in
/-- (*Log).Install -/
theorem linstall_any (l p : Nat) (v : Nat → Value) (D : Dk) (L : Lg) (sl : Value) (rec : List UInt8) (w : World) (hL : LogAt w l p L.next L.size L.broken) (hAt : DiskAt w p v D) (hlf : ¬ foot p v l) (ht : Tab w) (hr : Rd w sl rec) (hn : L.next < 18446744073709551616) :
    Calls Tryd.prog 19 #[.pointer (some ⟨l, 0, none⟩), sl] w fun e w' => e = .returned (.int .i64 (insB D L rec).2.2) ∧ ∃ v', LMoved w p v l w' v' (insB D L rec).1 (insB D L rec).2.1 := by
  have hlt := block_lt hL
  cases hbr : L.broken with
  | true =>
    have HE : Hid (insB D L rec = (D, L, 5)) := by show _ = _; unfold insB; rw [if_pos hbr]
    have hL' := hL
    rw [hbr] at hL'
    go_enter Tryd.func19, Tryd.ntmps19
    go_wp2_with (go_at_call 50; refine (lframe_broken l p _ _ _ _ _ hL').mono ?_; rintro e w1 ⟨rfl, rfl⟩)
    go_ret
    rw [HE.out]
    exact ⟨rfl, v, LMoved.stay hAt hL (Below.refl _ _)⟩
  | false =>
    have hL' := hL
    rw [hbr] at hL'
    have hsq := lessN_wrap L.next hn
    by_cases hbig : 60000 < rec.length
    · have HE : Hid (insB D L rec = (D, L, 3)) := by show _ = _; unfold insB; rw [hbr, if_neg (by decide), if_pos hbig]
      have HFR := hide (lframe_big l p L.next L.size 1 (lessN L.next) sl rec w hL' hr hbig hsq)
      clear hsq
      go_enter Tryd.func19, Tryd.ntmps19
      go_wp2_with (go_at_call 50; refine HFR.out.mono ?_; rintro e w1 ⟨rfl, rfl⟩)
      go_ret
      rw [HE.out]
      exact ⟨rfl, v, LMoved.stay hAt hL (Below.refl _ _)⟩
    · have HFR := hide (lframe_any l p L.next L.size 1 (lessN L.next) sl rec w hL' ht hr (by omega) hsq (lessN_lt _))
      clear hsq
      have hX : insB D L rec = if (setB D (frameB (lessN L.next) rec)).2 = 0 then ((setB D (frameB (lessN L.next) rec)).1, ⟨L.next, 0, false⟩, 0) else ((setB D (frameB (lessN L.next) rec)).1, ⟨L.next, L.size, true⟩, (setB D (frameB (lessN L.next) rec)).2) := by
        unfold insB; rw [hbr, if_neg (by decide), if_neg hbig]
      have HAt := hide hAt
      have HL := hide hL'
      clear hAt hL hL' hbig
      by_cases h1 : (setB D (frameB (lessN L.next) rec)).2 = 0
      · have HE : Hid (insB D L rec = ((setB D (frameB (lessN L.next) rec)).1, ⟨L.next, 0, false⟩, 0)) := by show _ = _; rw [hX, if_pos h1]
        have H1 := hide h1
        clear h1 hX
        go_enter Tryd.func19, Tryd.ntmps19
        go_wp2_with (first
          | (go_at_call 50; refine HFR.out.mono ?_; rintro e w1 ⟨x, rfl, hx, B1⟩; have HFX := hide (fresh_row (B := 0) hx HAt.out); obtain ⟨xo, xc, rfl, _⟩ := own_shape hx; have hL1 := HL.out.only (S := fun _ => False) (Only.below B1) (fun h => h); have hA1 := HAt.out.below B1; have HX := hide (Rd.own (frame_pos _ _ _ _ _ hx)); have HL1 := hide hL1; have HA1 := hide hA1; have HB1 := hide B1; clear hx hL1 hA1 B1)
          | (go_at_call 53; refine (settle_any l _ _ _ p v D _ _ _ HL1.out HA1.out hlf HX.out (fun _ => HFX.out)).mono ?_; rintro e w2 ⟨rfl, v2, M2⟩; rw [H1.out]; have hL2 := HL1.out.only M2.only hlf; have c2 := hL2.c2; have f2 := hL2.free 2; have HL2 := hide hL2; have HM2 := hide M2; clear hL2 M2))
        go_ret
        rw [HE.out]
        refine ⟨rfl, v2, ?_⟩
        have hM := (Moved.stay HAt.out (Only.below HB1.out)).trans HM2.out
        refine LMoved.of hM hlf hlt (Only.set _ _ _ _) ?_
        exact HL2.out.set2 0
      · have HE : Hid (insB D L rec = ((setB D (frameB (lessN L.next) rec)).1, ⟨L.next, L.size, true⟩, (setB D (frameB (lessN L.next) rec)).2)) := by show _ = _; rw [hX, if_neg h1]
        have hne : ((setB D (frameB (lessN L.next) rec)).2 != 0) = true := by simp [h1]
        clear h1 hX
        go_enter Tryd.func19, Tryd.ntmps19
        go_wp2_with (first
          | (go_at_call 50; refine HFR.out.mono ?_; rintro e w1 ⟨x, rfl, hx, B1⟩; have HFX := hide (fresh_row (B := 0) hx HAt.out); obtain ⟨xo, xc, rfl, _⟩ := own_shape hx; have hL1 := HL.out.only (S := fun _ => False) (Only.below B1) (fun h => h); have hA1 := HAt.out.below B1; have HX := hide (Rd.own (frame_pos _ _ _ _ _ hx)); have HL1 := hide hL1; have HA1 := hide hA1; have HB1 := hide B1; clear hx hL1 hA1 B1)
          | (go_at_call 53; refine (settle_any l _ _ _ p v D _ _ _ HL1.out HA1.out hlf HX.out (fun _ => HFX.out)).mono ?_; rintro e w2 ⟨rfl, v2, M2⟩; have hL2 := HL1.out.only M2.only hlf; have c3 := hL2.c3; have f3 := hL2.free 3; have HL2 := hide hL2; have HM2 := hide M2; clear hL2 M2))
        go_ret
        rw [HE.out]
        refine ⟨rfl, v2, ?_⟩
        have hM := (Moved.stay HAt.out (Only.below HB1.out)).trans HM2.out
        exact LMoved.of hM hlf hlt (Only.set _ _ _ _) (HL2.out.set3 true)
end Go.Proofs.YtgobnnciijlpaaaDoor

/- A log of one's own, call by call; dayshiftlaw04.known. -/
namespace Go.Proofs.YtgobnnciijlpaaaDoor
open Go.ChangeShapes Go.WideShapes Go.ChangeAt Go.RowKit Go.DsMem Go.DsDk Go.DsLg
set_option linter.unusedVariables false

theorem Tab.below {B : Nat} {W w : World} (h : Tab W) (hb : Below B W w) (hB : W.heap.size ≤ B) : Tab w := fun i h16 => Below.keeps hb hB (h i h16)

/-- a log of one's own on a disk of one's own -/
structure OwnG (W w : World) (p : Nat) (v : Nat → Value) (D : Dk) (l : Nat) (L : Lg) : Prop where
  own : Own W.heap.size W w p v D
  log : LogAt w l p L.next L.size L.broken
  new : W.heap.size ≤ l
  lof : ¬ foot p v l
section
variable {W w w' : World} {p l : Nat} {v v' : Nat → Value} {D D' : Dk} {L L' : Lg}
theorem OwnG.moved (h : OwnG W w p v D l L) (hm : LMoved w p v l w' v' D' L') : OwnG W w' p v' D' l L' := by
  have hlt := block_lt h.log
  have hB : Below W.heap.size w w' := hm.only.toBelow h.own.size (fun i hi => by rcases hi with hi | rfl; exact h.own.mine i hi; exact h.new)
  refine ⟨⟨hm.dk, fun k hk => ?_, h.own.below.trans hB, Nat.le_trans h.own.size hm.only.size⟩, hm.log, h.new, fun hf => ?_⟩
  · rcases hm.grow k hk with h1 | h1
    · exact h.own.mine k h1
    · have := h.own.size; omega
  · rcases hm.grow l hf with h1 | h1
    · exact h.lof h1
    · omega
theorem OwnG.dmoved (h : OwnG W w p v D l L) (hm : Moved w p v w' v' D') : OwnG W w' p v' D' l L := by
  have hlt := block_lt h.log
  refine ⟨h.own.moved hm, h.log.only hm.only h.lof, h.new, fun hf => ?_⟩
  rcases hm.grow l hf with h1 | h1
  · exact h.lof h1
  · omega
theorem OwnG.grew (h : OwnG W w p v D l L) (hb : Below w.heap.size w w') : OwnG W w' p v D l L :=
  ⟨h.own.grew hb, h.log.only (S := fun _ => False) (Only.below hb) (fun h => h), h.new, h.lof⟩
theorem OwnG.alloc (h : OwnG W w p v D l L) (o : Obj) : OwnG W (w.alloc o) p v D l L := h.grew ((Below.refl _ _).alloc (Nat.le_refl _) o)
theorem OwnG.tab (h : OwnG W w p v D l L) (ht : Tab W) : Tab w := ht.below h.own.below (Nat.le_refl _)

/-- what Open told, while the log l on the disk p is played with -/
structure Told (B E : Nat) (w : World) (p : Nat) (v : Nat → Value) (l : Nat) (x : Value) (snap : List UInt8) (rs : Value) (recs : List (List UInt8)) : Prop where
  fof : ∀ k, foot p v k → k < B ∨ E ≤ k
  le : E ≤ l
  size : E ≤ w.heap.size
  snap : w.ownsRow B 5 1 x snap.length (bvs snap)
  sin : ∀ k, x.ownBlock = some k → k < E
  recs : RdL B E w rs recs
theorem IsOpen.told {E : Nat} {O : Opened} {x rs : Value} (h : IsOpen W E w p v O l x rs) : Told W.heap.size E w p v l x O.snap rs O.recs :=
  ⟨h.fof, h.le, Nat.le_trans h.le (Nat.le_of_lt (block_lt h.log)), h.snap, h.sin, h.recs⟩
variable {B E : Nat} {x rs : Value} {snap : List UInt8} {recs : List (List UInt8)}
theorem Told.same (h : Told B E w p v l x snap rs recs) (hs : ∀ k, B ≤ k → k < E → w'.heap[k]? = w.heap[k]?) (hz : w.heap.size ≤ w'.heap.size) (hf : ∀ k, foot p v' k → foot p v k ∨ E ≤ k) : Told B E w' p v' l x snap rs recs :=
  ⟨fun k hk => by rcases hf k hk with h1 | h1; exact h.fof k h1; exact .inr h1, h.le, Nat.le_trans h.size hz, own_same h.snap fun k hk => hs k (h.snap.lt k hk).1 (h.sin k hk), h.sin, h.recs.same fun k h1 h2 _ => hs k h1 h2⟩
theorem Told.moved (h : Told B E w p v l x snap rs recs) (hm : LMoved w p v l w' v' D' L') : Told B E w' p v' l x snap rs recs := by
  have hz := h.size
  refine h.same (fun k h1 h2 => hm.only.block k (by omega) ?_) hm.only.size (fun k hk => ?_)
  · rintro (h3 | rfl)
    · rcases h.fof k h3 with h4 | h4 <;> omega
    · have := h.le; omega
  · rcases hm.grow k hk with h3 | h3
    · exact .inl h3
    · exact .inr (by omega)
theorem Told.dmoved (h : Told B E w p v l x snap rs recs) (hm : Moved w p v w' v' D') : Told B E w' p v' l x snap rs recs := by
  have hz := h.size
  refine h.same (fun k h1 h2 => hm.only.block k (by omega) ?_) hm.only.size (fun k hk => ?_)
  · intro h3
    rcases h.fof k h3 with h4 | h4 <;> omega
  · rcases hm.grow k hk with h3 | h3
    · exact .inl h3
    · exact .inr (by omega)
theorem Told.grew (h : Told B E w p v l x snap rs recs) (hb : Below w.heap.size w w') : Told B E w' p v l x snap rs recs := by
  have hz := h.size
  exact h.same (fun k h1 h2 => hb.block k (by omega)) hb.size (fun k hk => .inl hk)
theorem Told.alloc (h : Told B E w p v l x snap rs recs) (o : Obj) : Told B E (w.alloc o) p v l x snap rs recs := h.grew ((Below.refl _ _).alloc (Nat.le_refl _) o)
end

deriving instance DecidableEq for Opened
deriving instance DecidableEq for Lg
def KO1 : Dk × Opened := openB Dk.new
def KA1 : Dk × Lg × Int := appB KO1.1 ⟨1, 0, false⟩ [97]
def KA2 : Dk × Lg × Int := appB KA1.1 ⟨2, 1, false⟩ [98]
def KC : Dk := KA2.1.crash []
def KO2 : Dk × Opened := openB KC
def KI : Dk × Lg × Int := insB KO2.1 ⟨3, 2, false⟩ [115]
def KO3 : Dk × Opened := openB KI.1
theorem kO1 : KO1.2 = ⟨0, 1, [], []⟩ := by decide +kernel
theorem kA1 : KA1.2 = (⟨2, 1, false⟩, 0) := by decide +kernel
theorem kA2 : KA2.2 = (⟨3, 2, false⟩, 0) := by decide +kernel
theorem kO2 : KO2.2 = ⟨0, 3, [], [[97], [98]]⟩ := by decide +kernel
theorem kI : KI.2 = (⟨3, 0, false⟩, 0) := by decide +kernel
theorem kO3 : KO3.2 = ⟨0, 3, [115], []⟩ := by decide +kernel
theorem kSum : sum32 [49, 50, 51, 52, 53, 54, 55, 56, 57] = 3421780262 := by decide +kernel
end Go.Proofs.YtgobnnciijlpaaaDoor

/- dayshiftlaw04.known; the walk of LogNil. -/
namespace Go.Proofs.YtgobnnciijlpaaaDoor
open Go.ChangeShapes Go.WideShapes Go.ChangeAt Go.RowKit Go.DsMem Go.DsDk Go.DsLg
set_option linter.unusedVariables false

set_option maxHeartbeats 4000000 in
set_option maxRecDepth 20000 in
/-- dayshiftlaw04.known -/
theorem known4_any (w : World) (ht : Tab w) : Calls Tryd.prog 31 #[] w fun e w' => e = .returned (.bool true) ∧ Below w.heap.size w w' := by
  have hlit := run_lit (P := Tryd.prog) Tryd.underlying28 Tryd.underlying5
  have HT := hide ht
  clear ht
  go_enter Tryd.func31, Tryd.ntmps31
  go_wp2_with fail
  refine (new_any _).mono ?_
  rintro e w1 ⟨rfl, hD, hb⟩
  have O1 := Own.new (Below.refl w.heap.size w) (Nat.le_refl _) hD hb
  clear hD hb
  go_wp2_with fail
  refine (open_any _ _ _ _ O1.dk (HT.out.below O1.below (Nat.le_refl _))).mono ?_
  rintro e w2 ⟨v2, M2, -, hok⟩
  obtain ⟨l, x, rs, rfl, E, hO⟩ := hok (by rw [show openB Dk.new = KO1 from rfl, kO1])
  have G2 : OwnG w w2 w.heap.size v2 KO1.1 l ⟨1, 0, false⟩ := ⟨O1.moved M2, by have := hO.log; rw [show openB Dk.new = KO1 from rfl, kO1] at this; exact this, by have := hO.new; have := hO.le; have := O1.size; omega, hO.lof⟩
  obtain ⟨ro, rc, rfl, -⟩ := id hO.recs
  obtain ⟨xo, xc, rfl, -⟩ := own_shape hO.snap
  clear M2 hO hok O1
  go_wp2_with fail
  refine (lappend_any l _ v2 KO1.1 ⟨1, 0, false⟩ _ [97] _ (G2.alloc _).log (G2.alloc _).own.dk G2.lof ((G2.alloc _).tab HT.out) (Rd.one _ 97 97 (by decide) _ _) (by decide) (by decide)).mono ?_
  rintro e w3 ⟨rfl, v3, M3⟩
  have G3 : OwnG w w3 w.heap.size v3 KA1.1 l KA1.2.1 := (G2.alloc _).moved M3
  clear M3 G2
  rw [show appB KO1.1 ⟨1, 0, false⟩ [97] = KA1 from rfl, kA1]
  rw [kA1] at G3
  go_wp2_with fail
  refine (lappend_any l _ v3 KA1.1 ⟨2, 1, false⟩ _ [98] _ (G3.alloc _).log (G3.alloc _).own.dk G3.lof ((G3.alloc _).tab HT.out) (Rd.one _ 98 98 (by decide) _ _) (by decide) (by decide)).mono ?_
  rintro e w4 ⟨rfl, v4, M4⟩
  have G4 : OwnG w w4 w.heap.size v4 KA2.1 l KA2.2.1 := (G3.alloc _).moved M4
  clear M4 G3
  rw [show appB KA1.1 ⟨2, 1, false⟩ [98] = KA2 from rfl, kA2]
  rw [kA2] at G4
  go_wp2_with fail
  refine (crash_any _ _ _ [] _ _ G4.own.dk (RdI.nil _) (fun h => absurd h (by decide))).mono ?_
  rintro e w5 ⟨rfl, v5, M5⟩
  have O5 : Own w.heap.size w w5 w.heap.size v5 KC := G4.own.moved M5
  clear M5 G4
  go_wp2_with fail
  refine (open_any _ _ _ _ O5.dk (HT.out.below O5.below (Nat.le_refl _))).mono ?_
  rintro e w6 ⟨v6, M6, -, hok⟩
  obtain ⟨m, y, qs, rfl, E6, hO6⟩ := hok (by rw [show openB KC = KO2 from rfl, kO2])
  rw [show openB KC = KO2 from rfl] at M6 hO6
  rw [kO2] at hO6
  have G6 : OwnG w w6 w.heap.size v6 KO2.1 m ⟨3, 2, false⟩ := ⟨O5.moved M6, hO6.log, by have := hO6.new; have := hO6.le; have := O5.size; omega, hO6.lof⟩
  have T6 := hO6.told
  obtain ⟨qo, qc, rfl, -⟩ := id hO6.recs
  obtain ⟨yo, yc, rfl, -⟩ := own_shape hO6.snap
  clear M6 hO6 hok O5
  go_wp2_with fail
  refine (linstall_any m _ v6 KO2.1 ⟨3, 2, false⟩ _ [115] _ (G6.alloc _).log (G6.alloc _).own.dk G6.lof ((G6.alloc _).tab HT.out) (Rd.one _ 115 115 (by decide) _ _) (by decide)).mono ?_
  rintro e w7 ⟨rfl, v7, M7⟩
  have G7 : OwnG w w7 w.heap.size v7 KI.1 m KI.2.1 := (G6.alloc _).moved M7
  have T7 := (T6.alloc _).moved M7
  clear M7 G6 T6
  rw [show insB KO2.1 ⟨3, 2, false⟩ [115] = KI from rfl, kI]
  rw [kI] at G7
  go_wp2_with fail
  refine (open_any _ _ _ _ G7.own.dk (G7.tab HT.out)).mono ?_
  rintro e w8 ⟨v8, M8, -, hok⟩
  obtain ⟨k, z, zs, rfl, E8, hO8⟩ := hok (by rw [show openB KI.1 = KO3 from rfl, kO3])
  rw [show openB KI.1 = KO3 from rfl] at M8 hO8
  rw [kO3] at hO8
  have O8 : Own w.heap.size w w8 w.heap.size v8 KO3.1 := G7.own.moved M8
  have T8 := T7.dmoved M8
  have hzs := id hO8.recs
  obtain ⟨zo, zc, rfl, -⟩ := hzs
  obtain ⟨so, sc, rfl, -⟩ := own_shape hO8.snap
  clear M8 hok G7 T7
  have HL8 := hide hO8.log
  have HS8 := hide hO8.snap
  have HW8 := hide O8.below
  have HZ8 := hide O8.size
  have HT8 := hide T8
  clear hO8 O8 T8
  go_wp2_with fail
  obtain ⟨w9, hw9⟩ : ∃ w9, w9 = w8.alloc (.cells #[.int .u8 49, .int .u8 50, .int .u8 51, .int .u8 52, .int .u8 53, .int .u8 54, .int .u8 55, .int .u8 56, .int .u8 57] 5 (9, 10)) := ⟨_, rfl⟩
  have hb9 : Below w8.heap.size w8 w9 := by rw [hw9]; exact (Below.refl _ _).alloc (Nat.le_refl _) _
  have h9 : Rd w9 (.slice (some ⟨w8.heap.size, 0, none⟩) 9 9) [49, 50, 51, 52, 53, 54, 55, 56, 57] := by rw [hw9]; exact Rd.lit w8 [49, 50, 51, 52, 53, 54, 55, 56, 57] 5 (9, 10)
  have hBW : Below w.heap.size w w9 := HW8.out.trans (hb9.mono HZ8.out)
  have HBW := hide hBW
  rw [← hw9]
  clear hw9
  refine (sum_any [49, 50, 51, 52, 53, 54, 55, 56, 57] _ w9 (HT.out.below hBW (Nat.le_refl _)) h9 (by decide)).mono ?_
  rintro e w10 ⟨rfl, rfl⟩
  rw [kSum]
  have T9 := HT8.out.grew hb9
  have hcs := run_conv_rd (P := Tryd.prog) Tryd.underlying28 Tryd.underlying5 Tryd.underlying9 (Rd.own (own_below HS8.out hb9))
  have hL9 := HL8.out.only (S := fun _ => False) (Only.below hb9) (fun h => h)
  obtain ⟨_, _, hq, hqe⟩ := id T9.recs
  obtain ⟨a, uo, uc, ha, -, -, -, hcell, hrow, -⟩ := hqe 1 [98] rfl
  simp only [Value.slice.injEq] at hq
  obtain ⟨hq1, -, -⟩ := hq
  rw [← hq1] at ha
  subst ha
  have hcu := run_conv_rd (P := Tryd.prog) Tryd.underlying28 Tryd.underlying5 Tryd.underlying9 (Rd.own hrow)
  rw [show bstr [98] = ⟨#[98]⟩ from rfl] at hcu
  rw [show bstr [115] = ⟨#[115]⟩ from rfl] at hcs
  simp only [List.length_cons, List.length_nil, Nat.zero_add] at hcu hcs hcell
  have hcell2 : w10.cell? ⟨a.block, a.off + 1, none⟩ = some (.slice uo 1 uc) := hcell
  clear hqe hrow hq1 T9 hb9 h9 hBW hcell
  go_wp2_with (go_at_call 28; refine (next_any _ _ _ _ _ _ hL9).mono ?_; rintro e w11 ⟨rfl, rfl⟩)
  go_ret
  exact ⟨rfl, HBW.out⟩

set_option maxHeartbeats 2000000 in
/-- the law LogNil -/
theorem logNil_walk (ao : Option Addr) (n c : Nat) (w : World) (ht : Tab w) : Calls Tryd.prog 8 #[.slice ao n c] w fun e w' => e = .returned (.bool true) ∧ Below w.heap.size w w' := by
  have HT := hide ht
  clear ht
  go_enter Tryd.func8, Tryd.ntmps8
  go_wp2_with (first
    | (go_at_call 12; refine (open_nil _).mono ?_; rintro e w1 ⟨rfl, B1⟩; have H1 := hide B1; clear B1)
    | (go_at_call 15; refine (lappend_nil _ _).mono ?_; rintro e w' ⟨rfl, rfl⟩)
    | (go_at_call 19; refine (linstall_nil _ _).mono ?_; rintro e w' ⟨rfl, rfl⟩)
    | (go_at_call 28; refine (next_nil _).mono ?_; rintro e w' ⟨rfl, rfl⟩)
    | (go_at_call 29; refine (size_nil _).mono ?_; rintro e w' ⟨rfl, rfl⟩)
    | (go_at_call 31; refine (known4_any _ (HT.out.below H1.out (Nat.le_refl _))).mono ?_; rintro e w5 ⟨rfl, B5⟩; have H5 := hide (H1.out.trans (B5.mono H1.out.size)); clear B5))
  go_ret
  exact ⟨rfl, H5.out⟩
end Go.Proofs.YtgobnnciijlpaaaDoor

/- The walk of LogFrames. -/
namespace Go.Proofs.YtgobnnciijlpaaaDoor
open Go.ChangeShapes Go.WideShapes Go.ChangeAt Go.RowKit Go.DsMem Go.DsDk Go.DsLg
set_option linter.unusedVariables false

/-- a record's frame, or none of too long a record; the error -/
def frF (seq : Nat) (rec : List UInt8) : List UInt8 := if 60000 < rec.length then [] else frameB seq rec
def frE (rec : List UInt8) : Int := if 60000 < rec.length then 3 else 0
theorem frame_all (seq : Nat) (rec : List UInt8) (sl : Value) (w : World) (ht : Tab w) (h : Rd w sl rec) (hq : seq < 18446744073709551616) :
    Calls Tryd.prog 32 #[.int .u64 seq, sl] w fun e w' => ∃ v, e = .returned (.tuple #[v, .int .i64 (frE rec)]) ∧ w'.ownsRow w.heap.size 5 1 v (frF seq rec).length (bvs (frF seq rec)) ∧ Below w.heap.size w w' := by
  unfold frF frE
  by_cases hb : 60000 < rec.length
  · rw [if_pos hb, if_pos hb]
    exact (frame_no seq rec sl w h hb).mono fun e w' ⟨he, hw⟩ => ⟨_, he, ⟨rfl, .inl ⟨rfl, rfl⟩⟩, by rw [hw]; exact Below.refl _ _⟩
  · rw [if_neg hb, if_neg hb]
    exact (frame_any seq rec sl w ht h hq (by omega)).mono fun e w' ⟨v, he, ho, hb⟩ => ⟨v, he, by rw [frameB_len]; exact ho, hb⟩
theorem rframe_all (seq : Nat) (rec : List UInt8) (sl : Value) (w : World) (h : Rd w sl rec) (hq : seq < 18446744073709551616) :
    Calls Tryd.prog 33 #[.int .u64 seq, sl] w fun e w' => ∃ v, e = .returned (.tuple #[v, .int .i64 (frE rec)]) ∧ w'.ownsRow w.heap.size 5 1 v (frF seq rec).length (bvs (frF seq rec)) ∧ Below w.heap.size w w' := by
  unfold frF frE
  by_cases hb : 60000 < rec.length
  · rw [if_pos hb, if_pos hb]
    exact (rframe_no _ rec sl w h hb).mono fun e w' ⟨he, hw⟩ => ⟨_, he, ⟨rfl, .inl ⟨rfl, rfl⟩⟩, by rw [hw]; exact Below.refl _ _⟩
  · rw [if_neg hb, if_neg hb]
    exact (rframe_any seq rec sl w h hq (by omega)).mono fun e w' ⟨v, he, ho, hb⟩ => ⟨v, he, ho, hb⟩
theorem scan_few (b : List UInt8) (hl : b.length ≤ 140737488351232) : (scanB b).2.1.length ≤ 140737488355328 := by
  have := scanB_ok b
  have h1 := this.2.2.1
  have h2 := this.2.2.2.1
  omega
theorem LentAt.below {B g : Nat} {w w' : World} {b : List UInt8} (h : LentAt B w g b) (hb : Below w.heap.size w w') : LentAt B w' g b := own_below h hb
theorem lent_in {B C g : Nat} {W w w' : World} {b : List UInt8} (h : LentAt B w g b) (hb : Below C w w') (hC : w.heap.size ≤ C) : LentAt B w' g b := own_same h fun k hk => hb.block k (Nat.lt_of_lt_of_le (h.lt k hk).2 hC)

set_option maxHeartbeats 4000000 in
set_option maxRecDepth 20000 in
/-- the law LogFrames -/
theorem logFrames_walk (q : Int) (rec b : List UInt8) (sr sb : Value) (w : World) (ht : Tab w) (hq : 0 ≤ q ∧ q < 18446744073709551616) (hr : Rd w sr rec) (hb : Rd w sb b) (lr : rec.length ≤ 140737488351232) (lb : b.length ≤ 140737488351232) :
    Calls Tryd.prog 4 #[.int .u64 q, sr, sb] w fun e w' => e = .returned (.bool true) ∧ Below w.heap.size w w' := by
  obtain ⟨seq, rfl⟩ : ∃ n : Nat, q = (n : Int) := ⟨q.toNat, by omega⟩
  have hs : seq < 18446744073709551616 := by omega
  have HT := hide ht
  have HR := hide hr
  have HB := hide hb
  obtain ⟨ro, rc, rfl, -⟩ := hr
  obtain ⟨bo, bc, rfl, -⟩ := hb
  clear ht hq
  go_enter Tryd.func4, Tryd.ntmps4
  go_wp2_with fail
  refine (lent_any b _ w HB.out lb).mono ?_
  rintro e w1 ⟨rfl, hL, B1⟩
  have HL1 := hide hL
  have HB1 := hide B1
  clear hL B1
  go_wp2_with fail
  refine (frame_all seq rec _ w1 (HT.out.below HB1.out (Nat.le_refl _)) (rd_in HR.out HB1.out (Nat.le_refl _)) hs).mono ?_
  rintro e w2 ⟨x, rfl, hx, B2⟩
  obtain ⟨xo, xc, rfl, -⟩ := own_shape hx
  have HX2 := hide (Rd.own hx)
  have HL2 := hide (HL1.out.below B2)
  have HB2 := hide (HB1.out.trans (B2.mono HB1.out.size))
  clear hx B2 HL1 HB1
  go_wp2_with fail
  refine (rframe_all seq rec _ w2 (rd_in HR.out HB2.out (Nat.le_refl _)) hs).mono ?_
  rintro e w3 ⟨y, rfl, hy, B3⟩
  obtain ⟨yo, yc, rfl, -⟩ := own_shape hy
  have HX3 := hide (HX2.out.below B3)
  have HY3 := hide (Rd.own hy)
  have HL3 := hide (HL2.out.below B3)
  have HB3 := hide (HB2.out.trans (B3.mono HB2.out.size))
  clear hy B3 HL2 HB2 HX2
  go_wp2_with fail
  refine (scan_any b _ w3 (HT.out.below HB3.out (Nat.le_refl _)) HL3.out.rd lb).mono ?_
  rintro e w4 ⟨r1, vs1, rfl, hr1, B4⟩
  have hs1 := hr1.rds
  obtain ⟨r1o, r1c, rfl, -⟩ := id hs1
  have HS4 := hide hs1
  have HX4 := hide (HX3.out.below B4)
  have HY4 := hide (HY3.out.below B4)
  have HL4 := hide (HL3.out.below B4)
  have HB4 := hide (HB3.out.trans (B4.mono HB3.out.size))
  clear hr1 hs1 B4 HL3 HB3 HX3 HY3
  go_wp2_with fail
  refine (rscan_any b _ w4 (rd_in HB.out HB4.out (Nat.le_refl _)) lb).mono ?_
  rintro e w5 ⟨r2, vs2, rfl, hr2, B5⟩
  have hs2 := hr2.rds
  obtain ⟨r2o, r2c, rfl, -⟩ := id hs2
  have HS5 := hide (HS4.out.below B5)
  have HT5 := hide hs2
  have HX5 := hide (HX4.out.below B5)
  have HY5 := hide (HY4.out.below B5)
  have HL5 := hide (HL4.out.below B5)
  have HB5 := hide (HB4.out.trans (B5.mono HB4.out.size))
  clear hr2 hs2 B5 HL4 HB4 HX4 HY4 HS4
  have c1 := run_conv_rd (P := Tryd.prog) Tryd.underlying28 Tryd.underlying5 Tryd.underlying9 HX5.out
  have c2 := run_conv_rd (P := Tryd.prog) Tryd.underlying28 Tryd.underlying5 Tryd.underlying9 HY5.out
  generalize bstr (frF seq rec) = tx at c1 c2
  generalize frE rec = er
  have HF := hide (scan_few b lb)
  generalize scanB b = sc at *
  go_wp2_with (first
    | (go_at_call 27; refine (rsame_any _ _ _ _ _ HS5.out HT5.out HF.out HF.out).mono ?_; rintro e w6 ⟨rfl, B6⟩; rw [show decide (sc.2.1 = sc.2.1) = true by simp]; have HL6 := hide (HL5.out.below B6); have HB6 := hide (HB5.out.trans (B6.mono HB5.out.size)); clear B6)
    | (go_at_call 36; refine (sum_any b _ _ (HT.out.below HB6.out (Nat.le_refl _)) HL6.out.rd (by omega)).mono ?_; rintro e w' ⟨rfl, rfl⟩)
    | (go_at_call 37; refine (rsum_any b _ _ (rd_in HB.out HB6.out (Nat.le_refl _)) (by omega)).mono ?_; rintro e w' ⟨rfl, rfl⟩)
    | (go_at_call 17; refine (kept_any _ _ b _ _ HL6.out (rd_in HB.out HB6.out (Nat.le_refl _)) lb).mono ?_; rintro e w7 ⟨rfl, B7⟩; have HB7 := hide (HB6.out.trans (B7.mono HB6.out.size)); clear B7)
    | (go_at_call 31; refine (known4_any _ (HT.out.below HB7.out (Nat.le_refl _))).mono ?_; rintro e w8 ⟨rfl, B8⟩; have HB8 := hide (HB7.out.trans (B8.mono HB7.out.size)); clear B8))
  go_ret
  exact ⟨rfl, HB8.out⟩
end Go.Proofs.YtgobnnciijlpaaaDoor

