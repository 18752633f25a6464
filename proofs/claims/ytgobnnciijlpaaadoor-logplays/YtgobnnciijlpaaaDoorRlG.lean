/- Open of dayshiftref04, whatever stands on the disk; the walk of dayshiftlaw04.same. -/
import Derived.Test.YtgobnnciijlpaaaDoorRlE
import Derived.Test.YtgobnnciijlpaaaDoorRlF
import Derived.Test.YtgobnnciijlpaaaDoorDlDb
namespace Go.Proofs.YtgobnnciijlpaaaDoor
open Go.ChangeShapes Go.WideShapes Go.ChangeAt Go.RowKit Go.DsMem Go.DsDk Go.DsLg
set_option linter.unusedVariables false

/-- Open of the reference -/
theorem ropen_any (S : Nat → Prop) (r g : Nat) (u : Nat → Value) (D : Dk) (w : World) (h : RefAt w S r g u D) :
    Calls Tryd.prog 13 #[.pointer (some ⟨r, 0, none⟩)] w fun e w' =>
      ((openB D).2.err ≠ 0 ∧ e = .returned (.tuple #[.pointer none, .slice none 0 0, .slice none 0 0, .int .i64 (openB D).2.err]) ∧ ∃ u', RMoved w S r g w' u' (openB D).1) ∨
      ((openB D).2.err = 0 ∧ ∃ m x rs u', e = .returned (.tuple #[.pointer (some ⟨m, 0, none⟩), x, rs, .int .i64 0]) ∧ ROpen w S r g w' u' (openB D).1 (openB D).2 m x rs) := by
  by_cases h1 : (snapB (D.b 1)).2.2 = 0
  · obtain ⟨seq, snap, e0, hs⟩ : ∃ seq snap e0, snapB (D.b 1) = (seq, snap, e0) := ⟨_, _, _, rfl⟩
    rw [hs] at h1
    obtain rfl : e0 = 0 := h1
    obtain ⟨first, recs, at_, hc⟩ : ∃ first recs at_, scanB (D.b 0) = (first, recs, at_) := ⟨_, _, _, rfl⟩
    by_cases hb : (behB seq first recs).2 ≠ 0
    · have hO : openB D = (D, ⟨(behB seq first recs).2, 0, [], []⟩) := by
        have := opens_b (D := D) (by rw [hs]) (by rw [hs, hc]; exact hb)
        rw [hs, hc] at this
        exact this
      rw [hO]
      exact (ropen_b S r g u D w h seq first at_ snap recs hs hc hb).mono fun e w' ⟨he, hB⟩ => .inl ⟨hb, he, u, RMoved.stay h hB⟩
    · have hb0 : (behB seq first recs).2 = 0 := by simpa using hb
      by_cases hat : at_ < (D.b 0).length
      · have hO : openB D = if (replB D 2 0 ((D.b 0).take at_)).2 = 0 then ((replB D 2 0 ((D.b 0).take at_)).1, ⟨0, (seq + (behB seq first recs).1.length + 1) % 18446744073709551616, snap, (behB seq first recs).1⟩) else ((replB D 2 0 ((D.b 0).take at_)).1, ⟨(replB D 2 0 ((D.b 0).take at_)).2, 0, [], []⟩) := by
          unfold openB
          rw [hs, hc]
          simp only
          rw [if_pos trivial, if_pos hb0, if_pos hat]
        rw [hO]
        unfold replB
        rcases e1 : D.clear 2 with ⟨D1, z1⟩
        simp only
        by_cases h1 : z1 = 0
        · subst h1
          rw [if_pos rfl]
          rcases e2 : D1.append 2 ((D.b 0).take at_) with ⟨D2, z2⟩
          simp only
          by_cases h2 : z2 = 0
          · subst h2
            rw [if_pos rfl]
            rcases e3 : D2.sync 2 with ⟨D3, z3⟩
            simp only
            by_cases h3 : z3 = 0
            · subst h3
              rw [if_pos rfl]
              rcases e4 : D3.rename 2 0 with ⟨D4, z4⟩
              simp only
              by_cases h4 : z4 = 0
              · subst h4
                rw [if_pos rfl]
                exact (ropen_e S r g u D w h seq first at_ snap recs hs hc hb hat D1 D2 D3 D4 0 e1 e2 e3 e4).mono fun e w' hp => .inr ⟨rfl, hp⟩
              · rw [if_neg h4]
                exact (ropen_d4 S r g u D w h seq first at_ snap recs hs hc hb hat D1 D2 D3 D4 z4 e1 e2 e3 e4 h4).mono fun e w' hp => .inl ⟨h4, hp⟩
            · rw [if_neg h3]
              simp only
              rw [if_neg h3]
              exact (ropen_d3 S r g u D w h seq first at_ snap recs hs hc hb hat D1 D2 D3 z3 e1 e2 e3 h3).mono fun e w' hp => .inl ⟨h3, hp⟩
          · rw [if_neg h2]
            simp only
            rw [if_neg h2]
            exact (ropen_d2 S r g u D w h seq first at_ snap recs hs hc hb hat D1 D2 z2 e1 e2 h2).mono fun e w' hp => .inl ⟨h2, hp⟩
        · rw [if_neg h1]
          simp only
          rw [if_neg h1]
          exact (ropen_d1 S r g u D w h seq first at_ snap recs hs hc hb hat D1 z1 e1 h1).mono fun e w' hp => .inl ⟨h1, hp⟩
      · have hO : openB D = (D, ⟨0, (seq + (behB seq first recs).1.length + 1) % 18446744073709551616, snap, (behB seq first recs).1⟩) := by
          unfold openB
          rw [hs, hc]
          simp only
          rw [if_pos trivial, if_pos hb0, if_neg hat]
        rw [hO]
        exact (ropen_c S r g u D w h seq first at_ snap recs hs hc hb hat).mono fun e w' ⟨m, x, rs, he, hp⟩ => .inr ⟨rfl, m, x, rs, u, he, hp⟩
  · rw [opens_a h1]
    exact (ropen_a S r g u D w h h1).mono fun e w' ⟨he, hB⟩ => .inl ⟨h1, he, u, RMoved.stay h hB⟩

set_option maxHeartbeats 2000000 in
set_option maxRecDepth 20000 in
/-- dayshiftlaw04.same, of two disks that are alike -/
theorem lsame_any {W w : World} {p : Nat} {v : Nat → Value} {D : Dk} {S : Nat → Prop} {r g : Nat} {u : Nat → Value} (h : Both W w p v D S r g u D) :
    Calls Tryd.prog 30 #[.pointer (some ⟨p, 0, none⟩), .pointer (some ⟨r, 0, none⟩)] w fun e w' => e = .returned (.bool true) ∧ Below w.heap.size w w' := by
  have HP := hide h
  clear h
  go_enter Tryd.func30, Tryd.ntmps30
  go_wp2
  go_loopw [5] (fun i wq => ∃ q : Nat, q ≤ 8 ∧ i = .int .i64 q ∧ Below w.heap.size w wq) (fun i _ => 8 - (intOf i).toNat)
  case atStart => exact ⟨0, Nat.zero_le _, rfl, Below.refl _ _⟩
  case round =>
    rename World => wq
    obtain ⟨q, hq, rfl, hbq⟩ := hrel
    have HQ := hide hbq
    clear hbq
    by_cases hq8 : q < 8
    · go_wp2_with fail
      refine (read_any _ _ _ q _ (HP.out.own.dk.below HQ.out)).mono ?_
      rintro e w8 ⟨a8, rfl, ha8, B8⟩
      obtain ⟨a8o, a8c, rfl, -⟩ := own_shape ha8
      have HA8 := hide (Rd.own ha8)
      have HQ8 := hide (HQ.out.trans (B8.mono HQ.out.size))
      clear ha8 B8
      go_wp2_with fail
      refine (rread_any _ _ _ _ _ q _ (HP.out.ref.below HQ8.out)).mono ?_
      rintro e w9 ⟨b9, rfl, hb9, B9⟩
      obtain ⟨b9o, b9c, rfl, -⟩ := own_shape hb9
      have HQ9 := hide (HQ8.out.trans (B9.mono HQ8.out.size))
      have s1 := run_conv_rd (P := Tryd.prog) Tryd.underlying28 Tryd.underlying5 Tryd.underlying9 (HA8.out.below B9)
      have s2 := run_conv_rd (P := Tryd.prog) Tryd.underlying28 Tryd.underlying5 Tryd.underlying9 (Rd.own hb9)
      clear hb9 B9
      generalize bstr (D.read (q : Int)).1 = tt at s1 s2
      go_wp2_with (first
        | (go_at_call 60; refine (safe_any _ _ _ q _ (HP.out.own.dk.below HQ9.out)).mono ?_; rintro e w10 ⟨rfl, B10⟩; have HQ10 := hide (HQ9.out.trans (B10.mono HQ9.out.size)); clear B10)
        | (go_at_call 61; refine (rsafe_any _ _ _ _ _ q _ (HP.out.ref.below HQ10.out)).mono ?_; rintro e w' ⟨rfl, rfl⟩))
      go_roundw
      case rel => exact ⟨q + 1, by omega, by go_num, HQ10.out⟩
      case measure => simp [intOf]; omega
    · obtain rfl : q = 8 := by omega
      have hne := grow_ne wq
      have hdd := fun X : Grow wq => Below.keeps X.2 (Nat.le_refl _) (HP.out.ref.below HQ.out).hd.deadC
      generalize hDD : D.dead = dd at *
      have HDD := hide hDD
      clear hDD
      go_wp2
      refine wp_region_grow (by kernel_rfl) (by kernel_rfl) ?_
      repeat (go_big_quiet_step ((go_at_call 62; rename_i X; exact grow_of ((dead_any _ _ _ _ ((HP.out.own.dk.below HQ.out).below X.2)).mono (fun e w7 h => ⟨by rw [h.1, HDD.out], by rw [h.2]; exact Below.refl _ _⟩)))))
      refine wpQuiet_nil ?_
      intro _ hw'
      obtain ⟨X, rfl⟩ := hw'
      have HF := hide (HQ.out.trans (X.2.mono HQ.out.size))
      clear hdd hne
      go_wp2
      go_ret
      exact ⟨rfl, HF.out⟩
end Go.Proofs.YtgobnnciijlpaaaDoor
