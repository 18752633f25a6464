/- The walk of DiskCopy. -/
import Derived.Test.YtgobnnciijlpaaaDlE
import Derived.Test.YtgobnnciijlpaaaDkG
import Derived.Test.YtgobnnciijlpaaaRfF
import Derived.Test.YtgobnnciijlpaaaDlA
namespace Go.Proofs.Ytgobnnciijlpaaa
open Go.ChangeShapes Go.WideShapes Go.ChangeAt Go.RowKit Go.DsMem Go.DsDk
set_option linter.unusedVariables false

theorem Both.new {W w w' w2 : World} {r g : Nat} {T : Nat → Prop} (hb : Below W.heap.size W w) (hB : W.heap.size ≤ w.heap.size) (hD : DiskAt w' w.heap.size (fun _ => .slice none 0 0) Dk.new) (hb1 : Below w.heap.size w w')
    (hR : RefAt w2 (fun k => w'.heap.size ≤ k ∧ k < w2.heap.size) r g (fun _ => .slice none 0 0) Dk.new) (hb2 : Below w'.heap.size w' w2) : Both W w2 w.heap.size (fun _ => .slice none 0 0) Dk.new (fun k => w'.heap.size ≤ k ∧ k < w2.heap.size) r g (fun _ => .slice none 0 0) Dk.new := by
  have O := Own.new hb hB hD hb1
  refine ⟨O.grew hb2, hR, ⟨by have := hR.sr.1; have := hb1.size; omega, by have := hR.sg.1; have := hb1.size; omega⟩, fun k hk hs => ?_⟩
  have := O.dk.foot_lt hk
  omega

/-- a copy of both, over the world in which they are copied -/
theorem Both.copied {W w w3 w4 : World} {p r g r2 g2 : Nat} {v u v3 : Nat → Value} {D : Dk} {S : Nat → Prop} (h : Both W w p v D S r g u D) (hC : DiskAt w3 w.heap.size v3 D) (B3 : Below w.heap.size w w3)
    (hR : RefAt w4 (fun k => S k ∨ w3.heap.size ≤ k ∧ k < w4.heap.size) r2 g2 u D) (hr : w3.heap.size ≤ r2) (hg : w3.heap.size ≤ g2) (B4 : Below w3.heap.size w3 w4) :
    Both w w4 w.heap.size v3 D (fun k => S k ∨ w3.heap.size ≤ k ∧ k < w4.heap.size) r2 g2 u D := by
  have hz := B3.size
  have hf : ∀ k, foot w.heap.size v3 k → w.heap.size ≤ k := fun k hk => by
    rcases hk with rfl | ⟨f, h8, hb⟩
    · exact Nat.le_refl _
    · have := ((hC.own f h8).lt k hb).1; omega
  refine ⟨⟨hC.below B4, hf, B3.trans (B4.mono hz), Nat.le_trans hz B4.size⟩, hR, ⟨by omega, by omega⟩, fun k hk hs => ?_⟩
  rcases hs with hs | hs
  · have := h.ref.lt k hs; have := hf k hk; omega
  · have := hC.foot_lt hk; omega

set_option maxHeartbeats 4000000 in
set_option maxRecDepth 100000 in
/-- the law DiskCopy -/
theorem diskCopy_walk (acts more : List A6) (x : Option Addr) (cx : Nat) (y : Option Addr) (cy : Nat) (w : World) (hA : ActsAt w (.slice x acts.length cx) acts) (hM : ActsAt w (.slice y more.length cy) more) :
    Calls Try.prog 7 #[.slice x acts.length cx, .slice y more.length cy] w fun e w' => e = .returned (.bool true) ∧ Below w.heap.size w w' := by
  have RA := hide hA
  have RM := hide hM
  clear hA hM
  go_enter Try.func7, Try.ntmps7
  go_wp2_with fail
  refine (new_any _).mono ?_
  rintro e w1 ⟨rfl, hD, B1⟩
  go_wp2_with fail
  refine (rnew_any _).mono ?_
  rintro e w2 ⟨r, g, rfl, hR, B2⟩
  have HB2 := hide (Both.new (T := fun _ => False) (Below.refl w.heap.size w) (Nat.le_refl _) hD B1 hR B2)
  clear hD B1 hR B2
  go_wp2
  go_loopw [7] (fun i wr => ∃ k : Nat, k ≤ acts.length ∧ k ≤ 30 ∧ i = .int .i64 k ∧ ∃ v S u D, Both w wr w.heap.size v D S r g u D) (fun i _ => 30 - (intOf i).toNat)
  case atStart => exact ⟨0, Nat.zero_le _, Nat.zero_le _, rfl, _, _, _, _, HB2.out⟩
  case round =>
    obtain ⟨k, hk, hk30, rfl, v, S, u, D, hB⟩ := hrel
    by_cases hlt : k < acts.length ∧ k < 30
    · obtain ⟨h2, h3⟩ := hlt
      obtain ⟨ao, cp, hsl, hall⟩ := RA.out
      obtain ⟨ga, o, bo, bc, ko, kc, hao, hin⟩ := hall k acts[k] (List.getElem?_eq_getElem h2)
      obtain ⟨rfl, _, rfl⟩ : x = ao ∧ True ∧ cx = cp := by simpa using hsl
      subst hao
      have hin' := hin.mono (w' := wr) (fun a v hc => Below.keeps hB.own.below (Nat.le_refl _) hc)
      generalize acts[k] = A at hin hin'
      obtain ⟨c0, c1, c2, c3, c4, c5, rb, rk, lb, ln⟩ := hin'
      have HB := hide hB
      have HIN := hide hin
      clear hB rb rk hin hall hsl lb ln
      go_wp2_with (go_at_call 13; refine (do_any A HB.out HIN.out.rb HIN.out.rk HIN.out.lb HIN.out.ln).mono ?_; rintro e w5 ⟨rfl, v5, S5, u5, D5, hB5, -⟩; have HB5 := hide hB5; clear hB5)
      go_roundw
      case rel => exact ⟨k + 1, by omega, by omega, by go_num, v5, S5, u5, D5, HB5.out⟩
      case measure => simp [intOf]; omega
    · have HB := hide hB
      clear hB
      rcases (show ¬ k < acts.length ∨ (k < acts.length ∧ ¬ k < 30) by omega) with h2 | ⟨h2, h3⟩
      · go_wp2_with fail
        refine (copy_any _ _ _ _ HB.out.own.dk).mono ?_
        rintro e w3 ⟨rfl, ⟨v3, hC⟩, B3⟩
        have hP3 := HB.out.grew B3
        go_wp2_with fail
        refine (rcopy_any _ _ _ _ _ _ hP3.ref).mono ?_
        rintro e w4 ⟨r2, g2, rfl, hR4, hr2, hg2, B4⟩
        have HC4 := hide (Both.copied HB.out hC B3 hR4 hr2 hg2 B4)
        clear hC hR4 B3 B4 hP3
        go_wp2
        go_loopw [10] (fun i wt => ∃ m : Nat, m ≤ more.length ∧ m ≤ 30 ∧ i = .int .i64 m ∧ ∃ v S u E, Both wr wt wr.heap.size v E S r2 g2 u E) (fun i _ => 30 - (intOf i).toNat)
        case atStart => exact ⟨0, Nat.zero_le _, Nat.zero_le _, rfl, _, _, _, _, HC4.out⟩
        case round =>
          rename World => wt
          obtain ⟨m, hm, hm30, rfl, v5, S5, u5, E5, hB5⟩ := hrel
          by_cases hlt2 : m < more.length ∧ m < 30
          · obtain ⟨h4, h5⟩ := hlt2
            obtain ⟨ao, cp, hsl, hall⟩ := RM.out
            obtain ⟨ga, o, bo, bc, ko, kc, hao, hin⟩ := hall m more[m] (List.getElem?_eq_getElem h4)
            obtain ⟨rfl, _, rfl⟩ : y = ao ∧ True ∧ cy = cp := by simpa using hsl
            subst hao
            have hin1 := hin.mono (w' := wr) (fun a v hc => Below.keeps HB.out.own.below (Nat.le_refl _) hc)
            have hin' := hin1.mono (w' := wt) (fun a v hc => Below.keeps hB5.own.below (Nat.le_refl _) hc)
            generalize more[m] = A at hin1 hin'
            obtain ⟨c0, c1, c2, c3, c4, c5, rb, rk, lb, ln⟩ := hin'
            have HB5 := hide hB5
            have HIN := hide hin1
            clear hB5 rb rk hin hin1 hall hsl lb ln
            go_wp2_with (go_at_call 13; refine (do_any A HB5.out HIN.out.rb HIN.out.rk HIN.out.lb HIN.out.ln).mono ?_; rintro e w6 ⟨rfl, v6, S6, u6, D6, hB6, -⟩; have HB6 := hide hB6; clear hB6)
            go_roundw
            case rel => exact ⟨m + 1, by omega, by omega, by go_num, v6, S6, u6, D6, HB6.out⟩
            case measure => simp [intOf]; omega
          · have HM := hide hB5
            clear hB5
            rcases (show ¬ m < more.length ∨ (m < more.length ∧ ¬ m < 30) by omega) with h4 | ⟨h4, h5⟩
            · have HP := hide (HB.out.grew HM.out.own.below)
              clear HM
              go_wp2
              go_loopw [11] (fun i wq => ∃ q : Nat, q ≤ 8 ∧ i = .int .i64 q ∧ Below wt.heap.size wt wq) (fun i _ => 8 - (intOf i).toNat)
              case atStart => exact ⟨0, Nat.zero_le _, rfl, Below.refl _ _⟩
              case round =>
                rename World => wq
                obtain ⟨q, hq, rfl, hbq⟩ := hrel
                have HQ := hide hbq
                clear hbq
                by_cases hq8 : q < 8
                · go_wp2_with fail
                  refine (read_any _ _ _ q _ (HP.out.own.dk.below HQ.out)).mono ?_
                  rintro e w8 ⟨a8, rfl, ha8, B8⟩
                  obtain ⟨a8o, a8c, rfl, -⟩ := own_shape ha8
                  have HA8 := hide (Rd.own ha8)
                  have HQ8 := hide (HQ.out.trans (B8.mono HQ.out.size))
                  clear ha8 B8
                  go_wp2_with fail
                  refine (rread_any _ _ _ _ _ q _ (HP.out.ref.below HQ8.out)).mono ?_
                  rintro e w9 ⟨b9, rfl, hb9, B9⟩
                  obtain ⟨b9o, b9c, rfl, -⟩ := own_shape hb9
                  have HQ9 := hide (HQ8.out.trans (B9.mono HQ8.out.size))
                  have s1 := run_conv_rd (P := Try.prog) Try.underlying27 Try.underlying5 Try.underlying9 (HA8.out.below B9)
                  have s2 := run_conv_rd (P := Try.prog) Try.underlying27 Try.underlying5 Try.underlying9 (Rd.own hb9)
                  clear hb9 B9
                  generalize bstr (D.read (q : Int)).1 = tt at s1 s2
                  go_wp2_with (first
                    | (go_at_call 16; refine (safe_any _ _ _ q _ (HP.out.own.dk.below HQ9.out)).mono ?_; rintro e w10 ⟨rfl, B10⟩; have HQ10 := hide (HQ9.out.trans (B10.mono HQ9.out.size)); clear B10)
                    | (go_at_call 17; refine (rsafe_any _ _ _ _ _ q _ (HP.out.ref.below HQ10.out)).mono ?_; rintro e w' ⟨rfl, rfl⟩))
                  go_roundw
                  case rel => exact ⟨q + 1, by omega, by go_num, HQ10.out⟩
                  case measure => simp [intOf]; omega
                · obtain rfl : q = 8 := by omega
                  have hne := grow_ne wq
                  have hdd := fun X : Grow wq => Below.keeps X.2 (Nat.le_refl _) (HP.out.ref.below HQ.out).hd.deadC
                  generalize hDD : D.dead = dd at *
                  have HDD := hide hDD
                  clear hDD
                  go_wp2
                  refine wp_region_grow (by kernel_rfl) (by kernel_rfl) ?_
                  repeat (go_big_quiet_step (first
                    | (go_at_call 19; rename_i X; exact grow_of ((dead_any _ _ _ _ ((HP.out.own.dk.below HQ.out).below X.2)).mono (fun e w7 h => ⟨by rw [h.1, HDD.out], by rw [h.2]; exact Below.refl _ _⟩)))
                    | (go_at_call 20; exact grow_of (known_any _))))
                  refine wpQuiet_nil ?_
                  intro _ hw'
                  obtain ⟨X, rfl⟩ := hw'
                  have HF := hide (HP.out.own.below.trans ((HQ.out.trans (X.2.mono HQ.out.size)).mono HP.out.own.size))
                  clear hdd hne
                  go_wp2
                  go_ret
                  exact ⟨rfl, HF.out⟩
            · have HP := hide (HB.out.grew HM.out.own.below)
              clear HM
              go_wp2
              go_loopw [11] (fun i wq => ∃ q : Nat, q ≤ 8 ∧ i = .int .i64 q ∧ Below wt.heap.size wt wq) (fun i _ => 8 - (intOf i).toNat)
              case atStart => exact ⟨0, Nat.zero_le _, rfl, Below.refl _ _⟩
              case round =>
                rename World => wq
                obtain ⟨q, hq, rfl, hbq⟩ := hrel
                have HQ := hide hbq
                clear hbq
                by_cases hq8 : q < 8
                · go_wp2_with fail
                  refine (read_any _ _ _ q _ (HP.out.own.dk.below HQ.out)).mono ?_
                  rintro e w8 ⟨a8, rfl, ha8, B8⟩
                  obtain ⟨a8o, a8c, rfl, -⟩ := own_shape ha8
                  have HA8 := hide (Rd.own ha8)
                  have HQ8 := hide (HQ.out.trans (B8.mono HQ.out.size))
                  clear ha8 B8
                  go_wp2_with fail
                  refine (rread_any _ _ _ _ _ q _ (HP.out.ref.below HQ8.out)).mono ?_
                  rintro e w9 ⟨b9, rfl, hb9, B9⟩
                  obtain ⟨b9o, b9c, rfl, -⟩ := own_shape hb9
                  have HQ9 := hide (HQ8.out.trans (B9.mono HQ8.out.size))
                  have s1 := run_conv_rd (P := Try.prog) Try.underlying27 Try.underlying5 Try.underlying9 (HA8.out.below B9)
                  have s2 := run_conv_rd (P := Try.prog) Try.underlying27 Try.underlying5 Try.underlying9 (Rd.own hb9)
                  clear hb9 B9
                  generalize bstr (D.read (q : Int)).1 = tt at s1 s2
                  go_wp2_with (first
                    | (go_at_call 16; refine (safe_any _ _ _ q _ (HP.out.own.dk.below HQ9.out)).mono ?_; rintro e w10 ⟨rfl, B10⟩; have HQ10 := hide (HQ9.out.trans (B10.mono HQ9.out.size)); clear B10)
                    | (go_at_call 17; refine (rsafe_any _ _ _ _ _ q _ (HP.out.ref.below HQ10.out)).mono ?_; rintro e w' ⟨rfl, rfl⟩))
                  go_roundw
                  case rel => exact ⟨q + 1, by omega, by go_num, HQ10.out⟩
                  case measure => simp [intOf]; omega
                · obtain rfl : q = 8 := by omega
                  have hne := grow_ne wq
                  have hdd := fun X : Grow wq => Below.keeps X.2 (Nat.le_refl _) (HP.out.ref.below HQ.out).hd.deadC
                  generalize hDD : D.dead = dd at *
                  have HDD := hide hDD
                  clear hDD
                  go_wp2
                  refine wp_region_grow (by kernel_rfl) (by kernel_rfl) ?_
                  repeat (go_big_quiet_step (first
                    | (go_at_call 19; rename_i X; exact grow_of ((dead_any _ _ _ _ ((HP.out.own.dk.below HQ.out).below X.2)).mono (fun e w7 h => ⟨by rw [h.1, HDD.out], by rw [h.2]; exact Below.refl _ _⟩)))
                    | (go_at_call 20; exact grow_of (known_any _))))
                  refine wpQuiet_nil ?_
                  intro _ hw'
                  obtain ⟨X, rfl⟩ := hw'
                  have HF := hide (HP.out.own.below.trans ((HQ.out.trans (X.2.mono HQ.out.size)).mono HP.out.own.size))
                  clear hdd hne
                  go_wp2
                  go_ret
                  exact ⟨rfl, HF.out⟩
      · go_wp2_with fail
        refine (copy_any _ _ _ _ HB.out.own.dk).mono ?_
        rintro e w3 ⟨rfl, ⟨v3, hC⟩, B3⟩
        have hP3 := HB.out.grew B3
        go_wp2_with fail
        refine (rcopy_any _ _ _ _ _ _ hP3.ref).mono ?_
        rintro e w4 ⟨r2, g2, rfl, hR4, hr2, hg2, B4⟩
        have HC4 := hide (Both.copied HB.out hC B3 hR4 hr2 hg2 B4)
        clear hC hR4 B3 B4 hP3
        go_wp2
        go_loopw [10] (fun i wt => ∃ m : Nat, m ≤ more.length ∧ m ≤ 30 ∧ i = .int .i64 m ∧ ∃ v S u E, Both wr wt wr.heap.size v E S r2 g2 u E) (fun i _ => 30 - (intOf i).toNat)
        case atStart => exact ⟨0, Nat.zero_le _, Nat.zero_le _, rfl, _, _, _, _, HC4.out⟩
        case round =>
          rename World => wt
          obtain ⟨m, hm, hm30, rfl, v5, S5, u5, E5, hB5⟩ := hrel
          by_cases hlt2 : m < more.length ∧ m < 30
          · obtain ⟨h4, h5⟩ := hlt2
            obtain ⟨ao, cp, hsl, hall⟩ := RM.out
            obtain ⟨ga, o, bo, bc, ko, kc, hao, hin⟩ := hall m more[m] (List.getElem?_eq_getElem h4)
            obtain ⟨rfl, _, rfl⟩ : y = ao ∧ True ∧ cy = cp := by simpa using hsl
            subst hao
            have hin1 := hin.mono (w' := wr) (fun a v hc => Below.keeps HB.out.own.below (Nat.le_refl _) hc)
            have hin' := hin1.mono (w' := wt) (fun a v hc => Below.keeps hB5.own.below (Nat.le_refl _) hc)
            generalize more[m] = A at hin1 hin'
            obtain ⟨c0, c1, c2, c3, c4, c5, rb, rk, lb, ln⟩ := hin'
            have HB5 := hide hB5
            have HIN := hide hin1
            clear hB5 rb rk hin hin1 hall hsl lb ln
            go_wp2_with (go_at_call 13; refine (do_any A HB5.out HIN.out.rb HIN.out.rk HIN.out.lb HIN.out.ln).mono ?_; rintro e w6 ⟨rfl, v6, S6, u6, D6, hB6, -⟩; have HB6 := hide hB6; clear hB6)
            go_roundw
            case rel => exact ⟨m + 1, by omega, by omega, by go_num, v6, S6, u6, D6, HB6.out⟩
            case measure => simp [intOf]; omega
          · have HM := hide hB5
            clear hB5
            rcases (show ¬ m < more.length ∨ (m < more.length ∧ ¬ m < 30) by omega) with h4 | ⟨h4, h5⟩
            · have HP := hide (HB.out.grew HM.out.own.below)
              clear HM
              go_wp2
              go_loopw [11] (fun i wq => ∃ q : Nat, q ≤ 8 ∧ i = .int .i64 q ∧ Below wt.heap.size wt wq) (fun i _ => 8 - (intOf i).toNat)
              case atStart => exact ⟨0, Nat.zero_le _, rfl, Below.refl _ _⟩
              case round =>
                rename World => wq
                obtain ⟨q, hq, rfl, hbq⟩ := hrel
                have HQ := hide hbq
                clear hbq
                by_cases hq8 : q < 8
                · go_wp2_with fail
                  refine (read_any _ _ _ q _ (HP.out.own.dk.below HQ.out)).mono ?_
                  rintro e w8 ⟨a8, rfl, ha8, B8⟩
                  obtain ⟨a8o, a8c, rfl, -⟩ := own_shape ha8
                  have HA8 := hide (Rd.own ha8)
                  have HQ8 := hide (HQ.out.trans (B8.mono HQ.out.size))
                  clear ha8 B8
                  go_wp2_with fail
                  refine (rread_any _ _ _ _ _ q _ (HP.out.ref.below HQ8.out)).mono ?_
                  rintro e w9 ⟨b9, rfl, hb9, B9⟩
                  obtain ⟨b9o, b9c, rfl, -⟩ := own_shape hb9
                  have HQ9 := hide (HQ8.out.trans (B9.mono HQ8.out.size))
                  have s1 := run_conv_rd (P := Try.prog) Try.underlying27 Try.underlying5 Try.underlying9 (HA8.out.below B9)
                  have s2 := run_conv_rd (P := Try.prog) Try.underlying27 Try.underlying5 Try.underlying9 (Rd.own hb9)
                  clear hb9 B9
                  generalize bstr (D.read (q : Int)).1 = tt at s1 s2
                  go_wp2_with (first
                    | (go_at_call 16; refine (safe_any _ _ _ q _ (HP.out.own.dk.below HQ9.out)).mono ?_; rintro e w10 ⟨rfl, B10⟩; have HQ10 := hide (HQ9.out.trans (B10.mono HQ9.out.size)); clear B10)
                    | (go_at_call 17; refine (rsafe_any _ _ _ _ _ q _ (HP.out.ref.below HQ10.out)).mono ?_; rintro e w' ⟨rfl, rfl⟩))
                  go_roundw
                  case rel => exact ⟨q + 1, by omega, by go_num, HQ10.out⟩
                  case measure => simp [intOf]; omega
                · obtain rfl : q = 8 := by omega
                  have hne := grow_ne wq
                  have hdd := fun X : Grow wq => Below.keeps X.2 (Nat.le_refl _) (HP.out.ref.below HQ.out).hd.deadC
                  generalize hDD : D.dead = dd at *
                  have HDD := hide hDD
                  clear hDD
                  go_wp2
                  refine wp_region_grow (by kernel_rfl) (by kernel_rfl) ?_
                  repeat (go_big_quiet_step (first
                    | (go_at_call 19; rename_i X; exact grow_of ((dead_any _ _ _ _ ((HP.out.own.dk.below HQ.out).below X.2)).mono (fun e w7 h => ⟨by rw [h.1, HDD.out], by rw [h.2]; exact Below.refl _ _⟩)))
                    | (go_at_call 20; exact grow_of (known_any _))))
                  refine wpQuiet_nil ?_
                  intro _ hw'
                  obtain ⟨X, rfl⟩ := hw'
                  have HF := hide (HP.out.own.below.trans ((HQ.out.trans (X.2.mono HQ.out.size)).mono HP.out.own.size))
                  clear hdd hne
                  go_wp2
                  go_ret
                  exact ⟨rfl, HF.out⟩
            · have HP := hide (HB.out.grew HM.out.own.below)
              clear HM
              go_wp2
              go_loopw [11] (fun i wq => ∃ q : Nat, q ≤ 8 ∧ i = .int .i64 q ∧ Below wt.heap.size wt wq) (fun i _ => 8 - (intOf i).toNat)
              case atStart => exact ⟨0, Nat.zero_le _, rfl, Below.refl _ _⟩
              case round =>
                rename World => wq
                obtain ⟨q, hq, rfl, hbq⟩ := hrel
                have HQ := hide hbq
                clear hbq
                by_cases hq8 : q < 8
                · go_wp2_with fail
                  refine (read_any _ _ _ q _ (HP.out.own.dk.below HQ.out)).mono ?_
                  rintro e w8 ⟨a8, rfl, ha8, B8⟩
                  obtain ⟨a8o, a8c, rfl, -⟩ := own_shape ha8
                  have HA8 := hide (Rd.own ha8)
                  have HQ8 := hide (HQ.out.trans (B8.mono HQ.out.size))
                  clear ha8 B8
                  go_wp2_with fail
                  refine (rread_any _ _ _ _ _ q _ (HP.out.ref.below HQ8.out)).mono ?_
                  rintro e w9 ⟨b9, rfl, hb9, B9⟩
                  obtain ⟨b9o, b9c, rfl, -⟩ := own_shape hb9
                  have HQ9 := hide (HQ8.out.trans (B9.mono HQ8.out.size))
                  have s1 := run_conv_rd (P := Try.prog) Try.underlying27 Try.underlying5 Try.underlying9 (HA8.out.below B9)
                  have s2 := run_conv_rd (P := Try.prog) Try.underlying27 Try.underlying5 Try.underlying9 (Rd.own hb9)
                  clear hb9 B9
                  generalize bstr (D.read (q : Int)).1 = tt at s1 s2
                  go_wp2_with (first
                    | (go_at_call 16; refine (safe_any _ _ _ q _ (HP.out.own.dk.below HQ9.out)).mono ?_; rintro e w10 ⟨rfl, B10⟩; have HQ10 := hide (HQ9.out.trans (B10.mono HQ9.out.size)); clear B10)
                    | (go_at_call 17; refine (rsafe_any _ _ _ _ _ q _ (HP.out.ref.below HQ10.out)).mono ?_; rintro e w' ⟨rfl, rfl⟩))
                  go_roundw
                  case rel => exact ⟨q + 1, by omega, by go_num, HQ10.out⟩
                  case measure => simp [intOf]; omega
                · obtain rfl : q = 8 := by omega
                  have hne := grow_ne wq
                  have hdd := fun X : Grow wq => Below.keeps X.2 (Nat.le_refl _) (HP.out.ref.below HQ.out).hd.deadC
                  generalize hDD : D.dead = dd at *
                  have HDD := hide hDD
                  clear hDD
                  go_wp2
                  refine wp_region_grow (by kernel_rfl) (by kernel_rfl) ?_
                  repeat (go_big_quiet_step (first
                    | (go_at_call 19; rename_i X; exact grow_of ((dead_any _ _ _ _ ((HP.out.own.dk.below HQ.out).below X.2)).mono (fun e w7 h => ⟨by rw [h.1, HDD.out], by rw [h.2]; exact Below.refl _ _⟩)))
                    | (go_at_call 20; exact grow_of (known_any _))))
                  refine wpQuiet_nil ?_
                  intro _ hw'
                  obtain ⟨X, rfl⟩ := hw'
                  have HF := hide (HP.out.own.below.trans ((HQ.out.trans (X.2.mono HQ.out.size)).mono HP.out.own.size))
                  clear hdd hne
                  go_wp2
                  go_ret
                  exact ⟨rfl, HF.out⟩
end Go.Proofs.Ytgobnnciijlpaaa
