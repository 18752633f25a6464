/- The walk of DiskPlays. -/
import Derived.Test.YtgobnnciijlpaaaDlF
namespace Go.Proofs.Ytgobnnciijlpaaa
open Go.ChangeShapes Go.WideShapes Go.ChangeAt Go.RowKit Go.DsMem Go.DsDk
set_option linter.unusedVariables false

/-- a disk c beside one that goes on -/
structure Beside (w : World) (p : Nat) (v : Nat → Value) (N q : Nat) (c : Nat → Value) (E : Dk) : Prop where
  dk : DiskAt w q c E
  new : ∀ k, foot q c k → N ≤ k
  apart : ∀ k, foot q c k → ¬ foot p v k
theorem Beside.left {w w' : World} {p N q : Nat} {v v' c : Nat → Value} {D' E : Dk} (h : Beside w p v N q c E) (hm : Moved w p v w' v' D') : Beside w' p v' N q c E :=
  ⟨h.dk.stays hm.only h.apart, h.new, fun k hk hf => by
    rcases hm.grow k hf with h1 | h1
    · exact h.apart k hk h1
    · have := h.dk.foot_lt hk; omega⟩
theorem Beside.grew {w w' : World} {p N q : Nat} {v c : Nat → Value} {E : Dk} (h : Beside w p v N q c E) (hb : Below w.heap.size w w') : Beside w' p v N q c E := ⟨h.dk.below hb, h.new, h.apart⟩
theorem Both.beside {W w w3 : World} {p r g : Nat} {v u v3 : Nat → Value} {D : Dk} {S : Nat → Prop} (h : Both W w p v D S r g u D) (hC : DiskAt w3 w.heap.size v3 D) (B3 : Below w.heap.size w w3) : Beside w3 p v w.heap.size w.heap.size v3 D := by
  have hf : ∀ k, foot w.heap.size v3 k → w.heap.size ≤ k := fun k hk => by
    rcases hk with rfl | ⟨f, h8, hb⟩
    · exact Nat.le_refl _
    · have := ((hC.own f h8).lt k hb).1; omega
  exact ⟨hC, hf, fun k hk hp => by have := h.own.dk.foot_lt hp; have := hf k hk; omega⟩
theorem Both.switch {W w0 w : World} {p r g q : Nat} {v0 v u c : Nat → Value} {D0 D E : Dk} {S : Nat → Prop} (h0 : Both W w0 p v0 D0 S r g u E) (h : Both W w p v D S r g u E) (hb : Beside w p v w0.heap.size q c E) : Both W w q c E S r g u E := by
  refine ⟨⟨hb.dk, fun k hk => Nat.le_trans h0.own.size (hb.new k hk), h.own.below, h.own.size⟩, h.ref, h.mine, fun k hk hs => ?_⟩
  have := h0.ref.lt k hs
  have := hb.new k hk
  omega

set_option maxHeartbeats 8000000 in
set_option maxRecDepth 100000 in
/-- the law DiskPlays -/
theorem diskPlays_walk (acts : List A6) (x : Option Addr) (cx : Nat) (w : World) (hA : ActsAt w (.slice x acts.length cx) acts) :
    Calls Try.prog 3 #[.slice x acts.length cx] w fun e w' => e = .returned (.bool true) ∧ Below w.heap.size w w' := by
  have hlit := run_lit (P := Try.prog) Try.underlying27 Try.underlying5
  have RA := hide hA
  clear hA
  go_enter Try.func3, Try.ntmps3
  go_wp2_with fail
  refine (new_any _).mono ?_
  rintro e w1 ⟨rfl, hD, B1⟩
  go_wp2_with fail
  refine (rnew_any _).mono ?_
  rintro e w2 ⟨r, g, rfl, hR, B2⟩
  have HB2 := hide (Both.new (T := fun _ => False) (Below.refl w.heap.size w) (Nat.le_refl _) hD B1 hR B2)
  clear hD B1 hR B2
  go_wp2
  go_loopw [3, 5] (fun dp i wr => ∃ (k p : Nat) (v : Nat → Value) (S : Nat → Prop) (u : Nat → Value) (D : Dk), k ≤ acts.length ∧ k ≤ 60 ∧ dp = .pointer (some ⟨p, 0, none⟩) ∧ i = .int .i64 k ∧ Both w wr p v D S r g u D) (fun _ i _ => 60 - (intOf i).toNat)
  case atStart => exact ⟨0, _, _, _, _, _, Nat.zero_le _, Nat.zero_le _, rfl, rfl, HB2.out⟩
  case round =>
    obtain ⟨k, p, v, S, u, D, hk, hk60, rfl, rfl, hB⟩ := hrel
    by_cases hlt : k < acts.length ∧ k < 60
    · obtain ⟨h2, h3⟩ := hlt
      obtain ⟨ao, cp, hsl, hall⟩ := RA.out
      obtain ⟨ga, o, bo, bc, ko, kc, hao, hin⟩ := hall k acts[k] (List.getElem?_eq_getElem h2)
      obtain ⟨rfl, _, rfl⟩ : x = ao ∧ True ∧ cx = cp := by simpa using hsl
      subst hao
      have hin' := hin.mono (w' := wr) (fun a v hc => Below.keeps hB.own.below (Nat.le_refl _) hc)
      generalize acts[k] = A at hin hin'
      obtain ⟨c0, c1, c2, c3, c4, c5, rb, rk, lb, ln⟩ := hin'
      have HB := hide hB
      have HIN := hide hin
      clear hB rb rk hin hall hsl lb ln
      obtain ⟨n0, hn0⟩ : ∃ n0, n0 = wr.heap.size := ⟨_, rfl⟩
      obtain ⟨wa, hwa⟩ : ∃ wa, wa = wr.alloc (.cells #[.int .i64 A.kind, .int .i64 A.f, .int .i64 A.g, .slice bo A.b.length bc, .int .i64 A.n, .slice ko A.keep.length kc] 30) := ⟨_, rfl⟩
      have hX : wa.heap[n0]? = some (.cells #[.int .i64 A.kind, .int .i64 A.f, .int .i64 A.g, .slice bo A.b.length bc, .int .i64 A.n, .slice ko A.keep.length kc] 30 (0, 0)) := by rw [hwa, hn0]; exact heap_alloc_new wr _
      have hcF := cell_of (k := 1) hX
      simp only [List.getElem?_toArray, List.getElem?_cons_zero, List.getElem?_cons_succ] at hcF
      have HCF := hide hcF
      have HWA := hide hwa
      have HN0 := hide hn0
      have HBA : Hid (Both w wa p v D S r g u D) := by show Both _ _ _ _ _ _ _ _ _ _; rw [hwa]; exact HB.out.alloc _
      have HLT := hide (HB.out.lt (k := n0) (by omega))
      have hna := block_lt hX
      have HNA := hide hna
      clear hX hcF hwa hn0 hna
      by_cases h9 : A.kind = 9
      · have hk9 : (A.kind == 9) = true := by simp [h9]
        go_wp2_with fail
        have e9 := HWA.out
        rw [h9] at e9
        rw [← e9, ← HN0.out]
        clear e9 h9 hk9 c0 c1 c2 c3 c4 c5
        refine (copy_any _ _ _ _ HBA.out.own.dk).mono ?_
        rintro e w3 ⟨rfl, ⟨v3, hC⟩, B3⟩
        have HE3 := hide (HBA.out.beside hC B3)
        have HB3 := hide (HBA.out.grew B3)
        have HC3 : Hid (w3.cell? ⟨n0, 1, none⟩ = some (.int .i64 A.f)) := Below.keeps B3 (Nat.le_refl _) HCF.out
        have hz3 := B3.size
        have HZ3 := hide hz3
        clear hC B3 hz3
        go_wp2_with fail
        refine (append_any p v D 0 _ [122, 122] _ (HB3.out.alloc _).own.dk (Rd.two _ 122 122 122 122 (by decide) (by decide) _ _)).mono ?_
        rintro e w4 ⟨rfl, v4, hm4⟩
        have HB4 := hide ((HB3.out.alloc _).left hm4)
        have HE4 := hide ((HE3.out.grew ((Below.refl _ _).alloc (Nat.le_refl _) _)).left hm4)
        have HC4 : Hid (w4.cell? ⟨n0, 1, none⟩ = some (.int .i64 A.f)) := hm4.keeps (Below.keeps ((Below.refl _ _).alloc (Nat.le_refl _) _) (Nat.le_refl _) HC3.out) HLT.out.2.1
        have HF4 := hide (hm4.off HLT.out.2.1 (by have := HZ3.out; have := HNA.out; simp; omega))
        clear hm4
        generalize (D.append 0 [122, 122]).2 = er4
        generalize (D.append 0 [122, 122]).1 = D4 at HB4
        go_wp2_with fail
        refine (crash_any p v4 D4 [] _ _ HB4.out.own.dk (RdI.nil _) (fun h => absurd h (by decide))).mono ?_
        rintro e w5 ⟨rfl, v6, hm6⟩
        have HC5 : Hid (w5.cell? ⟨n0, 1, none⟩ = some (.int .i64 A.f)) := hm6.keeps HC4.out HF4.out
        have HB5 := hide (HBA.out.switch (HB4.out.left hm6) (HE4.out.left hm6))
        clear hm6 HB4 HE4 HC4 HF4 HE3 HB3 HC3
        generalize wa.heap.size = p5 at *
        go_wp2
        go_loopw [8] (fun i wq => ∃ q : Nat, q ≤ 8 ∧ i = .int .i64 q ∧ Both w wq p5 v3 D S r g u D ∧ wq.cell? ⟨n0, 1, none⟩ = some (.int .i64 A.f)) (fun i _ => 8 - (intOf i).toNat)
        case atStart => exact ⟨0, Nat.zero_le _, rfl, HB5.out, HC5.out⟩
        case round =>
          rename World => wq
          obtain ⟨q, hq, rfl, hbq, hcq⟩ := hrel
          have HQ := hide hbq
          have HCQ := hide hcq
          clear hbq hcq
          by_cases hq8 : q < 8
          · go_wp2_with fail
            refine (read_any _ _ _ q _ HQ.out.own.dk).mono ?_
            rintro e w8 ⟨a8, rfl, ha8, B8⟩
            obtain ⟨a8o, a8c, rfl, -⟩ := own_shape ha8
            have HA8 := hide ha8
            have HB8 := hide B8
            clear ha8 B8
            go_wp2_with fail
            refine (rread_any _ _ _ _ _ q _ (HQ.out.grew HB8.out).ref).mono ?_
            rintro e w9 ⟨b9, rfl, hb9, B9⟩
            obtain ⟨b9o, b9c, rfl, -⟩ := own_shape hb9
            have HA9 := hide (own_below HA8.out B9)
            have HB9 := hide (HB8.out.trans (B9.mono HB8.out.size))
            have s1 := run_conv_rd (P := Try.prog) Try.underlying27 Try.underlying5 Try.underlying9 (Rd.own HA9.out)
            have s2 := run_conv_rd (P := Try.prog) Try.underlying27 Try.underlying5 Try.underlying9 (Rd.own hb9)
            clear hb9 B9
            generalize bstr (D.read (q : Int)).1 = tt at s1 s2
            go_wp2_with (first
              | (go_at_call 16; refine (safe_any _ _ _ q _ (HQ.out.grew HB9.out).own.dk).mono ?_; rintro e w10 ⟨rfl, B10⟩; have HA10 := hide (own_below HA9.out B10); have HB10 := hide (HB9.out.trans (B10.mono HB9.out.size)); clear B10)
              | (go_at_call 17; refine (rsafe_any _ _ _ _ _ q _ (HQ.out.grew HB10.out).ref).mono ?_; rintro e w' ⟨rfl, rfl⟩)
              | (go_at_call 18; refine (spoil_any _ _ _ _ _ HA10.out).mono ?_; rintro e w11 ⟨rfl, ho11⟩; have HQ11 := hide ((HQ.out.grew HB10.out).only ho11 (fun k hk => HQ.out.lt (HA10.out.lt k hk).1)); have HC11 : Hid (w11.cell? ⟨n0, 1, none⟩ = some (.int .i64 A.f)) := ho11.cell (Below.keeps HB10.out (Nat.le_refl _) HCQ.out) (fun hk => by have h1 := (HA10.out.lt _ hk).1; have h2 := World.block_lt_of_cell? _ _ HCQ.out; simp only at h1 h2; omega); clear ho11))
            go_roundw
            case rel => exact ⟨q + 1, by omega, by go_num, HQ11.out, HC11.out⟩
            case measure => simp [intOf]; omega
          · obtain rfl : q = 8 := by omega
            have hcF := HCQ.out
            go_wp2_with fail
            refine (read_any _ _ _ A.f _ HQ.out.own.dk).mono ?_
            rintro e w8 ⟨a8, rfl, ha8, B8⟩
            obtain ⟨a8o, a8c, rfl, -⟩ := own_shape ha8
            have HB8 := hide B8
            have hcG := Below.keeps B8 (Nat.le_refl _) hcF
            clear ha8 B8 hcF
            go_wp2_with fail
            refine (rread_any _ _ _ _ _ A.f _ (HQ.out.grew HB8.out).ref).mono ?_
            rintro e w9 ⟨b9, rfl, hb9, B9⟩
            obtain ⟨b9o, b9c, rfl, -⟩ := own_shape hb9
            have HB9 := hide (HB8.out.trans (B9.mono HB8.out.size))
            have hcH := Below.keeps B9 (Nat.le_refl _) hcG
            have HQ9 := hide (HQ.out.grew HB9.out)
            clear hb9 B9 hcG
            have hne := grow_ne w9
            have hcx := fun X : Grow w9 => Below.keeps X.2 (Nat.le_refl _) hcH
            have hdd := fun X : Grow w9 => Below.keeps X.2 (Nat.le_refl _) HQ9.out.ref.hd.deadC
            generalize hDD : D.dead = dd at *
            have HDD := hide hDD
            generalize hER : (D.read A.f).2 = er at *
            clear hDD hER hcH
            go_wp2
            refine wp_region_grow (by kernel_rfl) (by kernel_rfl) ?_
            repeat (go_big_quiet_step (first
              | (go_at_call 16; rename_i X; exact grow_of (safe_any _ _ _ A.f _ (HQ9.out.own.dk.below X.2)))
              | (go_at_call 17; rename_i X; exact grow_of ((rsafe_any _ _ _ _ _ A.f _ (HQ9.out.ref.below X.2)).mono (fun e w7 h => ⟨h.1, by rw [h.2]; exact Below.refl _ _⟩)))
              | (go_at_call 19; rename_i X; exact grow_of ((dead_any _ _ _ _ (HQ9.out.own.dk.below X.2)).mono (fun e w7 h => ⟨by rw [h.1, HDD.out], by rw [h.2]; exact Below.refl _ _⟩)))))
            refine wpQuiet_nil ?_
            intro _ hw'
            obtain ⟨X, rfl⟩ := hw'
            have HF := hide (HQ9.out.grew X.2)
            clear hdd hne hcx
            go_wp2
            go_roundw
            case rel => exact ⟨k + 1, p5, v3, S, u, D, by omega, by omega, rfl, by go_num, HF.out⟩
            case measure => simp [intOf]; omega
      · have hk9 : (A.kind == 9) = false := by simp [h9]
        go_wp2_with fail
        rw [← HWA.out, ← HN0.out]
        clear c0 c1 c2 c3 c4 c5
        refine (do_any A HBA.out HIN.out.rb HIN.out.rk HIN.out.lb HIN.out.ln).mono ?_
        rintro e w5 ⟨rfl, v5, S5, u5, D5, hB5, hO5⟩
        have HC5 : Hid (w5.cell? ⟨n0, 1, none⟩ = some (.int .i64 A.f)) := hO5.cell HCF.out (fun e => by rcases e with e | e; exact HLT.out.2.1 e; exact HLT.out.2.2 e)
        have HB5 := hide hB5
        clear hB5 hO5
        go_wp2
        go_loopw [8] (fun i wq => ∃ q : Nat, q ≤ 8 ∧ i = .int .i64 q ∧ Both w wq p v5 D5 S5 r g u5 D5 ∧ wq.cell? ⟨n0, 1, none⟩ = some (.int .i64 A.f)) (fun i _ => 8 - (intOf i).toNat)
        case atStart => exact ⟨0, Nat.zero_le _, rfl, HB5.out, HC5.out⟩
        case round =>
          rename World => wq
          obtain ⟨q, hq, rfl, hbq, hcq⟩ := hrel
          have HQ := hide hbq
          have HCQ := hide hcq
          clear hbq hcq
          by_cases hq8 : q < 8
          · go_wp2_with fail
            refine (read_any _ _ _ q _ HQ.out.own.dk).mono ?_
            rintro e w8 ⟨a8, rfl, ha8, B8⟩
            obtain ⟨a8o, a8c, rfl, -⟩ := own_shape ha8
            have HA8 := hide ha8
            have HB8 := hide B8
            clear ha8 B8
            go_wp2_with fail
            refine (rread_any _ _ _ _ _ q _ (HQ.out.grew HB8.out).ref).mono ?_
            rintro e w9 ⟨b9, rfl, hb9, B9⟩
            obtain ⟨b9o, b9c, rfl, -⟩ := own_shape hb9
            have HA9 := hide (own_below HA8.out B9)
            have HB9 := hide (HB8.out.trans (B9.mono HB8.out.size))
            have s1 := run_conv_rd (P := Try.prog) Try.underlying27 Try.underlying5 Try.underlying9 (Rd.own HA9.out)
            have s2 := run_conv_rd (P := Try.prog) Try.underlying27 Try.underlying5 Try.underlying9 (Rd.own hb9)
            clear hb9 B9
            generalize bstr (D5.read (q : Int)).1 = tt at s1 s2
            go_wp2_with (first
              | (go_at_call 16; refine (safe_any _ _ _ q _ (HQ.out.grew HB9.out).own.dk).mono ?_; rintro e w10 ⟨rfl, B10⟩; have HA10 := hide (own_below HA9.out B10); have HB10 := hide (HB9.out.trans (B10.mono HB9.out.size)); clear B10)
              | (go_at_call 17; refine (rsafe_any _ _ _ _ _ q _ (HQ.out.grew HB10.out).ref).mono ?_; rintro e w' ⟨rfl, rfl⟩)
              | (go_at_call 18; refine (spoil_any _ _ _ _ _ HA10.out).mono ?_; rintro e w11 ⟨rfl, ho11⟩; have HQ11 := hide ((HQ.out.grew HB10.out).only ho11 (fun k hk => HQ.out.lt (HA10.out.lt k hk).1)); have HC11 : Hid (w11.cell? ⟨n0, 1, none⟩ = some (.int .i64 A.f)) := ho11.cell (Below.keeps HB10.out (Nat.le_refl _) HCQ.out) (fun hk => by have h1 := (HA10.out.lt _ hk).1; have h2 := World.block_lt_of_cell? _ _ HCQ.out; simp only at h1 h2; omega); clear ho11))
            go_roundw
            case rel => exact ⟨q + 1, by omega, by go_num, HQ11.out, HC11.out⟩
            case measure => simp [intOf]; omega
          · obtain rfl : q = 8 := by omega
            have hcF := HCQ.out
            go_wp2_with fail
            refine (read_any _ _ _ A.f _ HQ.out.own.dk).mono ?_
            rintro e w8 ⟨a8, rfl, ha8, B8⟩
            obtain ⟨a8o, a8c, rfl, -⟩ := own_shape ha8
            have HB8 := hide B8
            have hcG := Below.keeps B8 (Nat.le_refl _) hcF
            clear ha8 B8 hcF
            go_wp2_with fail
            refine (rread_any _ _ _ _ _ A.f _ (HQ.out.grew HB8.out).ref).mono ?_
            rintro e w9 ⟨b9, rfl, hb9, B9⟩
            obtain ⟨b9o, b9c, rfl, -⟩ := own_shape hb9
            have HB9 := hide (HB8.out.trans (B9.mono HB8.out.size))
            have hcH := Below.keeps B9 (Nat.le_refl _) hcG
            have HQ9 := hide (HQ.out.grew HB9.out)
            clear hb9 B9 hcG
            have hne := grow_ne w9
            have hcx := fun X : Grow w9 => Below.keeps X.2 (Nat.le_refl _) hcH
            have hdd := fun X : Grow w9 => Below.keeps X.2 (Nat.le_refl _) HQ9.out.ref.hd.deadC
            generalize hDD : D5.dead = dd at *
            have HDD := hide hDD
            generalize hER : (D5.read A.f).2 = er at *
            clear hDD hER hcH
            go_wp2
            refine wp_region_grow (by kernel_rfl) (by kernel_rfl) ?_
            repeat (go_big_quiet_step (first
              | (go_at_call 16; rename_i X; exact grow_of (safe_any _ _ _ A.f _ (HQ9.out.own.dk.below X.2)))
              | (go_at_call 17; rename_i X; exact grow_of ((rsafe_any _ _ _ _ _ A.f _ (HQ9.out.ref.below X.2)).mono (fun e w7 h => ⟨h.1, by rw [h.2]; exact Below.refl _ _⟩)))
              | (go_at_call 19; rename_i X; exact grow_of ((dead_any _ _ _ _ (HQ9.out.own.dk.below X.2)).mono (fun e w7 h => ⟨by rw [h.1, HDD.out], by rw [h.2]; exact Below.refl _ _⟩)))))
            refine wpQuiet_nil ?_
            intro _ hw'
            obtain ⟨X, rfl⟩ := hw'
            have HF := hide (HQ9.out.grew X.2)
            clear hdd hne hcx
            go_wp2
            go_roundw
            case rel => exact ⟨k + 1, p, v5, S5, u5, D5, by omega, by omega, rfl, by go_num, HF.out⟩
            case measure => simp [intOf]; omega
    · have HB := hide hB
      clear hB
      rcases (show ¬ k < acts.length ∨ (k < acts.length ∧ ¬ k < 60) by omega) with h2 | ⟨h2, h3⟩
      all_goals
        go_wp2_with (go_at_call 20; refine (known_any _).mono ?_; rintro e w5 ⟨rfl, B5⟩; have HB5 := hide (HB.out.own.grew B5); clear B5)
        go_ret
        exact ⟨rfl, HB5.out.below⟩
end Go.Proofs.Ytgobnnciijlpaaa
