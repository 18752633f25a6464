/- The walk of DiskSafe. -/
import Derived.Test.YtgobnnciijlpaaaDlB
import Derived.Test.YtgobnnciijlpaaaAct3
import Derived.Test.YtgobnnciijlpaaaGrow
namespace Go.Proofs.Ytgobnnciijlpaaa
open Go.ChangeShapes Go.WideShapes Go.ChangeAt Go.RowKit Go.DsMem Go.DsDk
set_option linter.unusedVariables false

/-- the file 3 begins with b, and that is safe -/
def Holds3 (b : List UInt8) (D : Dk) : Prop := b <+: D.b 3 ∧ b.length ≤ D.s 3
theorem Holds3.called {b : List UInt8} {D : Dk} (h : Holds3 b D) : Holds3 b D.called := by unfold Holds3; rw [called_b, called_s]; exact h
theorem Holds3.start {b : List UInt8} {D : Dk} (h : Holds3 b D) (ok : Bool) : Holds3 b (D.start ok).1 := by unfold Holds3; rw [start_b, start_s]; exact h
theorem Holds3.append {b : List UInt8} {D : Dk} (h : Holds3 b D) (f : Int) (x : List UInt8) : Holds3 b (D.append f x).1 := by
  unfold Dk.append
  split
  · split
    · exact h
    · split
      · exact h
      · refine Holds3.called ?_
        refine ⟨?_, h.2⟩
        by_cases e : 3 = f.toNat
        · rw [← e]; simp only [upd_same]; exact h.1.trans (List.prefix_append _ _)
        · simp only [upd_ne _ _ e]; exact h.1
  · exact h
theorem Holds3.sync {b : List UInt8} {D : Dk} (h : Holds3 b D) (f : Int) : Holds3 b (D.sync f).1 := by
  unfold Dk.sync
  split
  · refine ⟨by simp only [start_b]; exact h.1, ?_⟩
    by_cases e : 3 = f.toNat
    · rw [← e]; simp only [upd_same]; exact h.1.length_le
    · simp only [upd_ne _ _ e]; exact h.2
  · exact h.start _
theorem Holds3.fail {b : List UInt8} {D : Dk} (h : Holds3 b D) (n : Int) : Holds3 b (D.fail n) := h
theorem Holds3.crash {b : List UInt8} {D : Dk} (h : Holds3 b D) (keep : List Int) : Holds3 b (D.crash keep) := by
  have hk : b.length ≤ D.kept keep 3 := by unfold Dk.kept; have := h.2; omega
  refine ⟨?_, hk⟩
  simp only [Dk.crash]
  exact List.prefix_take_iff.2 ⟨h.1, hk⟩
theorem Holds3.first {b : List UInt8} (hb : b.length ≤ 1000) : (Dk.new.append 3 b).2 = 0 ∧ ((Dk.new.append 3 b).1.sync 3).2 = 0 ∧ Holds3 b ((Dk.new.append 3 b).1.sync 3).1 := by
  have h : ¬ 1048576 < b.length := by omega
  have o3 : okf 3 = true := by decide
  have e : Dk.new.append 3 b = (⟨upd (fun _ => []) 3 b, fun _ => 0, 0, false⟩, 0) := by simp [Dk.append, o3, Dk.new, Dk.called, Dk.err, h]
  rw [e]
  refine ⟨rfl, ?_, ?_⟩
  · simp [Dk.sync, Dk.start, o3, Dk.called, Dk.err]
  · simp [Dk.sync, Dk.start, o3, Dk.called, Dk.err, Holds3, upd_same]
theorem read3 (D : Dk) : D.read 3 = (D.b 3, 0) := by simp [Dk.read, show okf 3 = true by decide]
theorem safe3 (D : Dk) : D.safe 3 = D.s 3 := by simp [Dk.safe, show okf 3 = true by decide]

set_option maxRecDepth 100000 in
set_option maxHeartbeats 4000000 in
/-- the law DiskSafe -/
theorem diskSafe_walk (b : List UInt8) (acts : List A6) (x : Option Addr) (lx cx : Nat) (y : Option Addr) (ly cy : Nat) (w : World)
    (hb : Rd w (.slice x lx cx) b) (hlb : b.length = lx) (hA : ActsAt w (.slice y ly cy) acts) (hla : acts.length = ly) :
    Calls Try.prog 4 #[.slice x lx cx, .slice y ly cy] w fun e w' => e = .returned (.bool true) ∧ Below w.heap.size w w' := by
  subst hla
  by_cases h1 : 1000 < lx
  · go_enter Try.func4, Try.ntmps4
    go_wp2_with (first
      | (go_at_call 8; refine (new_any _).mono ?_; rintro e w1 ⟨rfl, hD, B1⟩; clear hD)
      | (go_at_call 20; refine (known_any _).mono ?_; rintro e w2 ⟨rfl, B2⟩))
    go_ret
    exact ⟨rfl, B1.trans (B2.mono B1.size)⟩
  · have hb' : b.length ≤ 1000 := by omega
    obtain ⟨e1, e2, e3⟩ := Holds3.first hb'
    have RB := hide hb
    have RA := hide hA
    have LB := hide hlb
    have E1 := hide e1
    have E2 := hide e2
    have E3 := hide e3
    clear hb hA hlb e1 e2 e3
    go_enter Try.func4, Try.ntmps4
    go_wp2_with fail
    refine (new_any _).mono ?_
    rintro e w1 ⟨rfl, hD, hB⟩
    have O1 := Own.new (Below.refl w.heap.size w) (Nat.le_refl _) hD hB
    clear hD hB
    go_wp2_with fail
    refine (O1.append 3 (rd_in RB.out O1.below (Nat.le_refl _))).mono ?_
    rintro e w2 ⟨rfl, v2, O2⟩
    rw [E1.out]
    clear O1
    go_wp2_with fail
    refine (O2.sync 3).mono ?_
    rintro e w3 ⟨rfl, v3, O3⟩
    rw [E2.out]
    clear O2
    have HO3 := hide O3
    clear O3
    go_wp2
    go_loopw [6] (fun i wr => ∃ k : Nat, k ≤ acts.length ∧ k ≤ 60 ∧ i = .int .i64 k ∧ ∃ v D, Own w.heap.size w wr w.heap.size v D ∧ Holds3 b D) (fun i _ => 60 - (intOf i).toNat)
    case atStart => exact ⟨0, Nat.zero_le _, Nat.zero_le _, rfl, v3, _, HO3.out, E3.out⟩
    case round =>
      obtain ⟨k, hk, hk60, rfl, v, D, O, hH⟩ := hrel
      by_cases hlt : k < acts.length ∧ k < 60
      · obtain ⟨h2, h3⟩ := hlt
        obtain ⟨ao, cp, hsl, hall⟩ := RA.out
        obtain ⟨g, o, bo, bc, ko, kc, hao, hin⟩ := hall k acts[k] (List.getElem?_eq_getElem h2)
        obtain ⟨rfl, _, rfl⟩ : y = ao ∧ True ∧ cy = cp := by simpa using hsl
        subst hao
        have hin' := hin.mono (w' := wr) (fun a v hc => Below.keeps O.below (Nat.le_refl _) hc)
        generalize acts[k] = A at hin hin'
        obtain ⟨c0, c1, c2, c3, c4, c5, rb, rk, lb, ln⟩ := hin'
        have HO := hide O
        have HH := hide hH
        have HRB := hide rb
        have HRK := hide hin.rk
        clear O hH rb rk hin hall hsl
        obtain ⟨kd, hkd⟩ : ∃ kd, kd = A.kind := ⟨_, rfl⟩
        rw [← hkd] at c0
        clear hkd
        rcases (show kd = 0 ∨ kd = 1 ∨ kd = 2 ∨ kd = 3 ∨ kd = 4 ∨ kd = 7 ∨ kd = 8 ∨ (kd ≠ 0 ∧ kd ≠ 1 ∧ kd ≠ 2 ∧ kd ≠ 3 ∧ kd ≠ 4 ∧ kd ≠ 7 ∧ kd ≠ 8) by omega) with rfl | rfl | rfl | rfl | rfl | rfl | rfl | ⟨n0, n1, n2, n3, n4, n7, n8⟩
        · go_wp2_with fail
          refine ((HO.out.alloc _).append A.f (HRB.out.below ((Below.refl _ _).alloc (Nat.le_refl _) _))).mono ?_
          rintro e w5 ⟨rfl, v5, O5⟩
          have H5 := hide (HH.out.append A.f A.b)
          generalize (D.append A.f A.b).2 = er
          generalize (D.append A.f A.b).1 = D5 at O5 H5
          go_wp2_with fail
          refine (O5.read 3).mono ?_
          rintro e w6 ⟨q, rfl, hq, B6, O6⟩
          rw [read3] at hq
          rw [read3]
          have hpre := H5.out.1
          have hsf := H5.out.2
          have hle := hpre.length_le
          obtain ⟨qa, qc, rfl, hqc⟩ := own_shape hq
          have hqt := own_take hq hle
          rw [← List.prefix_iff_eq_take.1 hpre, LB.out] at hqt
          have hne := grow_ne w6
          have hcx := fun X : Grow w6 => run_conv_rd (P := Try.prog) Try.underlying27 Try.underlying5 Try.underlying9 ((Rd.own hqt).below X.2)
          have hcb := fun X : Grow w6 => run_conv_rd (P := Try.prog) Try.underlying27 Try.underlying5 Try.underlying9 ((rd_in RB.out O6.below (Nat.le_refl _)).below X.2)
          generalize hq3 : (D5.b 3).length = q3 at *
          rw [LB.out] at hle hsf
          have HO6 := hide O6
          have HQ3 := hide hq3
          have hd1 : decide (q3 < lx) = false := by simp; omega
          have hd2 : decide (D5.s 3 < lx) = false := by simp; omega
          clear hq hqt hpre O6 B6 O5 hq3 c0 c1 c2 c3 c4 c5 lb ln
          go_wp2_with fail
          refine wp_region_grow (by kernel_rfl) (by kernel_rfl) ?_
          repeat (go_big_quiet_step ((rename_i X; exact grow_of ((safe_any _ _ _ 3 _ (HO6.out.dk.below (grow_below X))).mono (fun e w7 h => ⟨by rw [h.1, safe3], h.2⟩)))))
          refine wpQuiet_nil ?_
          intro _ hw'
          obtain ⟨X, rfl⟩ := hw'
          have HX := hide (HO6.out.grew X.2)
          clear hcx hcb hne hd1 hd2 hle hsf hqc
          go_wp2
          go_roundw
          case rel => exact ⟨k + 1, by omega, by omega, by go_num, v5, D5, HX.out, H5.out⟩
          case measure => simp [intOf]; omega
        · go_wp2_with fail
          refine ((HO.out.alloc _).append A.f (HRB.out.below ((Below.refl _ _).alloc (Nat.le_refl _) _))).mono ?_
          rintro e w5 ⟨rfl, v5, O5⟩
          have H5 := hide (HH.out.append A.f A.b)
          generalize (D.append A.f A.b).2 = er
          generalize (D.append A.f A.b).1 = D5 at O5 H5
          go_wp2_with fail
          refine (O5.read 3).mono ?_
          rintro e w6 ⟨q, rfl, hq, B6, O6⟩
          rw [read3] at hq
          rw [read3]
          have hpre := H5.out.1
          have hsf := H5.out.2
          have hle := hpre.length_le
          obtain ⟨qa, qc, rfl, hqc⟩ := own_shape hq
          have hqt := own_take hq hle
          rw [← List.prefix_iff_eq_take.1 hpre, LB.out] at hqt
          have hne := grow_ne w6
          have hcx := fun X : Grow w6 => run_conv_rd (P := Try.prog) Try.underlying27 Try.underlying5 Try.underlying9 ((Rd.own hqt).below X.2)
          have hcb := fun X : Grow w6 => run_conv_rd (P := Try.prog) Try.underlying27 Try.underlying5 Try.underlying9 ((rd_in RB.out O6.below (Nat.le_refl _)).below X.2)
          generalize hq3 : (D5.b 3).length = q3 at *
          rw [LB.out] at hle hsf
          have HO6 := hide O6
          have HQ3 := hide hq3
          have hd1 : decide (q3 < lx) = false := by simp; omega
          have hd2 : decide (D5.s 3 < lx) = false := by simp; omega
          clear hq hqt hpre O6 B6 O5 hq3 c0 c1 c2 c3 c4 c5 lb ln
          go_wp2_with fail
          refine wp_region_grow (by kernel_rfl) (by kernel_rfl) ?_
          repeat (go_big_quiet_step ((rename_i X; exact grow_of ((safe_any _ _ _ 3 _ (HO6.out.dk.below (grow_below X))).mono (fun e w7 h => ⟨by rw [h.1, safe3], h.2⟩)))))
          refine wpQuiet_nil ?_
          intro _ hw'
          obtain ⟨X, rfl⟩ := hw'
          have HX := hide (HO6.out.grew X.2)
          clear hcx hcb hne hd1 hd2 hle hsf hqc
          go_wp2
          go_roundw
          case rel => exact ⟨k + 1, by omega, by omega, by go_num, v5, D5, HX.out, H5.out⟩
          case measure => simp [intOf]; omega
        · go_wp2_with fail
          refine ((HO.out.alloc _).append A.f (HRB.out.below ((Below.refl _ _).alloc (Nat.le_refl _) _))).mono ?_
          rintro e w5 ⟨rfl, v5, O5⟩
          have H5 := hide (HH.out.append A.f A.b)
          generalize (D.append A.f A.b).2 = er
          generalize (D.append A.f A.b).1 = D5 at O5 H5
          go_wp2_with fail
          refine (O5.read 3).mono ?_
          rintro e w6 ⟨q, rfl, hq, B6, O6⟩
          rw [read3] at hq
          rw [read3]
          have hpre := H5.out.1
          have hsf := H5.out.2
          have hle := hpre.length_le
          obtain ⟨qa, qc, rfl, hqc⟩ := own_shape hq
          have hqt := own_take hq hle
          rw [← List.prefix_iff_eq_take.1 hpre, LB.out] at hqt
          have hne := grow_ne w6
          have hcx := fun X : Grow w6 => run_conv_rd (P := Try.prog) Try.underlying27 Try.underlying5 Try.underlying9 ((Rd.own hqt).below X.2)
          have hcb := fun X : Grow w6 => run_conv_rd (P := Try.prog) Try.underlying27 Try.underlying5 Try.underlying9 ((rd_in RB.out O6.below (Nat.le_refl _)).below X.2)
          generalize hq3 : (D5.b 3).length = q3 at *
          rw [LB.out] at hle hsf
          have HO6 := hide O6
          have HQ3 := hide hq3
          have hd1 : decide (q3 < lx) = false := by simp; omega
          have hd2 : decide (D5.s 3 < lx) = false := by simp; omega
          clear hq hqt hpre O6 B6 O5 hq3 c0 c1 c2 c3 c4 c5 lb ln
          go_wp2_with fail
          refine wp_region_grow (by kernel_rfl) (by kernel_rfl) ?_
          repeat (go_big_quiet_step ((rename_i X; exact grow_of ((safe_any _ _ _ 3 _ (HO6.out.dk.below (grow_below X))).mono (fun e w7 h => ⟨by rw [h.1, safe3], h.2⟩)))))
          refine wpQuiet_nil ?_
          intro _ hw'
          obtain ⟨X, rfl⟩ := hw'
          have HX := hide (HO6.out.grew X.2)
          clear hcx hcb hne hd1 hd2 hle hsf hqc
          go_wp2
          go_roundw
          case rel => exact ⟨k + 1, by omega, by omega, by go_num, v5, D5, HX.out, H5.out⟩
          case measure => simp [intOf]; omega
        · go_wp2_with fail
          refine ((HO.out.alloc _).sync A.f).mono ?_
          rintro e w5 ⟨rfl, v5, O5⟩
          have H5 := hide (HH.out.sync A.f)
          generalize (D.sync A.f).2 = er
          generalize (D.sync A.f).1 = D5 at O5 H5
          go_wp2_with fail
          refine (O5.read 3).mono ?_
          rintro e w6 ⟨q, rfl, hq, B6, O6⟩
          rw [read3] at hq
          rw [read3]
          have hpre := H5.out.1
          have hsf := H5.out.2
          have hle := hpre.length_le
          obtain ⟨qa, qc, rfl, hqc⟩ := own_shape hq
          have hqt := own_take hq hle
          rw [← List.prefix_iff_eq_take.1 hpre, LB.out] at hqt
          have hne := grow_ne w6
          have hcx := fun X : Grow w6 => run_conv_rd (P := Try.prog) Try.underlying27 Try.underlying5 Try.underlying9 ((Rd.own hqt).below X.2)
          have hcb := fun X : Grow w6 => run_conv_rd (P := Try.prog) Try.underlying27 Try.underlying5 Try.underlying9 ((rd_in RB.out O6.below (Nat.le_refl _)).below X.2)
          generalize hq3 : (D5.b 3).length = q3 at *
          rw [LB.out] at hle hsf
          have HO6 := hide O6
          have HQ3 := hide hq3
          have hd1 : decide (q3 < lx) = false := by simp; omega
          have hd2 : decide (D5.s 3 < lx) = false := by simp; omega
          clear hq hqt hpre O6 B6 O5 hq3 c0 c1 c2 c3 c4 c5 lb ln
          go_wp2_with fail
          refine wp_region_grow (by kernel_rfl) (by kernel_rfl) ?_
          repeat (go_big_quiet_step ((rename_i X; exact grow_of ((safe_any _ _ _ 3 _ (HO6.out.dk.below (grow_below X))).mono (fun e w7 h => ⟨by rw [h.1, safe3], h.2⟩)))))
          refine wpQuiet_nil ?_
          intro _ hw'
          obtain ⟨X, rfl⟩ := hw'
          have HX := hide (HO6.out.grew X.2)
          clear hcx hcb hne hd1 hd2 hle hsf hqc
          go_wp2
          go_roundw
          case rel => exact ⟨k + 1, by omega, by omega, by go_num, v5, D5, HX.out, H5.out⟩
          case measure => simp [intOf]; omega
        · go_wp2_with fail
          refine ((HO.out.alloc _).sync A.f).mono ?_
          rintro e w5 ⟨rfl, v5, O5⟩
          have H5 := hide (HH.out.sync A.f)
          generalize (D.sync A.f).2 = er
          generalize (D.sync A.f).1 = D5 at O5 H5
          go_wp2_with fail
          refine (O5.read 3).mono ?_
          rintro e w6 ⟨q, rfl, hq, B6, O6⟩
          rw [read3] at hq
          rw [read3]
          have hpre := H5.out.1
          have hsf := H5.out.2
          have hle := hpre.length_le
          obtain ⟨qa, qc, rfl, hqc⟩ := own_shape hq
          have hqt := own_take hq hle
          rw [← List.prefix_iff_eq_take.1 hpre, LB.out] at hqt
          have hne := grow_ne w6
          have hcx := fun X : Grow w6 => run_conv_rd (P := Try.prog) Try.underlying27 Try.underlying5 Try.underlying9 ((Rd.own hqt).below X.2)
          have hcb := fun X : Grow w6 => run_conv_rd (P := Try.prog) Try.underlying27 Try.underlying5 Try.underlying9 ((rd_in RB.out O6.below (Nat.le_refl _)).below X.2)
          generalize hq3 : (D5.b 3).length = q3 at *
          rw [LB.out] at hle hsf
          have HO6 := hide O6
          have HQ3 := hide hq3
          have hd1 : decide (q3 < lx) = false := by simp; omega
          have hd2 : decide (D5.s 3 < lx) = false := by simp; omega
          clear hq hqt hpre O6 B6 O5 hq3 c0 c1 c2 c3 c4 c5 lb ln
          go_wp2_with fail
          refine wp_region_grow (by kernel_rfl) (by kernel_rfl) ?_
          repeat (go_big_quiet_step ((rename_i X; exact grow_of ((safe_any _ _ _ 3 _ (HO6.out.dk.below (grow_below X))).mono (fun e w7 h => ⟨by rw [h.1, safe3], h.2⟩)))))
          refine wpQuiet_nil ?_
          intro _ hw'
          obtain ⟨X, rfl⟩ := hw'
          have HX := hide (HO6.out.grew X.2)
          clear hcx hcb hne hd1 hd2 hle hsf hqc
          go_wp2
          go_roundw
          case rel => exact ⟨k + 1, by omega, by omega, by go_num, v5, D5, HX.out, H5.out⟩
          case measure => simp [intOf]; omega
        · go_wp2_with fail
          refine ((HO.out.alloc _).fail A.n ln).mono ?_
          rintro e w5 ⟨rfl, v5, O5⟩
          have H5 := hide (HH.out.fail A.n)
          generalize D.fail A.n = D5 at O5 H5
          go_wp2_with fail
          refine (O5.read 3).mono ?_
          rintro e w6 ⟨q, rfl, hq, B6, O6⟩
          rw [read3] at hq
          rw [read3]
          have hpre := H5.out.1
          have hsf := H5.out.2
          have hle := hpre.length_le
          obtain ⟨qa, qc, rfl, hqc⟩ := own_shape hq
          have hqt := own_take hq hle
          rw [← List.prefix_iff_eq_take.1 hpre, LB.out] at hqt
          have hne := grow_ne w6
          have hcx := fun X : Grow w6 => run_conv_rd (P := Try.prog) Try.underlying27 Try.underlying5 Try.underlying9 ((Rd.own hqt).below X.2)
          have hcb := fun X : Grow w6 => run_conv_rd (P := Try.prog) Try.underlying27 Try.underlying5 Try.underlying9 ((rd_in RB.out O6.below (Nat.le_refl _)).below X.2)
          generalize hq3 : (D5.b 3).length = q3 at *
          rw [LB.out] at hle hsf
          have HO6 := hide O6
          have HQ3 := hide hq3
          have hd1 : decide (q3 < lx) = false := by simp; omega
          have hd2 : decide (D5.s 3 < lx) = false := by simp; omega
          clear hq hqt hpre O6 B6 O5 hq3 c0 c1 c2 c3 c4 c5 lb ln
          go_wp2_with fail
          refine wp_region_grow (by kernel_rfl) (by kernel_rfl) ?_
          repeat (go_big_quiet_step ((rename_i X; exact grow_of ((safe_any _ _ _ 3 _ (HO6.out.dk.below (grow_below X))).mono (fun e w7 h => ⟨by rw [h.1, safe3], h.2⟩)))))
          refine wpQuiet_nil ?_
          intro _ hw'
          obtain ⟨X, rfl⟩ := hw'
          have HX := hide (HO6.out.grew X.2)
          clear hcx hcb hne hd1 hd2 hle hsf hqc
          go_wp2
          go_roundw
          case rel => exact ⟨k + 1, by omega, by omega, by go_num, v5, D5, HX.out, H5.out⟩
          case measure => simp [intOf]; omega
        · go_wp2_with fail
          refine ((HO.out.alloc _).crash HRK.out).mono ?_
          rintro e w5 ⟨rfl, v5, O5⟩
          have H5 := hide (HH.out.crash A.keep)
          generalize D.crash A.keep = D5 at O5 H5
          go_wp2_with fail
          refine (O5.read 3).mono ?_
          rintro e w6 ⟨q, rfl, hq, B6, O6⟩
          rw [read3] at hq
          rw [read3]
          have hpre := H5.out.1
          have hsf := H5.out.2
          have hle := hpre.length_le
          obtain ⟨qa, qc, rfl, hqc⟩ := own_shape hq
          have hqt := own_take hq hle
          rw [← List.prefix_iff_eq_take.1 hpre, LB.out] at hqt
          have hne := grow_ne w6
          have hcx := fun X : Grow w6 => run_conv_rd (P := Try.prog) Try.underlying27 Try.underlying5 Try.underlying9 ((Rd.own hqt).below X.2)
          have hcb := fun X : Grow w6 => run_conv_rd (P := Try.prog) Try.underlying27 Try.underlying5 Try.underlying9 ((rd_in RB.out O6.below (Nat.le_refl _)).below X.2)
          generalize hq3 : (D5.b 3).length = q3 at *
          rw [LB.out] at hle hsf
          have HO6 := hide O6
          have HQ3 := hide hq3
          have hd1 : decide (q3 < lx) = false := by simp; omega
          have hd2 : decide (D5.s 3 < lx) = false := by simp; omega
          clear hq hqt hpre O6 B6 O5 hq3 c0 c1 c2 c3 c4 c5 lb ln
          go_wp2_with fail
          refine wp_region_grow (by kernel_rfl) (by kernel_rfl) ?_
          repeat (go_big_quiet_step ((rename_i X; exact grow_of ((safe_any _ _ _ 3 _ (HO6.out.dk.below (grow_below X))).mono (fun e w7 h => ⟨by rw [h.1, safe3], h.2⟩)))))
          refine wpQuiet_nil ?_
          intro _ hw'
          obtain ⟨X, rfl⟩ := hw'
          have HX := hide (HO6.out.grew X.2)
          clear hcx hcb hne hd1 hd2 hle hsf hqc
          go_wp2
          go_roundw
          case rel => exact ⟨k + 1, by omega, by omega, by go_num, v5, D5, HX.out, H5.out⟩
          case measure => simp [intOf]; omega
        · have m0 : (kd == 0) = false := beq_eq_false_iff_ne.2 n0
          have m1 : (kd == 1) = false := beq_eq_false_iff_ne.2 n1
          have m2 : (kd == 2) = false := beq_eq_false_iff_ne.2 n2
          have m3 : (kd == 3) = false := beq_eq_false_iff_ne.2 n3
          have m4 : (kd == 4) = false := beq_eq_false_iff_ne.2 n4
          have m7 : (kd == 7) = false := beq_eq_false_iff_ne.2 n7
          have m8 : (kd == 8) = false := beq_eq_false_iff_ne.2 n8
          clear n0 n1 n2 n3 n4 n7 n8
          go_wp2_with fail
          have O5 := HO.out.alloc (.cells #[.int .i64 kd, .int .i64 A.f, .int .i64 A.g, .slice bo A.b.length bc, .int .i64 A.n, .slice ko A.keep.length kc] 30)
          have H5 := HH
          generalize hv5 : v = v5 at O5
          generalize hD5 : D = D5 at O5 H5
          refine (O5.read 3).mono ?_
          rintro e w6 ⟨q, rfl, hq, B6, O6⟩
          rw [read3] at hq
          rw [read3]
          have hpre := H5.out.1
          have hsf := H5.out.2
          have hle := hpre.length_le
          obtain ⟨qa, qc, rfl, hqc⟩ := own_shape hq
          have hqt := own_take hq hle
          rw [← List.prefix_iff_eq_take.1 hpre, LB.out] at hqt
          have hne := grow_ne w6
          have hcx := fun X : Grow w6 => run_conv_rd (P := Try.prog) Try.underlying27 Try.underlying5 Try.underlying9 ((Rd.own hqt).below X.2)
          have hcb := fun X : Grow w6 => run_conv_rd (P := Try.prog) Try.underlying27 Try.underlying5 Try.underlying9 ((rd_in RB.out O6.below (Nat.le_refl _)).below X.2)
          generalize hq3 : (D5.b 3).length = q3 at *
          rw [LB.out] at hle hsf
          have HO6 := hide O6
          have HQ3 := hide hq3
          have hd1 : decide (q3 < lx) = false := by simp; omega
          have hd2 : decide (D5.s 3 < lx) = false := by simp; omega
          clear hq hqt hpre O6 B6 O5 hq3 c0 c1 c2 c3 c4 c5 lb ln
          go_wp2_with fail
          refine wp_region_grow (by kernel_rfl) (by kernel_rfl) ?_
          repeat (go_big_quiet_step ((rename_i X; exact grow_of ((safe_any _ _ _ 3 _ (HO6.out.dk.below (grow_below X))).mono (fun e w7 h => ⟨by rw [h.1, safe3], h.2⟩)))))
          refine wpQuiet_nil ?_
          intro _ hw'
          obtain ⟨X, rfl⟩ := hw'
          have HX := hide (HO6.out.grew X.2)
          clear hcx hcb hne hd1 hd2 hle hsf hqc
          go_wp2
          go_roundw
          case rel => exact ⟨k + 1, by omega, by omega, by go_num, v5, D5, HX.out, H5.out⟩
          case measure => simp [intOf]; omega
      · have HO := hide O
        clear O hH
        rcases (show ¬ k < acts.length ∨ (k < acts.length ∧ ¬ k < 60) by omega) with h2 | ⟨h2, h3⟩
        all_goals
          clear hlt
          go_wp2_with (go_at_call 20; refine (known_any _).mono ?_; rintro e wz ⟨rfl, BZ⟩; have HZ := hide (HO.out.below.trans (BZ.mono HO.out.size)); clear BZ)
          go_ret
          exact ⟨rfl, HZ.out⟩
end Go.Proofs.Ytgobnnciijlpaaa
