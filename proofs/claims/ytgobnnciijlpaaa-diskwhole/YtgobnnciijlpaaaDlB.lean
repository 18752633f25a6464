/- The walk of DiskWhole. -/
import Derived.Test.YtgobnnciijlpaaaDlA
namespace Go.Proofs.Ytgobnnciijlpaaa
open Go.ChangeShapes Go.WideShapes Go.ChangeAt Go.RowKit Go.DsMem Go.DsDk
set_option linter.unusedVariables false

/-- the disk of DiskWhole when the call that fails is told -/
def W1 (a : List UInt8) : Dk := (Dk.new.append 0 a).1
def W2 (a : List UInt8) : Dk := ((W1 a).sync 0).1
def W3 (a : List UInt8) (n : Int) : Dk := (W2 a).fail n
def W4 (a b : List UInt8) (n : Int) : Dk := ((W3 a n).append 1 b).1
def W5 (a b : List UInt8) (n : Int) : Dk := ((W4 a b n).sync 1).1
def W6 (a b : List UInt8) (n : Int) : Dk := ((W5 a b n).rename 1 0).1
theorem okf0 : okf 0 = true := by decide
theorem okf1 : okf 1 = true := by decide
theorem w1_eq {a : List UInt8} (ha : a.length ≤ 1000) : Dk.new.append 0 a = (⟨upd (fun _ => []) 0 a, fun _ => 0, 0, false⟩, 0) := by
  have h : ¬ 1048576 < a.length := by omega
  simp [Dk.append, okf0, Dk.new, Dk.called, Dk.err, h]
theorem w2_eq {a : List UInt8} (ha : a.length ≤ 1000) : (W1 a).sync 0 = (⟨upd (fun _ => []) 0 a, upd (fun _ => 0) 0 a.length, 0, false⟩, 0) := by
  unfold W1; rw [w1_eq ha]
  simp [Dk.sync, Dk.start, okf0, Dk.called, Dk.err, upd_same]
theorem w4_eq {a b : List UInt8} (n : Int) (ha : a.length ≤ 1000) (hb : b.length ≤ 1000) :
    (W3 a n).append 1 b = ((⟨upd (upd (fun _ => []) 0 a) 1 b, upd (fun _ => 0) 0 a.length, n.toNat, false⟩ : Dk).called, if n.toNat = 1 then 13 else 0) := by
  have h : ¬ 1048576 < b.length := by omega
  unfold W3 W2; rw [w2_eq ha]
  by_cases h1 : n.toNat = 1
  · simp [Dk.append, okf1, Dk.fail, Dk.err, upd, h, h1]
  · simp [Dk.append, okf1, Dk.fail, Dk.err, upd, h, h1]
theorem w5_eq {a b : List UInt8} (n : Int) (ha : a.length ≤ 1000) (hb : b.length ≤ 1000) (h1 : n.toNat ≠ 1) :
    (W4 a b n).sync 1 = if n.toNat = 2 then (⟨upd (upd (fun _ => []) 0 a) 1 b, upd (fun _ => 0) 0 a.length, 0, true⟩, 13) else (⟨upd (upd (fun _ => []) 0 a) 1 b, upd (upd (fun _ => 0) 0 a.length) 1 b.length, n.toNat - 1 - 1, false⟩, 0) := by
  unfold W4; rw [w4_eq n ha hb]
  by_cases h0 : n.toNat = 0
  · simp [Dk.sync, Dk.start, okf1, Dk.called, Dk.err, h0, upd]
  · by_cases h2 : n.toNat = 2
    · simp [Dk.sync, Dk.start, okf1, Dk.called, Dk.err, h2]
    · have e : ¬ n.toNat - 1 = 1 := by omega
      have e0 : ¬ n.toNat - 1 = 0 := by omega
      simp [Dk.sync, Dk.start, okf1, Dk.called, Dk.err, h0, h1, h2, e, e0, upd]
theorem w6_eq {a b : List UInt8} (n : Int) (ha : a.length ≤ 1000) (hb : b.length ≤ 1000) (h1 : n.toNat ≠ 1) (h2 : n.toNat ≠ 2) :
    ((W5 a b n).rename 1 0).1.b 0 = (if n.toNat = 3 then a else b) ∧ ((W5 a b n).rename 1 0).1.s 0 = (if n.toNat = 3 then a.length else b.length) := by
  unfold W5; rw [w5_eq n ha hb h1, if_neg h2]
  by_cases h3 : n.toNat = 3
  · simp [Dk.rename, Dk.start, okf0, okf1, Dk.called, Dk.err, h3, upd]
  · have e : ¬ n.toNat - 1 - 1 = 1 := by omega
    by_cases e0 : n.toNat - 1 - 1 = 0
    · simp [Dk.rename, Dk.start, okf0, okf1, Dk.called, Dk.err, h3, e0, upd]
    · simp [Dk.rename, Dk.start, okf0, okf1, Dk.called, Dk.err, h3, e, e0, upd]
/-- a file that is safe whole is read whole behind a crash -/
theorem crash_whole {D : Dk} {keep : List Int} {x : List UInt8} (hb : D.b 0 = x) (hs : D.s 0 = x.length) : (D.crash keep).read 0 = (x, 0) := by
  simp [Dk.read, okf0, Dk.crash, Dk.kept, hb, hs, List.take_of_length_le]

theorem w1_err {a : List UInt8} (ha : a.length ≤ 1000) : (Dk.new.append 0 a).2 = 0 := by rw [w1_eq ha]
theorem w2_err {a : List UInt8} (ha : a.length ≤ 1000) : ((W1 a).sync 0).2 = 0 := by rw [w2_eq ha]
theorem w4_one {a b : List UInt8} {n : Int} (ha : a.length ≤ 1000) (hb : b.length ≤ 1000) (h : n = 1) : ((W3 a n).append 1 b).2 = 13 := by rw [w4_eq n ha hb]; simp [h]
theorem w4_not {a b : List UInt8} {n : Int} (ha : a.length ≤ 1000) (hb : b.length ≤ 1000) (h : n.toNat ≠ 1) : ((W3 a n).append 1 b).2 = 0 := by rw [w4_eq n ha hb]; simp [h]
theorem w5_two {a b : List UInt8} {n : Int} (ha : a.length ≤ 1000) (hb : b.length ≤ 1000) (h : n = 2) : ((W4 a b n).sync 1).2 = 13 := by rw [w5_eq n ha hb (by omega), if_pos (by omega)]
theorem w5_not {a b : List UInt8} {n : Int} (ha : a.length ≤ 1000) (hb : b.length ≤ 1000) (h : n.toNat ≠ 1) (h2 : n.toNat ≠ 2) : ((W4 a b n).sync 1).2 = 0 := by rw [w5_eq n ha hb h, if_neg h2]
theorem w4_0 {a b : List UInt8} {n : Int} (ha : a.length ≤ 1000) (hb : b.length ≤ 1000) (keep : List Int) : ((W4 a b n).crash keep).read 0 = (a, 0) := by
  refine crash_whole ?_ ?_
  · unfold W4; rw [w4_eq n ha hb, called_b]; rfl
  · unfold W4; rw [w4_eq n ha hb, called_s]; rfl
theorem w4_0x {a b : List UInt8} {n : Int} (ha : a.length ≤ 1000) (hb : b.length ≤ 1000) (h : n = 1) (keep : List Int) : ((W4 a b n).crash keep).read 0 = (a, 0) := w4_0 ha hb keep
theorem w5_0 {a b : List UInt8} {n : Int} (ha : a.length ≤ 1000) (hb : b.length ≤ 1000) (h : n = 2) (keep : List Int) : ((W5 a b n).crash keep).read 0 = (a, 0) := by
  refine crash_whole ?_ ?_
  · unfold W5; rw [w5_eq n ha hb (by omega), if_pos (by omega)]; rfl
  · unfold W5; rw [w5_eq n ha hb (by omega), if_pos (by omega)]; rfl
theorem w6_a {a b : List UInt8} {n : Int} (ha : a.length ≤ 1000) (hb : b.length ≤ 1000) (h : n = 3) (keep : List Int) : ((W6 a b n).crash keep).read 0 = (a, 0) := by
  have := w6_eq n ha hb (by omega) (by omega)
  rw [if_pos (by omega), if_pos (by omega)] at this
  exact crash_whole this.1 this.2
theorem w6_b {a b : List UInt8} {n : Int} (ha : a.length ≤ 1000) (hb : b.length ≤ 1000) (h : n ≤ 0 ∨ 4 ≤ n) (keep : List Int) : ((W6 a b n).crash keep).read 0 = (b, 0) := by
  have := w6_eq n ha hb (by omega) (by omega)
  rw [if_neg (by omega), if_neg (by omega)] at this
  exact crash_whole this.1 this.2

set_option maxHeartbeats 4000000 in
/-- the law DiskWhole -/
theorem diskWhole_walk (a b : List UInt8) (n : Int) (keep : List Int) (x y : Option Addr) (lx cx ly cy : Nat) (z : Value) (w : World)
    (ha : Rd w (.slice x lx cx) a) (hb : Rd w (.slice y ly cy) b) (hla : a.length = lx) (hlb : b.length = ly) (hk : RdI w z keep) (hn : n ≤ 9223372036854775807) :
    Calls Try.prog 5 #[.slice x lx cx, .slice y ly cy, .int .i64 n, z] w fun e w' => e = .returned (.bool true) ∧ Below w.heap.size w w' := by
  by_cases hbig : 1000 < lx ∨ 1000 < ly
  · rcases (show 1000 < lx ∨ (¬ 1000 < lx ∧ 1000 < ly) by omega) with h1 | ⟨h1, h2⟩
    all_goals
      clear hbig
      go_enter Try.func5, Try.ntmps5
      go_wp2_with (first
        | (go_at_call 8; refine (new_any _).mono ?_; rintro e w1 ⟨rfl, hD, B1⟩; clear hD)
        | (go_at_call 20; refine (known_any _).mono ?_; rintro e w2 ⟨rfl, B2⟩))
      go_ret
      exact ⟨rfl, B1.trans (B2.mono B1.size)⟩
  · have hxa : ¬ 1000 < lx := by omega
    have hyb : ¬ 1000 < ly := by omega
    have ha' : a.length ≤ 1000 := by omega
    have hb' : b.length ≤ 1000 := by omega
    have RA := hide ha
    have RB := hide hb
    have RK := hide hk
    have LA := hide hla
    have LB := hide hlb
    clear hbig ha hb hk hla hlb
    go_enter Try.func5, Try.ntmps5
    go_wp2_with fail
    refine (new_any _).mono ?_
    rintro e w1 ⟨rfl, hD, hB⟩
    have O1 := Own.new (Below.refl w.heap.size w) (Nat.le_refl _) hD hB
    clear hD hB
    go_wp2_with fail
    refine (O1.append 0 (rd_in RA.out O1.below (Nat.le_refl _))).mono ?_
    rintro e w2 ⟨rfl, v2, O2⟩
    rw [w1_err ha']
    clear O1
    go_wp2_with fail
    refine (O2.sync 0).mono ?_
    rintro e w3 ⟨rfl, v3, O3⟩
    have e3 := w2_err ha'
    unfold W1 at e3
    rw [e3]
    clear O2 e3
    go_wp2_with fail
    refine (O3.fail n hn).mono ?_
    rintro e w4 ⟨rfl, v4, O4⟩
    have P4 : Own w.heap.size w w4 w.heap.size v4 (W3 a n) := O4
    clear O3 O4
    go_wp2_with fail
    refine (P4.append 1 (rd_in RB.out P4.below (Nat.le_refl _))).mono ?_
    rintro e w5 ⟨rfl, v5, O5⟩
    have P5 : Own w.heap.size w w5 w.heap.size v5 (W4 a b n) := O5
    clear P4 O5
    rcases (show n = 1 ∨ n = 2 ∨ n = 3 ∨ (n ≤ 0 ∨ 4 ≤ n) by omega) with h | h | h | h
    · rw [w4_one ha' hb' h]
      have HN : Hid (n = 1) := h
      have hn1 : (1 : Int) ≤ n := by omega
      have hn3 : n ≤ 3 := by omega
      clear h
      go_wp2_with fail
      refine (P5.crash RK.out).mono ?_
      rintro e w8 ⟨rfl, v8, O8⟩
      clear P5
      go_wp2_with fail
      refine (O8.read 0).mono ?_
      rintro e w9 ⟨q, rfl, hq, B9, O9⟩
      have er := w4_0x ha' hb' HN.out keep
      rw [er] at hq
      rw [er]
      have hcx := run_conv_rd (P := Try.prog) Try.underlying27 Try.underlying5 Try.underlying9 (Rd.own hq)
      have hca := run_conv_rd (P := Try.prog) Try.underlying27 Try.underlying5 Try.underlying9 (rd_in RA.out O9.below (Nat.le_refl _))
      have hcb := run_conv_rd (P := Try.prog) Try.underlying27 Try.underlying5 Try.underlying9 (rd_in RB.out O9.below (Nat.le_refl _))
      obtain ⟨ao, cap, rfl, _⟩ := own_shape hq
      have HB9 := hide O9.below
      clear hq B9 O9 O8 er
      go_wp2_with (go_at_call 20; refine (known_any _).mono ?_; rintro e wz ⟨rfl, BZ⟩; have HZ := hide (HB9.out.trans (BZ.mono HB9.out.size)); clear BZ)
      all_goals go_ret
      all_goals exact ⟨rfl, HZ.out⟩
    · rw [w4_not ha' hb' (by omega)]
      have HN : Hid (n = 2) := h
      have hn1 : (1 : Int) ≤ n := by omega
      have hn3 : n ≤ 3 := by omega
      clear h
      go_wp2_with fail
      refine (P5.sync 1).mono ?_
      rintro e w6 ⟨rfl, v6, O6⟩
      have P6 : Own w.heap.size w w6 w.heap.size v6 (W5 a b n) := O6
      rw [w5_two ha' hb' HN.out]
      clear O6 P5
      go_wp2_with fail
      refine (P6.crash RK.out).mono ?_
      rintro e w8 ⟨rfl, v8, O8⟩
      clear P6
      go_wp2_with fail
      refine (O8.read 0).mono ?_
      rintro e w9 ⟨q, rfl, hq, B9, O9⟩
      have er := w5_0 ha' hb' HN.out keep
      rw [er] at hq
      rw [er]
      have hcx := run_conv_rd (P := Try.prog) Try.underlying27 Try.underlying5 Try.underlying9 (Rd.own hq)
      have hca := run_conv_rd (P := Try.prog) Try.underlying27 Try.underlying5 Try.underlying9 (rd_in RA.out O9.below (Nat.le_refl _))
      have hcb := run_conv_rd (P := Try.prog) Try.underlying27 Try.underlying5 Try.underlying9 (rd_in RB.out O9.below (Nat.le_refl _))
      obtain ⟨ao, cap, rfl, _⟩ := own_shape hq
      have HB9 := hide O9.below
      clear hq B9 O9 O8 er
      go_wp2_with (go_at_call 20; refine (known_any _).mono ?_; rintro e wz ⟨rfl, BZ⟩; have HZ := hide (HB9.out.trans (BZ.mono HB9.out.size)); clear BZ)
      all_goals go_ret
      all_goals exact ⟨rfl, HZ.out⟩
    · rw [w4_not ha' hb' (by omega)]
      have HN : Hid (n = 3) := h
      have hn1 : (1 : Int) ≤ n := by omega
      have hn3 : n ≤ 3 := by omega
      have e5 := w5_not (a := a) (b := b) ha' hb' (show n.toNat ≠ 1 by omega) (show n.toNat ≠ 2 by omega)
      clear h
      go_wp2_with fail
      refine (P5.sync 1).mono ?_
      rintro e w6 ⟨rfl, v6, O6⟩
      have P6 : Own w.heap.size w w6 w.heap.size v6 (W5 a b n) := O6
      rw [e5]
      clear O6 P5 e5
      go_wp2_with fail
      refine (P6.rename 1 0).mono ?_
      rintro e w7 ⟨rfl, v7, O7⟩
      have P7 : Own w.heap.size w w7 w.heap.size v7 (W6 a b n) := O7
      clear O7 P6
      go_wp2_with fail
      refine (P7.crash RK.out).mono ?_
      rintro e w8 ⟨rfl, v8, O8⟩
      clear P7
      go_wp2_with fail
      refine (O8.read 0).mono ?_
      rintro e w9 ⟨q, rfl, hq, B9, O9⟩
      have er := w6_a ha' hb' HN.out keep
      rw [er] at hq
      rw [er]
      have hcx := run_conv_rd (P := Try.prog) Try.underlying27 Try.underlying5 Try.underlying9 (Rd.own hq)
      have hca := run_conv_rd (P := Try.prog) Try.underlying27 Try.underlying5 Try.underlying9 (rd_in RA.out O9.below (Nat.le_refl _))
      have hcb := run_conv_rd (P := Try.prog) Try.underlying27 Try.underlying5 Try.underlying9 (rd_in RB.out O9.below (Nat.le_refl _))
      obtain ⟨ao, cap, rfl, _⟩ := own_shape hq
      have HB9 := hide O9.below
      clear hq B9 O9 O8 er
      go_wp2_with (go_at_call 20; refine (known_any _).mono ?_; rintro e wz ⟨rfl, BZ⟩; have HZ := hide (HB9.out.trans (BZ.mono HB9.out.size)); clear BZ)
      all_goals go_ret
      all_goals exact ⟨rfl, HZ.out⟩
    · rw [w4_not ha' hb' (by omega)]
      have HN : Hid (n ≤ 0 ∨ 4 ≤ n) := h
      have e5 := w5_not (a := a) (b := b) ha' hb' (show n.toNat ≠ 1 by omega) (show n.toNat ≠ 2 by omega)
      clear h
      go_wp2_with fail
      refine (P5.sync 1).mono ?_
      rintro e w6 ⟨rfl, v6, O6⟩
      have P6 : Own w.heap.size w w6 w.heap.size v6 (W5 a b n) := O6
      rw [e5]
      clear O6 P5 e5
      go_wp2_with fail
      refine (P6.rename 1 0).mono ?_
      rintro e w7 ⟨rfl, v7, O7⟩
      have P7 : Own w.heap.size w w7 w.heap.size v7 (W6 a b n) := O7
      clear O7 P6
      go_wp2_with fail
      refine (P7.crash RK.out).mono ?_
      rintro e w8 ⟨rfl, v8, O8⟩
      clear P7
      go_wp2_with fail
      refine (O8.read 0).mono ?_
      rintro e w9 ⟨q, rfl, hq, B9, O9⟩
      have er := w6_b ha' hb' HN.out keep
      rw [er] at hq
      rw [er]
      have hcx := run_conv_rd (P := Try.prog) Try.underlying27 Try.underlying5 Try.underlying9 (Rd.own hq)
      have hca := run_conv_rd (P := Try.prog) Try.underlying27 Try.underlying5 Try.underlying9 (rd_in RA.out O9.below (Nat.le_refl _))
      have hcb := run_conv_rd (P := Try.prog) Try.underlying27 Try.underlying5 Try.underlying9 (rd_in RB.out O9.below (Nat.le_refl _))
      obtain ⟨ao, cap, rfl, _⟩ := own_shape hq
      have HB9 := hide O9.below
      clear hq B9 O9 O8 er
      go_wp2_with (go_at_call 20; refine (known_any _).mono ?_; rintro e wz ⟨rfl, BZ⟩; have HZ := hide (HB9.out.trans (BZ.mono HB9.out.size)); clear BZ)
      all_goals go_ret
      all_goals exact ⟨rfl, HZ.out⟩
end Go.Proofs.Ytgobnnciijlpaaa
