/- The walk of Install of dayshiftref04. -/
import Derived.Test.YtgobnnciijlpaaaDoorRlA
import Derived.Test.YtgobnnciijlpaaaDoorRfC
namespace Go.Proofs.YtgobnnciijlpaaaDoor
open Go.ChangeShapes Go.WideShapes Go.ChangeAt Go.RowKit Go.DsMem Go.DsDk Go.DsLg
set_option linter.unusedVariables false

set_option maxHeartbeats 2000000 in
set_option maxRecDepth 10000 in
theorem rlins_1 (S : Nat → Prop) (r g m : Nat) (u : Nat → Value) (D D1 : Dk) (er : Int) (L : Lg) (sl : Value) (rec f : List UInt8) (w : World) (hL : RLog w m r L.next L.size false) (h : RefAt w S r g u D) (hms : ¬ S m) (hr : Rd w sl rec) (hn : L.next < 18446744073709551616) (hbig : ¬ 60000 < rec.length) (hf : f = frameB (lessN L.next) rec) (h1 : D.clear 3 = (D1, er)) (hnz : er ≠ 0) :
    Calls Tryd.prog 20 #[.pointer (some ⟨m, 0, none⟩), sl] w fun e w' => e = .returned (.int .i64 er) ∧ ∃ u', RLMoved w S r g m w' u' D1 ⟨L.next, L.size, true⟩ := by
  have hlt := block_lt hL
  have hfl : f.length ≤ 60016 := by rw [hf, frameB_len]; omega
  have c1 := hL.c1
  have c3 := hL.c3
  have HF := hide (frF_eq (lessN L.next) rec hbig)
  have HFE := hide (frE_eq rec hbig)
  have HFR := hide (rframe_all (lessN L.next) rec sl w hr (by unfold lessN; omega))
  have HL := hide hL
  have HA := hide h
  have HFF := hide hf
  have hwl : IntKind.u64.wrap ((L.next : Int) - 1) = ((lessN L.next : Nat) : Int) := by rw [IntKind.wrap_u64]; unfold lessN; omega
  have H1 := hide h1
  have hq : (er == 0) = false := by simp [hnz]
  have HNZ := hide hnz
  clear hnz
  clear hL h hr hf hbig h1
  go_enter Tryd.func20, Tryd.ntmps20
  go_wp2_with fail
  refine HFR.out.mono ?_
  rintro e w0 ⟨x, rfl, hx, B0⟩
  rw [HFE.out]
  rw [HF.out, ← HFF.out] at hx
  obtain ⟨xo, xc, rfl, _⟩ := own_shape hx
  have hL0 := HL.out.only (S := fun _ => False) (Only.below B0) (fun h => h)
  have HT0 := hide (own_inT hx (T := fun k => k ≠ r ∧ k ≠ g) (fun k h1 h2 => by have e1 := HA.out.hd.lt; have e2 := HA.out.fl.lt; exact ⟨by omega, by omega⟩))
  have HX0 := hide (Rd.own hx)
  have a0 := hL0.c0
  have HL0 := hide hL0
  have HM0 := hide (RMoved.stay HA.out B0)
  clear hx hL0 B0 c1 c3 HFR
  go_wp2_with fail
  refine (rclear_any _ r g _ D 3 _ HM0.out.dk).mono ?_
  rintro e w1 ⟨rfl, v1, hm⟩
  rw [H1.out] at hm
  rw [H1.out]
  have hL1 := HL0.out.moved hm HM0.out.dk (fun e => by have := block_lt HL.out; rcases e with e | e; exact hms e; omega)
  have a1 := hL1.c0
  have HX1 := hide (Rd.onlyT HX0.out HT0.out hm.only (fun k hk e => by rcases e with e | e; exact hk.1 e; exact hk.2 e))
  have HL1 := hide hL1
  have HM1 := hide (HM0.out.trans hm)
  clear hm hL1 a0 HL0 HM0 HX0
  go_wp2_with fail
  refine (rended_any m r _ _ er _ HL1.out).mono ?_
  rintro e we ⟨rfl, hLe, hOe⟩
  rw [show decide (er ≠ 0) = true by simpa using HNZ.out] at hLe
  have HLE := hide hLe
  have HOE := hide hOe
  clear hLe hOe
  go_wp2
  go_ret
  exact ⟨rfl, _, RLMoved.of HA.out HM1.out hms hlt HOE.out HLE.out⟩
set_option maxHeartbeats 2000000 in
set_option maxRecDepth 10000 in
theorem rlins_2 (S : Nat → Prop) (r g m : Nat) (u : Nat → Value) (D D1 D2 : Dk) (er : Int) (L : Lg) (sl : Value) (rec f : List UInt8) (w : World) (hL : RLog w m r L.next L.size false) (h : RefAt w S r g u D) (hms : ¬ S m) (hr : Rd w sl rec) (hn : L.next < 18446744073709551616) (hbig : ¬ 60000 < rec.length) (hf : f = frameB (lessN L.next) rec) (h1 : D.clear 3 = (D1, 0)) (h2 : D1.append 3 f = (D2, er)) (hnz : er ≠ 0) :
    Calls Tryd.prog 20 #[.pointer (some ⟨m, 0, none⟩), sl] w fun e w' => e = .returned (.int .i64 er) ∧ ∃ u', RLMoved w S r g m w' u' D2 ⟨L.next, L.size, true⟩ := by
  have hlt := block_lt hL
  have hfl : f.length ≤ 60016 := by rw [hf, frameB_len]; omega
  have c1 := hL.c1
  have c3 := hL.c3
  have HF := hide (frF_eq (lessN L.next) rec hbig)
  have HFE := hide (frE_eq rec hbig)
  have HFR := hide (rframe_all (lessN L.next) rec sl w hr (by unfold lessN; omega))
  have HL := hide hL
  have HA := hide h
  have HFF := hide hf
  have hwl : IntKind.u64.wrap ((L.next : Int) - 1) = ((lessN L.next : Nat) : Int) := by rw [IntKind.wrap_u64]; unfold lessN; omega
  have H1 := hide h1
  have H2 := hide h2
  have hq : (er == 0) = false := by simp [hnz]
  have HNZ := hide hnz
  clear hnz
  clear hL h hr hf hbig h1 h2
  go_enter Tryd.func20, Tryd.ntmps20
  go_wp2_with fail
  refine HFR.out.mono ?_
  rintro e w0 ⟨x, rfl, hx, B0⟩
  rw [HFE.out]
  rw [HF.out, ← HFF.out] at hx
  obtain ⟨xo, xc, rfl, _⟩ := own_shape hx
  have hL0 := HL.out.only (S := fun _ => False) (Only.below B0) (fun h => h)
  have HT0 := hide (own_inT hx (T := fun k => k ≠ r ∧ k ≠ g) (fun k h1 h2 => by have e1 := HA.out.hd.lt; have e2 := HA.out.fl.lt; exact ⟨by omega, by omega⟩))
  have HX0 := hide (Rd.own hx)
  have a0 := hL0.c0
  have HL0 := hide hL0
  have HM0 := hide (RMoved.stay HA.out B0)
  clear hx hL0 B0 c1 c3 HFR
  go_wp2_with fail
  refine (rclear_any _ r g _ D 3 _ HM0.out.dk).mono ?_
  rintro e w1 ⟨rfl, v1, hm⟩
  rw [H1.out] at hm
  rw [H1.out]
  have hL1 := HL0.out.moved hm HM0.out.dk (fun e => by have := block_lt HL.out; rcases e with e | e; exact hms e; omega)
  have a1 := hL1.c0
  have HX1 := hide (Rd.onlyT HX0.out HT0.out hm.only (fun k hk e => by rcases e with e | e; exact hk.1 e; exact hk.2 e))
  have HL1 := hide hL1
  have HM1 := hide (HM0.out.trans hm)
  clear hm hL1 a0 HL0 HM0 HX0
  go_wp2_with fail
  refine (rappend_any _ r g _ D1 3 _ f _ HM1.out.dk HX1.out (fun _ => HT0.out) (by omega)).mono ?_
  rintro e w2 ⟨rfl, v2, hm⟩
  rw [H2.out] at hm
  rw [H2.out]
  have hL2 := HL1.out.moved hm HM1.out.dk (fun e => by have := block_lt HL.out; rcases e with e | e; exact hms e; omega)
  have a2 := hL2.c0
  have HX2 := hide (Rd.onlyT HX1.out HT0.out hm.only (fun k hk e => by rcases e with e | e; exact hk.1 e; exact hk.2 e))
  have HL2 := hide hL2
  have HM2 := hide (HM1.out.trans hm)
  clear hm hL2 a1 HL1 HM1 HX1
  go_wp2_with fail
  refine (rended_any m r _ _ er _ HL2.out).mono ?_
  rintro e we ⟨rfl, hLe, hOe⟩
  rw [show decide (er ≠ 0) = true by simpa using HNZ.out] at hLe
  have HLE := hide hLe
  have HOE := hide hOe
  clear hLe hOe
  go_wp2
  go_ret
  exact ⟨rfl, _, RLMoved.of HA.out HM2.out hms hlt HOE.out HLE.out⟩
set_option maxHeartbeats 2000000 in
set_option maxRecDepth 10000 in
theorem rlins_3 (S : Nat → Prop) (r g m : Nat) (u : Nat → Value) (D D1 D2 D3 : Dk) (er : Int) (L : Lg) (sl : Value) (rec f : List UInt8) (w : World) (hL : RLog w m r L.next L.size false) (h : RefAt w S r g u D) (hms : ¬ S m) (hr : Rd w sl rec) (hn : L.next < 18446744073709551616) (hbig : ¬ 60000 < rec.length) (hf : f = frameB (lessN L.next) rec) (h1 : D.clear 3 = (D1, 0)) (h2 : D1.append 3 f = (D2, 0)) (h3 : D2.sync 3 = (D3, er)) (hnz : er ≠ 0) :
    Calls Tryd.prog 20 #[.pointer (some ⟨m, 0, none⟩), sl] w fun e w' => e = .returned (.int .i64 er) ∧ ∃ u', RLMoved w S r g m w' u' D3 ⟨L.next, L.size, true⟩ := by
  have hlt := block_lt hL
  have hfl : f.length ≤ 60016 := by rw [hf, frameB_len]; omega
  have c1 := hL.c1
  have c3 := hL.c3
  have HF := hide (frF_eq (lessN L.next) rec hbig)
  have HFE := hide (frE_eq rec hbig)
  have HFR := hide (rframe_all (lessN L.next) rec sl w hr (by unfold lessN; omega))
  have HL := hide hL
  have HA := hide h
  have HFF := hide hf
  have hwl : IntKind.u64.wrap ((L.next : Int) - 1) = ((lessN L.next : Nat) : Int) := by rw [IntKind.wrap_u64]; unfold lessN; omega
  have H1 := hide h1
  have H2 := hide h2
  have H3 := hide h3
  have hq : (er == 0) = false := by simp [hnz]
  have HNZ := hide hnz
  clear hnz
  clear hL h hr hf hbig h1 h2 h3
  go_enter Tryd.func20, Tryd.ntmps20
  go_wp2_with fail
  refine HFR.out.mono ?_
  rintro e w0 ⟨x, rfl, hx, B0⟩
  rw [HFE.out]
  rw [HF.out, ← HFF.out] at hx
  obtain ⟨xo, xc, rfl, _⟩ := own_shape hx
  have hL0 := HL.out.only (S := fun _ => False) (Only.below B0) (fun h => h)
  have HT0 := hide (own_inT hx (T := fun k => k ≠ r ∧ k ≠ g) (fun k h1 h2 => by have e1 := HA.out.hd.lt; have e2 := HA.out.fl.lt; exact ⟨by omega, by omega⟩))
  have HX0 := hide (Rd.own hx)
  have a0 := hL0.c0
  have HL0 := hide hL0
  have HM0 := hide (RMoved.stay HA.out B0)
  clear hx hL0 B0 c1 c3 HFR
  go_wp2_with fail
  refine (rclear_any _ r g _ D 3 _ HM0.out.dk).mono ?_
  rintro e w1 ⟨rfl, v1, hm⟩
  rw [H1.out] at hm
  rw [H1.out]
  have hL1 := HL0.out.moved hm HM0.out.dk (fun e => by have := block_lt HL.out; rcases e with e | e; exact hms e; omega)
  have a1 := hL1.c0
  have HX1 := hide (Rd.onlyT HX0.out HT0.out hm.only (fun k hk e => by rcases e with e | e; exact hk.1 e; exact hk.2 e))
  have HL1 := hide hL1
  have HM1 := hide (HM0.out.trans hm)
  clear hm hL1 a0 HL0 HM0 HX0
  go_wp2_with fail
  refine (rappend_any _ r g _ D1 3 _ f _ HM1.out.dk HX1.out (fun _ => HT0.out) (by omega)).mono ?_
  rintro e w2 ⟨rfl, v2, hm⟩
  rw [H2.out] at hm
  rw [H2.out]
  have hL2 := HL1.out.moved hm HM1.out.dk (fun e => by have := block_lt HL.out; rcases e with e | e; exact hms e; omega)
  have a2 := hL2.c0
  have HX2 := hide (Rd.onlyT HX1.out HT0.out hm.only (fun k hk e => by rcases e with e | e; exact hk.1 e; exact hk.2 e))
  have HL2 := hide hL2
  have HM2 := hide (HM1.out.trans hm)
  clear hm hL2 a1 HL1 HM1 HX1
  go_wp2_with fail
  refine (rsync_any _ r g _ D2 3 _ HM2.out.dk).mono ?_
  rintro e w3 ⟨rfl, hm⟩
  rw [H3.out] at hm
  rw [H3.out]
  have hL3 := HL2.out.moved hm HM2.out.dk (fun e => by have := block_lt HL.out; rcases e with e | e; exact hms e; omega)
  have a3 := hL3.c0
  have HX3 := hide (Rd.onlyT HX2.out HT0.out hm.only (fun k hk e => by rcases e with e | e; exact hk.1 e; exact hk.2 e))
  have HL3 := hide hL3
  have HM3 := hide (HM2.out.trans hm)
  clear hm hL3 a2 HL2 HM2 HX2
  go_wp2_with fail
  refine (rended_any m r _ _ er _ HL3.out).mono ?_
  rintro e we ⟨rfl, hLe, hOe⟩
  rw [show decide (er ≠ 0) = true by simpa using HNZ.out] at hLe
  have HLE := hide hLe
  have HOE := hide hOe
  clear hLe hOe
  go_wp2
  go_ret
  exact ⟨rfl, _, RLMoved.of HA.out HM3.out hms hlt HOE.out HLE.out⟩
set_option maxHeartbeats 2000000 in
set_option maxRecDepth 10000 in
theorem rlins_4 (S : Nat → Prop) (r g m : Nat) (u : Nat → Value) (D D1 D2 D3 D4 : Dk) (er : Int) (L : Lg) (sl : Value) (rec f : List UInt8) (w : World) (hL : RLog w m r L.next L.size false) (h : RefAt w S r g u D) (hms : ¬ S m) (hr : Rd w sl rec) (hn : L.next < 18446744073709551616) (hbig : ¬ 60000 < rec.length) (hf : f = frameB (lessN L.next) rec) (h1 : D.clear 3 = (D1, 0)) (h2 : D1.append 3 f = (D2, 0)) (h3 : D2.sync 3 = (D3, 0)) (h4 : D3.rename 3 1 = (D4, er)) (hnz : er ≠ 0) :
    Calls Tryd.prog 20 #[.pointer (some ⟨m, 0, none⟩), sl] w fun e w' => e = .returned (.int .i64 er) ∧ ∃ u', RLMoved w S r g m w' u' D4 ⟨L.next, L.size, true⟩ := by
  have hlt := block_lt hL
  have hfl : f.length ≤ 60016 := by rw [hf, frameB_len]; omega
  have c1 := hL.c1
  have c3 := hL.c3
  have HF := hide (frF_eq (lessN L.next) rec hbig)
  have HFE := hide (frE_eq rec hbig)
  have HFR := hide (rframe_all (lessN L.next) rec sl w hr (by unfold lessN; omega))
  have HL := hide hL
  have HA := hide h
  have HFF := hide hf
  have hwl : IntKind.u64.wrap ((L.next : Int) - 1) = ((lessN L.next : Nat) : Int) := by rw [IntKind.wrap_u64]; unfold lessN; omega
  have H1 := hide h1
  have H2 := hide h2
  have H3 := hide h3
  have H4 := hide h4
  have hq : (er == 0) = false := by simp [hnz]
  have HNZ := hide hnz
  clear hnz
  clear hL h hr hf hbig h1 h2 h3 h4
  go_enter Tryd.func20, Tryd.ntmps20
  go_wp2_with fail
  refine HFR.out.mono ?_
  rintro e w0 ⟨x, rfl, hx, B0⟩
  rw [HFE.out]
  rw [HF.out, ← HFF.out] at hx
  obtain ⟨xo, xc, rfl, _⟩ := own_shape hx
  have hL0 := HL.out.only (S := fun _ => False) (Only.below B0) (fun h => h)
  have HT0 := hide (own_inT hx (T := fun k => k ≠ r ∧ k ≠ g) (fun k h1 h2 => by have e1 := HA.out.hd.lt; have e2 := HA.out.fl.lt; exact ⟨by omega, by omega⟩))
  have HX0 := hide (Rd.own hx)
  have a0 := hL0.c0
  have HL0 := hide hL0
  have HM0 := hide (RMoved.stay HA.out B0)
  clear hx hL0 B0 c1 c3 HFR
  go_wp2_with fail
  refine (rclear_any _ r g _ D 3 _ HM0.out.dk).mono ?_
  rintro e w1 ⟨rfl, v1, hm⟩
  rw [H1.out] at hm
  rw [H1.out]
  have hL1 := HL0.out.moved hm HM0.out.dk (fun e => by have := block_lt HL.out; rcases e with e | e; exact hms e; omega)
  have a1 := hL1.c0
  have HX1 := hide (Rd.onlyT HX0.out HT0.out hm.only (fun k hk e => by rcases e with e | e; exact hk.1 e; exact hk.2 e))
  have HL1 := hide hL1
  have HM1 := hide (HM0.out.trans hm)
  clear hm hL1 a0 HL0 HM0 HX0
  go_wp2_with fail
  refine (rappend_any _ r g _ D1 3 _ f _ HM1.out.dk HX1.out (fun _ => HT0.out) (by omega)).mono ?_
  rintro e w2 ⟨rfl, v2, hm⟩
  rw [H2.out] at hm
  rw [H2.out]
  have hL2 := HL1.out.moved hm HM1.out.dk (fun e => by have := block_lt HL.out; rcases e with e | e; exact hms e; omega)
  have a2 := hL2.c0
  have HX2 := hide (Rd.onlyT HX1.out HT0.out hm.only (fun k hk e => by rcases e with e | e; exact hk.1 e; exact hk.2 e))
  have HL2 := hide hL2
  have HM2 := hide (HM1.out.trans hm)
  clear hm hL2 a1 HL1 HM1 HX1
  go_wp2_with fail
  refine (rsync_any _ r g _ D2 3 _ HM2.out.dk).mono ?_
  rintro e w3 ⟨rfl, hm⟩
  rw [H3.out] at hm
  rw [H3.out]
  have hL3 := HL2.out.moved hm HM2.out.dk (fun e => by have := block_lt HL.out; rcases e with e | e; exact hms e; omega)
  have a3 := hL3.c0
  have HX3 := hide (Rd.onlyT HX2.out HT0.out hm.only (fun k hk e => by rcases e with e | e; exact hk.1 e; exact hk.2 e))
  have HL3 := hide hL3
  have HM3 := hide (HM2.out.trans hm)
  clear hm hL3 a2 HL2 HM2 HX2
  go_wp2_with fail
  refine (rrename_any _ r g _ D3 3 1 _ HM3.out.dk).mono ?_
  rintro e w4 ⟨rfl, v4, hm⟩
  rw [H4.out] at hm
  rw [H4.out]
  have hL4 := HL3.out.moved hm HM3.out.dk (fun e => by have := block_lt HL.out; rcases e with e | e; exact hms e; omega)
  have a4 := hL4.c0
  have HX4 := hide (Rd.onlyT HX3.out HT0.out hm.only (fun k hk e => by rcases e with e | e; exact hk.1 e; exact hk.2 e))
  have HL4 := hide hL4
  have HM4 := hide (HM3.out.trans hm)
  clear hm hL4 a3 HL3 HM3 HX3
  go_wp2_with fail
  refine (rended_any m r _ _ er _ HL4.out).mono ?_
  rintro e we ⟨rfl, hLe, hOe⟩
  rw [show decide (er ≠ 0) = true by simpa using HNZ.out] at hLe
  have HLE := hide hLe
  have HOE := hide hOe
  clear hLe hOe
  go_wp2
  go_ret
  exact ⟨rfl, _, RLMoved.of HA.out HM4.out hms hlt HOE.out HLE.out⟩
set_option maxHeartbeats 2000000 in
set_option maxRecDepth 10000 in
theorem rlins_5 (S : Nat → Prop) (r g m : Nat) (u : Nat → Value) (D D1 D2 D3 D4 D5 : Dk) (er : Int) (L : Lg) (sl : Value) (rec f : List UInt8) (w : World) (hL : RLog w m r L.next L.size false) (h : RefAt w S r g u D) (hms : ¬ S m) (hr : Rd w sl rec) (hn : L.next < 18446744073709551616) (hbig : ¬ 60000 < rec.length) (hf : f = frameB (lessN L.next) rec) (h1 : D.clear 3 = (D1, 0)) (h2 : D1.append 3 f = (D2, 0)) (h3 : D2.sync 3 = (D3, 0)) (h4 : D3.rename 3 1 = (D4, 0)) (h5 : D4.clear 0 = (D5, er)) (hnz : er ≠ 0) :
    Calls Tryd.prog 20 #[.pointer (some ⟨m, 0, none⟩), sl] w fun e w' => e = .returned (.int .i64 er) ∧ ∃ u', RLMoved w S r g m w' u' D5 ⟨L.next, L.size, true⟩ := by
  have hlt := block_lt hL
  have hfl : f.length ≤ 60016 := by rw [hf, frameB_len]; omega
  have c1 := hL.c1
  have c3 := hL.c3
  have HF := hide (frF_eq (lessN L.next) rec hbig)
  have HFE := hide (frE_eq rec hbig)
  have HFR := hide (rframe_all (lessN L.next) rec sl w hr (by unfold lessN; omega))
  have HL := hide hL
  have HA := hide h
  have HFF := hide hf
  have hwl : IntKind.u64.wrap ((L.next : Int) - 1) = ((lessN L.next : Nat) : Int) := by rw [IntKind.wrap_u64]; unfold lessN; omega
  have H1 := hide h1
  have H2 := hide h2
  have H3 := hide h3
  have H4 := hide h4
  have H5 := hide h5
  have hq : (er == 0) = false := by simp [hnz]
  have HNZ := hide hnz
  clear hnz
  clear hL h hr hf hbig h1 h2 h3 h4 h5
  go_enter Tryd.func20, Tryd.ntmps20
  go_wp2_with fail
  refine HFR.out.mono ?_
  rintro e w0 ⟨x, rfl, hx, B0⟩
  rw [HFE.out]
  rw [HF.out, ← HFF.out] at hx
  obtain ⟨xo, xc, rfl, _⟩ := own_shape hx
  have hL0 := HL.out.only (S := fun _ => False) (Only.below B0) (fun h => h)
  have HT0 := hide (own_inT hx (T := fun k => k ≠ r ∧ k ≠ g) (fun k h1 h2 => by have e1 := HA.out.hd.lt; have e2 := HA.out.fl.lt; exact ⟨by omega, by omega⟩))
  have HX0 := hide (Rd.own hx)
  have a0 := hL0.c0
  have HL0 := hide hL0
  have HM0 := hide (RMoved.stay HA.out B0)
  clear hx hL0 B0 c1 c3 HFR
  go_wp2_with fail
  refine (rclear_any _ r g _ D 3 _ HM0.out.dk).mono ?_
  rintro e w1 ⟨rfl, v1, hm⟩
  rw [H1.out] at hm
  rw [H1.out]
  have hL1 := HL0.out.moved hm HM0.out.dk (fun e => by have := block_lt HL.out; rcases e with e | e; exact hms e; omega)
  have a1 := hL1.c0
  have HX1 := hide (Rd.onlyT HX0.out HT0.out hm.only (fun k hk e => by rcases e with e | e; exact hk.1 e; exact hk.2 e))
  have HL1 := hide hL1
  have HM1 := hide (HM0.out.trans hm)
  clear hm hL1 a0 HL0 HM0 HX0
  go_wp2_with fail
  refine (rappend_any _ r g _ D1 3 _ f _ HM1.out.dk HX1.out (fun _ => HT0.out) (by omega)).mono ?_
  rintro e w2 ⟨rfl, v2, hm⟩
  rw [H2.out] at hm
  rw [H2.out]
  have hL2 := HL1.out.moved hm HM1.out.dk (fun e => by have := block_lt HL.out; rcases e with e | e; exact hms e; omega)
  have a2 := hL2.c0
  have HX2 := hide (Rd.onlyT HX1.out HT0.out hm.only (fun k hk e => by rcases e with e | e; exact hk.1 e; exact hk.2 e))
  have HL2 := hide hL2
  have HM2 := hide (HM1.out.trans hm)
  clear hm hL2 a1 HL1 HM1 HX1
  go_wp2_with fail
  refine (rsync_any _ r g _ D2 3 _ HM2.out.dk).mono ?_
  rintro e w3 ⟨rfl, hm⟩
  rw [H3.out] at hm
  rw [H3.out]
  have hL3 := HL2.out.moved hm HM2.out.dk (fun e => by have := block_lt HL.out; rcases e with e | e; exact hms e; omega)
  have a3 := hL3.c0
  have HX3 := hide (Rd.onlyT HX2.out HT0.out hm.only (fun k hk e => by rcases e with e | e; exact hk.1 e; exact hk.2 e))
  have HL3 := hide hL3
  have HM3 := hide (HM2.out.trans hm)
  clear hm hL3 a2 HL2 HM2 HX2
  go_wp2_with fail
  refine (rrename_any _ r g _ D3 3 1 _ HM3.out.dk).mono ?_
  rintro e w4 ⟨rfl, v4, hm⟩
  rw [H4.out] at hm
  rw [H4.out]
  have hL4 := HL3.out.moved hm HM3.out.dk (fun e => by have := block_lt HL.out; rcases e with e | e; exact hms e; omega)
  have a4 := hL4.c0
  have HX4 := hide (Rd.onlyT HX3.out HT0.out hm.only (fun k hk e => by rcases e with e | e; exact hk.1 e; exact hk.2 e))
  have HL4 := hide hL4
  have HM4 := hide (HM3.out.trans hm)
  clear hm hL4 a3 HL3 HM3 HX3
  go_wp2_with fail
  refine (rclear_any _ r g _ D4 0 _ HM4.out.dk).mono ?_
  rintro e w5 ⟨rfl, v5, hm⟩
  rw [H5.out] at hm
  rw [H5.out]
  have hL5 := HL4.out.moved hm HM4.out.dk (fun e => by have := block_lt HL.out; rcases e with e | e; exact hms e; omega)
  have a5 := hL5.c0
  have HX5 := hide (Rd.onlyT HX4.out HT0.out hm.only (fun k hk e => by rcases e with e | e; exact hk.1 e; exact hk.2 e))
  have HL5 := hide hL5
  have HM5 := hide (HM4.out.trans hm)
  clear hm hL5 a4 HL4 HM4 HX4
  go_wp2_with fail
  refine (rended_any m r _ _ er _ HL5.out).mono ?_
  rintro e we ⟨rfl, hLe, hOe⟩
  rw [show decide (er ≠ 0) = true by simpa using HNZ.out] at hLe
  have HLE := hide hLe
  have HOE := hide hOe
  clear hLe hOe
  go_wp2
  go_ret
  exact ⟨rfl, _, RLMoved.of HA.out HM5.out hms hlt HOE.out HLE.out⟩
set_option maxHeartbeats 2000000 in
set_option maxRecDepth 10000 in
theorem rlins_6 (S : Nat → Prop) (r g m : Nat) (u : Nat → Value) (D D1 D2 D3 D4 D5 : Dk) (er : Int) (L : Lg) (sl : Value) (rec f : List UInt8) (w : World) (hL : RLog w m r L.next L.size false) (h : RefAt w S r g u D) (hms : ¬ S m) (hr : Rd w sl rec) (hn : L.next < 18446744073709551616) (hbig : ¬ 60000 < rec.length) (hf : f = frameB (lessN L.next) rec) (h1 : D.clear 3 = (D1, 0)) (h2 : D1.append 3 f = (D2, 0)) (h3 : D2.sync 3 = (D3, 0)) (h4 : D3.rename 3 1 = (D4, 0)) (h5 : D4.clear 0 = (D5, 0)) :
    Calls Tryd.prog 20 #[.pointer (some ⟨m, 0, none⟩), sl] w fun e w' => e = .returned (.int .i64 0) ∧ ∃ u', RLMoved w S r g m w' u' D5 ⟨L.next, 0, false⟩ := by
  have hlt := block_lt hL
  have hfl : f.length ≤ 60016 := by rw [hf, frameB_len]; omega
  have c1 := hL.c1
  have c3 := hL.c3
  have HF := hide (frF_eq (lessN L.next) rec hbig)
  have HFE := hide (frE_eq rec hbig)
  have HFR := hide (rframe_all (lessN L.next) rec sl w hr (by unfold lessN; omega))
  have HL := hide hL
  have HA := hide h
  have HFF := hide hf
  have hwl : IntKind.u64.wrap ((L.next : Int) - 1) = ((lessN L.next : Nat) : Int) := by rw [IntKind.wrap_u64]; unfold lessN; omega
  have H1 := hide h1
  have H2 := hide h2
  have H3 := hide h3
  have H4 := hide h4
  have H5 := hide h5
  clear hL h hr hf hbig h1 h2 h3 h4 h5
  go_enter Tryd.func20, Tryd.ntmps20
  go_wp2_with fail
  refine HFR.out.mono ?_
  rintro e w0 ⟨x, rfl, hx, B0⟩
  rw [HFE.out]
  rw [HF.out, ← HFF.out] at hx
  obtain ⟨xo, xc, rfl, _⟩ := own_shape hx
  have hL0 := HL.out.only (S := fun _ => False) (Only.below B0) (fun h => h)
  have HT0 := hide (own_inT hx (T := fun k => k ≠ r ∧ k ≠ g) (fun k h1 h2 => by have e1 := HA.out.hd.lt; have e2 := HA.out.fl.lt; exact ⟨by omega, by omega⟩))
  have HX0 := hide (Rd.own hx)
  have a0 := hL0.c0
  have HL0 := hide hL0
  have HM0 := hide (RMoved.stay HA.out B0)
  clear hx hL0 B0 c1 c3 HFR
  go_wp2_with fail
  refine (rclear_any _ r g _ D 3 _ HM0.out.dk).mono ?_
  rintro e w1 ⟨rfl, v1, hm⟩
  rw [H1.out] at hm
  rw [H1.out]
  have hL1 := HL0.out.moved hm HM0.out.dk (fun e => by have := block_lt HL.out; rcases e with e | e; exact hms e; omega)
  have a1 := hL1.c0
  have HX1 := hide (Rd.onlyT HX0.out HT0.out hm.only (fun k hk e => by rcases e with e | e; exact hk.1 e; exact hk.2 e))
  have HL1 := hide hL1
  have HM1 := hide (HM0.out.trans hm)
  clear hm hL1 a0 HL0 HM0 HX0
  go_wp2_with fail
  refine (rappend_any _ r g _ D1 3 _ f _ HM1.out.dk HX1.out (fun _ => HT0.out) (by omega)).mono ?_
  rintro e w2 ⟨rfl, v2, hm⟩
  rw [H2.out] at hm
  rw [H2.out]
  have hL2 := HL1.out.moved hm HM1.out.dk (fun e => by have := block_lt HL.out; rcases e with e | e; exact hms e; omega)
  have a2 := hL2.c0
  have HX2 := hide (Rd.onlyT HX1.out HT0.out hm.only (fun k hk e => by rcases e with e | e; exact hk.1 e; exact hk.2 e))
  have HL2 := hide hL2
  have HM2 := hide (HM1.out.trans hm)
  clear hm hL2 a1 HL1 HM1 HX1
  go_wp2_with fail
  refine (rsync_any _ r g _ D2 3 _ HM2.out.dk).mono ?_
  rintro e w3 ⟨rfl, hm⟩
  rw [H3.out] at hm
  rw [H3.out]
  have hL3 := HL2.out.moved hm HM2.out.dk (fun e => by have := block_lt HL.out; rcases e with e | e; exact hms e; omega)
  have a3 := hL3.c0
  have HX3 := hide (Rd.onlyT HX2.out HT0.out hm.only (fun k hk e => by rcases e with e | e; exact hk.1 e; exact hk.2 e))
  have HL3 := hide hL3
  have HM3 := hide (HM2.out.trans hm)
  clear hm hL3 a2 HL2 HM2 HX2
  go_wp2_with fail
  refine (rrename_any _ r g _ D3 3 1 _ HM3.out.dk).mono ?_
  rintro e w4 ⟨rfl, v4, hm⟩
  rw [H4.out] at hm
  rw [H4.out]
  have hL4 := HL3.out.moved hm HM3.out.dk (fun e => by have := block_lt HL.out; rcases e with e | e; exact hms e; omega)
  have a4 := hL4.c0
  have HX4 := hide (Rd.onlyT HX3.out HT0.out hm.only (fun k hk e => by rcases e with e | e; exact hk.1 e; exact hk.2 e))
  have HL4 := hide hL4
  have HM4 := hide (HM3.out.trans hm)
  clear hm hL4 a3 HL3 HM3 HX3
  go_wp2_with fail
  refine (rclear_any _ r g _ D4 0 _ HM4.out.dk).mono ?_
  rintro e w5 ⟨rfl, v5, hm⟩
  rw [H5.out] at hm
  rw [H5.out]
  have hL5 := HL4.out.moved hm HM4.out.dk (fun e => by have := block_lt HL.out; rcases e with e | e; exact hms e; omega)
  have a5 := hL5.c0
  have HX5 := hide (Rd.onlyT HX4.out HT0.out hm.only (fun k hk e => by rcases e with e | e; exact hk.1 e; exact hk.2 e))
  have b2 := hL5.c2
  have f2 := hL5.free 2
  have HL5 := hide hL5
  have HM5 := hide (HM4.out.trans hm)
  clear hm hL5 a4 HL4 HM4 HX4
  go_wp2_with fail
  refine (rended_any m r _ _ 0 _ (by exact HL5.out.set2 0)).mono ?_
  rintro e we ⟨rfl, hLe, hOe⟩
  have HLE := hide hLe
  have HOE := hide ((Only.set _ _ _ _ : Only (· = m) w5 _).trans hOe (fun _ _ h => h))
  clear hLe hOe
  go_wp2
  go_ret
  exact ⟨rfl, _, RLMoved.of HA.out HM5.out hms hlt HOE.out HLE.out⟩

theorem rlapp_broken (m r : Nat) (next size : Nat) (sl : Value) (w : World) (hL : RLog w m r next size true) : Calls Tryd.prog 16 #[.pointer (some ⟨m, 0, none⟩), sl] w fun e w' => e = .returned (.int .i64 5) ∧ w' = w := by
  have c3 := hL.c3
  clear hL
  go_enter Tryd.func16, Tryd.ntmps16
  go_wp2
  go_ret
  exact ⟨rfl, rfl⟩
theorem rlins_broken (m r : Nat) (next size : Nat) (sl : Value) (w : World) (hL : RLog w m r next size true) : Calls Tryd.prog 20 #[.pointer (some ⟨m, 0, none⟩), sl] w fun e w' => e = .returned (.int .i64 5) ∧ w' = w := by
  have c3 := hL.c3
  clear hL
  go_enter Tryd.func20, Tryd.ntmps20
  go_wp2
  go_ret
  exact ⟨rfl, rfl⟩
set_option maxRecDepth 10000 in
theorem rlapp_big (m r : Nat) (next size : Nat) (sl : Value) (rec : List UInt8) (w : World) (hL : RLog w m r next size false) (hr : Rd w sl rec) (hbig : 60000 < rec.length) : Calls Tryd.prog 16 #[.pointer (some ⟨m, 0, none⟩), sl] w fun e w' => e = .returned (.int .i64 3) ∧ w' = w := by
  have c3 := hL.c3
  have c1 := hL.c1
  clear hL
  go_enter Tryd.func16, Tryd.ntmps16
  go_wp2_with (go_at_call 33; refine (rframe_no _ rec _ _ hr hbig).mono ?_; rintro e w1 ⟨rfl, rfl⟩)
  go_ret
  exact ⟨rfl, rfl⟩
set_option maxRecDepth 10000 in
theorem rlins_big (m r : Nat) (next size : Nat) (sl : Value) (rec : List UInt8) (w : World) (hL : RLog w m r next size false) (hr : Rd w sl rec) (hbig : 60000 < rec.length) : Calls Tryd.prog 20 #[.pointer (some ⟨m, 0, none⟩), sl] w fun e w' => e = .returned (.int .i64 3) ∧ w' = w := by
  have c3 := hL.c3
  have c1 := hL.c1
  clear hL
  go_enter Tryd.func20, Tryd.ntmps20
  go_wp2_with (go_at_call 33; refine (rframe_no _ rec _ _ hr hbig).mono ?_; rintro e w1 ⟨rfl, rfl⟩)
  go_ret
  exact ⟨rfl, rfl⟩
theorem lg_eta (L : Lg) (h : L.broken = false) : L = ⟨L.next, L.size, false⟩ := by cases L; simp_all

/-- (*Log).Append of the reference -/
theorem rlappend_any (S : Nat → Prop) (r g m : Nat) (u : Nat → Value) (D : Dk) (L : Lg) (sl : Value) (rec : List UInt8) (w : World) (hL : RLog w m r L.next L.size L.broken) (h : RefAt w S r g u D) (hms : ¬ S m) (hr : Rd w sl rec) (hn : L.next < 18446744073709551616) (hz : L.size < 4611686018427387904) :
    Calls Tryd.prog 16 #[.pointer (some ⟨m, 0, none⟩), sl] w fun e w' => e = .returned (.int .i64 (appB D L rec).2.2) ∧ ∃ u', RLMoved w S r g m w' u' (appB D L rec).1 (appB D L rec).2.1 := by
  cases hbr : L.broken with
  | true =>
    have HE : appB D L rec = (D, L, 5) := by unfold appB; rw [if_pos hbr]
    rw [HE]
    have hL2 := hL
    rw [hbr] at hL2
    exact (rlapp_broken m r _ _ sl w hL2).mono fun e w' ⟨he, hw⟩ => ⟨he, u, by rw [hw]; exact RLMoved.stay h hL (Below.refl _ _)⟩
  | false =>
    have hL2 := hL
    rw [hbr] at hL2
    by_cases hbig : 60000 < rec.length
    · have HE : appB D L rec = (D, L, 3) := by unfold appB; rw [hbr, if_neg (by decide), if_pos hbig]
      rw [HE]
      exact (rlapp_big m r _ _ sl rec w hL2 hr hbig).mono fun e w' ⟨he, hw⟩ => ⟨he, u, by rw [hw]; exact RLMoved.stay h hL (Below.refl _ _)⟩
    · have hX : appB D L rec = if (addB D (frameB L.next rec)).2 = 0 then ((addB D (frameB L.next rec)).1, ⟨(L.next + 1) % 18446744073709551616, L.size + 1, false⟩, 0) else ((addB D (frameB L.next rec)).1, ⟨L.next, L.size, true⟩, (addB D (frameB L.next rec)).2) := by
        unfold appB; rw [hbr, if_neg (by decide), if_neg hbig]
      rw [hX]
      unfold addB
      by_cases h1 : (D.append 0 (frameB L.next rec)).2 = 0
      · rw [if_pos h1]
        by_cases h2 : ((D.append 0 (frameB L.next rec)).1.sync 0).2 = 0
        · rw [if_pos h2]
          exact rlapp_3 S r g m u D L sl rec _ w hL2 h hms hr hn hz hbig rfl h1 h2
        · rw [if_neg h2]
          exact rlapp_2 S r g m u D L sl rec _ w hL2 h hms hr hn hz hbig rfl h1 h2
      · rw [if_neg h1, if_neg h1]
        exact rlapp_1 S r g m u D L sl rec _ w hL2 h hms hr hn hz hbig rfl h1

/-- (*Log).Install of the reference -/
theorem rlinstall_any (S : Nat → Prop) (r g m : Nat) (u : Nat → Value) (D : Dk) (L : Lg) (sl : Value) (rec : List UInt8) (w : World) (hL : RLog w m r L.next L.size L.broken) (h : RefAt w S r g u D) (hms : ¬ S m) (hr : Rd w sl rec) (hn : L.next < 18446744073709551616) :
    Calls Tryd.prog 20 #[.pointer (some ⟨m, 0, none⟩), sl] w fun e w' => e = .returned (.int .i64 (insB D L rec).2.2) ∧ ∃ u', RLMoved w S r g m w' u' (insB D L rec).1 (insB D L rec).2.1 := by
  cases hbr : L.broken with
  | true =>
    have HE : insB D L rec = (D, L, 5) := by unfold insB; rw [if_pos hbr]
    rw [HE]
    have hL2 := hL
    rw [hbr] at hL2
    exact (rlins_broken m r _ _ sl w hL2).mono fun e w' ⟨he, hw⟩ => ⟨he, u, by rw [hw]; exact RLMoved.stay h hL (Below.refl _ _)⟩
  | false =>
    have hL2 := hL
    rw [hbr] at hL2
    by_cases hbig : 60000 < rec.length
    · have HE : insB D L rec = (D, L, 3) := by unfold insB; rw [hbr, if_neg (by decide), if_pos hbig]
      rw [HE]
      exact (rlins_big m r _ _ sl rec w hL2 hr hbig).mono fun e w' ⟨he, hw⟩ => ⟨he, u, by rw [hw]; exact RLMoved.stay h hL (Below.refl _ _)⟩
    · have hX : insB D L rec = if (setB D (frameB (lessN L.next) rec)).2 = 0 then ((setB D (frameB (lessN L.next) rec)).1, ⟨L.next, 0, false⟩, 0) else ((setB D (frameB (lessN L.next) rec)).1, ⟨L.next, L.size, true⟩, (setB D (frameB (lessN L.next) rec)).2) := by
        unfold insB; rw [hbr, if_neg (by decide), if_neg hbig]
      rw [hX]
      generalize hf : frameB (lessN L.next) rec = f
      unfold setB replB
      rcases h1 : D.clear 3 with ⟨D1, e1⟩
      simp only
      by_cases z1 : e1 = 0
      · subst z1
        rw [if_pos rfl]
        rcases h2 : D1.append 3 f with ⟨D2, e2⟩
        simp only
        by_cases z2 : e2 = 0
        · subst z2
          rw [if_pos rfl]
          rcases h3 : D2.sync 3 with ⟨D3, e3⟩
          simp only
          by_cases z3 : e3 = 0
          · subst z3
            rw [if_pos rfl]
            rcases h4 : D3.rename 3 1 with ⟨D4, e4⟩
            simp only
            by_cases z4 : e4 = 0
            · subst z4
              rw [if_pos rfl]
              rcases h5 : D4.clear 0 with ⟨D5, e5⟩
              simp only
              by_cases z5 : e5 = 0
              · subst z5
                rw [if_pos rfl]
                exact rlins_6 S r g m u D D1 D2 D3 D4 D5 0 L sl rec _ w hL2 h hms hr hn hbig hf.symm h1 h2 h3 h4 h5
              · rw [if_neg z5]
                exact rlins_5 S r g m u D D1 D2 D3 D4 D5 e5 L sl rec _ w hL2 h hms hr hn hbig hf.symm h1 h2 h3 h4 h5 z5
            · rw [if_neg z4]
              simp only
              rw [if_neg z4]
              exact rlins_4 S r g m u D D1 D2 D3 D4 e4 L sl rec _ w hL2 h hms hr hn hbig hf.symm h1 h2 h3 h4 z4
          · rw [if_neg z3]
            simp only
            rw [if_neg z3, if_neg z3]
            exact rlins_3 S r g m u D D1 D2 D3 e3 L sl rec _ w hL2 h hms hr hn hbig hf.symm h1 h2 h3 z3
        · rw [if_neg z2]
          simp only
          rw [if_neg z2, if_neg z2]
          exact rlins_2 S r g m u D D1 D2 e2 L sl rec _ w hL2 h hms hr hn hbig hf.symm h1 h2 z2
      · rw [if_neg z1]
        simp only
        rw [if_neg z1, if_neg z1]
        exact rlins_1 S r g m u D D1 e1 L sl rec _ w hL2 h hms hr hn hbig hf.symm h1 z1
end Go.Proofs.YtgobnnciijlpaaaDoor
