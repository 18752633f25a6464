/- The walks of ended, Append, Install of dayshiftref04. -/
import Derived.Test.YtgobnnciijlpaaaDoorRfD
import Derived.Test.YtgobnnciijlpaaaDoorJ1
namespace Go.Proofs.YtgobnnciijlpaaaDoor
open Go.ChangeShapes Go.WideShapes Go.ChangeAt Go.RowKit Go.DsMem Go.DsDk Go.DsLg
set_option linter.unusedVariables false

/-- a log of the reference, on the disk of the reference at r -/
def RLog (w : World) (m r next size : Nat) (bad : Bool) : Prop :=
  w.heap[m]? = some (.cells #[.pointer (some ⟨r, 0, none⟩), .int .u64 next, .int .i64 size, .bool bad] 50 (0, 0))
section
variable {w : World} {m r next size : Nat} {bad : Bool}
theorem RLog.c0 (h : RLog w m r next size bad) : w.cell? ⟨m, 0, none⟩ = some (.pointer (some ⟨r, 0, none⟩)) := by rw [cell_of h]; rfl
theorem RLog.c1 (h : RLog w m r next size bad) : w.cell? ⟨m, 1, none⟩ = some (.int .u64 next) := by rw [cell_of h]; rfl
theorem RLog.c2 (h : RLog w m r next size bad) : w.cell? ⟨m, 2, none⟩ = some (.int .i64 size) := by rw [cell_of h]; rfl
theorem RLog.c3 (h : RLog w m r next size bad) : w.cell? ⟨m, 3, none⟩ = some (.bool bad) := by rw [cell_of h]; rfl
theorem RLog.free (h : RLog w m r next size bad) (k : Nat) : w.frozen? ⟨m, k, none⟩ = false := frozen_of h
theorem RLog.set1 (h : RLog w m r next size bad) (n : Nat) : RLog (w.setCell ⟨m, 1, none⟩ (.int .u64 n)) m r n size bad := by unfold RLog; rw [hset_same h]; rfl
theorem RLog.set2 (h : RLog w m r next size bad) (n : Nat) : RLog (w.setCell ⟨m, 2, none⟩ (.int .i64 n)) m r next n bad := by unfold RLog; rw [hset_same h]; rfl
theorem RLog.set3 (h : RLog w m r next size bad) (b : Bool) : RLog (w.setCell ⟨m, 3, none⟩ (.bool b)) m r next size b := by unfold RLog; rw [hset_same h]; rfl
theorem RLog.only {w' : World} {S : Nat → Prop} (h : RLog w m r next size bad) (ho : Only S w w') (hn : ¬ S m) : RLog w' m r next size bad := by unfold RLog; rw [ho.block m (block_lt h) hn]; exact h
theorem RLog.moved {w' : World} {S : Nat → Prop} {g : Nat} {u u' : Nat → Value} {E E' : Dk} (h : RLog w m r next size bad) (hm : RMoved w S r g w' u' E') (hr : RefAt w S r g u E) (hn : ¬ S m) : RLog w' m r next size bad :=
  h.only hm.only (fun e => by
    rcases e with e | e
    · exact hn (by rw [e]; exact hr.sr)
    · exact hn (by rw [e]; exact hr.sg))
end
/-- ended, of a log that had no error -/
theorem rended_any (m r next size : Nat) (er : Int) (w : World) (h : RLog w m r next size false) :
    Calls Tryd.prog 52 #[.pointer (some ⟨m, 0, none⟩), .int .i64 er] w fun e w' => e = .returned (.int .i64 er) ∧ RLog w' m r next size (decide (er ≠ 0)) ∧ Only (· = m) w w' := by
  have c3 := h.c3
  have f3 := h.free 3
  by_cases h0 : er = 0
  · have hb : (er != 0) = false := by simp [h0]
    have HD : Hid (decide (er ≠ 0) = false) := by show _ = _; simp [h0]
    clear h0
    go_enter Tryd.func52, Tryd.ntmps52
    go_wp2
    go_ret
    exact ⟨rfl, by rw [HD.out]; exact h.set3 false, Only.set _ _ _ _⟩
  · have hb : (er != 0) = true := by simp [h0]
    have HD : Hid (decide (er ≠ 0) = true) := by show _ = _; simp [h0]
    clear h0
    go_enter Tryd.func52, Tryd.ntmps52
    go_wp2
    go_ret
    exact ⟨rfl, by rw [HD.out]; exact h.set3 true, Only.set _ _ _ _⟩

/-- what a call does to a log of the reference and its disk, and to nothing else -/
structure RLMoved (w : World) (S : Nat → Prop) (r g m : Nat) (w' : World) (u' : Nat → Value) (D' : Dk) (L' : Lg) : Prop where
  dk : RefAt w' (fun k => S k ∨ w.heap.size ≤ k ∧ k < w'.heap.size) r g u' D'
  log : RLog w' m r L'.next L'.size L'.broken
  only : Only (fun k => k = r ∨ k = g ∨ k = m) w w'
theorem RLMoved.stay {w w' : World} {S : Nat → Prop} {r g m : Nat} {u : Nat → Value} {D : Dk} {L : Lg} (h : RefAt w S r g u D) (hL : RLog w m r L.next L.size L.broken) (hb : Below w.heap.size w w') : RLMoved w S r g m w' u D L :=
  ⟨(h.below hb).mono (fun k hk => .inl hk) (fun k hk => by rcases hk with hk | hk; exact Nat.lt_of_lt_of_le (h.lt k hk) hb.size; exact hk.2), hL.only (S := fun _ => False) (Only.below hb) (fun h => h), Only.below hb⟩
theorem RLMoved.of {w w1 w2 : World} {S : Nat → Prop} {r g m : Nat} {u u1 : Nat → Value} {D D1 : Dk} {L : Lg} (h : RefAt w S r g u D) (hM : RMoved w S r g w1 u1 D1) (hms : ¬ S m) (hlt : m < w.heap.size) (ho : Only (· = m) w1 w2) (hL : RLog w2 m r L.next L.size L.broken) : RLMoved w S r g m w2 u1 D1 L := by
  have hz := ho.size
  have hA := hM.dk.stays ho (fun k hk e => by rw [e] at hk; rcases hk with hk | hk; exact hms hk; omega)
  refine ⟨hA.mono (fun k hk => ?_) (fun k hk => ?_), hL, (hM.only.mono fun _ _ e => by rcases e with e | e; exact .inl e; exact .inr (.inl e)).trans ho (fun _ _ e => .inr (.inr e))⟩
  · rcases hk with hk | hk
    · exact .inl hk
    · exact .inr ⟨hk.1, by omega⟩
  · rcases hk with hk | hk
    · have := hM.dk.lt k (.inl hk); omega
    · exact hk.2
theorem RMoved.stay {w w' : World} {S : Nat → Prop} {r g : Nat} {u : Nat → Value} {D : Dk} (h : RefAt w S r g u D) (hb : Below w.heap.size w w') : RMoved w S r g w' u D :=
  ⟨(h.below hb).mono (fun k hk => .inl hk) (fun k hk => by rcases hk with hk | hk; exact Nat.lt_of_lt_of_le (h.lt k hk) hb.size; exact hk.2), Only.below hb⟩

theorem frF_eq (n : Nat) (rec : List UInt8) (h : ¬ 60000 < rec.length) : frF n rec = frameB n rec := by unfold frF; rw [if_neg h]
theorem frE_eq (rec : List UInt8) (h : ¬ 60000 < rec.length) : frE rec = 0 := by unfold frE; rw [if_neg h]

set_option maxHeartbeats 2000000 in
set_option maxRecDepth 10000 in
theorem rlapp_1 (S : Nat → Prop) (r g m : Nat) (u : Nat → Value) (D : Dk) (L : Lg) (sl : Value) (rec f : List UInt8) (w : World) (hL : RLog w m r L.next L.size false) (h : RefAt w S r g u D) (hms : ¬ S m) (hr : Rd w sl rec) (hn : L.next < 18446744073709551616) (hz : L.size < 4611686018427387904) (hbig : ¬ 60000 < rec.length) (hf : f = frameB L.next rec) (h1 : ¬ (D.append 0 f).2 = 0) :
    Calls Tryd.prog 16 #[.pointer (some ⟨m, 0, none⟩), sl] w fun e w' => e = .returned (.int .i64 ((D.append 0 f).2)) ∧ ∃ u', RLMoved w S r g m w' u' ((D.append 0 f).1) ⟨L.next, L.size, true⟩ := by
  have hlt := block_lt hL
  have hfl : f.length ≤ 60016 := by rw [hf, frameB_len]; omega
  have c1 := hL.c1
  have c3 := hL.c3
  have HF := hide (frF_eq L.next rec hbig)
  have HFE := hide (frE_eq rec hbig)
  have HFR := hide (rframe_all L.next rec sl w hr (by exact hn))
  have HL := hide hL
  have HA := hide h
  have HFF := hide hf
  have hq : (((D.append 0 f).2) == 0) = false := by simp [h1]
  have HNZ := hide h1
  clear hL h hr hf hbig h1
  generalize hge : (D.append 0 f).2 = er at *
  have HGE := hide hge
  clear hge
  go_enter Tryd.func16, Tryd.ntmps16
  go_wp2_with (first
    | (go_at_call 33; refine HFR.out.mono ?_; rintro e w0 ⟨x, rfl, hx, B0⟩; rw [HFE.out]; rw [HF.out, ← HFF.out] at hx; obtain ⟨xo, xc, rfl, _⟩ := own_shape hx; have hL0 := HL.out.only (S := fun _ => False) (Only.below B0) (fun h => h); have hM0 := RMoved.stay HA.out B0; have HT0 := hide (own_inT hx (T := fun k => k ≠ r ∧ k ≠ g) (fun k h1 h2 => by have e1 := HA.out.hd.lt; have e2 := HA.out.fl.lt; exact ⟨by omega, by omega⟩)); have HX0 := hide (Rd.own hx); have a0 := hL0.c0; have HL0 := hide hL0; have HM0 := hide hM0; clear hx hL0 B0 hM0 c1 c3)
    | (go_at_call 24; refine (rappend_any _ r g _ D 0 _ f _ HM0.out.dk HX0.out (fun _ => HT0.out) (by omega)).mono ?_; rintro e w1 ⟨rfl, v1, hm⟩; rw [HGE.out]; have hL1 := HL0.out.moved hm HM0.out.dk (fun e => by have := block_lt HL.out; rcases e with e | e; exact hms e; omega); have a1 := hL1.c0; have hM1 := HM0.out.trans hm; have HX1 := hide (Rd.onlyT HX0.out HT0.out hm.only (fun k hk e => by rcases e with e | e; exact hk.1 e; exact hk.2 e)); have HL1 := hide hL1; have HM1 := hide hM1; clear hm hL1 hM1 a0)
    | (go_at_call 52; refine (rended_any m r _ _ er _ HL1.out).mono ?_; rintro e we ⟨rfl, hLe, hOe⟩; rw [show decide (er ≠ 0) = true by simpa using HNZ.out] at hLe; have HLE := hide hLe; have HOE := hide hOe; clear hLe hOe))
  go_ret
  exact ⟨rfl, _, RLMoved.of HA.out HM1.out hms hlt HOE.out HLE.out⟩
set_option maxHeartbeats 2000000 in
set_option maxRecDepth 10000 in
theorem rlapp_2 (S : Nat → Prop) (r g m : Nat) (u : Nat → Value) (D : Dk) (L : Lg) (sl : Value) (rec f : List UInt8) (w : World) (hL : RLog w m r L.next L.size false) (h : RefAt w S r g u D) (hms : ¬ S m) (hr : Rd w sl rec) (hn : L.next < 18446744073709551616) (hz : L.size < 4611686018427387904) (hbig : ¬ 60000 < rec.length) (hf : f = frameB L.next rec) (h1 : (D.append 0 f).2 = 0) (h2 : ¬ ((D.append 0 f).1.sync 0).2 = 0) :
    Calls Tryd.prog 16 #[.pointer (some ⟨m, 0, none⟩), sl] w fun e w' => e = .returned (.int .i64 (((D.append 0 f).1.sync 0).2)) ∧ ∃ u', RLMoved w S r g m w' u' (((D.append 0 f).1.sync 0).1) ⟨L.next, L.size, true⟩ := by
  have hlt := block_lt hL
  have hfl : f.length ≤ 60016 := by rw [hf, frameB_len]; omega
  have c1 := hL.c1
  have c3 := hL.c3
  have HF := hide (frF_eq L.next rec hbig)
  have HFE := hide (frE_eq rec hbig)
  have HFR := hide (rframe_all L.next rec sl w hr (by exact hn))
  have HL := hide hL
  have HA := hide h
  have HFF := hide hf
  have H1 := hide h1
  have hq : ((((D.append 0 f).1.sync 0).2) == 0) = false := by simp [h2]
  have HNZ := hide h2
  clear hL h hr hf hbig h1 h2
  generalize hge : ((D.append 0 f).1.sync 0).2 = er at *
  have HGE := hide hge
  clear hge
  go_enter Tryd.func16, Tryd.ntmps16
  go_wp2_with (first
    | (go_at_call 33; refine HFR.out.mono ?_; rintro e w0 ⟨x, rfl, hx, B0⟩; rw [HFE.out]; rw [HF.out, ← HFF.out] at hx; obtain ⟨xo, xc, rfl, _⟩ := own_shape hx; have hL0 := HL.out.only (S := fun _ => False) (Only.below B0) (fun h => h); have hM0 := RMoved.stay HA.out B0; have HT0 := hide (own_inT hx (T := fun k => k ≠ r ∧ k ≠ g) (fun k h1 h2 => by have e1 := HA.out.hd.lt; have e2 := HA.out.fl.lt; exact ⟨by omega, by omega⟩)); have HX0 := hide (Rd.own hx); have a0 := hL0.c0; have HL0 := hide hL0; have HM0 := hide hM0; clear hx hL0 B0 hM0 c1 c3)
    | (go_at_call 24; refine (rappend_any _ r g _ D 0 _ f _ HM0.out.dk HX0.out (fun _ => HT0.out) (by omega)).mono ?_; rintro e w1 ⟨rfl, v1, hm⟩; rw [H1.out]; have hL1 := HL0.out.moved hm HM0.out.dk (fun e => by have := block_lt HL.out; rcases e with e | e; exact hms e; omega); have a1 := hL1.c0; have hM1 := HM0.out.trans hm; have HX1 := hide (Rd.onlyT HX0.out HT0.out hm.only (fun k hk e => by rcases e with e | e; exact hk.1 e; exact hk.2 e)); have HL1 := hide hL1; have HM1 := hide hM1; clear hm hL1 hM1 a0)
    | (go_at_call 48; refine (rsync_any _ r g _ (D.append 0 f).1 0 _ HM1.out.dk).mono ?_; rintro e w2 ⟨rfl, hm⟩; rw [HGE.out]; have hL2 := HL1.out.moved hm HM1.out.dk (fun e => by have := block_lt HL.out; rcases e with e | e; exact hms e; omega); have a2 := hL2.c0; have hM2 := HM1.out.trans hm; have HX2 := hide (Rd.onlyT HX1.out HT0.out hm.only (fun k hk e => by rcases e with e | e; exact hk.1 e; exact hk.2 e)); have HL2 := hide hL2; have HM2 := hide hM2; clear hm hL2 hM2 a1)
    | (go_at_call 52; refine (rended_any m r _ _ er _ HL2.out).mono ?_; rintro e we ⟨rfl, hLe, hOe⟩; rw [show decide (er ≠ 0) = true by simpa using HNZ.out] at hLe; have HLE := hide hLe; have HOE := hide hOe; clear hLe hOe))
  go_ret
  exact ⟨rfl, _, RLMoved.of HA.out HM2.out hms hlt HOE.out HLE.out⟩
set_option maxHeartbeats 2000000 in
set_option maxRecDepth 10000 in
theorem rlapp_3 (S : Nat → Prop) (r g m : Nat) (u : Nat → Value) (D : Dk) (L : Lg) (sl : Value) (rec f : List UInt8) (w : World) (hL : RLog w m r L.next L.size false) (h : RefAt w S r g u D) (hms : ¬ S m) (hr : Rd w sl rec) (hn : L.next < 18446744073709551616) (hz : L.size < 4611686018427387904) (hbig : ¬ 60000 < rec.length) (hf : f = frameB L.next rec) (h1 : (D.append 0 f).2 = 0) (h2 : ((D.append 0 f).1.sync 0).2 = 0) :
    Calls Tryd.prog 16 #[.pointer (some ⟨m, 0, none⟩), sl] w fun e w' => e = .returned (.int .i64 (0)) ∧ ∃ u', RLMoved w S r g m w' u' (((D.append 0 f).1.sync 0).1) ⟨(L.next + 1) % 18446744073709551616, L.size + 1, false⟩ := by
  have hlt := block_lt hL
  have hfl : f.length ≤ 60016 := by rw [hf, frameB_len]; omega
  have c1 := hL.c1
  have c3 := hL.c3
  have HF := hide (frF_eq L.next rec hbig)
  have HFE := hide (frE_eq rec hbig)
  have HFR := hide (rframe_all L.next rec sl w hr (by exact hn))
  have HL := hide hL
  have HA := hide h
  have HFF := hide hf
  have H1 := hide h1
  have H2 := hide h2
  have hwn : IntKind.u64.wrap ((L.next : Int) + 1) = (((L.next + 1) % 18446744073709551616 : Nat) : Int) := by rw [IntKind.wrap_u64]; omega
  clear hL h hr hf hbig h1 h2
  go_enter Tryd.func16, Tryd.ntmps16
  go_wp2_with (first
    | (go_at_call 33; refine HFR.out.mono ?_; rintro e w0 ⟨x, rfl, hx, B0⟩; rw [HFE.out]; rw [HF.out, ← HFF.out] at hx; obtain ⟨xo, xc, rfl, _⟩ := own_shape hx; have hL0 := HL.out.only (S := fun _ => False) (Only.below B0) (fun h => h); have hM0 := RMoved.stay HA.out B0; have HT0 := hide (own_inT hx (T := fun k => k ≠ r ∧ k ≠ g) (fun k h1 h2 => by have e1 := HA.out.hd.lt; have e2 := HA.out.fl.lt; exact ⟨by omega, by omega⟩)); have HX0 := hide (Rd.own hx); have a0 := hL0.c0; have HL0 := hide hL0; have HM0 := hide hM0; clear hx hL0 B0 hM0 c1 c3)
    | (go_at_call 24; refine (rappend_any _ r g _ D 0 _ f _ HM0.out.dk HX0.out (fun _ => HT0.out) (by omega)).mono ?_; rintro e w1 ⟨rfl, v1, hm⟩; rw [H1.out]; have hL1 := HL0.out.moved hm HM0.out.dk (fun e => by have := block_lt HL.out; rcases e with e | e; exact hms e; omega); have a1 := hL1.c0; have hM1 := HM0.out.trans hm; have HX1 := hide (Rd.onlyT HX0.out HT0.out hm.only (fun k hk e => by rcases e with e | e; exact hk.1 e; exact hk.2 e)); have HL1 := hide hL1; have HM1 := hide hM1; clear hm hL1 hM1 a0)
    | (go_at_call 48; refine (rsync_any _ r g _ (D.append 0 f).1 0 _ HM1.out.dk).mono ?_; rintro e w2 ⟨rfl, hm⟩; rw [H2.out]; have hL2 := HL1.out.moved hm HM1.out.dk (fun e => by have := block_lt HL.out; rcases e with e | e; exact hms e; omega); have a2 := hL2.c0; have hM2 := HM1.out.trans hm; have HX2 := hide (Rd.onlyT HX1.out HT0.out hm.only (fun k hk e => by rcases e with e | e; exact hk.1 e; exact hk.2 e)); have b1 := hL2.c1; have f1 := hL2.free 1; have b2 := hL2.c2; have f2 := hL2.free 2; have HL2 := hide hL2; have HM2 := hide hM2; clear hm hL2 hM2 a1)
    | (go_at_call 52; refine (rended_any m r _ _ 0 _ (by exact (HL2.out.set1 ((L.next + 1) % 18446744073709551616)).set2 (L.size + 1))).mono ?_; rintro e we ⟨rfl, hLe, hOe⟩; have HLE := hide hLe; have HOE := hide (((Only.set _ _ _ _).trans (Only.set _ _ _ _) (fun _ _ h => h) : Only (· = m) w2 _).trans hOe (fun _ _ h => h)); clear hLe hOe))
  go_ret
  exact ⟨rfl, _, RLMoved.of HA.out HM2.out hms hlt HOE.out HLE.out⟩
end Go.Proofs.YtgobnnciijlpaaaDoor
