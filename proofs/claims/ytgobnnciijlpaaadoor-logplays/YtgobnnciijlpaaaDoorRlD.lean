/- The walk of Open of dayshiftref04, the rest of it. -/
import Derived.Test.YtgobnnciijlpaaaDoorRlC
import Derived.Test.YtgobnnciijlpaaaDoorJ2
namespace Go.Proofs.YtgobnnciijlpaaaDoor
open Go.ChangeShapes Go.WideShapes Go.ChangeAt Go.RowKit Go.DsMem Go.DsDk Go.DsLg
set_option linter.unusedVariables false

/-- a log of the reference that is opened -/
structure ROpen (w : World) (S : Nat → Prop) (r g : Nat) (w' : World) (u' : Nat → Value) (D' : Dk) (O : Opened) (m : Nat) (x rs : Value) : Prop where
  ref : RefAt w' (fun k => S k ∨ w.heap.size ≤ k ∧ k < m) r g u' D'
  only : Only (fun k => k = r ∨ k = g) w w'
  log : RLog w' m r O.next O.recs.length false
  new : w.heap.size ≤ m
  snap : Rd w' x O.snap
  recs : RdLs w' rs O.recs
theorem ROpen.of {w w1 : World} {S : Nat → Prop} {r g next : Nat} {u1 : Nat → Value} {D1 : Dk} {snap : List UInt8} {recs : List (List UInt8)} {x rs : Value} {o : Obj} {y z : Int} (hM : RMoved w S r g w1 u1 D1) (hx : Rd w1 x snap) (hr : RdLs w1 rs recs)
    (ho : o = .cells #[.pointer (some ⟨r, 0, none⟩), .int .u64 y, .int .i64 z, .bool false] 50) (hy : y = next) (hz : z = recs.length) : ROpen w S r g (w1.alloc o) u1 D1 ⟨0, next, snap, recs⟩ w1.heap.size x rs := by
  have hb : Below w1.heap.size w1 (w1.alloc o) := (Below.refl _ _).alloc (Nat.le_refl _) _
  refine ⟨hM.dk.below hb, hM.only.trans (Only.alloc _ _ _) (fun _ _ h => h), ?_, hM.only.size, hx.below hb, hr.below hb⟩
  subst ho hy hz
  exact heap_alloc_new w1 _
set_option maxHeartbeats 4000000 in
set_option maxRecDepth 20000 in
theorem ropen_c (S : Nat → Prop) (r g : Nat) (u : Nat → Value) (D : Dk) (w : World) (h : RefAt w S r g u D) (seq first at_ : Nat) (snap : List UInt8) (recs : List (List UInt8)) (hs : snapB (D.b 1) = (seq, snap, 0)) (hc : scanB (D.b 0) = (first, recs, at_)) (hb : ¬ (behB seq first recs).2 ≠ 0) (hna : ¬ at_ < (D.b 0).length) :
    Calls Tryd.prog 13 #[.pointer (some ⟨r, 0, none⟩)] w fun e w' => ∃ m x rs, e = .returned (.tuple #[.pointer (some ⟨m, 0, none⟩), x, rs, .int .i64 0]) ∧ ROpen w S r g w' u D ⟨0, (seq + (behB seq first recs).1.length + 1) % 18446744073709551616, snap, (behB seq first recs).1⟩ m x rs := by
  have hl0 := (h.ok 0 (by omega)).2
  have hl1 := (h.ok 1 (by omega)).2
  have hok := scanB_ok (D.b 0)
  have htop := scanB_top (D.b 0)
  rw [hc] at hok htop
  obtain ⟨hf64, -, hat, h16, -⟩ := hok
  have hsq := (snapB_lt (D.b 1)).1
  rw [hs] at hsq
  simp only at hf64 hat h16 htop hsq
  have HA := hide h
  have HC := hide hc
  clear h hc
  go_enter Tryd.func13, Tryd.ntmps13
  go_wp2_with fail
  refine (rread_any S r g u D 1 w HA.out).mono ?_
  rintro e w1 ⟨s1, rfl, hs1, B1⟩
  rw [read1] at hs1
  rw [read1]
  obtain ⟨so, sc, rfl, -⟩ := own_shape hs1
  have HS1 := hide (Rd.own hs1)
  have HB1 := hide B1
  clear hs1 B1
  go_wp2_with fail
  refine (rone_any (D.b 1) _ w1 HS1.out (by omega)).mono ?_
  rintro e w2 ⟨B2, hno, hyes⟩
  have HB2 := hide (HB1.out.trans (B2.mono HB1.out.size))
  clear B2
  rcases snap_cases hs with ⟨hb0, rfl, rfl, hu⟩ | ⟨hb0, hu, hlen⟩
  · obtain rfl := hno hu
    have hbz : (((D.b 1).length : Int) == 0) = true := by simp [hb0]
    have HXV : Hid (w2.ownsRow w.heap.size 5 1 (.slice none 0 0) ([] : List UInt8).length (bvs [])) := empty_own _ _
    clear hno hyes hu hb0 hs
    go_wp2_with fail
    refine (rread_any S r g u D 0 w2 (HA.out.below HB2.out)).mono ?_
    rintro e w3 ⟨b3, rfl, hb3, B3⟩
    rw [read0] at hb3
    rw [read0]
    obtain ⟨bo, bc, rfl, hbc⟩ := own_shape hb3
    have HXV3 := hide (own_below HXV.out B3)
    have HB3 := hide (HB2.out.trans (B3.mono HB2.out.size))
    have HR3 := hide (own_base hb3 HB2.out.size)
    clear hb3 B3
    go_wp2_with fail
    refine (rscan_any (D.b 0) _ w3 (Rd.own HR3.out) (by omega)).mono ?_
    rintro e w4 ⟨rs, vals, rfl, hrs, B4⟩
    rw [HC.out] at hrs
    rw [HC.out]
    obtain ⟨ro, rc, rfl, hrc⟩ := own_shape hrs.row
    have HRS := hide (hrs.rd.base HB3.out.size)
    have HXV4 := hide (own_below HXV3.out B4)
    have HR4 := hide (own_below HR3.out B4)
    have HB4 := hide (HB3.out.trans (B4.mono HB3.out.size))
    clear hrs B4
    go_wp2
    go_loop [13, 14] (fun f v => ∃ (d : Nat) (ao : Option Addr) (cap : Nat), d ≤ recs.length ∧ f = .int .u64 (((first + d) % 18446744073709551616 : Nat) : Int) ∧ v = .slice ao (recs.length - d) cap ∧ recs.length - d ≤ cap ∧ RdL w.heap.size w4.heap.size w4 (.slice ao (recs.length - d) cap) (recs.drop d) ∧ (d = 0 ∨ first + d ≤ 0 + 1)) (fun _ v => match v with | .slice _ n _ => n | _ => 0)
    case atStart => exact ⟨0, ro, rc, Nat.zero_le _, by rw [Nat.add_zero, Nat.mod_eq_of_lt hf64], rfl, hrc, HRS.out, .inl rfl⟩
    case round =>
      obtain ⟨d, ao, cp, hd, rfl, rfl, hcp, hrd, hlow⟩ := hrel
      have HLOW := hide hlow
      have HRD := hide hrd
      clear hlow hrd
      by_cases hgo : d < recs.length ∧ first + d ≤ 0
      · obtain ⟨hd1, hd2⟩ := hgo
        have hmod : (first + d) % 18446744073709551616 = first + d := Nat.mod_eq_of_lt (by omega)
        rw [hmod]
        obtain ⟨a, rfl⟩ := HRD.out.rds.some (by rw [List.length_drop]; omega)
        have HT : Hid (∀ c, RdL w.heap.size w4.heap.size w4 (.slice (some (a.add 1)) (recs.length - (d + 1)) c) (recs.drop (d + 1))) := fun c => by
          have e := RdL.drop (old := 1) (m := recs.length - (d + 1)) (d := c) HRD.out (by rw [List.length_drop]; omega)
          rw [List.drop_drop] at e
          exact e
        obtain ⟨n, hn⟩ : ∃ n, n = recs.length - d := ⟨_, rfl⟩
        rw [← hn] at hcp ⊢
        have HN := hide hn
        have hn1 : (0 : Int) < (n : Int) := by omega
        have hle : ((first + d : Nat) : Int) ≤ (0 : Int) := by omega
        obtain ⟨fd, hfd⟩ : ∃ fd, fd = first + d := ⟨_, rfl⟩
        rw [← hfd] at hle ⊢
        have HFD := hide hfd
        have hw1 : IntKind.u64.wrap ((fd : Int) + 1) = (((fd + 1) % 18446744073709551616 : Nat) : Int) := by rw [IntKind.wrap_u64]; omega
        clear hn hfd hmod
        by_cases hc1 : cp = 1
        · have HZ : Hid (recs.drop (d + 1) = []) := by show _ = _; have := HN.out; exact List.drop_eq_nil_of_le (by omega)
          have HC1 := hide hc1
          go_wp2
          go_round
          case rel =>
            have hn := HN.out
            refine ⟨d + 1, some a, 0, by omega, ?_, ?_, by omega, ?_, .inr (by omega)⟩
            · first | (rw [HFD.out]; rfl) | exact congrArg (Value.int .u64) (by have := HFD.out; omega)
            · rw [hn, Nat.sub_sub]
            · rw [HZ.out, show recs.length - (d + 1) = 0 by omega]
              exact ⟨some a, 0, rfl, fun i x hx => by simp at hx⟩
          case measure => simp; omega
        · go_wp2
          go_round
          case rel =>
            have hn := HN.out
            refine ⟨d + 1, some (a.add 1), cp - 1, by omega, ?_, ?_, by omega, HT.out _, .inr (by omega)⟩
            · first | (rw [HFD.out]; rfl) | exact congrArg (Value.int .u64) (by have := HFD.out; omega)
            · rw [hn, Nat.sub_sub]; rfl
          case measure => simp; omega
      · have hx := behB_of (seq := 0) (first := first) hd HLOW.out (by omega)
        have HBE : Hid (behB 0 first recs = (recs.drop d, 0) ∧ (d < recs.length → first + d = 0 + 1)) := by
          by_cases hde : d = recs.length
          · refine ⟨?_, fun h => by omega⟩
            rw [hx.1 hde.symm, hde, List.drop_length]
          · have hlt : d < recs.length := by omega
            by_cases hfs : first + d = 0 + 1
            · exact ⟨hx.2.1 hlt hfs, fun _ => hfs⟩
            · exact absurd (by rw [hx.2.2 hlt hfs]; decide) hb
        obtain ⟨n, hn⟩ : ∃ n, n = recs.length - d := ⟨_, rfl⟩
        obtain ⟨fd, hfd⟩ : ∃ fd, fd = (first + d) % 18446744073709551616 := ⟨_, rfl⟩
        have hrdn := HRD.out
        rw [← hn] at hrdn hcp ⊢
        rw [← hfd]
        have hnl : n = (recs.drop d).length := by rw [List.length_drop, hn]
        have hnb : n ≤ 100000 := by omega
        have hex : n = 0 ∨ (0 < n ∧ fd = 0 + 1 ∧ 0 + 1 < 18446744073709551616) := by
          rcases (show n = 0 ∨ 0 < n by omega) with h0 | h0
          · exact .inl h0
          · have e := HBE.out.2 (by omega)
            exact .inr ⟨h0, by rw [hfd, Nat.mod_eq_of_lt (by omega)]; exact e, by omega⟩
        have HNL := hide hnl
        have HRN := hide hrdn
        obtain ⟨left, hleft⟩ : ∃ left, left = recs.drop d := ⟨_, rfl⟩
        rw [← hleft] at HNL HRN HBE
        have hwA : IntKind.u64.wrap (n : Int) = (n : Int) := by rw [IntKind.wrap_u64]; omega
        have hwB : IntKind.u64.wrap ((0 : Int) + (n : Int)) = (((0 + n) % 18446744073709551616 : Nat) : Int) := by rw [IntKind.wrap_u64]; omega
        obtain ⟨s1, hs1⟩ : ∃ s1, s1 = (0 + n) % 18446744073709551616 := ⟨_, rfl⟩
        rw [← hs1] at hwB
        have hwC : IntKind.u64.wrap ((s1 : Int) + 1) = (((s1 + 1) % 18446744073709551616 : Nat) : Int) := by rw [IntKind.wrap_u64]; omega
        have HNX : Hid ((s1 + 1) % 18446744073709551616 = (0 + left.length + 1) % 18446744073709551616) := by show _ = _; rw [hs1, ← HNL.out]; omega
        obtain ⟨nx, hnx⟩ : ∃ nx, nx = (s1 + 1) % 18446744073709551616 := ⟨_, rfl⟩
        rw [← hnx] at hwC HNX
        have HS1 := hide hs1
        have HNX2 := hide hnx
        have HM4 := hide (RMoved.stay HA.out HB4.out)
        clear hn hfd hx hb hnl hrdn hs1 hnx HLOW HRD HRS hleft hgo
        rcases hex with h0 | ⟨h0, hfe, hs64⟩
        · subst h0
          have hw0 : IntKind.u64.wrap ((0 : Int) + 1) = (((0 + 1) % 18446744073709551616 : Nat) : Int) := by rw [IntKind.wrap_u64]; omega
          go_wp2
          refine bodyPost_ret (v := .tuple #[.pointer (some ⟨w4.heap.size, 0, none⟩), .slice none 0 0, .slice ao 0 cp, .int .i64 0]) (by simp [results, Tryd.results13, go_sem]) rfl ?_
          refine ⟨w4.heap.size, _, _, rfl, ?_⟩
          rw [HBE.out.1]
          first | show ROpen _ _ _ _ _ _ _ ⟨0, (left.length + 1) % 18446744073709551616, _, left⟩ _ _ _ | show ROpen _ _ _ _ _ _ _ ⟨0, (0 + left.length + 1) % 18446744073709551616, _, left⟩ _ _ _
          have e1 := HNL.out
          have e2 := HNX.out
          have e3 := HS1.out
          have e4 := HNX2.out
          exact ROpen.of HM4.out (Rd.own HXV4.out) HRN.out.rds rfl (by omega) (by omega)
        · have hn1 : (0 : Int) < (n : Int) := by omega
          have hle : ¬ (fd : Int) ≤ (0 : Int) := by omega
          have hne : ((fd : Int) != (0 : Int) + 1) = false := by simp; omega
          have hws : IntKind.u64.wrap ((0 : Int) + 1) = (0 : Int) + 1 := by rw [IntKind.wrap_u64]; omega
          clear h0 hfe hs64
          go_wp2
          refine bodyPost_ret (v := .tuple #[.pointer (some ⟨w4.heap.size, 0, none⟩), .slice none 0 0, .slice ao n cp, .int .i64 0]) (by simp [results, Tryd.results13, go_sem]) rfl ?_
          refine ⟨w4.heap.size, _, _, rfl, ?_⟩
          rw [HBE.out.1]
          first | show ROpen _ _ _ _ _ _ _ ⟨0, (left.length + 1) % 18446744073709551616, _, left⟩ _ _ _ | show ROpen _ _ _ _ _ _ _ ⟨0, (0 + left.length + 1) % 18446744073709551616, _, left⟩ _ _ _
          have e1 := HNL.out
          have e2 := HNX.out
          have e3 := HS1.out
          have e4 := HNX2.out
          exact ROpen.of HM4.out (Rd.own HXV4.out) HRN.out.rds rfl (by omega) (by omega)

  · obtain ⟨xv, rfl, hx⟩ := hyes seq snap hu
    obtain ⟨xo, xc, rfl, -⟩ := own_shape hx
    have hbz : (((D.b 1).length : Int) == 0) = false := by simp; intro e; simp [e] at hb0
    have hn0 : (((16 + snap.length : Nat) : Int) != ((D.b 1).length : Int)) = false := by simp; omega
    obtain ⟨sz, hsz⟩ : ∃ sz, sz = 16 + snap.length := ⟨_, rfl⟩
    rw [← hsz] at hn0 ⊢
    have HXV := hide (own_base hx HB1.out.size)
    clear hno hyes hu hb0 hs hx hsz hlen
    go_wp2_with fail
    refine (rread_any S r g u D 0 w2 (HA.out.below HB2.out)).mono ?_
    rintro e w3 ⟨b3, rfl, hb3, B3⟩
    rw [read0] at hb3
    rw [read0]
    obtain ⟨bo, bc, rfl, hbc⟩ := own_shape hb3
    have HXV3 := hide (own_below HXV.out B3)
    have HB3 := hide (HB2.out.trans (B3.mono HB2.out.size))
    have HR3 := hide (own_base hb3 HB2.out.size)
    clear hb3 B3
    go_wp2_with fail
    refine (rscan_any (D.b 0) _ w3 (Rd.own HR3.out) (by omega)).mono ?_
    rintro e w4 ⟨rs, vals, rfl, hrs, B4⟩
    rw [HC.out] at hrs
    rw [HC.out]
    obtain ⟨ro, rc, rfl, hrc⟩ := own_shape hrs.row
    have HRS := hide (hrs.rd.base HB3.out.size)
    have HXV4 := hide (own_below HXV3.out B4)
    have HR4 := hide (own_below HR3.out B4)
    have HB4 := hide (HB3.out.trans (B4.mono HB3.out.size))
    clear hrs B4
    go_wp2
    go_loop [13, 14] (fun f v => ∃ (d : Nat) (ao : Option Addr) (cap : Nat), d ≤ recs.length ∧ f = .int .u64 (((first + d) % 18446744073709551616 : Nat) : Int) ∧ v = .slice ao (recs.length - d) cap ∧ recs.length - d ≤ cap ∧ RdL w.heap.size w4.heap.size w4 (.slice ao (recs.length - d) cap) (recs.drop d) ∧ (d = 0 ∨ first + d ≤ seq + 1)) (fun _ v => match v with | .slice _ n _ => n | _ => 0)
    case atStart => exact ⟨0, ro, rc, Nat.zero_le _, by rw [Nat.add_zero, Nat.mod_eq_of_lt hf64], rfl, hrc, HRS.out, .inl rfl⟩
    case round =>
      obtain ⟨d, ao, cp, hd, rfl, rfl, hcp, hrd, hlow⟩ := hrel
      have HLOW := hide hlow
      have HRD := hide hrd
      clear hlow hrd
      by_cases hgo : d < recs.length ∧ first + d ≤ seq
      · obtain ⟨hd1, hd2⟩ := hgo
        have hmod : (first + d) % 18446744073709551616 = first + d := Nat.mod_eq_of_lt (by omega)
        rw [hmod]
        obtain ⟨a, rfl⟩ := HRD.out.rds.some (by rw [List.length_drop]; omega)
        have HT : Hid (∀ c, RdL w.heap.size w4.heap.size w4 (.slice (some (a.add 1)) (recs.length - (d + 1)) c) (recs.drop (d + 1))) := fun c => by
          have e := RdL.drop (old := 1) (m := recs.length - (d + 1)) (d := c) HRD.out (by rw [List.length_drop]; omega)
          rw [List.drop_drop] at e
          exact e
        obtain ⟨n, hn⟩ : ∃ n, n = recs.length - d := ⟨_, rfl⟩
        rw [← hn] at hcp ⊢
        have HN := hide hn
        have hn1 : (0 : Int) < (n : Int) := by omega
        have hle : ((first + d : Nat) : Int) ≤ (seq : Int) := by omega
        obtain ⟨fd, hfd⟩ : ∃ fd, fd = first + d := ⟨_, rfl⟩
        rw [← hfd] at hle ⊢
        have HFD := hide hfd
        have hw1 : IntKind.u64.wrap ((fd : Int) + 1) = (((fd + 1) % 18446744073709551616 : Nat) : Int) := by rw [IntKind.wrap_u64]; omega
        clear hn hfd hmod
        by_cases hc1 : cp = 1
        · have HZ : Hid (recs.drop (d + 1) = []) := by show _ = _; have := HN.out; exact List.drop_eq_nil_of_le (by omega)
          have HC1 := hide hc1
          go_wp2
          go_round
          case rel =>
            have hn := HN.out
            refine ⟨d + 1, some a, 0, by omega, ?_, ?_, by omega, ?_, .inr (by omega)⟩
            · first | (rw [HFD.out]; rfl) | exact congrArg (Value.int .u64) (by have := HFD.out; omega)
            · rw [hn, Nat.sub_sub]
            · rw [HZ.out, show recs.length - (d + 1) = 0 by omega]
              exact ⟨some a, 0, rfl, fun i x hx => by simp at hx⟩
          case measure => simp; omega
        · go_wp2
          go_round
          case rel =>
            have hn := HN.out
            refine ⟨d + 1, some (a.add 1), cp - 1, by omega, ?_, ?_, by omega, HT.out _, .inr (by omega)⟩
            · first | (rw [HFD.out]; rfl) | exact congrArg (Value.int .u64) (by have := HFD.out; omega)
            · rw [hn, Nat.sub_sub]; rfl
          case measure => simp; omega
      · have hx := behB_of (seq := seq) (first := first) hd HLOW.out (by omega)
        have HBE : Hid (behB seq first recs = (recs.drop d, 0) ∧ (d < recs.length → first + d = seq + 1)) := by
          by_cases hde : d = recs.length
          · refine ⟨?_, fun h => by omega⟩
            rw [hx.1 hde.symm, hde, List.drop_length]
          · have hlt : d < recs.length := by omega
            by_cases hfs : first + d = seq + 1
            · exact ⟨hx.2.1 hlt hfs, fun _ => hfs⟩
            · exact absurd (by rw [hx.2.2 hlt hfs]; decide) hb
        obtain ⟨n, hn⟩ : ∃ n, n = recs.length - d := ⟨_, rfl⟩
        obtain ⟨fd, hfd⟩ : ∃ fd, fd = (first + d) % 18446744073709551616 := ⟨_, rfl⟩
        have hrdn := HRD.out
        rw [← hn] at hrdn hcp ⊢
        rw [← hfd]
        have hnl : n = (recs.drop d).length := by rw [List.length_drop, hn]
        have hnb : n ≤ 100000 := by omega
        have hex : n = 0 ∨ (0 < n ∧ fd = seq + 1 ∧ seq + 1 < 18446744073709551616) := by
          rcases (show n = 0 ∨ 0 < n by omega) with h0 | h0
          · exact .inl h0
          · have e := HBE.out.2 (by omega)
            exact .inr ⟨h0, by rw [hfd, Nat.mod_eq_of_lt (by omega)]; exact e, by omega⟩
        have HNL := hide hnl
        have HRN := hide hrdn
        obtain ⟨left, hleft⟩ : ∃ left, left = recs.drop d := ⟨_, rfl⟩
        rw [← hleft] at HNL HRN HBE
        have hwA : IntKind.u64.wrap (n : Int) = (n : Int) := by rw [IntKind.wrap_u64]; omega
        have hwB : IntKind.u64.wrap ((seq : Int) + (n : Int)) = (((seq + n) % 18446744073709551616 : Nat) : Int) := by rw [IntKind.wrap_u64]; omega
        obtain ⟨s1, hs1⟩ : ∃ s1, s1 = (seq + n) % 18446744073709551616 := ⟨_, rfl⟩
        rw [← hs1] at hwB
        have hwC : IntKind.u64.wrap ((s1 : Int) + 1) = (((s1 + 1) % 18446744073709551616 : Nat) : Int) := by rw [IntKind.wrap_u64]; omega
        have HNX : Hid ((s1 + 1) % 18446744073709551616 = (seq + left.length + 1) % 18446744073709551616) := by show _ = _; rw [hs1, ← HNL.out]; omega
        obtain ⟨nx, hnx⟩ : ∃ nx, nx = (s1 + 1) % 18446744073709551616 := ⟨_, rfl⟩
        rw [← hnx] at hwC HNX
        have HS1 := hide hs1
        have HNX2 := hide hnx
        have HM4 := hide (RMoved.stay HA.out HB4.out)
        clear hn hfd hx hb hnl hrdn hs1 hnx HLOW HRD HRS hleft hgo
        rcases hex with h0 | ⟨h0, hfe, hs64⟩
        · subst h0
          have hw0 : IntKind.u64.wrap ((seq : Int) + 1) = (((seq + 1) % 18446744073709551616 : Nat) : Int) := by rw [IntKind.wrap_u64]; omega
          go_wp2
          refine bodyPost_ret (v := .tuple #[.pointer (some ⟨w4.heap.size, 0, none⟩), .slice xo snap.length xc, .slice ao 0 cp, .int .i64 0]) (by simp [results, Tryd.results13, go_sem]) rfl ?_
          refine ⟨w4.heap.size, _, _, rfl, ?_⟩
          rw [HBE.out.1]
          first | show ROpen _ _ _ _ _ _ _ ⟨0, (seq + left.length + 1) % 18446744073709551616, _, left⟩ _ _ _ | show ROpen _ _ _ _ _ _ _ ⟨0, (0 + left.length + 1) % 18446744073709551616, _, left⟩ _ _ _
          have e1 := HNL.out
          have e2 := HNX.out
          have e3 := HS1.out
          have e4 := HNX2.out
          exact ROpen.of HM4.out (Rd.own HXV4.out) HRN.out.rds rfl (by omega) (by omega)
        · have hn1 : (0 : Int) < (n : Int) := by omega
          have hle : ¬ (fd : Int) ≤ (seq : Int) := by omega
          have hne : ((fd : Int) != (seq : Int) + 1) = false := by simp; omega
          have hws : IntKind.u64.wrap ((seq : Int) + 1) = (seq : Int) + 1 := by rw [IntKind.wrap_u64]; omega
          clear h0 hfe hs64
          go_wp2
          refine bodyPost_ret (v := .tuple #[.pointer (some ⟨w4.heap.size, 0, none⟩), .slice xo snap.length xc, .slice ao n cp, .int .i64 0]) (by simp [results, Tryd.results13, go_sem]) rfl ?_
          refine ⟨w4.heap.size, _, _, rfl, ?_⟩
          rw [HBE.out.1]
          first | show ROpen _ _ _ _ _ _ _ ⟨0, (seq + left.length + 1) % 18446744073709551616, _, left⟩ _ _ _ | show ROpen _ _ _ _ _ _ _ ⟨0, (0 + left.length + 1) % 18446744073709551616, _, left⟩ _ _ _
          have e1 := HNL.out
          have e2 := HNX.out
          have e3 := HS1.out
          have e4 := HNX2.out
          exact ROpen.of HM4.out (Rd.own HXV4.out) HRN.out.rds rfl (by omega) (by omega)

end Go.Proofs.YtgobnnciijlpaaaDoor
