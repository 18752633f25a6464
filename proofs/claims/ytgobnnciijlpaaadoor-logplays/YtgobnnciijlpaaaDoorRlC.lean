/- The walk of Open of dayshiftref04. -/
import Derived.Test.YtgobnnciijlpaaaDoorRlB
import Derived.Test.YtgobnnciijlpaaaDoorLrE
namespace Go.DsLg
open Go.DsDk
/-- the numbers of a log's records do not pass the greatest one -/
theorem scanL_top (fuel : Nat) (b : List UInt8) (first : Nat) (recs : List (List UInt8)) (p : Nat) (h : first + recs.length ≤ 18446744073709551616) : (scanL fuel b first recs p).1 + (scanL fuel b first recs p).2.1.length ≤ 18446744073709551616 := by
  induction fuel generalizing first recs p with
  | zero => exact h
  | succ fuel ih =>
    unfold scanL
    cases hu : unfB (b.drop p) with
    | none => exact h
    | some qr =>
      obtain ⟨q, r⟩ := qr
      obtain ⟨h1, h2, h3⟩ := unf_len hu
      simp only
      split
      · exact h
      · rename_i hq
        split
        · exact ih _ _ _ (by simp; omega)
        · split
          · rename_i hq2
            refine ih _ _ _ ?_
            rw [List.length_append]
            simp only [List.length_cons, List.length_nil]
            by_cases ht : first + recs.length = 18446744073709551616
            · rw [ht] at hq2; simp at hq2; omega
            · omega
          · exact h
theorem scanB_top (b : List UInt8) : (scanB b).1 + (scanB b).2.1.length ≤ 18446744073709551616 := scanL_top _ b 0 [] 0 (by decide)
theorem behB_of {seq first d : Nat} {recs : List (List UInt8)} (hd : d ≤ recs.length) (hlow : d = 0 ∨ first + d ≤ seq + 1) (hend : d = recs.length ∨ seq < first + d) :
    (recs.length = d → behB seq first recs = ([], 0)) ∧ (d < recs.length → first + d = seq + 1 → behB seq first recs = (recs.drop d, 0)) ∧ (d < recs.length → first + d ≠ seq + 1 → behB seq first recs = ([], 11)) := by
  refine ⟨fun h => ?_, fun h1 h2 => ?_, fun h1 h2 => ?_⟩
  · unfold behB
    by_cases h0 : recs.length = 0
    · rw [if_pos h0]
    · rw [if_neg h0, if_neg (by omega), if_pos (by omega)]
  · unfold behB
    rw [if_neg (by omega)]
    by_cases h0 : seq < first
    · have : d = 0 := by omega
      subst this
      rw [if_pos h0, if_pos (by omega), List.drop_zero]
    · rw [if_neg h0, if_neg (by omega), show seq - first + 1 = d by omega]
  · unfold behB
    have : d = 0 := by omega
    subst this
    rw [if_neg (by omega), if_pos (by omega), if_neg (by omega)]
end Go.DsLg
namespace Go.Proofs.YtgobnnciijlpaaaDoor
open Go.ChangeShapes Go.WideShapes Go.ChangeAt Go.RowKit Go.DsMem Go.DsDk Go.DsLg
set_option linter.unusedVariables false

/-- the records but for the first one -/
theorem RdLs.tail {w : World} {a : Addr} {n c m d : Nat} {r : List UInt8} {recs : List (List UInt8)} (h : RdLs w (.slice (some a) n c) (r :: recs)) (hm : m = recs.length) : RdLs w (.slice (some (a.add 1)) m d) recs := by
  subst hm
  obtain ⟨ao, cap, hv, he⟩ := h
  simp only [Value.slice.injEq] at hv
  obtain ⟨rfl, _, _⟩ := hv
  refine ⟨_, d, rfl, fun i x hx => ?_⟩
  obtain ⟨b, xo, xc, hb, h1, h2⟩ := he (i + 1) x (by simpa using hx)
  cases hb
  exact ⟨_, xo, xc, rfl, by rw [Go.Deep.add_add, Nat.add_comm 1 i]; exact h1, h2⟩
theorem RdLs.some {w : World} {ao : Option Addr} {n c : Nat} {recs : List (List UInt8)} (h : RdLs w (.slice ao n c) recs) (h0 : 0 < recs.length) : ∃ a, ao = some a := by
  obtain ⟨ao', cap, hv, he⟩ := h
  simp only [Value.slice.injEq] at hv
  obtain ⟨rfl, _, _⟩ := hv
  obtain ⟨a, _, _, h, _⟩ := he 0 recs[0] (List.getElem?_eq_getElem h0)
  exact ⟨a, h⟩

/-- the plain cases of a snapshot's file -/
theorem snap_cases {b snap : List UInt8} {seq : Nat} (h : snapB b = (seq, snap, 0)) : (b.length = 0 ∧ seq = 0 ∧ snap = [] ∧ unfB b = none) ∨ (b.length ≠ 0 ∧ unfB b = some (seq, snap) ∧ 16 + snap.length = b.length) := by
  unfold snapB at h
  by_cases h0 : b.length = 0
  · rw [if_pos h0] at h
    cases h
    exact .inl ⟨h0, rfl, rfl, by unfold unfB; rw [if_pos (by omega)]⟩
  · rw [if_neg h0] at h
    cases hu : unfB b with
    | none => rw [hu] at h; simp at h
    | some qr =>
      obtain ⟨q, r⟩ := qr
      rw [hu] at h
      simp only at h
      split at h
      · rename_i hl
        cases h
        exact .inr ⟨h0, rfl, hl⟩
      · simp at h
theorem snap_bad {b : List UInt8} (h : (snapB b).2.2 ≠ 0) : b.length ≠ 0 ∧ (snapB b).2.2 = 11 ∧ (unfB b = none ∨ ∃ q r, unfB b = some (q, r) ∧ 16 + r.length ≠ b.length) := by
  unfold snapB at h ⊢
  by_cases h0 : b.length = 0
  · rw [if_pos h0] at h; simp at h
  · rw [if_neg h0] at h ⊢
    cases hu : unfB b with
    | none => exact ⟨h0, rfl, .inl rfl⟩
    | some qr =>
      obtain ⟨q, r⟩ := qr
      rw [hu] at h
      simp only at h ⊢
      split at h
      · simp at h
      · rename_i hl
        rw [if_neg hl]
        exact ⟨h0, rfl, .inr ⟨q, r, rfl, hl⟩⟩

set_option maxHeartbeats 2000000 in
set_option maxRecDepth 20000 in
theorem ropen_a (S : Nat → Prop) (r g : Nat) (u : Nat → Value) (D : Dk) (w : World) (h : RefAt w S r g u D) (h1 : (snapB (D.b 1)).2.2 ≠ 0) :
    Calls Tryd.prog 13 #[.pointer (some ⟨r, 0, none⟩)] w fun e w' => e = .returned (.tuple #[.pointer none, .slice none 0 0, .slice none 0 0, .int .i64 (snapB (D.b 1)).2.2]) ∧ Below w.heap.size w w' := by
  obtain ⟨h0, h11, hcs⟩ := snap_bad h1
  have hl1 := (h.ok 1 (by omega)).2
  have hb0 : (((D.b 1).length : Int) == 0) = false := by simp; intro e; simp [e] at h0
  have hn00 : ((0 : Int) != ((D.b 1).length : Int)) = true := by simp; omega
  have H11 := hide h11
  have HA := hide h
  clear h1 h11 h h0
  go_enter Tryd.func13, Tryd.ntmps13
  go_wp2_with fail
  refine (rread_any S r g u D 1 w HA.out).mono ?_
  rintro e w1 ⟨s1, rfl, hs1, B1⟩
  rw [read1] at hs1
  rw [read1]
  obtain ⟨so, sc, rfl, -⟩ := own_shape hs1
  have HS1 := hide (Rd.own hs1)
  have HB1 := hide B1
  clear hs1 B1
  go_wp2_with fail
  refine (rone_any (D.b 1) _ w1 HS1.out (by omega)).mono ?_
  rintro e w2 ⟨B2, hno, hyes⟩
  have HB2 := hide (HB1.out.trans (B2.mono HB1.out.size))
  clear B2
  rcases hcs with hu | ⟨q, x, hu, hne⟩
  · obtain rfl := hno hu
    clear hno hyes hu
    go_wp2
    refine bodyPost_ret (v := .tuple #[.pointer none, .slice none 0 0, .slice none 0 0, .int .i64 11]) (by simp [results, Tryd.results13, go_sem]) rfl ⟨by rw [H11.out], HB2.out⟩
  · obtain ⟨xv, rfl, hx⟩ := hyes q x hu
    obtain ⟨xo, xc, rfl, -⟩ := own_shape hx
    have hn0 : (((16 + x.length : Nat) : Int) != ((D.b 1).length : Int)) = true := by simp; omega
    obtain ⟨sz, hsz⟩ : ∃ sz, sz = 16 + x.length := ⟨_, rfl⟩
    rw [← hsz] at hn0 ⊢
    clear hno hyes hu hsz hne hx
    go_wp2
    refine bodyPost_ret (v := .tuple #[.pointer none, .slice none 0 0, .slice none 0 0, .int .i64 11]) (by simp [results, Tryd.results13, go_sem]) rfl ⟨by rw [H11.out], HB2.out⟩

set_option maxHeartbeats 4000000 in
set_option maxRecDepth 20000 in
theorem ropen_b (S : Nat → Prop) (r g : Nat) (u : Nat → Value) (D : Dk) (w : World) (h : RefAt w S r g u D) (seq first at_ : Nat) (snap : List UInt8) (recs : List (List UInt8)) (hs : snapB (D.b 1) = (seq, snap, 0)) (hc : scanB (D.b 0) = (first, recs, at_)) (hb : (behB seq first recs).2 ≠ 0) :
    Calls Tryd.prog 13 #[.pointer (some ⟨r, 0, none⟩)] w fun e w' => e = .returned (.tuple #[.pointer none, .slice none 0 0, .slice none 0 0, .int .i64 (behB seq first recs).2]) ∧ Below w.heap.size w w' := by
  have hl0 := (h.ok 0 (by omega)).2
  have hl1 := (h.ok 1 (by omega)).2
  have hok := scanB_ok (D.b 0)
  have htop := scanB_top (D.b 0)
  rw [hc] at hok htop
  obtain ⟨hf64, -, hat, h16, -⟩ := hok
  have hsq := (snapB_lt (D.b 1)).1
  rw [hs] at hsq
  simp only at hf64 hat h16 htop hsq
  have HA := hide h
  have HC := hide hc
  clear h hc
  go_enter Tryd.func13, Tryd.ntmps13
  go_wp2_with fail
  refine (rread_any S r g u D 1 w HA.out).mono ?_
  rintro e w1 ⟨s1, rfl, hs1, B1⟩
  rw [read1] at hs1
  rw [read1]
  obtain ⟨so, sc, rfl, -⟩ := own_shape hs1
  have HS1 := hide (Rd.own hs1)
  have HB1 := hide B1
  clear hs1 B1
  go_wp2_with fail
  refine (rone_any (D.b 1) _ w1 HS1.out (by omega)).mono ?_
  rintro e w2 ⟨B2, hno, hyes⟩
  have HB2 := hide (HB1.out.trans (B2.mono HB1.out.size))
  clear B2
  rcases snap_cases hs with ⟨hb0, rfl, rfl, hu⟩ | ⟨hb0, hu, hlen⟩
  · obtain rfl := hno hu
    have hbz : (((D.b 1).length : Int) == 0) = true := by simp [hb0]
    have HXV : Hid (w2.ownsRow w.heap.size 5 1 (.slice none 0 0) ([] : List UInt8).length (bvs [])) := empty_own _ _
    clear hno hyes hu hb0 hs
    go_wp2_with fail
    refine (rread_any S r g u D 0 w2 (HA.out.below HB2.out)).mono ?_
    rintro e w3 ⟨b3, rfl, hb3, B3⟩
    rw [read0] at hb3
    rw [read0]
    obtain ⟨bo, bc, rfl, hbc⟩ := own_shape hb3
    have HXV3 := hide (own_below HXV.out B3)
    have HB3 := hide (HB2.out.trans (B3.mono HB2.out.size))
    have HR3 := hide (own_base hb3 HB2.out.size)
    clear hb3 B3
    go_wp2_with fail
    refine (rscan_any (D.b 0) _ w3 (Rd.own HR3.out) (by omega)).mono ?_
    rintro e w4 ⟨rs, vals, rfl, hrs, B4⟩
    rw [HC.out] at hrs
    rw [HC.out]
    obtain ⟨ro, rc, rfl, hrc⟩ := own_shape hrs.row
    have HRS := hide (hrs.rd.base HB3.out.size)
    have HXV4 := hide (own_below HXV3.out B4)
    have HR4 := hide (own_below HR3.out B4)
    have HB4 := hide (HB3.out.trans (B4.mono HB3.out.size))
    clear hrs B4
    go_wp2
    go_loop [13, 14] (fun f v => ∃ (d : Nat) (ao : Option Addr) (cap : Nat), d ≤ recs.length ∧ f = .int .u64 (((first + d) % 18446744073709551616 : Nat) : Int) ∧ v = .slice ao (recs.length - d) cap ∧ recs.length - d ≤ cap ∧ RdL w.heap.size w4.heap.size w4 (.slice ao (recs.length - d) cap) (recs.drop d) ∧ (d = 0 ∨ first + d ≤ 0 + 1)) (fun _ v => match v with | .slice _ n _ => n | _ => 0)
    case atStart => exact ⟨0, ro, rc, Nat.zero_le _, by rw [Nat.add_zero, Nat.mod_eq_of_lt hf64], rfl, hrc, HRS.out, .inl rfl⟩
    case round =>
      obtain ⟨d, ao, cp, hd, rfl, rfl, hcp, hrd, hlow⟩ := hrel
      have HLOW := hide hlow
      have HRD := hide hrd
      clear hlow hrd
      by_cases hgo : d < recs.length ∧ first + d ≤ 0
      · obtain ⟨hd1, hd2⟩ := hgo
        have hmod : (first + d) % 18446744073709551616 = first + d := Nat.mod_eq_of_lt (by omega)
        rw [hmod]
        obtain ⟨a, rfl⟩ := HRD.out.rds.some (by rw [List.length_drop]; omega)
        have HT : Hid (∀ c, RdL w.heap.size w4.heap.size w4 (.slice (some (a.add 1)) (recs.length - (d + 1)) c) (recs.drop (d + 1))) := fun c => by
          have e := RdL.drop (old := 1) (m := recs.length - (d + 1)) (d := c) HRD.out (by rw [List.length_drop]; omega)
          rw [List.drop_drop] at e
          exact e
        obtain ⟨n, hn⟩ : ∃ n, n = recs.length - d := ⟨_, rfl⟩
        rw [← hn] at hcp ⊢
        have HN := hide hn
        have hn1 : (0 : Int) < (n : Int) := by omega
        have hle : ((first + d : Nat) : Int) ≤ (0 : Int) := by omega
        obtain ⟨fd, hfd⟩ : ∃ fd, fd = first + d := ⟨_, rfl⟩
        rw [← hfd] at hle ⊢
        have HFD := hide hfd
        have hw1 : IntKind.u64.wrap ((fd : Int) + 1) = (((fd + 1) % 18446744073709551616 : Nat) : Int) := by rw [IntKind.wrap_u64]; omega
        clear hn hfd hmod
        by_cases hc1 : cp = 1
        · have HZ : Hid (recs.drop (d + 1) = []) := by show _ = _; have := HN.out; exact List.drop_eq_nil_of_le (by omega)
          have HC1 := hide hc1
          go_wp2
          go_round
          case rel =>
            have hn := HN.out
            refine ⟨d + 1, some a, 0, by omega, ?_, ?_, by omega, ?_, .inr (by omega)⟩
            · first | (rw [HFD.out]; rfl) | exact congrArg (Value.int .u64) (by have := HFD.out; omega)
            · rw [hn, Nat.sub_sub]
            · rw [HZ.out, show recs.length - (d + 1) = 0 by omega]
              exact ⟨some a, 0, rfl, fun i x hx => by simp at hx⟩
          case measure => simp; omega
        · go_wp2
          go_round
          case rel =>
            have hn := HN.out
            refine ⟨d + 1, some (a.add 1), cp - 1, by omega, ?_, ?_, by omega, HT.out _, .inr (by omega)⟩
            · first | (rw [HFD.out]; rfl) | exact congrArg (Value.int .u64) (by have := HFD.out; omega)
            · rw [hn, Nat.sub_sub]; rfl
          case measure => simp; omega
      · have hx := behB_of (seq := 0) (first := first) hd HLOW.out (by omega)
        by_cases hde : d = recs.length
        · exact absurd (by rw [hx.1 hde.symm]) hb
        · have hlt : d < recs.length := by omega
          by_cases hfs : first + d = 0 + 1
          · exact absurd (by rw [hx.2.1 hlt hfs]) hb
          · have HBE := hide (hx.2.2 hlt hfs)
            have hmod : (first + d) % 18446744073709551616 = first + d := Nat.mod_eq_of_lt (by omega)
            rw [hmod]
            obtain ⟨n, hn⟩ : ∃ n, n = recs.length - d := ⟨_, rfl⟩
            rw [← hn] at hcp ⊢
            have hn1 : (0 : Int) < (n : Int) := by omega
            have hle : ¬ ((first + d : Nat) : Int) ≤ (0 : Int) := by omega
            have hne : (((first + d : Nat) : Int) != (0 : Int) + 1) = true := by simp; omega
            have hws : IntKind.u64.wrap ((0 : Int) + 1) = (0 : Int) + 1 := by rw [IntKind.wrap_u64]; omega
            obtain ⟨fd, hfd⟩ : ∃ fd, fd = first + d := ⟨_, rfl⟩
            rw [← hfd] at hle hne ⊢
            clear hn hfd hmod hx hb hfs
            go_wp2
            refine bodyPost_ret (v := .tuple #[.pointer none, .slice none 0 0, .slice none 0 0, .int .i64 11]) (by simp [results, Tryd.results13, go_sem]) rfl ⟨by rw [HBE.out], HB4.out⟩

  · obtain ⟨xv, rfl, hx⟩ := hyes seq snap hu
    obtain ⟨xo, xc, rfl, -⟩ := own_shape hx
    have hbz : (((D.b 1).length : Int) == 0) = false := by simp; intro e; simp [e] at hb0
    have hn0 : (((16 + snap.length : Nat) : Int) != ((D.b 1).length : Int)) = false := by simp; omega
    obtain ⟨sz, hsz⟩ : ∃ sz, sz = 16 + snap.length := ⟨_, rfl⟩
    rw [← hsz] at hn0 ⊢
    have HXV := hide (own_base hx HB1.out.size)
    clear hno hyes hu hb0 hs hx hsz hlen
    go_wp2_with fail
    refine (rread_any S r g u D 0 w2 (HA.out.below HB2.out)).mono ?_
    rintro e w3 ⟨b3, rfl, hb3, B3⟩
    rw [read0] at hb3
    rw [read0]
    obtain ⟨bo, bc, rfl, hbc⟩ := own_shape hb3
    have HXV3 := hide (own_below HXV.out B3)
    have HB3 := hide (HB2.out.trans (B3.mono HB2.out.size))
    have HR3 := hide (own_base hb3 HB2.out.size)
    clear hb3 B3
    go_wp2_with fail
    refine (rscan_any (D.b 0) _ w3 (Rd.own HR3.out) (by omega)).mono ?_
    rintro e w4 ⟨rs, vals, rfl, hrs, B4⟩
    rw [HC.out] at hrs
    rw [HC.out]
    obtain ⟨ro, rc, rfl, hrc⟩ := own_shape hrs.row
    have HRS := hide (hrs.rd.base HB3.out.size)
    have HXV4 := hide (own_below HXV3.out B4)
    have HR4 := hide (own_below HR3.out B4)
    have HB4 := hide (HB3.out.trans (B4.mono HB3.out.size))
    clear hrs B4
    go_wp2
    go_loop [13, 14] (fun f v => ∃ (d : Nat) (ao : Option Addr) (cap : Nat), d ≤ recs.length ∧ f = .int .u64 (((first + d) % 18446744073709551616 : Nat) : Int) ∧ v = .slice ao (recs.length - d) cap ∧ recs.length - d ≤ cap ∧ RdL w.heap.size w4.heap.size w4 (.slice ao (recs.length - d) cap) (recs.drop d) ∧ (d = 0 ∨ first + d ≤ seq + 1)) (fun _ v => match v with | .slice _ n _ => n | _ => 0)
    case atStart => exact ⟨0, ro, rc, Nat.zero_le _, by rw [Nat.add_zero, Nat.mod_eq_of_lt hf64], rfl, hrc, HRS.out, .inl rfl⟩
    case round =>
      obtain ⟨d, ao, cp, hd, rfl, rfl, hcp, hrd, hlow⟩ := hrel
      have HLOW := hide hlow
      have HRD := hide hrd
      clear hlow hrd
      by_cases hgo : d < recs.length ∧ first + d ≤ seq
      · obtain ⟨hd1, hd2⟩ := hgo
        have hmod : (first + d) % 18446744073709551616 = first + d := Nat.mod_eq_of_lt (by omega)
        rw [hmod]
        obtain ⟨a, rfl⟩ := HRD.out.rds.some (by rw [List.length_drop]; omega)
        have HT : Hid (∀ c, RdL w.heap.size w4.heap.size w4 (.slice (some (a.add 1)) (recs.length - (d + 1)) c) (recs.drop (d + 1))) := fun c => by
          have e := RdL.drop (old := 1) (m := recs.length - (d + 1)) (d := c) HRD.out (by rw [List.length_drop]; omega)
          rw [List.drop_drop] at e
          exact e
        obtain ⟨n, hn⟩ : ∃ n, n = recs.length - d := ⟨_, rfl⟩
        rw [← hn] at hcp ⊢
        have HN := hide hn
        have hn1 : (0 : Int) < (n : Int) := by omega
        have hle : ((first + d : Nat) : Int) ≤ (seq : Int) := by omega
        obtain ⟨fd, hfd⟩ : ∃ fd, fd = first + d := ⟨_, rfl⟩
        rw [← hfd] at hle ⊢
        have HFD := hide hfd
        have hw1 : IntKind.u64.wrap ((fd : Int) + 1) = (((fd + 1) % 18446744073709551616 : Nat) : Int) := by rw [IntKind.wrap_u64]; omega
        clear hn hfd hmod
        by_cases hc1 : cp = 1
        · have HZ : Hid (recs.drop (d + 1) = []) := by show _ = _; have := HN.out; exact List.drop_eq_nil_of_le (by omega)
          have HC1 := hide hc1
          go_wp2
          go_round
          case rel =>
            have hn := HN.out
            refine ⟨d + 1, some a, 0, by omega, ?_, ?_, by omega, ?_, .inr (by omega)⟩
            · first | (rw [HFD.out]; rfl) | exact congrArg (Value.int .u64) (by have := HFD.out; omega)
            · rw [hn, Nat.sub_sub]
            · rw [HZ.out, show recs.length - (d + 1) = 0 by omega]
              exact ⟨some a, 0, rfl, fun i x hx => by simp at hx⟩
          case measure => simp; omega
        · go_wp2
          go_round
          case rel =>
            have hn := HN.out
            refine ⟨d + 1, some (a.add 1), cp - 1, by omega, ?_, ?_, by omega, HT.out _, .inr (by omega)⟩
            · first | (rw [HFD.out]; rfl) | exact congrArg (Value.int .u64) (by have := HFD.out; omega)
            · rw [hn, Nat.sub_sub]; rfl
          case measure => simp; omega
      · have hx := behB_of (seq := seq) (first := first) hd HLOW.out (by omega)
        by_cases hde : d = recs.length
        · exact absurd (by rw [hx.1 hde.symm]) hb
        · have hlt : d < recs.length := by omega
          by_cases hfs : first + d = seq + 1
          · exact absurd (by rw [hx.2.1 hlt hfs]) hb
          · have HBE := hide (hx.2.2 hlt hfs)
            have hmod : (first + d) % 18446744073709551616 = first + d := Nat.mod_eq_of_lt (by omega)
            rw [hmod]
            obtain ⟨n, hn⟩ : ∃ n, n = recs.length - d := ⟨_, rfl⟩
            rw [← hn] at hcp ⊢
            have hn1 : (0 : Int) < (n : Int) := by omega
            have hle : ¬ ((first + d : Nat) : Int) ≤ (seq : Int) := by omega
            have hne : (((first + d : Nat) : Int) != (seq : Int) + 1) = true := by simp; omega
            have hws : IntKind.u64.wrap ((seq : Int) + 1) = (seq : Int) + 1 := by rw [IntKind.wrap_u64]; omega
            obtain ⟨fd, hfd⟩ : ∃ fd, fd = first + d := ⟨_, rfl⟩
            rw [← hfd] at hle hne ⊢
            clear hn hfd hmod hx hb hfs
            go_wp2
            refine bodyPost_ret (v := .tuple #[.pointer none, .slice none 0 0, .slice none 0 0, .int .i64 11]) (by simp [results, Tryd.results13, go_sem]) rfl ⟨by rw [HBE.out], HB4.out⟩

end Go.Proofs.YtgobnnciijlpaaaDoor
