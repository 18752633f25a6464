/- Package need: Total. -/
import Derived.Test.YtkpambipgcjaiaaNdT
import Derived.Test.YtkpambipgcjaiaaNdQ
import Derived.Deep.QuietTactic
import Derived.BigQuiet
namespace Go.Proofs.Ytkpambipgcjaiaa
open Go.ChangeShapes Go.WideShapes Go.ChangeAt Go.RowKit Go.DsMem Go.DsCo Go.DsPl Go.DsMap
set_option linter.unusedVariables false
set_option linter.unusedSimpArgs false
/-- a total in memory -/
def TotAt (w : World) (t : Nat) (u : Us) : Prop := w.heap[t]? = some (.cells #[.int .i64 u.1, .int .i64 u.2.1, .int .i64 u.2.2] 111 (0, 0))
theorem tot_end {w : World} {t k : Nat} {v : Value} {a b c a' b' c' : Int} (h : w.heap[t]? = some (.cells #[.int .i64 a, .int .i64 b, .int .i64 c] 111 (0, 0)))
    (hs : (#[Value.int .i64 a, .int .i64 b, .int .i64 c].setIfInBounds k v) = #[.int .i64 a', .int .i64 b', .int .i64 c']) (ob : Obj) :
    Ending.returned (.tuple #[]) = .returned (.tuple #[]) ∧ TotAt ((w.setCell ⟨t, k, none⟩ v).alloc ob).drew t (a', b', c') ∧ Only (· = t) w ((w.setCell ⟨t, k, none⟩ v).alloc ob).drew := by
  have hS : Only (· = t) w (w.setCell ⟨t, k, none⟩ v) := Only.set _ t k _
  have hB : Below (w.setCell ⟨t, k, none⟩ v).heap.size (w.setCell ⟨t, k, none⟩ v) ((w.setCell ⟨t, k, none⟩ v).alloc ob).drew := (bel1 _ _).drew
  have h2 : (w.setCell ⟨t, k, none⟩ v).heap[t]? = some (.cells #[.int .i64 a', .int .i64 b', .int .i64 c'] 111 (0, 0)) := by
    rw [hset_same h, ← hs]
  refine ⟨rfl, ?_, hS.trans (Only.below hB) (fun _ _ e => e)⟩
  unfold TotAt
  rw [hB.block t (block_lt h2)]
  exact h2
theorem tot_end2 {w : World} {t k : Nat} {v : Value} {a b c a' b' c' : Int} (h : w.heap[t]? = some (.cells #[.int .i64 a, .int .i64 b, .int .i64 c] 111 (0, 0)))
    (hs : (#[Value.int .i64 a, .int .i64 b, .int .i64 c].setIfInBounds k v) = #[.int .i64 a', .int .i64 b', .int .i64 c']) (ob : Obj) :
    Ending.returned (.tuple #[]) = .returned (.tuple #[]) ∧ TotAt ((w.setCell ⟨t, k, none⟩ v).alloc ob) t (a', b', c') ∧ Only (· = t) w ((w.setCell ⟨t, k, none⟩ v).alloc ob) := by
  have hS : Only (· = t) w (w.setCell ⟨t, k, none⟩ v) := Only.set _ t k _
  have hB : Below (w.setCell ⟨t, k, none⟩ v).heap.size (w.setCell ⟨t, k, none⟩ v) ((w.setCell ⟨t, k, none⟩ v).alloc ob) := bel1 _ _
  have h2 : (w.setCell ⟨t, k, none⟩ v).heap[t]? = some (.cells #[.int .i64 a', .int .i64 b', .int .i64 c'] 111 (0, 0)) := by
    rw [hset_same h, ← hs]
  refine ⟨rfl, ?_, hS.trans (Only.below hB) (fun _ _ e => e)⟩
  unfold TotAt
  rw [hB.block t (block_lt h2)]
  exact h2
set_option maxHeartbeats 4000000 in
set_option maxRecDepth 20000 in
theorem addU_any (t : Nat) (u : Us) (n : Int) (w : World) (h : TotAt w t u) (h0 : 0 ≤ u.1) (h1 : u.1 ≤ 1000000) (n0 : 0 ≤ n) (n1 : n ≤ 1000) :
    Calls Try.prog 73 #[.pointer (some ⟨t, 0, none⟩), .iface 143 (.agg #[.int .i64 n])] w fun e w' => e = .returned (.tuple #[]) ∧ TotAt w' t (u.1 + n, u.2.1, u.2.2) ∧ Only (· = t) w w' := by
  have hta : ∀ (v : Value) (w : World), (Instr.typeAssert (.iface 143 v) 114 143 true).run Try.prog w = .ok (.tuple #[v, .bool true]) w := fun v w => by kernel_rfl
  obtain ⟨u1, u2, u3⟩ := u
  unfold TotAt at h
  simp only at h h0 h1 ⊢
  have c0 := cell_of (k := 0) h
  simp at c0
  have hfz := frozen_of (k := 0) h
  have hlt := block_lt h
  have HH := hide h
  have hne : ¬ t = w.heap.size := by omega
  have hne2 : ¬ w.heap.size = t := by omega
  have hw : IntKind.i64.wrap (u1 + n) = u1 + n := by rw [IntKind.wrap_i64]; omega
  clear h
  go_enter Try.func73, Try.ntmps73
  go_wp2_with fail
  go_region
  all_goals
    go_wp2
    go_end0
    have hv : min (max (u1 + min (max n (-4096000)) 4096000) 0) 4096000 = u1 + n := by omega
    rw [hv]
    exact tot_end HH.out (by rfl) _
set_option maxHeartbeats 4000000 in
set_option maxRecDepth 20000 in
theorem addS_any (t : Nat) (u : Us) (w : World) (h : TotAt w t u) (h0 : 0 ≤ u.2.1) (h1 : u.2.1 ≤ 1000000) :
    Calls Try.prog 73 #[.pointer (some ⟨t, 0, none⟩), .iface 144 (.agg #[])] w fun e w' => e = .returned (.tuple #[]) ∧ TotAt w' t (u.1, u.2.1 + 1, u.2.2) ∧ Only (· = t) w w' := by
  have htu : ∀ (v : Value) (w : World), (Instr.typeAssert (.iface 144 v) 114 143 true).run Try.prog w = .ok (.tuple #[.agg #[.int .i64 0], .bool false]) w := fun v w => by kernel_rfl
  have hts : ∀ (v : Value) (w : World), (Instr.typeAssert (.iface 144 v) 114 144 true).run Try.prog w = .ok (.tuple #[v, .bool true]) w := fun v w => by kernel_rfl
  obtain ⟨u1, u2, u3⟩ := u
  unfold TotAt at h
  simp only at h h0 h1 ⊢
  have c1 := cell_of (k := 1) h
  simp at c1
  have hfz := frozen_of (k := 1) h
  have hlt := block_lt h
  have HH := hide h
  have hne : ¬ t = w.heap.size := by omega
  have hne2 : ¬ w.heap.size = t := by omega
  clear h
  go_enter Try.func73, Try.ntmps73
  go_wp2
  go_end0
  exact tot_end2 HH.out (by rfl) _
set_option maxHeartbeats 4000000 in
set_option maxRecDepth 20000 in
theorem addX_any (t : Nat) (u : Us) (w : World) (h : TotAt w t u) (h0 : 0 ≤ u.2.2) (h1 : u.2.2 ≤ 1000000) :
    Calls Try.prog 73 #[.pointer (some ⟨t, 0, none⟩), .iface 145 (.agg #[])] w fun e w' => e = .returned (.tuple #[]) ∧ TotAt w' t (u.1, u.2.1, u.2.2 + 1) ∧ Only (· = t) w w' := by
  have htu : ∀ (v : Value) (w : World), (Instr.typeAssert (.iface 145 v) 114 143 true).run Try.prog w = .ok (.tuple #[.agg #[.int .i64 0], .bool false]) w := fun v w => by kernel_rfl
  have hts : ∀ (v : Value) (w : World), (Instr.typeAssert (.iface 145 v) 114 144 true).run Try.prog w = .ok (.tuple #[.agg #[], .bool false]) w := fun v w => by kernel_rfl
  have htx : ∀ (v : Value) (w : World), (Instr.typeAssert (.iface 145 v) 114 145 true).run Try.prog w = .ok (.tuple #[v, .bool true]) w := fun v w => by kernel_rfl
  obtain ⟨u1, u2, u3⟩ := u
  unfold TotAt at h
  simp only at h h0 h1 ⊢
  have c2 := cell_of (k := 2) h
  simp at c2
  have hfz := frozen_of (k := 2) h
  have hlt := block_lt h
  have HH := hide h
  have hne : ¬ t = w.heap.size := by omega
  have hne2 : ¬ w.heap.size = t := by omega
  clear h
  go_enter Try.func73, Try.ntmps73
  go_wp2
  go_end0
  exact tot_end2 HH.out (by rfl) _
theorem TotAt.below {w w' : World} {t : Nat} {u : Us} (h : TotAt w t u) (hb : Below w.heap.size w w') : TotAt w' t u := by
  unfold TotAt at *
  rw [hb.block t (block_lt h)]; exact h
theorem TotS.small {L : List Hd} (h : ∀ x ∈ L, TotS x.2) : SmallH L := fun x hx => by
  rcases h x hx with h | h <;> omega
theorem tot3 {u : Us} {a b c : Int} (h : u = (a, b, c)) : Ending.returned (.tuple #[.int .i64 a, .int .i64 b, .int .i64 c]) = .returned (.tuple #[.int .i64 u.1, .int .i64 u.2.1, .int .i64 u.2.2]) := by rw [h]
set_option maxHeartbeats 8000000 in
set_option maxRecDepth 20000 in
/-- need.Total -/
theorem total_any (L : List Hd) (b g cap : Nat) (nm : ByteArray) (w : World) (hr : HdRow w b g cap L) (hL : L.length ≤ 1000) (ht : ∀ x ∈ L, TotS x.2) :
    Calls Try.prog 39 #[.slice (some ⟨g, 0, none⟩) L.length cap, .string nm] w fun e w' => e = .returned (.tuple #[.int .i64 (useF L nm).1, .int .i64 (useF L nm).2.1, .int .i64 (useF L nm).2.2]) ∧ Below w.heap.size w w' := by
  have HR := hide hr
  have HT := hide ht
  have hlc : L.length ≤ cap := by obtain ⟨cur, _, _, r, _⟩ := hr.block; exact r
  obtain ⟨T, hT⟩ : ∃ T, T = w.heap.size := ⟨_, rfl⟩
  obtain ⟨w0, hw0⟩ : ∃ w0, w.alloc (.cells #[.int .i64 0, .int .i64 0, .int .i64 0] 111) = w0 := ⟨_, rfl⟩
  have hb0 : Below w.heap.size w w0 := by rw [← hw0]; exact bel1 _ _
  have ht0 : TotAt w0 T (0, 0, 0) := by rw [← hw0, hT]; exact heap_alloc_new w _
  have hTw : w.heap.size ≤ T := by omega
  have HB0 := hide hb0
  have HT0 := hide ht0
  have HTE := hide hT
  clear hr ht hb0 ht0
  go_enter Try.func39, Try.ntmps39
  go_wp2
  try rw [hw0]
  try rw [← hT]
  clear hw0 hT
  go_loopw [12] (fun i wr => ∃ k : Nat, k ≤ L.length ∧ i = .int .i64 k ∧ TotAt wr T (useF (L.take k) nm) ∧ Below w.heap.size w wr ∧ T < wr.heap.size) (fun i _ => L.length - (intOf i).toNat)
  case atStart => exact ⟨0, Nat.zero_le _, rfl, HT0.out, HB0.out, block_lt HT0.out⟩
  case round =>
    clear HB0 HT0
    obtain ⟨k, hk, rfl, hta, hbl, hTl⟩ := hrel
    have HTA := hide hta
    have HBL := hide hbl
    have HROW := hide (HR.out.same (hbl.block g HR.out.lt))
    have hub := useF_bd nm (H := L.take k) (fun x hx => TotS.small HT.out x (List.mem_of_mem_take hx))
    have hul : 1000 * ((L.take k).length : Int) ≤ 1000000 := by rw [List.length_take]; omega
    have hul2 : ((L.take k).length : Int) ≤ 1000 := by rw [List.length_take]; omega
    clear hta hbl
    by_cases hlt : k < L.length
    · have HLT := hide hlt
      have hk0 : (0 : Int) ≤ (k : Int) := by omega
      have hk1 : (k : Int) < ((L.length : Nat) : Int) := by omega
      have e0 := HROW.out.cell k 0 hlt (by decide)
      have e1 := HROW.out.cell k 1 hlt (by decide)
      have e2 := HROW.out.cell k 2 hlt (by decide)
      have e3 := HROW.out.cell k 3 hlt (by decide)
      have HTK : Hid (useF (L.take (k + 1)) nm = if L[k].1.2 = nm then addU (useF (L.take k) nm) L[k].2 else useF (L.take k) nm) := hide ((congrArg (fun M => useF M nm) (List.take_succ_eq_append_getElem hlt)).trans (use_snoc _ _ _))
      have HTS := hide (HT.out L[k] (List.getElem_mem hlt))
      generalize L[k] = x at *
      generalize useF (L.take k) nm = u at *
      simp [encH] at e0 e1 e2 e3
      obtain ⟨⟨xo, xn⟩, sn, sm⟩ := x
      simp only at e0 e1 e2 e3 HTK HTS
      obtain ⟨w3, hw3⟩ : ∃ w3, wr.alloc (.cells #[.int .i64 xo, .string xn, .int .i64 sn, .int .i64 sm] 89) = w3 := ⟨_, rfl⟩
      have hb3 : Below wr.heap.size wr w3 := by rw [← hw3]; exact bel1 _ _
      have hblk : w3.heap[wr.heap.size]? = some (.cells #[.int .i64 xo, .string xn, .int .i64 sn, .int .i64 sm] 89 (0, 0)) := by rw [← hw3]; exact heap_alloc_new wr _
      have k1 := cell_of (k := 1) hblk
      have k2 := cell_of (k := 2) hblk
      have k3 := cell_of (k := 3) hblk
      simp at k1 k2 k3
      have HTA3 := hide (HTA.out.below hb3)
      have HB3 := hide (HBL.out.trans (hb3.mono HBL.out.size))
      have hT3 : T < w3.heap.size := by have := hb3.size; omega
      clear hb3 hblk HTA HBL
      go_upto_region 5 with fail
      try rw [hw3]
      clear hw3 e0 e1 e2 e3
      by_cases hnm : xn = nm
      · subst hnm
        have HTK2 : Hid (useF (L.take (k + 1)) xn = addU u (sn, sm)) := hide (by rw [HTK.out, if_pos rfl])
        clear HTK
        have hcs := HTS.out
        unfold TotS at hcs
        simp only at hcs
        clear HTS
        obtain ⟨ub0, ub1, ub2, ub3, ub4, ub5⟩ := hub
        rcases hcs with ⟨rfl, s0, s1⟩ | ⟨rfl, rfl | rfl⟩
        · have HAD := hide (fun w h => addU_any T u sn w h ub0 (by omega) s0 s1)
          have HV : Hid (useF (L.take (k + 1)) xn = (u.1 + sn, u.2.1, u.2.2)) := hide (by rw [HTK2.out]; unfold addU; simp)
          go_wp2_with fail
          refine (kindU sn _).mono ?_
          rintro e w4 ⟨rfl, rfl⟩
          go_wp2_with fail
          refine (HAD.out _ HTA3.out).mono ?_
          rintro e w4 ⟨rfl, ht4, ho4⟩
          have HT4 := hide ht4
          have HB4 : Hid (Below w.heap.size w w4) := hide (HB3.out.trans (ho4.toBelow HB3.out.size (fun i e => by rw [e]; exact hTw)))
          have hT4 : T < w4.heap.size := block_lt ht4
          clear ht4 ho4 HAD ub0 ub1 ub2 ub3 ub4 ub5
          go_wp2
          go_roundw
          case rel => exact ⟨k + 1, by have := HLT.out; omega, by go_num, by rw [HV.out]; exact HT4.out, HB4.out, hT4⟩
          case measure => have := HLT.out; simp [intOf]; omega
        · have HAD := hide (fun w h => addS_any T u w h ub2 (by omega))
          have HV : Hid (useF (L.take (k + 1)) xn = (u.1, u.2.1 + 1, u.2.2)) := hide (by rw [HTK2.out]; unfold addU; simp)
          go_wp2_with fail
          refine (kindS 0 _).mono ?_
          rintro e w4 ⟨rfl, rfl⟩
          go_wp2_with fail
          refine (HAD.out _ HTA3.out).mono ?_
          rintro e w4 ⟨rfl, ht4, ho4⟩
          have HT4 := hide ht4
          have HB4 : Hid (Below w.heap.size w w4) := hide (HB3.out.trans (ho4.toBelow HB3.out.size (fun i e => by rw [e]; exact hTw)))
          have hT4 : T < w4.heap.size := block_lt ht4
          clear ht4 ho4 HAD ub0 ub1 ub2 ub3 ub4 ub5
          go_wp2
          go_roundw
          case rel => exact ⟨k + 1, by have := HLT.out; omega, by go_num, by rw [HV.out]; exact HT4.out, HB4.out, hT4⟩
          case measure => have := HLT.out; simp [intOf]; omega
        · have HAD := hide (fun w h => addX_any T u w h ub4 (by omega))
          have HV : Hid (useF (L.take (k + 1)) xn = (u.1, u.2.1, u.2.2 + 1)) := hide (by rw [HTK2.out]; unfold addU; simp)
          go_wp2_with fail
          refine (kindX 0 _).mono ?_
          rintro e w4 ⟨rfl, rfl⟩
          go_wp2_with fail
          refine (HAD.out _ HTA3.out).mono ?_
          rintro e w4 ⟨rfl, ht4, ho4⟩
          have HT4 := hide ht4
          have HB4 : Hid (Below w.heap.size w w4) := hide (HB3.out.trans (ho4.toBelow HB3.out.size (fun i e => by rw [e]; exact hTw)))
          have hT4 : T < w4.heap.size := block_lt ht4
          clear ht4 ho4 HAD ub0 ub1 ub2 ub3 ub4 ub5
          go_wp2
          go_roundw
          case rel => exact ⟨k + 1, by have := HLT.out; omega, by go_num, by rw [HV.out]; exact HT4.out, HB4.out, hT4⟩
          case measure => have := HLT.out; simp [intOf]; omega
      · have hne := str_neP hnm
        have HV : Hid (useF (L.take (k + 1)) nm = u) := hide (by rw [HTK.out, if_neg hnm])
        clear hnm HTK hub
        go_wp2
        go_roundw
        case rel => exact ⟨k + 1, by have := HLT.out; omega, by go_num, by rw [HV.out]; exact HTA3.out, HB3.out, hT3⟩
        case measure => have := HLT.out; simp [intOf]; omega
    · have e : k = L.length := by omega
      have hk1 : ¬ (k : Int) < ((L.length : Nat) : Int) := by omega
      rw [e, List.take_length] at HTA
      have ht9 := HTA.out
      unfold TotAt at ht9
      clear hub e hlt
      obtain ⟨u, hu⟩ : ∃ u, useF L nm = u := ⟨_, rfl⟩
      obtain ⟨u1, u2, u3⟩ := u
      rw [hu] at ht9
      have HU := hide hu
      clear hu
      simp only at ht9
      have c0 := cell_of (k := 0) ht9
      have c1 := cell_of (k := 1) ht9
      have c2 := cell_of (k := 2) ht9
      simp at c0 c1 c2
      clear ht9 HTA
      go_wp2
      go_quiet (fail)
      go_wp2
      go_ret3
      exact ⟨tot3 HU.out, HBL.out.trans ((below_drewNP _ _).mono HBL.out.size)⟩
end Go.Proofs.Ytkpambipgcjaiaa
