/- The walks of dayshiftref04: put, Frame. -/
import Derived.Test.YtgobnnciijlpaaaDoorLrA
import Derived.Test.YtgobnnciijlpaaaDoorApp
namespace Go.Proofs.YtgobnnciijlpaaaDoor
open Go.ChangeShapes Go.WideShapes Go.ChangeAt Go.RowKit Go.DsMem Go.DsDk Go.DsLg
set_option linter.unusedVariables false

theorem low_byte (n q : Nat) : (n : Int) / 2 ^ (8 * q) % 256 = ((UInt8.ofNat (n / 256 ^ q % 256)).toNat : Int) := by
  have h1 : (256 : Nat) ^ q = 2 ^ (8 * q) := by rw [Nat.pow_mul]
  have h2 : (n : Int) / 2 ^ (8 * q) = ((n / 256 ^ q : Nat) : Int) := by rw [h1]; simp
  rw [h2]
  simp
theorem lowB_get (s n k : Nat) (h : k < s) : (lowB s n)[k]? = some (UInt8.ofNat (n / 256 ^ (s - 1 - k) % 256)) := by
  induction s generalizing k with
  | zero => omega
  | succ s ih =>
    cases k with
    | zero => simp [lowB]
    | succ k => simp only [lowB, List.getElem?_cons_succ]; rw [ih k (by omega)]; congr 5; omega
theorem lowB_take (s n k : Nat) (h : k < s) : (lowB s n).take (k + 1) = (lowB s n).take k ++ [UInt8.ofNat (n / 256 ^ (s - 1 - k) % 256)] := by
  rw [List.take_add_one, lowB_get s n k h]; rfl

set_option maxHeartbeats 1000000 in
/-- dayshiftref04.put -/
theorem rput_any (n size : Nat) (w : World) (hn : n < 18446744073709551616) (h8 : size ≤ 8) :
    Calls Tryd.prog 64 #[.int .u64 n, .int .i64 size] w fun e w' => ∃ v, e = .returned v ∧ w'.ownsRow w.heap.size 5 1 v size (bvs (lowB size n)) ∧ Below w.heap.size w w' := by
  go_enter Tryd.func64, Tryd.ntmps64
  go_wp2
  go_loopw [5, 6] (fun v i wr => ∃ k : Nat, k ≤ size ∧ i = .int .i64 ((size : Int) - 1 - (k : Int)) ∧ wr.ownsRow w.heap.size 5 1 v k (bvs ((lowB size n).take k)) ∧ Below w.heap.size w wr) (fun _ i _ => (intOf i + 1).toNat)
  case atStart => exact ⟨0, Nat.zero_le _, by go_num, World.ownsRow_nil _ _ _ _, Below.refl _ _⟩
  case round =>
    obtain ⟨k, hk, rfl, hv, hb⟩ := hrel
    obtain ⟨vo, vc, rfl, _⟩ := own_shape hv
    have HV := hide hv
    have HB := hide hb
    clear hv hb
    by_cases hlt : k < size
    · obtain ⟨q, hq⟩ : ∃ q, q = size - 1 - k := ⟨_, rfl⟩
      have hqi : (size : Int) - 1 - (k : Int) = (q : Int) := by omega
      have hq8 : q < 8 := by omega
      have HQ := hide hq
      have HQI := hide hqi
      rw [hqi]
      clear hqi hq
      go_wp2_with (at_builtin; refine wpList_append_rd rfl (.tmp 13) (.tmp 20) 28 rfl 5 Tryd.underlying28 info5 w.heap.size _ k _ rfl (HV.out.alloc _) _ [UInt8.ofNat (n / 256 ^ q % 256)] rfl (Rd.one _ _ _ (low_byte n q) _ _) (by simp; omega) (by have := HB.out.size; simp; omega) ?_; intro v' w' hv' hg' ho'; have HV2 := hide hv'; have HG2 := hide hg'; clear hv' hg' ho')
      refine ⟨⟨k + 1, by omega, by have := HQI.out; congr 1; omega, ?_, ?_⟩, ?_⟩
      · rw [lowB_take _ _ _ hlt, ← HQ.out]
        exact HV2.out
      · exact (HB.out.alloc HB.out.size _).grown HG2.out (by have := HB.out.size; simp; omega) (fun k hk => (HV.out.lt k hk).1)
      · simp [intOf]
    · obtain rfl : k = size := by omega
      have hm : (k : Int) - 1 - (k : Int) = -1 := by omega
      rw [hm]
      go_wp2
      go_ret
      exact ⟨_, rfl, by have := HV.out; rw [List.take_of_length_le (by rw [lowB_len]; omega)] at this; exact this, HB.out⟩

theorem rframe_no (sq : Value) (rec : List UInt8) (sl : Value) (w : World) (h : Rd w sl rec) (hbig : 60000 < rec.length) :
    Calls Tryd.prog 33 #[sq, sl] w fun e w' => e = .returned (.tuple #[.slice none 0 0, .int .i64 3]) ∧ w' = w := by
  obtain ⟨ao, cap, rfl, hlc, hnil, hrd⟩ := h
  have hb : (60000 : Int) < (rec.length : Int) := by omega
  clear hrd hnil
  go_enter Tryd.func33, Tryd.ntmps33
  go_wp2
  go_ret2
  exact ⟨rfl, rfl⟩

set_option maxHeartbeats 2000000 in
/-- dayshiftref04.Frame -/
theorem rframe_any (sq : Nat) (rec : List UInt8) (sl : Value) (w : World) (h : Rd w sl rec) (hsq : sq < 18446744073709551616) (hsml : rec.length ≤ 60000) :
    Calls Tryd.prog 33 #[.int .u64 sq, sl] w fun e w' => ∃ v, e = .returned (.tuple #[v, .int .i64 0]) ∧ w'.ownsRow w.heap.size 5 1 v (frameB sq rec).length (bvs (frameB sq rec)) ∧ Below w.heap.size w w' := by
  have HR := hide h
  obtain ⟨ao, cap, rfl, hlc, hnil, hrd⟩ := h
  clear hrd hnil
  go_enter Tryd.func33, Tryd.ntmps33
  go_wp2_with fail
  refine (rput_any sq 8 _ hsq (by decide)).mono ?_
  rintro e w1 ⟨v1, rfl, hv1, hb1⟩
  have HV1 := hide hv1
  have HB1 := hide hb1
  clear hv1 hb1
  go_wp2_with (at_builtin; refine wpList_append_rd rfl (.tmp 12) (.tmp 13) 28 rfl 5 Tryd.underlying28 info5 w.heap.size _ 8 _ rfl HV1.out _ rec rfl (rd_in HR.out HB1.out (Nat.le_refl _)) (by omega) HB1.out.size ?_; intro v2 w2 hv2 hg2 ho2; have HB2 := hide (HB1.out.grown hg2 HB1.out.size (fun k hk => (HV1.out.lt k hk).1)); have HV2 := hide hv2; clear hv2 hg2 ho2)
  refine (rput_any rec.length 4 _ (by omega) (by decide)).mono ?_
  rintro e w3 ⟨v3, rfl, hv3, hb3⟩
  have HV2' := hide (own_below HV2.out hb3)
  have HB3 := hide (HB2.out.trans (hb3.mono HB2.out.size))
  have HZ3 := hide hb3.size
  have HV3 := hide hv3
  have HN : Hid (8 + rec.length = (lowB 8 sq ++ rec).length) := by show _ = _; rw [List.length_append, lowB_len]
  clear hv3 hb3
  go_wp2_with fail
  refine (rsum_any (lowB 8 sq ++ rec) _ _ (Rd.own HV2'.out) (by rw [← HN.out]; omega)).mono ?_
  rintro e w3' ⟨rfl, rfl⟩
  rename World => w3
  obtain ⟨su, hsu⟩ : ∃ su, su = sum32 (lowB 8 sq ++ rec) := ⟨_, rfl⟩
  have hsl := sum32_lt (lowB 8 sq ++ rec)
  rw [← hsu] at hsl ⊢
  have HSU := hide hsu
  clear hsu
  go_wp2_with fail
  refine (rput_any su 4 _ (by omega) (by decide)).mono ?_
  rintro e w4 ⟨v4, rfl, hv4, hb4⟩
  have HV24 := hide (own_below HV2'.out hb4)
  have HV34 := hide (own_below HV3.out hb4)
  have HB4 := hide (HB3.out.trans (hb4.mono HB3.out.size))
  have HZ4 := hide hb4.size
  have HV4 := hide hv4
  clear hv4 hb4
  go_wp2_with (first
    | (at_builtin; refine wpList_append_rd rfl (.tmp 19) (.tmp 23) 28 rfl 5 Tryd.underlying28 info5 w2.heap.size _ 4 _ rfl HV34.out _ (lowB 4 su) rfl (Rd.own HV4.out) (by rw [lowB_len]; omega) (Nat.le_trans HZ3.out HZ4.out) ?_; intro v5 w5 hv5 hg5 ho5; have HB5 := hide (HB4.out.grown hg5 HB4.out.size (fun k hk => Nat.le_trans HB2.out.size (HV34.out.lt k hk).1)); have HZ5 := hide (Only.grown hg5).size; have HV25 := hide (own_only HV24.out (Only.grown hg5) (fun k hk hk3 => by have := (HV2.out.lt k hk).2; have := (HV34.out.lt k hk3).1; omega)); have HV5 := hide hv5; clear hv5 hg5 ho5)
    | (at_builtin; refine wpList_append_rd rfl (.tmp 25) (.tmp 26) 28 rfl 5 Tryd.underlying28 info5 w2.heap.size _ _ _ rfl HV5.out _ (lowB 8 sq ++ rec) rfl (Rd.own HV25.out) (by rw [← HN.out, lowB_len]; omega) (Nat.le_trans HZ3.out (Nat.le_trans HZ4.out HZ5.out)) ?_; intro v6 w6 hv6 hg6 ho6; have HB6 := hide (HB5.out.grown hg6 HB5.out.size (fun k hk => Nat.le_trans HB2.out.size (HV5.out.lt k hk).1)); have HV6 := hide hv6; clear hv6 hg6 ho6))
  go_ret2
  refine ⟨_, rfl, ?_, HB6.out⟩
  have := own_base HV6.out HB2.out.size
  unfold frameB
  rw [← HSU.out]
  rw [List.append_assoc] at this
  have hl : (lowB 4 rec.length ++ (lowB 4 su ++ (lowB 8 sq ++ rec))).length = 4 + (lowB 4 su).length + (lowB 8 sq ++ rec).length := by rw [List.length_append, List.length_append, lowB_len, lowB_len]; omega
  rw [hl]
  exact this
end Go.Proofs.YtgobnnciijlpaaaDoor
