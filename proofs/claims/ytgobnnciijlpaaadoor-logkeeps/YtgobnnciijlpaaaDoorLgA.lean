/- The walks of Sum, put, get, copied of package log. -/
import Derived.Test.YtgobnnciijlpaaaDoorDkH
import Derived.Test.YtgobnnciijlpaaaDoorLgM
namespace Go.Proofs.YtgobnnciijlpaaaDoor
open Go.ChangeShapes Go.WideShapes Go.ChangeAt Go.RowKit Go.DsMem Go.DsDk Go.DsLg
set_option linter.unusedVariables false

/-- the table of package log -/
def Tab (w : World) : Prop := ∀ k : Nat, k < 16 → w.cell? ⟨0, k, none⟩ = some (.int .u32 (tbl k))

theorem xor32 (a b : Nat) (ha : a < 4294967296) (hb : b < 4294967296) : bits .xor .u32 (a : Int) (b : Int) = ((a ^^^ b : Nat) : Int) := by
  have hx : a ^^^ b < 2 ^ 32 := Nat.xor_lt_two_pow (by omega) (by omega)
  have h1 : (BitVec.ofInt 32 (a : Int)).toNat = a := by rw [BitVec.ofInt_natCast, BitVec.toNat_ofNat]; exact Nat.mod_eq_of_lt (by omega)
  have h2 : (BitVec.ofInt 32 (b : Int)).toNat = b := by rw [BitVec.ofInt_natCast, BitVec.toNat_ofNat]; exact Nat.mod_eq_of_lt (by omega)
  show IntKind.u32.wrap ((BitVec.ofInt 32 (a : Int) ^^^ BitVec.ofInt 32 (b : Int)).toNat : Int) = _
  rw [BitVec.toNat_xor, h1, h2, IntKind.wrap_u32]
  omega
theorem and32 (a : Nat) (ha : a < 4294967296) : bits .and .u32 (a : Int) 15 = ((a &&& 15 : Nat) : Int) := by
  have hx : a &&& 15 < 2 ^ 32 := Nat.and_lt_two_pow _ (by omega)
  have h1 : (BitVec.ofInt 32 (a : Int)).toNat = a := by rw [BitVec.ofInt_natCast, BitVec.toNat_ofNat]; exact Nat.mod_eq_of_lt (by omega)
  have h2 : (BitVec.ofInt 32 (15 : Int)).toNat = 15 := by decide
  show IntKind.u32.wrap ((BitVec.ofInt 32 (a : Int) &&& BitVec.ofInt 32 (15 : Int)).toNat : Int) = _
  rw [BitVec.toNat_and, h1, h2, IntKind.wrap_u32]
  omega
theorem nib_eq (x : Nat) (hx : x < 4294967296) : bits .xor .u32 ((x : Int) / 16) (tbl (x &&& 15) : Int) = ((nib x : Nat) : Int) := by
  have e : (x : Int) / (16 : Int) = ((x >>> 4 : Nat) : Int) := by rw [Nat.shiftRight_eq_div_pow]; omega
  rw [e, xor32 _ _ (by have := Nat.shiftRight_le x 4; omega) (tbl_lt _)]
  rfl
theorem and15 (x : Nat) : x &&& 15 < 16 := Nat.lt_of_le_of_lt Nat.and_le_right (by decide)

set_option maxHeartbeats 1000000 in
/-- log.Sum -/
theorem sum_any (l : List UInt8) (sl : Value) (w : World) (ht : Tab w) (h : Rd w sl l) (hl : l.length ≤ 140737488355328) :
    Calls Tryd.prog 36 #[sl] w fun e w' => e = .returned (.int .u32 (sum32 l)) ∧ w' = w := by
  obtain ⟨ao, cap, rfl, hlc, hnil, hrd⟩ := h
  go_enter Tryd.func36, Tryd.ntmps36
  go_wp2
  go_loop [3, 8] (fun s i => ∃ k : Nat, k ≤ l.length ∧ i = .int .i64 k ∧ s = .int .u32 (crcL 4294967295 (l.take k))) (fun _ i => l.length - (intOf i).toNat)
  case atStart => exact ⟨0, Nat.zero_le _, rfl, rfl⟩
  case round =>
    obtain ⟨k, hk, rfl, rfl⟩ := hrel
    by_cases hlt : k < l.length
    · obtain ⟨a, rfl⟩ : ∃ a, ao = some a := by
        cases ao with
        | none => have := hnil rfl; omega
        | some a => exact ⟨a, rfl⟩
      have hc := hrd a rfl k l[k] (List.getElem?_eq_getElem hlt)
      unfold bv at hc
      clear hrd hnil
      have hs : crcL 4294967295 (l.take k) < 4294967296 := crcL_lt (by decide) _
      generalize hse : crcL 4294967295 (l.take k) = s at *
      generalize hce : l[k] = c at *
      have HS := hide hse
      have HC := hide hce
      clear hse hce
      have hcb := c.toNat_lt
      obtain ⟨x1, hx1⟩ : ∃ x1, x1 = s ^^^ c.toNat := ⟨_, rfl⟩
      have l1 : x1 < 4294967296 := by rw [hx1]; exact Nat.xor_lt_two_pow (n := 32) hs (by omega)
      have e1 : bits .xor .u32 (s : Int) (c.toNat : Int) = (x1 : Int) := by rw [hx1]; exact xor32 _ _ hs (by omega)
      have HX1 := hide hx1
      clear hx1
      obtain ⟨n1, hn1⟩ : ∃ n1, n1 = x1 &&& 15 := ⟨_, rfl⟩
      have b1 : n1 < 16 := by rw [hn1]; exact and15 x1
      have e2 : bits .and .u32 (x1 : Int) 15 = (n1 : Int) := by rw [hn1]; exact and32 _ l1
      have t1 := ht n1 b1
      obtain ⟨x2, hx2⟩ : ∃ x2, x2 = nib x1 := ⟨_, rfl⟩
      have l2 : x2 < 4294967296 := by rw [hx2]; exact nib_lt l1
      have e3 : bits .xor .u32 ((x1 : Int) / 16) (tbl n1 : Int) = (x2 : Int) := by rw [hx2, hn1]; exact nib_eq _ l1
      have HX2 := hide hx2
      clear hx2 hn1
      obtain ⟨n2, hn2⟩ : ∃ n2, n2 = x2 &&& 15 := ⟨_, rfl⟩
      have b2 : n2 < 16 := by rw [hn2]; exact and15 x2
      have e4 : bits .and .u32 (x2 : Int) 15 = (n2 : Int) := by rw [hn2]; exact and32 _ l2
      have t2 := ht n2 b2
      obtain ⟨x3, hx3⟩ : ∃ x3, x3 = nib x2 := ⟨_, rfl⟩
      have e5 : bits .xor .u32 ((x2 : Int) / 16) (tbl n2 : Int) = (x3 : Int) := by rw [hx3, hn2]; exact nib_eq _ l2
      have HX3 := hide hx3
      clear hx3 hn2
      generalize tbl n1 = q1 at *
      generalize tbl n2 = q2 at *
      have HT := hide ht
      clear ht
      go_wp2
      go_round
      case rel =>
        refine ⟨k + 1, by omega, by go_num, ?_⟩
        rw [List.take_succ_eq_append_getElem hlt, crcL_snoc, HC.out, HS.out, HX3.out, HX2.out, HX1.out]
        rfl
      case measure => simp [intOf]; omega
    · have e0 := hide (List.take_of_length_le (l := l) (i := k) (by omega))
      have hs : crcL 4294967295 (l.take k) < 4294967296 := crcL_lt (by decide) _
      obtain ⟨s, hse⟩ : ∃ s, s = crcL 4294967295 (l.take k) := ⟨_, rfl⟩
      rw [← hse] at hs ⊢
      have HS := hide hse
      clear hse
      go_wp2
      go_ret
      refine ⟨ret_int ?_, rfl⟩
      have hmax : IntKind.u32.max = ((4294967295 : Nat) : Int) := by decide
      rw [hmax, xor32 _ _ (by decide) hs, HS.out, e0.out]
      rfl

/-- log.copied -/
theorem lcopied_any (l : List UInt8) (sl : Value) (w : World) (h : Rd w sl l) (hl : l.length ≤ 140737488355328) :
    Calls Tryd.prog 66 #[sl] w fun e w' => ∃ v, e = .returned v ∧ w'.ownsRow w.heap.size 5 1 v l.length (bvs l) ∧ Below w.heap.size w w' := by
  obtain ⟨i0, hi, hz0, hz1, hz2⟩ := info_parts info5
  obtain ⟨ao, cap, rfl, hlc, hnil, hrd⟩ := h
  go_enter Tryd.func66, Tryd.ntmps66
  go_wp2_with (first
    | (at_make; refine wpList_make_full _ rfl _ _ 28 rfl w.heap.size 5 i0 (.int .u8 0) 1 Tryd.underlying28 hi hz0 hz1 _ _ _ _ l.length rfl rfl rfl rfl (by rw [hz2]; omega) (by unfold maxLen; omega) (Nat.le_refl _) ?_; intro w1 hown1 hgrow1; obtain ⟨cur, hcur, hlen, _, _, _, _⟩ := own_row hown1; have hb1 := (Below.refl w.heap.size w).grown hgrow1 (Nat.le_refl _) (fun _ h => by cases h); clear hown1 hgrow1; have HC := hide hcur; clear hcur)
    | (refine wpList_copy_splice rfl (.tmp 7) (.tmp 8) 28 28 rfl 5 Tryd.underlying28 size5 _ _ _ _ _ _ rfl rfl w.heap.size 0 cur 5 HC.out (bvs l) (by rw [bvs_length]; exact (Nat.min_self _).symm) (copied_pos hb1 hnil hrd) (by rw [bvs_length]; omega) (bvs_one l) w.heap.size w hb1 (Nat.le_refl _) ?_; intro w2 hw2 hb2))
  go_ret
  refine ⟨_, rfl, own_mk hw2.out ?_ ?_ (Nat.le_refl _) (by unfold maxLen; omega) (Nat.le_refl _), hb2⟩
  · rw [length_splice _ _ _ (by rw [bvs_length]; omega)]; omega
  · rw [splice_all _ _ (by rw [bvs_length]; omega)]; exact List.take_of_length_le (by rw [bvs_length]; omega)

theorem set_splice {α : Type} (L cs : List α) (p : Nat) (x : α) (h : p + 1 + cs.length ≤ L.length) : (splice L (p + 1) cs).set p x = splice L p (x :: cs) := by
  unfold splice
  have hp : p < L.length := by omega
  rw [List.take_succ_eq_append_getElem hp]
  rw [List.append_assoc, List.set_append_right _ _ (by simp; omega)]
  have e : p - (L.take p).length = 0 := by simp; omega
  rw [e]
  simp only [List.set_cons_zero, List.length_cons, List.cons_append, List.nil_append]
  rw [show p + 1 + cs.length = p + (cs.length + 1) by omega]
theorem splice_nil {α : Type} (L : List α) (p : Nat) : splice L p [] = L := by simp [splice]
theorem div_pow (n k : Nat) : ((n / 256 ^ k : Nat) : Int) / 256 = ((n / 256 ^ (k + 1) : Nat) : Int) := by
  rw [Nat.pow_succ, ← Nat.div_div_eq_div_mul]; rfl
theorem byte_of (m : Nat) : Value.int .u8 ((m : Int) % 256) = bv (UInt8.ofNat (m % 256)) := by
  unfold bv; congr 1; simp

set_option maxHeartbeats 1000000 in
/-- log.put -/
theorem put_any (g o len cap n : Nat) (cur : List Value) (w : World) (hg : w.heap[g]? = some (.cells cur.toArray 5 (0, 0))) (hfit : o + len ≤ cur.length) (hn : n < 18446744073709551616) (h8 : len ≤ 8) :
    Calls Tryd.prog 63 #[.slice (some ⟨g, o, none⟩) len cap, .int .u64 n] w fun e w' => e = .returned (.tuple #[]) ∧
      w'.heap[g]? = some (.cells (splice cur o (bvs (lowB len n))).toArray 5 (0, 0)) ∧ Only (· = g) w w' := by
  have HG := hide hg
  clear hg
  go_enter Tryd.func63, Tryd.ntmps63
  go_wp2
  go_loopw [1, 7] (fun v i wr => ∃ k : Nat, k ≤ len ∧ i = .int .i64 k ∧ v = .int .u64 ((n / 256 ^ k : Nat) : Int) ∧
    wr.heap[g]? = some (.cells (splice cur (o + (len - k)) (bvs (lowB k n))).toArray 5 (0, 0)) ∧ Only (· = g) w wr) (fun _ i _ => len - (intOf i).toNat)
  case atStart => exact ⟨0, Nat.zero_le _, rfl, by simp, by simpa [lowB, bvs, splice_nil] using HG.out, Only.refl _ _⟩
  case round =>
    obtain ⟨k, hk, rfl, rfl, hb, ho⟩ := hrel
    by_cases hlt : k < len
    · have hcl : (splice cur (o + (len - k)) (bvs (lowB k n))).length = cur.length := length_splice _ _ _ (by rw [bvs_length, lowB_len]; omega)
      have hpos : o + (len - 1 - k) < (splice cur (o + (len - k)) (bvs (lowB k n))).length := by omega
      have hc : ∃ x, wr.cell? ⟨g, o + (len - 1 - k), none⟩ = some x := ⟨_, (cell_of hb).trans (by rw [List.getElem?_toArray, List.getElem?_eq_getElem hpos])⟩
      obtain ⟨x0, hc⟩ := hc
      have hf := frozen_of (k := o + (len - 1 - k)) hb
      have hnb : n / 256 ^ k < 18446744073709551616 := Nat.lt_of_le_of_lt (Nat.div_le_self _ _) hn
      obtain ⟨m, hm⟩ : ∃ m, m = n / 256 ^ k := ⟨_, rfl⟩
      rw [← hm] at hnb ⊢
      have HM := hide hm
      have HB := hide hb
      have HO := hide ho
      clear hb ho hm
      obtain ⟨q, hq⟩ : ∃ q, q = len - 1 - k := ⟨_, rfl⟩
      have hqi : (len : Int) - 1 - (k : Int) = (q : Int) := by omega
      rw [← hq] at hc hf
      have HQ := hide hq
      clear hq
      go_wp2
      refine ⟨⟨k + 1, by omega, by go_num, ?_, ?_, HO.out.trans (Only.set _ _ _ _) (fun _ _ h => h)⟩, by simp [intOf]; omega⟩
      · rw [HM.out]; exact congrArg (Value.int .u64) (div_pow n k)
      · rw [hset_same HB.out, byte_of, HQ.out, List.setIfInBounds_toArray]
        have e1 : o + (len - k) = o + (len - 1 - k) + 1 := by omega
        have e2 : o + (len - (k + 1)) = o + (len - 1 - k) := by omega
        rw [e1, e2, set_splice _ _ _ _ (by rw [bvs_length, lowB_len]; omega), HM.out]
        rfl
    · obtain rfl : k = len := by omega
      have HB := hide hb
      have HO := hide ho
      clear hb ho
      go_wp2
      go_end0
      exact ⟨rfl, by have := HB.out; rw [Nat.sub_self, Nat.add_zero] at this; exact this, HO.out⟩

theorem or_byte (n : Nat) (c : UInt8) (hn : n < 72057594037927936) : bits .or .u64 ((n : Int) * 256) (c.toNat : Int) = ((n * 256 + c.toNat : Nat) : Int) := by
  have hc := c.toNat_lt
  rw [show (n : Int) * 256 = ((n * 256 : Nat) : Int) by omega, bits_or_u64_nat _ _ (by omega) (by omega)]
  congr 1
  rw [Nat.mul_comm, show 256 = 2 ^ 8 by decide, ← Nat.two_pow_add_eq_or_of_lt hc]

set_option maxHeartbeats 1000000 in
/-- log.get -/
theorem get_any (l : List UInt8) (sl : Value) (w : World) (h : Rd w sl l) (h8 : l.length ≤ 8) :
    Calls Tryd.prog 73 #[sl] w fun e w' => e = .returned (.int .u64 (getN l)) ∧ w' = w := by
  obtain ⟨ao, cap, rfl, hlc, hnil, hrd⟩ := h
  go_enter Tryd.func73, Tryd.ntmps73
  go_wp2
  go_loop [3, 8] (fun s i => ∃ k : Nat, k ≤ l.length ∧ i = .int .i64 k ∧ s = .int .u64 (getN (l.take k))) (fun _ i => l.length - (intOf i).toNat)
  case atStart => exact ⟨0, Nat.zero_le _, rfl, rfl⟩
  case round =>
    obtain ⟨k, hk, rfl, rfl⟩ := hrel
    by_cases hlt : k < l.length
    · obtain ⟨a, rfl⟩ : ∃ a, ao = some a := by
        cases ao with
        | none => have := hnil rfl; omega
        | some a => exact ⟨a, rfl⟩
      have hc := hrd a rfl k l[k] (List.getElem?_eq_getElem hlt)
      unfold bv at hc
      clear hrd hnil
      have hs : getN (l.take k) < 72057594037927936 := by
        refine Nat.lt_of_lt_of_le (getN_lt _) ?_
        rw [List.length_take, Nat.min_eq_left hk]
        exact Nat.le_trans (Nat.pow_le_pow_right (by decide) (show k ≤ 7 by omega)) (by decide)
      generalize hse : getN (l.take k) = s at *
      generalize hce : l[k] = c at *
      have HS := hide hse
      have HC := hide hce
      clear hse hce
      have hcb := c.toNat_lt
      have e1 := or_byte s c hs
      generalize hy : s * 256 + c.toNat = y at e1
      have HY := hide hy
      clear hy
      go_wp2
      refine ⟨⟨k + 1, by omega, by go_num, ?_⟩, by simp [intOf]; omega⟩
      rw [List.take_succ_eq_append_getElem hlt, getN_snoc, HS.out, HC.out, HY.out]
    · have e0 := hide (List.take_of_length_le (l := l) (i := k) (by omega))
      go_wp2
      go_ret
      exact ⟨ret_int (by rw [e0.out]), rfl⟩
end Go.Proofs.YtgobnnciijlpaaaDoor
