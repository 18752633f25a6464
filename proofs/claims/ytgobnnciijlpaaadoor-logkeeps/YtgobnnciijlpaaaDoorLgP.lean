/- Frames that are written are read; bytes that are cut, or of which one is another, tell fewer records. No program in sight. -/
import Derived.Test.YtgobnnciijlpaaaDoorLgN
namespace Go.DsLg
open Go.DsDk

theorem fold_from (l : List UInt8) (n : Nat) : l.foldl (fun n c => n * 256 + c.toNat) n = n * 256 ^ l.length + getN l := by
  induction l generalizing n with
  | nil => simp [getN]
  | cons c l ih =>
    have h1 := ih (n * 256 + c.toNat)
    have h2 := ih (0 * 256 + c.toNat)
    unfold getN
    simp only [List.foldl_cons, List.length_cons]
    rw [h1, h2, Nat.pow_succ, Nat.zero_mul, Nat.zero_add, Nat.add_mul, Nat.mul_assoc, Nat.mul_comm 256, Nat.add_assoc]
theorem getN_append (a b : List UInt8) : getN (a ++ b) = getN a * 256 ^ b.length + getN b := by
  have := fold_from b (getN a)
  unfold getN at this ⊢
  rw [List.foldl_append]
  exact this
theorem getN_one (c : UInt8) : getN [c] = c.toNat := by simp [getN]
theorem getN_lowB (k n : Nat) : getN (lowB k n) = n % 256 ^ k := by
  induction k with
  | zero => simp [lowB, getN, Nat.mod_one]
  | succ k ih =>
    have e : lowB (k + 1) n = [UInt8.ofNat (n / 256 ^ k % 256)] ++ lowB k n := rfl
    rw [e, getN_append, getN_one, lowB_len, ih]
    have hb : (UInt8.ofNat (n / 256 ^ k % 256)).toNat = n / 256 ^ k % 256 := by simp
    rw [hb, Nat.pow_succ, Nat.mod_mul, Nat.mul_comm, Nat.add_comm]
/-- another byte in its place makes another number -/
theorem getN_ne (P S : List UInt8) {c d : UInt8} (h : c ≠ d) : getN (P ++ ([c] ++ S)) ≠ getN (P ++ ([d] ++ S)) := by
  intro e
  rw [getN_append, getN_append, getN_append, getN_append, getN_one, getN_one] at e
  simp only [List.length_append, List.length_cons, List.length_nil] at e
  have h1 : c.toNat * 256 ^ S.length = d.toNat * 256 ^ S.length := by omega
  have h2 : 0 < 256 ^ S.length := Nat.pow_pos (by decide)
  exact h (UInt8.toNat_inj.1 (Nat.eq_of_mul_eq_mul_right h2 h1))

theorem nib_inj {a b : Nat} (ha : a < 4294967296) (hb : b < 4294967296) (h : nib a = nib b) : a = b := by
  have hs : ∀ s, s < 4294967296 → nib s >>> 28 = tbl (s &&& 15) >>> 28 := by
    intro s hs
    unfold nib
    rw [Nat.shiftRight_xor_distrib, ← Nat.shiftRight_add, Nat.shiftRight_eq_div_pow s, Nat.div_eq_of_lt (by omega), Nat.zero_xor]
  have h15 : ∀ s : Nat, s &&& 15 < 16 := fun s => by rw [show (15 : Nat) = 2 ^ 4 - 1 from rfl, Nat.and_two_pow_sub_one_eq_mod]; omega
  have hi : ∀ x, x < 16 → ∀ y, y < 16 → tbl x >>> 28 = tbl y >>> 28 → x = y := by decide
  have hl : a &&& 15 = b &&& 15 := hi _ (h15 a) _ (h15 b) (by rw [← hs a ha, ← hs b hb, h])
  unfold nib at h
  rw [hl] at h
  have hh : a >>> 4 = b >>> 4 := by
    have := congrArg (· ^^^ tbl (b &&& 15)) h
    simpa [Nat.xor_assoc] using this
  rw [show (15 : Nat) = 2 ^ 4 - 1 from rfl, Nat.and_two_pow_sub_one_eq_mod, Nat.and_two_pow_sub_one_eq_mod] at hl
  rw [Nat.shiftRight_eq_div_pow, Nat.shiftRight_eq_div_pow] at hh
  omega
theorem xor_cancel {a b c : Nat} (h : a ^^^ c = b ^^^ c) : a = b := by
  have := congrArg (· ^^^ c) h
  simpa [Nat.xor_assoc] using this
theorem xor_byte_lt {s : Nat} (h : s < 4294967296) (c : UInt8) : s ^^^ c.toNat < 4294967296 := Nat.xor_lt_two_pow (n := 32) h (by have := c.toNat_lt; omega)
theorem crcB_inj {a b : Nat} (ha : a < 4294967296) (hb : b < 4294967296) (c : UInt8) (h : crcB a c = crcB b c) : a = b :=
  xor_cancel (nib_inj (xor_byte_lt ha c) (xor_byte_lt hb c) (nib_inj (nib_lt (xor_byte_lt ha c)) (nib_lt (xor_byte_lt hb c)) h))
theorem crcB_byte {s : Nat} (hs : s < 4294967296) {c d : UInt8} (h : crcB s c = crcB s d) : c = d := by
  have h1 := nib_inj (xor_byte_lt hs c) (xor_byte_lt hs d) (nib_inj (nib_lt (xor_byte_lt hs c)) (nib_lt (xor_byte_lt hs d)) h)
  rw [Nat.xor_comm s, Nat.xor_comm s] at h1
  exact UInt8.toNat_inj.1 (xor_cancel h1)
theorem crcL_inj {a b : Nat} (ha : a < 4294967296) (hb : b < 4294967296) (l : List UInt8) (h : crcL a l = crcL b l) : a = b := by
  induction l generalizing a b with
  | nil => exact h
  | cons c l ih => exact crcB_inj ha hb c (ih (crcB_lt ha c) (crcB_lt hb c) h)
theorem crcL_append (s : Nat) (a b : List UInt8) : crcL s (a ++ b) = crcL (crcL s a) b := by simp [crcL]
/-- another byte in its place makes another sum -/
theorem sum_ne (P S : List UInt8) {c d : UInt8} (h : c ≠ d) : sum32 (P ++ ([c] ++ S)) ≠ sum32 (P ++ ([d] ++ S)) := by
  intro e
  unfold sum32 at e
  rw [Nat.xor_comm, Nat.xor_comm 4294967295] at e
  have e1 := xor_cancel e
  rw [crcL_append, crcL_append, crcL_append, crcL_append] at e1
  have hP : crcL 4294967295 P < 4294967296 := crcL_lt (by decide) P
  have e2 := crcL_inj (crcL_lt hP [c]) (crcL_lt hP [d]) S e1
  exact h (crcB_byte hP e2)

/-- the parts of a frame -/
theorem frame_parts (n : Nat) (r t : List UInt8) : (frameB n r ++ t).take 4 = lowB 4 r.length ∧ ((frameB n r ++ t).take 8).drop 4 = lowB 4 (sum32 (lowB 8 n ++ r)) ∧ ((frameB n r ++ t).take 16).drop 8 = lowB 8 n ∧
    ((frameB n r ++ t).take (16 + r.length)).drop 8 = lowB 8 n ++ r ∧ ((frameB n r ++ t).take (16 + r.length)).drop 16 = r := by
  have l1 := lowB_len 4 r.length
  have l2 := lowB_len 4 (sum32 (lowB 8 n ++ r))
  have l3 := lowB_len 8 n
  unfold frameB
  generalize lowB 4 (sum32 (lowB 8 n ++ r)) = B at *
  generalize lowB 4 r.length = A at *
  generalize lowB 8 n = C at *
  simp only [List.append_assoc]
  have hd4 : (A ++ (B ++ (C ++ (r ++ t)))).drop 4 = B ++ (C ++ (r ++ t)) := by rw [← l1, List.drop_left]
  have hd8 : (A ++ (B ++ (C ++ (r ++ t)))).drop 8 = C ++ (r ++ t) := by rw [show 8 = 4 + 4 from rfl, ← List.drop_drop, hd4, ← l2, List.drop_left]
  have hd16 : (A ++ (B ++ (C ++ (r ++ t)))).drop 16 = r ++ t := by rw [show 16 = 8 + 8 from rfl, ← List.drop_drop, hd8, ← l3, List.drop_left]
  refine ⟨by rw [← l1, List.take_left], ?_, ?_, ?_, ?_⟩
  · rw [List.drop_take, hd4]; show List.take 4 _ = _; rw [← l2, List.take_left]
  · rw [List.drop_take, hd8]; show List.take 8 _ = _; rw [← l3, List.take_left]
  · rw [List.drop_take, hd8, show 16 + r.length - 8 = (C ++ r).length by simp; omega, ← List.append_assoc, List.take_left]
  · rw [List.drop_take, hd16, show 16 + r.length - 16 = r.length by omega, List.take_left]
theorem unf_frame {n : Nat} {r : List UInt8} (hn : n < 18446744073709551616) (hr : r.length ≤ 60000) (t : List UInt8) : unfB (frameB n r ++ t) = some (n, r) := by
  obtain ⟨p1, p2, p3, p4, p5⟩ := frame_parts n r t
  have hl : (frameB n r ++ t).length = 16 + r.length + t.length := by rw [List.length_append, frameB_len]
  have hg : getN (lowB 4 r.length) = r.length := by rw [getN_lowB]; exact Nat.mod_eq_of_lt (by omega)
  unfold unfB
  rw [p1, hg, if_neg (by omega), if_neg (by omega), if_neg (by omega), p2, p3, p4, p5, getN_lowB, getN_lowB, Nat.mod_eq_of_lt (show sum32 (lowB 8 n ++ r) < 256 ^ 4 from sum32_lt _), if_pos rfl, Nat.mod_eq_of_lt (show n < 256 ^ 8 from hn)]
/-- a part of a frame is none -/
theorem unf_part {n : Nat} {r t : List UInt8} (hr : r.length ≤ 60000) (ht : t <+: frameB n r) (hl : t.length < 16 + r.length) : unfB t = none := by
  unfold unfB
  by_cases h16 : t.length < 16
  · rw [if_pos h16]
  · obtain ⟨p1, -, -, -, -⟩ := frame_parts n r []
    rw [List.append_nil] at p1
    have h4 : t.take 4 = lowB 4 r.length := by
      rw [← p1]
      obtain ⟨s, hs⟩ := ht
      rw [← hs, List.take_append_of_le_length (by omega)]
    have hg : getN (lowB 4 r.length) = r.length := by rw [getN_lowB]; exact Nat.mod_eq_of_lt (by omega)
    rw [if_neg h16, h4, hg, if_neg (by omega), if_pos (by omega)]

/-- records as a log's bytes, from the number n on -/
def wrB : Nat → List (List UInt8) → List UInt8
  | _, [] => []
  | n, r :: l => frameB n r ++ wrB (n + 1) l
theorem wrB_append (n : Nat) (a b : List (List UInt8)) : wrB n (a ++ b) = wrB n a ++ wrB (n + a.length) b := by
  induction a generalizing n with
  | nil => simp [wrB]
  | cons r a ih =>
    simp only [List.cons_append, wrB, List.length_cons, List.append_assoc]
    rw [ih, show n + 1 + a.length = n + (a.length + 1) by omega]
theorem wrB_snoc (n : Nat) (a : List (List UInt8)) (r : List UInt8) : wrB n (a ++ [r]) = wrB n a ++ frameB (n + a.length) r := by rw [wrB_append]; simp [wrB]
theorem wrB_len (n : Nat) (l : List (List UInt8)) : 16 * l.length ≤ (wrB n l).length := by
  induction l generalizing n with
  | nil => simp
  | cons r l ih =>
    simp only [wrB, List.length_append, List.length_cons, frameB_len]
    have := ih (n + 1)
    omega
theorem wrB_max (n M : Nat) (l : List (List UInt8)) (h : ∀ r ∈ l, r.length ≤ M) : (wrB n l).length ≤ (16 + M) * l.length := by
  induction l generalizing n with
  | nil => simp [wrB]
  | cons r l ih =>
    simp only [wrB, List.length_append, List.length_cons, frameB_len]
    have h1 := ih (n + 1) (fun x hx => h x (List.mem_cons_of_mem _ hx))
    have h2 := h r (List.mem_cons_self)
    rw [Nat.mul_succ]
    omega
/-- the number of the first one, of some records behind others -/
def firstOf (first n : Nat) (recs l : List (List UInt8)) : Nat := if recs.length = 0 ∧ l.length ≠ 0 then n else first
/-- written frames are read one by one -/
theorem scan_wr (l : List (List UInt8)) (n : Nat) (pre t : List UInt8) (recs : List (List UInt8)) (first fuel : Nat) (hn : 1 ≤ n) (hb : n + l.length ≤ 18446744073709551616) (hl : ∀ r ∈ l, r.length ≤ 60000)
    (hf : recs.length = 0 ∨ first + recs.length = n) :
    scanL (fuel + l.length) (pre ++ (wrB n l ++ t)) first recs pre.length = scanL fuel (pre ++ (wrB n l ++ t)) (firstOf first n recs l) (recs ++ l) (pre.length + (wrB n l).length) := by
  induction l generalizing n pre recs first with
  | nil => simp [wrB, firstOf]
  | cons r l ih =>
    have hr := hl r List.mem_cons_self
    simp only [List.length_cons] at hb
    have hu : unfB ((pre ++ (wrB n (r :: l) ++ t)).drop pre.length) = some (n, r) := by
      rw [List.drop_left]
      simp only [wrB, List.append_assoc]
      exact unf_frame (by omega) hr _
    have e : pre ++ (wrB n (r :: l) ++ t) = (pre ++ frameB n r) ++ (wrB (n + 1) l ++ t) := by simp [wrB]
    have hp : (pre ++ frameB n r).length = pre.length + (16 + r.length) := by rw [List.length_append, frameB_len]
    have hw : (wrB n (r :: l)).length = 16 + r.length + (wrB (n + 1) l).length := by simp only [wrB, List.length_append, frameB_len]
    rw [List.length_cons, ← Nat.add_assoc]
    by_cases h0 : recs.length = 0
    · obtain rfl := List.eq_nil_of_length_eq_zero h0
      have hst : scanL (fuel + l.length + 1) (pre ++ (wrB n (r :: l) ++ t)) first [] pre.length = scanL (fuel + l.length) (pre ++ (wrB n (r :: l) ++ t)) n [r] (pre.length + (16 + r.length)) := by
        simp only [scanL, hu]; rw [if_neg (by omega), if_pos h0]
      have := ih (n + 1) (pre ++ frameB n r) [r] n (by omega) (by omega) (fun x hx => hl x (List.mem_cons_of_mem _ hx)) (.inr rfl)
      rw [hp] at this
      rw [hst, e, this, hw]
      simp [firstOf, Nat.add_assoc]
    · have hfn : first + recs.length = n := by rcases hf with h | h; exact absurd h h0; exact h
      have hst : scanL (fuel + l.length + 1) (pre ++ (wrB n (r :: l) ++ t)) first recs pre.length = scanL (fuel + l.length) (pre ++ (wrB n (r :: l) ++ t)) first (recs ++ [r]) (pre.length + (16 + r.length)) := by
        simp only [scanL, hu]; rw [if_neg (by omega), if_neg h0, if_pos (by rw [hfn]; exact (Nat.mod_eq_of_lt (by omega)).symm)]
      have := ih (n + 1) (pre ++ frameB n r) (recs ++ [r]) first (by omega) (by omega) (fun x hx => hl x (List.mem_cons_of_mem _ hx)) (.inr (by simp; omega))
      rw [hp] at this
      rw [hst, e, this, hw]
      simp [firstOf, Nat.add_assoc, h0]
theorem scan_ends {fuel : Nat} {b : List UInt8} {first : Nat} {recs : List (List UInt8)} {p : Nat} (h : unfB (b.drop p) = none) : scanL fuel b first recs p = (first, recs, p) := by
  cases fuel with
  | zero => rfl
  | succ f => simp only [scanL, h]
/-- the records of bytes that are written frames, and then none -/
theorem scanB_wr {l : List (List UInt8)} {n : Nat} {t : List UInt8} (hn : 1 ≤ n) (hb : n + l.length ≤ 18446744073709551616) (hl : ∀ r ∈ l, r.length ≤ 60000) (ht : unfB t = none) :
    scanB (wrB n l ++ t) = (if l.length = 0 then 0 else n, l, (wrB n l).length) := by
  have hL := wrB_len n l
  unfold scanB
  obtain ⟨fuel, hfu⟩ : ∃ fuel, (wrB n l ++ t).length + 1 = fuel + l.length := ⟨(wrB n l ++ t).length + 1 - l.length, by rw [List.length_append]; omega⟩
  have := scan_wr l n [] t [] 0 fuel hn hb hl (.inl rfl)
  simp only [List.nil_append, List.length_nil, Nat.zero_add] at this
  rw [hfu, this, scan_ends (by rw [List.drop_left]; exact ht)]
  simp [firstOf]
theorem unf_nil : unfB [] = none := by simp [unfB]
/-- a part of written frames: whole ones, and a part of the next one, if there is one -/
theorem wrB_take (l : List (List UInt8)) (n k : Nat) (hk : k ≤ (wrB n l).length) : ∃ j t, j ≤ l.length ∧ (wrB n l).take k = wrB n (l.take j) ++ t ∧ (t = [] ∨ ∃ r, l[j]? = some r ∧ t <+: frameB (n + j) r ∧ t.length < 16 + r.length) := by
  induction l generalizing n k with
  | nil => exact ⟨0, [], by simp, by simp [wrB], .inl rfl⟩
  | cons r l ih =>
    have hw : (wrB n (r :: l)).length = 16 + r.length + (wrB (n + 1) l).length := by simp only [wrB, List.length_append, frameB_len]
    by_cases h : k < 16 + r.length
    · refine ⟨0, (frameB n r).take k, by simp, ?_, .inr ⟨r, rfl, List.take_prefix _ _, ?_⟩⟩
      · simp only [List.take_zero, wrB, List.nil_append]
        rw [List.take_append_of_le_length (by rw [frameB_len]; omega)]
      · rw [List.length_take, frameB_len]; omega
    · obtain ⟨j, t, h1, h2, h3⟩ := ih (n + 1) (k - (16 + r.length)) (by omega)
      refine ⟨j + 1, t, by simpa using h1, ?_, ?_⟩
      · simp only [List.take_succ_cons, wrB, List.append_assoc]
        rw [← h2, List.take_append, frameB_len, List.take_of_length_le (by rw [frameB_len]; omega)]
      · rcases h3 with h3 | ⟨r', hr', h4, h5⟩
        · exact .inl h3
        · exact .inr ⟨r', by simpa using hr', by rw [show n + (j + 1) = n + 1 + j by omega]; exact h4, h5⟩
/-- bytes that are cut tell fewer records, each as it was -/
theorem scan_cut {l : List (List UInt8)} {n k : Nat} (hn : 1 ≤ n) (hb : n + l.length ≤ 18446744073709551616) (hl : ∀ r ∈ l, r.length ≤ 60000) (hk : k ≤ (wrB n l).length) :
    ∃ j, j ≤ l.length ∧ (scanB ((wrB n l).take k)).2.1 = l.take j ∧ (scanB ((wrB n l).take k)).2.2 ≤ k := by
  obtain ⟨j, t, h1, h2, h3⟩ := wrB_take l n k hk
  have hu : unfB t = none := by
    rcases h3 with rfl | ⟨r, hr, h4, h5⟩
    · exact unf_nil
    · exact unf_part (hl r (List.mem_of_getElem? hr)) h4 h5
  have hs := scanB_wr (l := l.take j) (n := n) (t := t) hn (by rw [List.length_take]; omega) (fun r hr => hl r (List.mem_of_mem_take hr)) hu
  have hlen := congrArg List.length h2
  rw [List.length_take, List.length_append] at hlen
  refine ⟨j, h1, by rw [h2, hs], ?_⟩
  rw [h2, hs]
  show (wrB n (l.take j)).length ≤ k
  omega
end Go.DsLg
