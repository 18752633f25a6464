/- Some parts of the proof, one behind the other. -/
import Derived.Test.YtgobnnciijlpaaaDoorDkH
import Derived.Deep.Slices
import Derived.SizedLaws
import Derived.Test.YtgobnnciijlpaaaDoorLgN
import Derived.Test.YtgobnnciijlpaaaDoorJ1
import Derived.Test.YtgobnnciijlpaaaDoorBy
/- What comes in, opened: a cell that holds a slice of bytes, or of numbers; where it lies, how long it is. -/
namespace Go.Proofs.YtgobnnciijlpaaaDoor
open Go.ChangeShapes Go.WideShapes Go.ChangeAt Go.RowKit Go.DsMem Go.DsDk
set_option linter.unusedVariables false

section
variable {H : Type} {enc : TypeId × Value → H} {W : World}
theorem cells_u8 : Tryd.prog.cellsOf 5 = 1 := by kernel_rfl
theorem cells_int : Tryd.prog.cellsOf 3 = 1 := by kernel_rfl
theorem bytes_u8 : Tryd.prog.bytesOf 5 = 1 := by kernel_rfl

theorem open_bytes {n : Nat} {c : Value} {y : DataW H × List MemPlace} (h : DataW.trod enc Tryd.prog W 0 (fun _ => true) true n 28 [c] = some y)
    (hs : (y.1.weights Tryd.prog 28).all (· ≤ reachBytes) = true) : ∃ (l : List UInt8) (ao : Option Addr) (cap : Nat), c = .slice ao l.length cap ∧ Rd W c l ∧ l.length ≤ 140737488351232 := by
  rcases open_ints Tryd.underlying28 Tryd.underlying5 cells_u8 h with ⟨hcs, _⟩ | ⟨x, l, cp, zs, hcs, _, hl, hm, hz, hx, hcell, hwz⟩
  · simp at hcs; subst hcs
    exact ⟨[], none, 0, rfl, Rd.nil W, by simp⟩
  · simp at hcs; subst hcs
    obtain ⟨l', hl', hr⟩ := row_rd (w := W) (a := some x) (len := l) (cap := cp) (zs := zs) (.inr ⟨x, rfl, hl, hm, by simpa using hz, hcell, hwz⟩)
    refine ⟨l', some x, cp, by rw [hl'], hr, ?_⟩
    rw [hx] at hs
    simp only [DataW.weights, Tryd.underlying28, List.all_cons, Bool.and_eq_true, decide_eq_true_eq, bytes_u8] at hs
    have := hs.1
    simp only [lits, List.length_map, List.length_take, List.length_drop, reachBytes] at this
    have hz' : zs.length = cp := by simpa using hz
    omega
theorem open_nums {n : Nat} {c : Value} {y : DataW H × List MemPlace} (h : DataW.trod enc Tryd.prog W 0 (fun _ => true) true n 36 [c] = some y) :
    ∃ (l : List Int) (ao : Option Addr) (cap : Nat), c = .slice ao l.length cap ∧ RdI W c l := by
  rcases open_ints Tryd.underlying36 Tryd.underlying3 cells_int h with ⟨hcs, _⟩ | ⟨x, l, cp, zs, hcs, _, hl, hm, hz, hx, hcell, hwz⟩
  · simp at hcs; subst hcs
    exact ⟨[], none, 0, rfl, RdI.nil W⟩
  · simp at hcs; subst hcs
    obtain ⟨l', hl', hr⟩ := row_rdi (w := W) (a := some x) (len := l) (cap := cp) (zs := zs) (.inr ⟨x, rfl, hl, hm, by simpa using hz, hcell, hwz⟩)
    exact ⟨l', some x, cp, by rw [hl'], hr⟩
theorem open_num {n : Nat} {c : Value} {y : DataW H × List MemPlace} (h : DataW.trod enc Tryd.prog W 0 (fun _ => true) true n 3 [c] = some y) :
    ∃ x : Int, c = .int .i64 x ∧ -9223372036854775808 ≤ x ∧ x ≤ 9223372036854775807 := by
  obtain ⟨x, e, _, hw⟩ := DataW.trod_int Tryd.underlying3 h
  simp at e
  exact ⟨x, e, bounds_i64 hw⟩
theorem weights_at {ts : List TypeId} {ds : List (DataW H)} (h : (DataW.weightsEach Tryd.prog ts ds).all (· ≤ reachBytes) = true) {j : Nat} {t : TypeId} {d : DataW H} (ht : ts[j]? = some t) (hd : ds[j]? = some d) :
    (d.weights Tryd.prog t).all (· ≤ reachBytes) = true := by
  rw [List.all_eq_true]
  intro x hx
  exact List.all_eq_true.1 h _ (DataW.weights_mem_each ht hd x hx)
theorem weights_all {e : TypeId} {ds : List (DataW H)} (h : (DataW.weightsAll Tryd.prog e ds).all (· ≤ reachBytes) = true) {j : Nat} {d : DataW H} (hd : ds[j]? = some d) :
    (d.weights Tryd.prog e).all (· ≤ reachBytes) = true := by
  induction ds generalizing j with
  | nil => simp at hd
  | cons a r ih =>
    simp only [DataW.weightsAll, List.all_append, Bool.and_eq_true] at h
    cases j with
    | zero => simp at hd; subst hd; exact h.1
    | succ j => exact ih h.2 (by simpa using hd)
/-- the elements of a slice that came in -/
theorem weights_elem {t e : TypeId} {es sp : List (DataW H)} (ht : Tryd.prog.underlying t = some (.slice e)) (h : ((DataW.slice es sp).weights Tryd.prog t).all (· ≤ reachBytes) = true) {j : Nat} {d : DataW H} (hd : es[j]? = some d) :
    (d.weights Tryd.prog e).all (· ≤ reachBytes) = true := by
  simp only [DataW.weights, ht, List.all_cons, List.all_append, Bool.and_eq_true] at h
  exact weights_all h.2.1 hd
/-- a cell of an element that came in: its address is plain -/
theorem plain_addr {a : Addr} {v : Value} (h : W.cell? a = some v) : a = ⟨a.block, a.off, none⟩ := by
  have : a.spot = none := by
    unfold World.cell? at h
    cases hs : a.spot with
    | none => rfl
    | some s => rw [hs] at h; revert h; cases W.heap[a.block]? with
      | none => simp
      | some o => cases o <;> simp
  cases a; simp_all
theorem cells_at {a : Addr} {n : Nat} {cs : List Value} (h : W.cells? 0 a n = some cs) : cs.length = n ∧ ∀ j v, cs[j]? = some v → W.cell? (a.add j) = some v := by
  obtain ⟨_, hlen, hc⟩ := World.cells?_some h
  exact ⟨hlen, fun j v hv => by
    have hj : j < n := by have := (List.getElem?_eq_some_iff.1 hv).1; omega
    rw [hc j hj, hv]⟩
end
end Go.Proofs.YtgobnnciijlpaaaDoor

/- Frames that are written are read; bytes that are cut, or of which one is another, tell fewer records. No program in sight. -/
namespace Go.DsLg
open Go.DsDk

theorem fold_from (l : List UInt8) (n : Nat) : l.foldl (fun n c => n * 256 + c.toNat) n = n * 256 ^ l.length + getN l := by
  induction l generalizing n with
  | nil => simp [getN]
  | cons c l ih =>
    have h1 := ih (n * 256 + c.toNat)
    have h2 := ih (0 * 256 + c.toNat)
    unfold getN
    simp only [List.foldl_cons, List.length_cons]
    rw [h1, h2, Nat.pow_succ, Nat.zero_mul, Nat.zero_add, Nat.add_mul, Nat.mul_assoc, Nat.mul_comm 256, Nat.add_assoc]
theorem getN_append (a b : List UInt8) : getN (a ++ b) = getN a * 256 ^ b.length + getN b := by
  have := fold_from b (getN a)
  unfold getN at this ⊢
  rw [List.foldl_append]
  exact this
theorem getN_one (c : UInt8) : getN [c] = c.toNat := by simp [getN]
theorem getN_lowB (k n : Nat) : getN (lowB k n) = n % 256 ^ k := by
  induction k with
  | zero => simp [lowB, getN, Nat.mod_one]
  | succ k ih =>
    have e : lowB (k + 1) n = [UInt8.ofNat (n / 256 ^ k % 256)] ++ lowB k n := rfl
    rw [e, getN_append, getN_one, lowB_len, ih]
    have hb : (UInt8.ofNat (n / 256 ^ k % 256)).toNat = n / 256 ^ k % 256 := by simp
    rw [hb, Nat.pow_succ, Nat.mod_mul, Nat.mul_comm, Nat.add_comm]
/-- another byte in its place makes another number -/
theorem getN_ne (P S : List UInt8) {c d : UInt8} (h : c ≠ d) : getN (P ++ ([c] ++ S)) ≠ getN (P ++ ([d] ++ S)) := by
  intro e
  rw [getN_append, getN_append, getN_append, getN_append, getN_one, getN_one] at e
  simp only [List.length_append, List.length_cons, List.length_nil] at e
  have h1 : c.toNat * 256 ^ S.length = d.toNat * 256 ^ S.length := by omega
  have h2 : 0 < 256 ^ S.length := Nat.pow_pos (by decide)
  exact h (UInt8.toNat_inj.1 (Nat.eq_of_mul_eq_mul_right h2 h1))

theorem nib_inj {a b : Nat} (ha : a < 4294967296) (hb : b < 4294967296) (h : nib a = nib b) : a = b := by
  have hs : ∀ s, s < 4294967296 → nib s >>> 28 = tbl (s &&& 15) >>> 28 := by
    intro s hs
    unfold nib
    rw [Nat.shiftRight_xor_distrib, ← Nat.shiftRight_add, Nat.shiftRight_eq_div_pow s, Nat.div_eq_of_lt (by omega), Nat.zero_xor]
  have h15 : ∀ s : Nat, s &&& 15 < 16 := fun s => by rw [show (15 : Nat) = 2 ^ 4 - 1 from rfl, Nat.and_two_pow_sub_one_eq_mod]; omega
  have hi : ∀ x, x < 16 → ∀ y, y < 16 → tbl x >>> 28 = tbl y >>> 28 → x = y := by decide
  have hl : a &&& 15 = b &&& 15 := hi _ (h15 a) _ (h15 b) (by rw [← hs a ha, ← hs b hb, h])
  unfold nib at h
  rw [hl] at h
  have hh : a >>> 4 = b >>> 4 := by
    have := congrArg (· ^^^ tbl (b &&& 15)) h
    simpa [Nat.xor_assoc] using this
  rw [show (15 : Nat) = 2 ^ 4 - 1 from rfl, Nat.and_two_pow_sub_one_eq_mod, Nat.and_two_pow_sub_one_eq_mod] at hl
  rw [Nat.shiftRight_eq_div_pow, Nat.shiftRight_eq_div_pow] at hh
  omega
theorem xor_cancel {a b c : Nat} (h : a ^^^ c = b ^^^ c) : a = b := by
  have := congrArg (· ^^^ c) h
  simpa [Nat.xor_assoc] using this
theorem xor_byte_lt {s : Nat} (h : s < 4294967296) (c : UInt8) : s ^^^ c.toNat < 4294967296 := Nat.xor_lt_two_pow (n := 32) h (by have := c.toNat_lt; omega)
theorem crcB_inj {a b : Nat} (ha : a < 4294967296) (hb : b < 4294967296) (c : UInt8) (h : crcB a c = crcB b c) : a = b :=
  xor_cancel (nib_inj (xor_byte_lt ha c) (xor_byte_lt hb c) (nib_inj (nib_lt (xor_byte_lt ha c)) (nib_lt (xor_byte_lt hb c)) h))
theorem crcB_byte {s : Nat} (hs : s < 4294967296) {c d : UInt8} (h : crcB s c = crcB s d) : c = d := by
  have h1 := nib_inj (xor_byte_lt hs c) (xor_byte_lt hs d) (nib_inj (nib_lt (xor_byte_lt hs c)) (nib_lt (xor_byte_lt hs d)) h)
  rw [Nat.xor_comm s, Nat.xor_comm s] at h1
  exact UInt8.toNat_inj.1 (xor_cancel h1)
theorem crcL_inj {a b : Nat} (ha : a < 4294967296) (hb : b < 4294967296) (l : List UInt8) (h : crcL a l = crcL b l) : a = b := by
  induction l generalizing a b with
  | nil => exact h
  | cons c l ih => exact crcB_inj ha hb c (ih (crcB_lt ha c) (crcB_lt hb c) h)
theorem crcL_append (s : Nat) (a b : List UInt8) : crcL s (a ++ b) = crcL (crcL s a) b := by simp [crcL]
/-- another byte in its place makes another sum -/
theorem sum_ne (P S : List UInt8) {c d : UInt8} (h : c ≠ d) : sum32 (P ++ ([c] ++ S)) ≠ sum32 (P ++ ([d] ++ S)) := by
  intro e
  unfold sum32 at e
  rw [Nat.xor_comm, Nat.xor_comm 4294967295] at e
  have e1 := xor_cancel e
  rw [crcL_append, crcL_append, crcL_append, crcL_append] at e1
  have hP : crcL 4294967295 P < 4294967296 := crcL_lt (by decide) P
  have e2 := crcL_inj (crcL_lt hP [c]) (crcL_lt hP [d]) S e1
  exact h (crcB_byte hP e2)

/-- the parts of a frame -/
theorem frame_parts (n : Nat) (r t : List UInt8) : (frameB n r ++ t).take 4 = lowB 4 r.length ∧ ((frameB n r ++ t).take 8).drop 4 = lowB 4 (sum32 (lowB 8 n ++ r)) ∧ ((frameB n r ++ t).take 16).drop 8 = lowB 8 n ∧
    ((frameB n r ++ t).take (16 + r.length)).drop 8 = lowB 8 n ++ r ∧ ((frameB n r ++ t).take (16 + r.length)).drop 16 = r := by
  have l1 := lowB_len 4 r.length
  have l2 := lowB_len 4 (sum32 (lowB 8 n ++ r))
  have l3 := lowB_len 8 n
  unfold frameB
  generalize lowB 4 (sum32 (lowB 8 n ++ r)) = B at *
  generalize lowB 4 r.length = A at *
  generalize lowB 8 n = C at *
  simp only [List.append_assoc]
  have hd4 : (A ++ (B ++ (C ++ (r ++ t)))).drop 4 = B ++ (C ++ (r ++ t)) := by rw [← l1, List.drop_left]
  have hd8 : (A ++ (B ++ (C ++ (r ++ t)))).drop 8 = C ++ (r ++ t) := by rw [show 8 = 4 + 4 from rfl, ← List.drop_drop, hd4, ← l2, List.drop_left]
  have hd16 : (A ++ (B ++ (C ++ (r ++ t)))).drop 16 = r ++ t := by rw [show 16 = 8 + 8 from rfl, ← List.drop_drop, hd8, ← l3, List.drop_left]
  refine ⟨by rw [← l1, List.take_left], ?_, ?_, ?_, ?_⟩
  · rw [List.drop_take, hd4]; show List.take 4 _ = _; rw [← l2, List.take_left]
  · rw [List.drop_take, hd8]; show List.take 8 _ = _; rw [← l3, List.take_left]
  · rw [List.drop_take, hd8, show 16 + r.length - 8 = (C ++ r).length by simp; omega, ← List.append_assoc, List.take_left]
  · rw [List.drop_take, hd16, show 16 + r.length - 16 = r.length by omega, List.take_left]
theorem unf_frame {n : Nat} {r : List UInt8} (hn : n < 18446744073709551616) (hr : r.length ≤ 60000) (t : List UInt8) : unfB (frameB n r ++ t) = some (n, r) := by
  obtain ⟨p1, p2, p3, p4, p5⟩ := frame_parts n r t
  have hl : (frameB n r ++ t).length = 16 + r.length + t.length := by rw [List.length_append, frameB_len]
  have hg : getN (lowB 4 r.length) = r.length := by rw [getN_lowB]; exact Nat.mod_eq_of_lt (by omega)
  unfold unfB
  rw [p1, hg, if_neg (by omega), if_neg (by omega), if_neg (by omega), p2, p3, p4, p5, getN_lowB, getN_lowB, Nat.mod_eq_of_lt (show sum32 (lowB 8 n ++ r) < 256 ^ 4 from sum32_lt _), if_pos rfl, Nat.mod_eq_of_lt (show n < 256 ^ 8 from hn)]
/-- a part of a frame is none -/
theorem unf_part {n : Nat} {r t : List UInt8} (hr : r.length ≤ 60000) (ht : t <+: frameB n r) (hl : t.length < 16 + r.length) : unfB t = none := by
  unfold unfB
  by_cases h16 : t.length < 16
  · rw [if_pos h16]
  · obtain ⟨p1, -, -, -, -⟩ := frame_parts n r []
    rw [List.append_nil] at p1
    have h4 : t.take 4 = lowB 4 r.length := by
      rw [← p1]
      obtain ⟨s, hs⟩ := ht
      rw [← hs, List.take_append_of_le_length (by omega)]
    have hg : getN (lowB 4 r.length) = r.length := by rw [getN_lowB]; exact Nat.mod_eq_of_lt (by omega)
    rw [if_neg h16, h4, hg, if_neg (by omega), if_pos (by omega)]

/-- records as a log's bytes, from the number n on -/
def wrB : Nat → List (List UInt8) → List UInt8
  | _, [] => []
  | n, r :: l => frameB n r ++ wrB (n + 1) l
theorem wrB_append (n : Nat) (a b : List (List UInt8)) : wrB n (a ++ b) = wrB n a ++ wrB (n + a.length) b := by
  induction a generalizing n with
  | nil => simp [wrB]
  | cons r a ih =>
    simp only [List.cons_append, wrB, List.length_cons, List.append_assoc]
    rw [ih, show n + 1 + a.length = n + (a.length + 1) by omega]
theorem wrB_snoc (n : Nat) (a : List (List UInt8)) (r : List UInt8) : wrB n (a ++ [r]) = wrB n a ++ frameB (n + a.length) r := by rw [wrB_append]; simp [wrB]
theorem wrB_len (n : Nat) (l : List (List UInt8)) : 16 * l.length ≤ (wrB n l).length := by
  induction l generalizing n with
  | nil => simp
  | cons r l ih =>
    simp only [wrB, List.length_append, List.length_cons, frameB_len]
    have := ih (n + 1)
    omega
theorem wrB_max (n M : Nat) (l : List (List UInt8)) (h : ∀ r ∈ l, r.length ≤ M) : (wrB n l).length ≤ (16 + M) * l.length := by
  induction l generalizing n with
  | nil => simp [wrB]
  | cons r l ih =>
    simp only [wrB, List.length_append, List.length_cons, frameB_len]
    have h1 := ih (n + 1) (fun x hx => h x (List.mem_cons_of_mem _ hx))
    have h2 := h r (List.mem_cons_self)
    rw [Nat.mul_succ]
    omega
/-- the number of the first one, of some records behind others -/
def firstOf (first n : Nat) (recs l : List (List UInt8)) : Nat := if recs.length = 0 ∧ l.length ≠ 0 then n else first
/-- written frames are read one by one -/
theorem scan_wr (l : List (List UInt8)) (n : Nat) (pre t : List UInt8) (recs : List (List UInt8)) (first fuel : Nat) (hn : 1 ≤ n) (hb : n + l.length ≤ 18446744073709551616) (hl : ∀ r ∈ l, r.length ≤ 60000)
    (hf : recs.length = 0 ∨ first + recs.length = n) :
    scanL (fuel + l.length) (pre ++ (wrB n l ++ t)) first recs pre.length = scanL fuel (pre ++ (wrB n l ++ t)) (firstOf first n recs l) (recs ++ l) (pre.length + (wrB n l).length) := by
  induction l generalizing n pre recs first with
  | nil => simp [wrB, firstOf]
  | cons r l ih =>
    have hr := hl r List.mem_cons_self
    simp only [List.length_cons] at hb
    have hu : unfB ((pre ++ (wrB n (r :: l) ++ t)).drop pre.length) = some (n, r) := by
      rw [List.drop_left]
      simp only [wrB, List.append_assoc]
      exact unf_frame (by omega) hr _
    have e : pre ++ (wrB n (r :: l) ++ t) = (pre ++ frameB n r) ++ (wrB (n + 1) l ++ t) := by simp [wrB]
    have hp : (pre ++ frameB n r).length = pre.length + (16 + r.length) := by rw [List.length_append, frameB_len]
    have hw : (wrB n (r :: l)).length = 16 + r.length + (wrB (n + 1) l).length := by simp only [wrB, List.length_append, frameB_len]
    rw [List.length_cons, ← Nat.add_assoc]
    by_cases h0 : recs.length = 0
    · obtain rfl := List.eq_nil_of_length_eq_zero h0
      have hst : scanL (fuel + l.length + 1) (pre ++ (wrB n (r :: l) ++ t)) first [] pre.length = scanL (fuel + l.length) (pre ++ (wrB n (r :: l) ++ t)) n [r] (pre.length + (16 + r.length)) := by
        simp only [scanL, hu]; rw [if_neg (by omega), if_pos h0]
      have := ih (n + 1) (pre ++ frameB n r) [r] n (by omega) (by omega) (fun x hx => hl x (List.mem_cons_of_mem _ hx)) (.inr rfl)
      rw [hp] at this
      rw [hst, e, this, hw]
      simp [firstOf, Nat.add_assoc]
    · have hfn : first + recs.length = n := by rcases hf with h | h; exact absurd h h0; exact h
      have hst : scanL (fuel + l.length + 1) (pre ++ (wrB n (r :: l) ++ t)) first recs pre.length = scanL (fuel + l.length) (pre ++ (wrB n (r :: l) ++ t)) first (recs ++ [r]) (pre.length + (16 + r.length)) := by
        simp only [scanL, hu]; rw [if_neg (by omega), if_neg h0, if_pos (by rw [hfn]; exact (Nat.mod_eq_of_lt (by omega)).symm)]
      have := ih (n + 1) (pre ++ frameB n r) (recs ++ [r]) first (by omega) (by omega) (fun x hx => hl x (List.mem_cons_of_mem _ hx)) (.inr (by simp; omega))
      rw [hp] at this
      rw [hst, e, this, hw]
      simp [firstOf, Nat.add_assoc, h0]
theorem scan_ends {fuel : Nat} {b : List UInt8} {first : Nat} {recs : List (List UInt8)} {p : Nat} (h : unfB (b.drop p) = none) : scanL fuel b first recs p = (first, recs, p) := by
  cases fuel with
  | zero => rfl
  | succ f => simp only [scanL, h]
/-- the records of bytes that are written frames, and then none -/
theorem scanB_wr {l : List (List UInt8)} {n : Nat} {t : List UInt8} (hn : 1 ≤ n) (hb : n + l.length ≤ 18446744073709551616) (hl : ∀ r ∈ l, r.length ≤ 60000) (ht : unfB t = none) :
    scanB (wrB n l ++ t) = (if l.length = 0 then 0 else n, l, (wrB n l).length) := by
  have hL := wrB_len n l
  unfold scanB
  obtain ⟨fuel, hfu⟩ : ∃ fuel, (wrB n l ++ t).length + 1 = fuel + l.length := ⟨(wrB n l ++ t).length + 1 - l.length, by rw [List.length_append]; omega⟩
  have := scan_wr l n [] t [] 0 fuel hn hb hl (.inl rfl)
  simp only [List.nil_append, List.length_nil, Nat.zero_add] at this
  rw [hfu, this, scan_ends (by rw [List.drop_left]; exact ht)]
  simp [firstOf]
theorem unf_nil : unfB [] = none := by simp [unfB]
/-- a part of written frames: whole ones, and a part of the next one, if there is one -/
theorem wrB_take (l : List (List UInt8)) (n k : Nat) (hk : k ≤ (wrB n l).length) : ∃ j t, j ≤ l.length ∧ (wrB n l).take k = wrB n (l.take j) ++ t ∧ (t = [] ∨ ∃ r, l[j]? = some r ∧ t <+: frameB (n + j) r ∧ t.length < 16 + r.length) := by
  induction l generalizing n k with
  | nil => exact ⟨0, [], by simp, by simp [wrB], .inl rfl⟩
  | cons r l ih =>
    have hw : (wrB n (r :: l)).length = 16 + r.length + (wrB (n + 1) l).length := by simp only [wrB, List.length_append, frameB_len]
    by_cases h : k < 16 + r.length
    · refine ⟨0, (frameB n r).take k, by simp, ?_, .inr ⟨r, rfl, List.take_prefix _ _, ?_⟩⟩
      · simp only [List.take_zero, wrB, List.nil_append]
        rw [List.take_append_of_le_length (by rw [frameB_len]; omega)]
      · rw [List.length_take, frameB_len]; omega
    · obtain ⟨j, t, h1, h2, h3⟩ := ih (n + 1) (k - (16 + r.length)) (by omega)
      refine ⟨j + 1, t, by simpa using h1, ?_, ?_⟩
      · simp only [List.take_succ_cons, wrB, List.append_assoc]
        rw [← h2, List.take_append, frameB_len, List.take_of_length_le (by rw [frameB_len]; omega)]
      · rcases h3 with h3 | ⟨r', hr', h4, h5⟩
        · exact .inl h3
        · exact .inr ⟨r', by simpa using hr', by rw [show n + (j + 1) = n + 1 + j by omega]; exact h4, h5⟩
/-- bytes that are cut tell fewer records, each as it was -/
theorem scan_cut {l : List (List UInt8)} {n k : Nat} (hn : 1 ≤ n) (hb : n + l.length ≤ 18446744073709551616) (hl : ∀ r ∈ l, r.length ≤ 60000) (hk : k ≤ (wrB n l).length) :
    ∃ j, j ≤ l.length ∧ (scanB ((wrB n l).take k)).2.1 = l.take j ∧ (scanB ((wrB n l).take k)).2.2 ≤ k := by
  obtain ⟨j, t, h1, h2, h3⟩ := wrB_take l n k hk
  have hu : unfB t = none := by
    rcases h3 with rfl | ⟨r, hr, h4, h5⟩
    · exact unf_nil
    · exact unf_part (hl r (List.mem_of_getElem? hr)) h4 h5
  have hs := scanB_wr (l := l.take j) (n := n) (t := t) hn (by rw [List.length_take]; omega) (fun r hr => hl r (List.mem_of_mem_take hr)) hu
  have hlen := congrArg List.length h2
  rw [List.length_take, List.length_append] at hlen
  refine ⟨j, h1, by rw [h2, hs], ?_⟩
  rw [h2, hs]
  show (wrB n (l.take j)).length ≤ k
  omega
end Go.DsLg

/- One byte of written frames is another one: fewer records, each as it was. No program in sight. -/
namespace Go.DsLg
open Go.DsDk

theorem unf_sum {N : Nat} {B Y t : List UInt8} (hN : N ≤ 60000) (hB : B.length = 4) (hY : Y.length = 8 + N) (h : sum32 Y ≠ getN B) : unfB (lowB 4 N ++ (B ++ (Y ++ t))) = none := by
  have l1 := lowB_len 4 N
  have hg : getN (lowB 4 N) = N := by rw [getN_lowB]; exact Nat.mod_eq_of_lt (by omega)
  generalize lowB 4 N = A at *
  have p1 : (A ++ (B ++ (Y ++ t))).take 4 = A := by rw [← l1, List.take_left]
  have hd4 : (A ++ (B ++ (Y ++ t))).drop 4 = B ++ (Y ++ t) := by rw [← l1, List.drop_left]
  have hd8 : (A ++ (B ++ (Y ++ t))).drop 8 = Y ++ t := by rw [show 8 = 4 + 4 from rfl, ← List.drop_drop, hd4, ← hB, List.drop_left]
  have p2 : ((A ++ (B ++ (Y ++ t))).take 8).drop 4 = B := by rw [List.drop_take, hd4]; show List.take 4 _ = _; rw [← hB, List.take_left]
  have p4 : ((A ++ (B ++ (Y ++ t))).take (16 + N)).drop 8 = Y := by rw [List.drop_take, hd8, show 16 + N - 8 = Y.length by omega, List.take_left]
  have hl : (A ++ (B ++ (Y ++ t))).length = 16 + N + t.length := by simp only [List.length_append]; omega
  unfold unfB
  rw [p1, hg, if_neg (by omega), if_neg (by omega), if_neg (by omega), p2, p4, if_neg h]
theorem set_split {α : Type} {l : List α} {i : Nat} (c : α) (h : i < l.length) : l.set i c = l.take i ++ ([c] ++ l.drop (i + 1)) ∧ l = l.take i ++ ([l[i]] ++ l.drop (i + 1)) := by
  refine ⟨by rw [List.set_eq_take_append_cons_drop, if_pos h]; rfl, ?_⟩
  have := List.take_append_drop i l
  rw [List.drop_eq_getElem_cons h] at this
  exact this.symm
/-- a frame of which one byte is another one, that stands in no length, is none -/
theorem unf_turn {m q : Nat} {r t : List UInt8} {c : UInt8} (hr : r.length ≤ 60000) (h4 : 4 ≤ q) (hq : q < (frameB m r).length) (hc : (frameB m r)[q]? ≠ some c) : unfB ((frameB m r).set q c ++ t) = none := by
  have l1 := lowB_len 4 r.length
  have l2 := lowB_len 4 (sum32 (lowB 8 m ++ r))
  have l3 := lowB_len 8 m
  have hS : getN (lowB 4 (sum32 (lowB 8 m ++ r))) = sum32 (lowB 8 m ++ r) := by rw [getN_lowB]; exact Nat.mod_eq_of_lt (sum32_lt _)
  rw [frameB_len] at hq
  unfold frameB at hc ⊢
  generalize hBe : lowB 4 (sum32 (lowB 8 m ++ r)) = B at *
  generalize hYe : lowB 8 m ++ r = Y at *
  have hY : Y.length = 8 + r.length := by rw [← hYe, List.length_append, l3]
  rw [List.set_append_right _ _ (by omega), l1]
  rw [List.getElem?_append_right (by omega), l1] at hc
  by_cases h8 : q < 8
  · rw [List.set_append_left _ _ (by omega)]
    rw [List.getElem?_append_left (by omega), List.getElem?_eq_getElem (by omega)] at hc
    have hc : c ≠ B[q - 4] := fun e => hc (by rw [e])
    simp only [List.append_assoc]
    refine unf_sum hr (by simpa using l2) hY ?_
    obtain ⟨e1, e2⟩ := set_split (l := B) (i := q - 4) c (by omega)
    rw [e1, ← hS]
    intro e
    have := getN_ne (B.take (q - 4)) (B.drop (q - 4 + 1)) hc
    rw [← e2] at this
    exact this e.symm
  · rw [List.set_append_right _ _ (by omega), l2]
    rw [List.getElem?_append_right (by omega), l2, List.getElem?_eq_getElem (by omega)] at hc
    have hc : c ≠ Y[q - 4 - 4] := fun e => hc (by rw [e])
    simp only [List.append_assoc]
    refine unf_sum hr l2 (by simpa using hY) ?_
    obtain ⟨e1, e2⟩ := set_split (l := Y) (i := q - 4 - 4) c (by omega)
    rw [e1, hS]
    have := sum_ne (Y.take (q - 4 - 4)) (Y.drop (q - 4 - 4 + 1)) hc
    rw [← e2] at this
    exact this
/-- whether a byte stands in the length of a record, the first of which begins at s -/
def longB : List (List UInt8) → Nat → Nat → Bool
  | [], _, _ => false
  | r :: l, s, at_ => if s ≤ at_ ∧ at_ < s + 4 then true else longB l (s + 16 + r.length) at_
theorem scan_turnL (l : List (List UInt8)) (n p s : Nat) (c : UInt8) (hp : p < (wrB n l).length) (hlong : longB l s (s + p) = false) (hc : (wrB n l)[p]? ≠ some c) (hl : ∀ r ∈ l, r.length ≤ 60000) :
    ∃ j t, j < l.length ∧ (wrB n l).set p c = wrB n (l.take j) ++ t ∧ unfB t = none := by
  induction l generalizing n p s with
  | nil => simp [wrB] at hp
  | cons r l ih =>
    have hr := hl r List.mem_cons_self
    simp only [longB] at hlong
    split at hlong
    · cases hlong
    · rename_i hns
      simp only [wrB] at hp hc ⊢
      by_cases h : p < 16 + r.length
      · refine ⟨0, (frameB n r).set p c ++ wrB (n + 1) l, by simp, ?_, ?_⟩
        · rw [List.set_append_left _ _ (by rw [frameB_len]; omega)]; simp [wrB]
        · rw [List.getElem?_append_left (by rw [frameB_len]; omega)] at hc
          exact unf_turn hr (by omega) (by rw [frameB_len]; omega) hc
      · rw [List.getElem?_append_right (by rw [frameB_len]; omega), frameB_len] at hc
        rw [List.length_append, frameB_len] at hp
        obtain ⟨j, t, h1, h2, h3⟩ := ih (n + 1) (p - (16 + r.length)) (s + 16 + r.length) (by omega) (by rw [show s + 16 + r.length + (p - (16 + r.length)) = s + p by omega]; exact hlong) hc (fun x hx => hl x (List.mem_cons_of_mem _ hx))
        refine ⟨j + 1, t, by simpa using h1, ?_, h3⟩
        rw [List.set_append_right _ _ (by rw [frameB_len]; omega), frameB_len, h2]
        simp only [List.take_succ_cons, wrB, List.append_assoc]
/-- bytes of which one is another one, that stands in no length, tell fewer records, each as it was -/
theorem scan_turn {l : List (List UInt8)} {n p : Nat} {c : UInt8} (hn : 1 ≤ n) (hb : n + l.length ≤ 18446744073709551616) (hl : ∀ r ∈ l, r.length ≤ 60000) (hp : p < (wrB n l).length) (hlong : longB l 0 p = false) (hc : (wrB n l)[p]? ≠ some c) :
    ∃ j, j < l.length ∧ (scanB ((wrB n l).set p c)).2.1 = l.take j := by
  obtain ⟨j, t, h1, h2, h3⟩ := scan_turnL l n p 0 c hp (by rw [Nat.zero_add]; exact hlong) hc hl
  have hs := scanB_wr (l := l.take j) (n := n) (t := t) hn (by rw [List.length_take]; omega) (fun r hr => hl r (List.mem_of_mem_take hr)) h3
  exact ⟨j, h1, by rw [h2, hs]⟩
end Go.DsLg

/- Lists of records that came in, opened; the walks of dayshiftlaw04.written and long. -/
namespace Go.Proofs.YtgobnnciijlpaaaDoor
open Go.ChangeShapes Go.WideShapes Go.ChangeAt Go.RowKit Go.DsMem Go.DsDk Go.DsLg Go.Deep
set_option linter.unusedVariables false

section
variable {H : Type} {enc : TypeId × Value → H} {W : World}
theorem cells_bs : Tryd.prog.cellsOf 28 = 1 := by kernel_rfl
theorem open_lists {v : Value} {d : DataW H} {p : List MemPlace} {ao : Option Addr} {len cap : Nat} (hv : v = .slice ao len cap) (h : DataW.Trod enc Tryd.prog W 0 (fun _ => true) true 29 v d p)
    (hs : (d.weights Tryd.prog 29).all (· ≤ reachBytes) = true) : ∃ ls : List (List UInt8), (ls.length = len ∧ len ≤ cap ∧ (ao = none → len = 0 ∧ cap = 0)) ∧ RdLs W v ls := by
  subst hv
  obtain ⟨fuel, hf⟩ := h
  rcases open_slice1 Tryd.underlying29 cells_bs hf with ⟨hcs, _⟩ | ⟨a, len', cap', m, n, V, D, Pl, hcs, _, hl, hm, hmm, hx, hel⟩
  · simp [Value.cells] at hcs
    obtain ⟨rfl, rfl, rfl⟩ := hcs
    exact ⟨[], ⟨rfl, Nat.le_refl _, fun _ => ⟨rfl, rfl⟩⟩, RdLs.nil _⟩
  · simp [Value.cells] at hcs
    obtain ⟨rfl, rfl, rfl⟩ := hcs
    simp at hmm
    subst hmm
    have hd : d = _ := congrArg Prod.fst hx
    simp only at hd
    rw [hd] at hs
    obtain ⟨F, hF⟩ := choose_lt (α := List UInt8) (n := len) (p := fun i r => ∃ xo xc, W.cell? (a.add i) = some (.slice xo r.length xc) ∧ Rd W (.slice xo r.length xc) r) (fun i hi => by
      obtain ⟨h1, h2⟩ := hel i (by omega)
      obtain ⟨r, xo, xc, he, hr, _⟩ := open_bytes (y := (D i, Pl i)) h2 (weights_elem Tryd.underlying29 hs (j := i) (by simp [hi]))
      rw [he] at h1 hr
      exact ⟨r, xo, xc, h1, hr⟩)
    refine ⟨(List.range len).map F, ⟨by simp, hl, fun h => by cases h⟩, some a, m, by simp, fun i r hr => ?_⟩
    have hi : i < len := by
      have := (List.getElem?_eq_some_iff.1 hr).1
      simpa using this
    simp [hi] at hr
    subst hr
    obtain ⟨xo, xc, h1, h2⟩ := hF i hi
    exact ⟨a, xo, xc, rfl, h1, h2⟩
end

/-- one of some records -/
theorem RdLs.at {w : World} {ao : Option Addr} {n c k : Nat} {l : List (List UInt8)} (h : RdLs w (.slice ao n c) l) (hk : k < l.length) : ∃ a xo xc, ao = some a ∧ w.cell? (a.add k) = some (.slice xo l[k].length xc) ∧ Rd w (.slice xo l[k].length xc) l[k] := by
  obtain ⟨ao', cap, hv, he⟩ := h
  simp only [Value.slice.injEq] at hv
  obtain ⟨rfl, _, _⟩ := hv
  exact he k l[k] (List.getElem?_eq_getElem hk)

theorem wr_small {n : Nat} {l : List (List UInt8)} (h : ∀ r ∈ l, r.length ≤ 200) (hl : l.length ≤ 16) : (wrB n l).length ≤ 3456 := by
  have := wrB_max n 200 l h
  omega

set_option maxHeartbeats 2000000 in
set_option maxRecDepth 20000 in
/-- dayshiftlaw04.written -/
theorem written_any (l : List (List UInt8)) (v : Value) (w : World) (ht : Tab w) (h : RdLs w v l) (hl : l.length ≤ 16) (h200 : ∀ r ∈ l, r.length ≤ 200) :
    Calls Tryd.prog 38 #[v] w fun e w' => ∃ x, e = .returned x ∧ w'.ownsRow w.heap.size 5 1 x (wrB 1 l).length (bvs (wrB 1 l)) ∧ Below w.heap.size w w' := by
  have HT := hide ht
  have HR := hide h
  have H200 := hide h200
  obtain ⟨ao, cap, rfl, -⟩ := h
  clear ht h200
  go_enter Tryd.func38, Tryd.ntmps38
  go_wp2
  go_loopw [3, 4] (fun x i wr => ∃ k : Nat, k ≤ l.length ∧ i = .int .i64 k ∧ wr.ownsRow w.heap.size 5 1 x (wrB 1 (l.take k)).length (bvs (wrB 1 (l.take k))) ∧ Below w.heap.size w wr) (fun _ i _ => l.length - (intOf i).toNat)
  case atStart => exact ⟨0, Nat.zero_le _, rfl, ⟨rfl, .inl ⟨rfl, rfl⟩⟩, Below.refl _ _⟩
  case round =>
    obtain ⟨k, hk, rfl, ho, hb⟩ := hrel
    by_cases hlt : k < l.length
    · obtain ⟨a, xo, xc, rfl, hc, hr⟩ := (rdls_in HR.out hb (Nat.le_refl _)).at hlt
      have hsm : l[k].length ≤ 200 := H200.out _ (List.getElem_mem hlt)
      have hpl : (wrB 1 (l.take k)).length ≤ 3456 := wr_small (fun r hr => H200.out r (List.mem_of_mem_take hr)) (by rw [List.length_take]; omega)
      have HW : Hid (wrB 1 (l.take (k + 1)) = wrB 1 (l.take k) ++ frameB (k + 1) l[k]) := by
        show _ = _
        rw [List.take_succ_eq_append_getElem hlt, wrB_snoc, List.length_take, Nat.min_eq_left (by omega), Nat.add_comm 1 k]
      obtain ⟨xo', xc', rfl, -⟩ := own_shape ho
      have HO := hide ho
      have HB := hide hb
      have HRR := hide hr
      have hlk := hide (frameB_len (k + 1) l[k])
      generalize l[k] = r at *
      generalize hpe : wrB 1 (l.take k) = pw at *
      clear ho hb hr hpe
      go_wp2_with fail
      refine (frame_any (k + 1) r _ wr (HT.out.below HB.out (Nat.le_refl _)) HRR.out (by omega) (by omega)).mono ?_
      rintro e w1 ⟨x1, rfl, hx1, B1⟩
      obtain ⟨x1o, x1c, rfl, -⟩ := own_shape hx1
      rw [← frameB_len (k + 1) r] at hx1
      have HX1 := hide (Rd.own hx1)
      have HO1 := hide (own_below HO.out B1)
      have HB1 := hide (HB.out.trans (B1.mono HB.out.size))
      clear hx1 B1 HO HB HRR
      go_wp2_with (at_builtin; refine wpList_append_rd rfl _ _ 28 rfl 5 Tryd.underlying28 info5 w.heap.size _ _ _ rfl HO1.out _ _ rfl (by have := HX1.out; rw [frameB_len] at this; exact this) (by rw [frameB_len]; omega) HB1.out.size ?_; intro v2 w2 hown2 hgrow2 _; have HO2 := hide hown2; have HB2 := hide (HB1.out.grown hgrow2 HB1.out.size (fun j hj => (HO1.out.lt j hj).1)); clear hown2 hgrow2)
      go_roundw
      case rel => exact ⟨k + 1, by omega, by go_num, by rw [HW.out, List.length_append]; exact HO2.out, HB2.out⟩
      case measure => simp [intOf]; omega
    · have HE : Hid (wrB 1 (l.take k) = wrB 1 l) := by show _ = _; rw [List.take_of_length_le (by omega)]
      have HO := hide ho
      have HB := hide hb
      clear ho hb
      go_wp2
      go_ret
      exact ⟨_, rfl, by rw [← HE.out]; exact HO.out, HB.out⟩

set_option maxHeartbeats 2000000 in
set_option maxRecDepth 20000 in
/-- dayshiftlaw04.long -/
theorem long_any (l : List (List UInt8)) (p : Nat) (v : Value) (w : World) (h : RdLs w v l) (hl : l.length ≤ 16) (h200 : ∀ r ∈ l, r.length ≤ 200) (hp : p ≤ 100000) :
    Calls Tryd.prog 40 #[v, .int .i64 p] w fun e w' => e = .returned (.bool (longB l 0 p)) ∧ w' = w := by
  have HR := hide h
  have H200 := hide h200
  obtain ⟨ao, cap, rfl, -⟩ := h
  clear h200
  go_enter Tryd.func40, Tryd.ntmps40
  go_wp2
  go_loop [5, 6] (fun s i => ∃ k b : Nat, k ≤ l.length ∧ i = .int .i64 k ∧ s = .int .i64 b ∧ longB (l.drop k) b p = longB l 0 p ∧ b ≤ 216 * k) (fun _ i => l.length - (intOf i).toNat)
  case atStart => exact ⟨0, 0, Nat.zero_le _, rfl, rfl, rfl, by omega⟩
  case round =>
    obtain ⟨k, b, hk, rfl, rfl, hE, hb⟩ := hrel
    by_cases hlt : k < l.length
    · obtain ⟨a, xo, xc, rfl, hc, -⟩ := HR.out.at hlt
      have hsm : l[k].length ≤ 200 := H200.out _ (List.getElem_mem hlt)
      rw [List.drop_eq_getElem_cons hlt] at hE
      simp only [longB] at hE
      have HE := hide hE
      clear hE
      by_cases h1 : b ≤ p ∧ p < b + 4
      · have HF : Hid (longB l 0 p = true) := by show _ = _; rw [← HE.out, if_pos h1]
        obtain ⟨h2, h3⟩ := h1
        go_wp2
        go_ret
        exact ⟨by (rw [HF.out]) <;> rfl, rfl⟩
      · have HF : Hid (longB (l.drop (k + 1)) (b + 16 + l[k].length) p = longB l 0 p) := by show _ = _; rw [← HE.out, if_neg h1]
        clear HE
        generalize l[k].length = n at *
        by_cases h2 : b ≤ p
        · have h3 : ¬ p < b + 4 := fun h => h1 ⟨h2, h⟩
          clear h1
          go_wp2
          go_round
          case rel => exact ⟨k + 1, b + 16 + n, by omega, by go_num, by go_num, HF.out, by omega⟩
          case measure => simp [intOf]; omega
        · clear h1
          go_wp2
          go_round
          case rel => exact ⟨k + 1, b + 16 + n, by omega, by go_num, by go_num, HF.out, by omega⟩
          case measure => simp [intOf]; omega
    · have HF : Hid (longB l 0 p = false) := by show _ = _; rw [← hE, List.drop_eq_nil_of_le (by omega)]; rfl
      go_wp2
      go_ret
      exact ⟨by (rw [HF.out]) <;> rfl, rfl⟩
end Go.Proofs.YtgobnnciijlpaaaDoor

/- The walk of dayshiftref01.Count. -/
namespace Go.Proofs.YtgobnnciijlpaaaDoor
open Go.ChangeShapes Go.WideShapes Go.ChangeAt Go.RowKit Go.DsMem Go.DsDk
set_option linter.unusedVariables false

/-- a number from 0 to one below n -/
def cnt (k n : Int) : Int := if n < 1 then 0 else k % n
theorem cnt_lt {k n : Int} (h : 1 ≤ n) : 0 ≤ cnt k n ∧ cnt k n < n := by
  unfold cnt
  rw [if_neg (by omega)]
  exact ⟨Int.emod_nonneg _ (by omega), Int.emod_lt_of_pos _ (by omega)⟩
theorem tmod_facts (k n : Int) (hn : 1 ≤ n) : -n < k.tmod n ∧ k.tmod n < n ∧ (k.tmod n < 0 → k.tmod n + n = k % n) ∧ (¬ k.tmod n < 0 → k.tmod n = k % n) := by
  have h1 := Int.emod_nonneg k (show n ≠ 0 by omega)
  have h2 := Int.emod_lt_of_pos k (show 0 < n by omega)
  have h3 := Int.tmod_eq_emod (a := k) (b := n)
  have h4 : (n.natAbs : Int) = n := by omega
  rw [h3]
  split
  · refine ⟨by omega, by omega, by omega, by omega⟩
  · rename_i h
    have : k % n ≠ 0 := fun h0 => h (.inr (Int.dvd_of_emod_eq_zero h0))
    rw [h4]
    refine ⟨by omega, by omega, by omega, by omega⟩
set_option maxHeartbeats 1000000 in
/-- dayshiftref01.Count -/
theorem count_any (k n : Int) (w : World) (hk : -9223372036854775808 ≤ k ∧ k ≤ 9223372036854775807) (hn : 1 ≤ n ∧ n ≤ 9223372036854775807) :
    Calls Tryd.prog 39 #[.int .i64 k, .int .i64 n] w fun e w' => e = .returned (.int .i64 (cnt k n)) ∧ w' = w := by
  obtain ⟨hk1, hk2⟩ := hk
  obtain ⟨hn1, hn2⟩ := hn
  obtain ⟨t1, t2, t3, t4⟩ := tmod_facts k n hn1
  have HE : Hid (cnt k n = k % n) := by show _ = _; unfold cnt; rw [if_neg (by omega)]
  obtain ⟨r, hr⟩ : ∃ r, r = k.tmod n := ⟨_, rfl⟩
  rw [← hr] at t1 t2 t3 t4
  have hn0 : ¬ n = 0 := by omega
  by_cases h0 : r < 0
  · have HR := hide (t3 h0)
    clear t3 t4
    go_enter Tryd.func39, Tryd.ntmps39
    go_wp2
    go_ret
    exact ⟨ret_int (by rw [HE.out, ← HR.out, hr]), rfl⟩
  · have HR := hide (t4 h0)
    clear t3 t4
    go_enter Tryd.func39, Tryd.ntmps39
    go_wp2
    go_ret
    exact ⟨ret_int (by rw [HE.out, ← HR.out, hr]), rfl⟩
end Go.Proofs.YtgobnnciijlpaaaDoor

/- The walk of LogCut. -/
namespace Go.Proofs.YtgobnnciijlpaaaDoor
open Go.ChangeShapes Go.WideShapes Go.ChangeAt Go.RowKit Go.DsMem Go.DsDk Go.DsLg
set_option linter.unusedVariables false

/-- none of the first records is too long -/
theorem all_next {l : List (List UInt8)} {k : Nat} (h : ∀ r ∈ l.take k, r.length ≤ 200) (hk : k < l.length) (hr : l[k].length ≤ 200) : ∀ r ∈ l.take (k + 1), r.length ≤ 200 := by
  intro r hm
  rw [List.take_succ_eq_append_getElem hk] at hm
  rcases List.mem_append.1 hm with h1 | h1
  · exact h r h1
  · simp at h1; subst h1; exact hr
theorem scan_all {l : List (List UInt8)} {n : Nat} (hn : 1 ≤ n) (hb : n + l.length ≤ 18446744073709551616) (hl : ∀ r ∈ l, r.length ≤ 60000) : scanB (wrB n l) = (if l.length = 0 then 0 else n, l, (wrB n l).length) := by
  have := scanB_wr (t := []) hn hb hl unf_nil
  rwa [List.append_nil] at this

theorem rd_take {w : World} {ao : Option Addr} {n c k : Nat} {l : List UInt8} (h : Rd w (.slice ao n c) l) (hk : k ≤ l.length) : Rd w (.slice ao k c) (l.take k) := by
  obtain ⟨ao', cap, hs, hl, hn, hr⟩ := h
  simp only [Value.slice.injEq] at hs
  obtain ⟨rfl, _, rfl⟩ := hs
  have hlen : (l.take k).length = k := by rw [List.length_take]; omega
  refine ⟨ao, c, by rw [hlen], by rw [hlen]; omega, fun h => ?_, fun a ha j u hu => ?_⟩
  · have := hn h; rw [hlen]; omega
  · rw [List.getElem?_take] at hu
    split at hu
    · exact hr a ha j u hu
    · cases hu

set_option maxHeartbeats 4000000 in
set_option maxRecDepth 20000 in
/-- the law LogCut -/
theorem logCut_walk (l : List (List UInt8)) (ao : Option Addr) (cap : Nat) (n : Int) (w : World) (ht : Tab w) (h : RdLs w (.slice ao l.length cap) l) (hlc : l.length ≤ cap) (hn : -9223372036854775808 ≤ n ∧ n ≤ 9223372036854775807) :
    Calls Tryd.prog 5 #[.slice ao l.length cap, .int .i64 n] w fun e w' => e = .returned (.bool true) ∧ Below w.heap.size w w' := by
  have HT := hide ht
  have HR := hide h
  have HN := hide hn
  clear ht h hn
  by_cases h12 : 12 < l.length
  · go_enter Tryd.func5, Tryd.ntmps5
    go_wp2_with (go_at_call 31; refine (known4_any _ HT.out).mono ?_; rintro e w1 ⟨rfl, B1⟩)
    go_ret
    exact ⟨rfl, B1⟩
  have h12' : l.length ≤ 12 := by omega
  clear h12
  go_enter Tryd.func5, Tryd.ntmps5
  go_wp2
  go_loop [5] (fun i => ∃ k : Nat, k ≤ l.length ∧ i = .int .i64 k ∧ ∀ r ∈ l.take k, r.length ≤ 200) (fun i => l.length - (intOf i).toNat)
  case atStart => exact ⟨0, Nat.zero_le _, rfl, fun r hr => by simp at hr⟩
  case round =>
    obtain ⟨k, hk, rfl, hall⟩ := hrel
    have HALL := hide hall
    clear hall
    by_cases hlt : k < l.length
    · obtain ⟨a, xo, xc, rfl, hc, -⟩ := HR.out.at hlt
      by_cases hbig : 200 < l[k].length
      · generalize l[k].length = m at *
        go_wp2_with (go_at_call 31; refine (known4_any _ HT.out).mono ?_; rintro e w1 ⟨rfl, B1⟩)
        go_ret
        exact ⟨rfl, B1⟩
      · have HNX := hide (all_next HALL.out hlt (by omega))
        generalize l[k].length = m at *
        go_wp2
        go_round
        case rel => exact ⟨k + 1, by omega, by go_num, HNX.out⟩
        case measure => simp [intOf]; omega
    · have h200 : ∀ r ∈ l, r.length ≤ 200 := by have := HALL.out; rwa [List.take_of_length_le (by omega)] at this
      have h6 : ∀ r ∈ l, r.length ≤ 60000 := fun r hr => Nat.le_trans (h200 r hr) (by decide)
      have hsc := scan_all (l := l) (n := 1) (Nat.le_refl _) (by omega) h6
      have hml := wr_small (n := 1) h200 (by omega)
      obtain ⟨hk1, hk2⟩ := cnt_lt (k := n) (n := (wrB 1 l).length + 1) (by omega)
      obtain ⟨kk, hkk⟩ : ∃ kk : Nat, cnt n ((wrB 1 l).length + 1) = (kk : Int) := ⟨(cnt n ((wrB 1 l).length + 1)).toNat, by omega⟩
      rw [hkk] at hk1 hk2
      have hkl : kk ≤ (wrB 1 l).length := by omega
      obtain ⟨j, hj, hf, hto⟩ := scan_cut (n := 1) (Nat.le_refl _) (by omega) h6 hkl
      have H200 := hide h200
      have HSC := hide hsc
      have HKK := hide hkk
      have HF := hide hf
      clear h200 h6 hsc hkk hf hk1 hk2 HALL
      obtain ⟨bb, hbb⟩ : ∃ bb, bb = wrB 1 l := ⟨_, rfl⟩
      rw [← hbb] at hml hkl HSC HKK HF hto
      have HBB := hide hbb
      clear hbb
      go_wp2_with fail
      refine (written_any l _ w HT.out HR.out (by omega) H200.out).mono ?_
      rintro e w1 ⟨x, rfl, hx, B1⟩
      rw [← HBB.out] at hx
      obtain ⟨xo, xc, rfl, hxc⟩ := own_shape hx
      have HX1 := hide hx
      have HB1 := hide B1
      clear hx B1
      go_wp2_with fail
      refine (scan_any bb _ w1 (HT.out.below HB1.out (Nat.le_refl _)) (Rd.own HX1.out) (by omega)).mono ?_
      rintro e w2 ⟨r1, vs1, rfl, hr1, B2⟩
      have hs1 := hr1.rds
      rw [HSC.out] at hs1
      rw [HSC.out]
      obtain ⟨r1o, r1c, rfl, -⟩ := id hs1
      have HS2 := hide hs1
      have HX2 := hide (own_below HX1.out B2)
      have HB2 := hide (HB1.out.trans (B2.mono HB1.out.size))
      clear hr1 hs1 B2 HX1 HB1
      have hlc2 : (bb.length : Int) ≤ 3456 := by omega
      obtain ⟨sc2, hsc2⟩ : ∃ sc2, sc2 = scanB (bb.take kk) := ⟨_, rfl⟩
      rw [← hsc2] at HF hto
      have HSC2 := hide hsc2
      clear hsc2
      have hjl : (l.take j).length = j := by rw [List.length_take]; omega
      have HJL := hide hjl
      clear hjl
      have hto2 : (sc2.2.2 : Int) ≤ (kk : Int) := by omega
      rcases (show l.length = 0 ∨ ¬ l.length = 0 by omega) with h0 | h0
      · rw [if_pos h0]
        have hz : ¬ (0 : Int) < (l.length : Int) := by omega
        clear h0
        go_wp2_with (first
          | (go_at_call 27; refine (rsame_any l l _ _ _ HS2.out (rdls_in HR.out HB2.out (Nat.le_refl _)) (by omega) (by omega)).mono ?_; rintro e w3 ⟨rfl, B3⟩; rw [show decide (l = l) = true by simp]; have HX3 := hide (own_below HX2.out B3); have HB3 := hide (HB2.out.trans (B3.mono HB2.out.size)); clear B3 HS2)
          | (go_at_call 39; refine (count_any n (bb.length + 1) _ HN.out (by omega)).mono ?_; rintro e w' ⟨rfl, rfl⟩; rw [HKK.out])
          | (go_at_call 34; refine (scan_any (bb.take kk) _ _ (HT.out.below HB3.out (Nat.le_refl _)) (rd_take (Rd.own HX3.out) hkl) (by rw [List.length_take]; omega)).mono ?_; rintro e w4 ⟨r4, vs4, rfl, hr4, B4⟩; rw [← HSC2.out] at hr4; rw [← HSC2.out]; rw [HF.out] at hr4; have hs4 := hr4.rds; obtain ⟨r4o, r4c, rfl, -⟩ := id hs4; rw [HJL.out] at hs4; rw [HJL.out]; have HS4 := hide hs4; have HB4 := hide (HB3.out.trans (B4.mono HB3.out.size)); clear hr4 hs4 B4)
          | (go_at_call 27; refine (rsame_any (l.take j) (l.take j) _ _ _ HS4.out ((rdls_in HR.out HB4.out (Nat.le_refl _)).take hj) (by rw [HJL.out]; omega) (by rw [HJL.out]; omega)).mono ?_; rintro e w5 ⟨rfl, B5⟩; rw [show decide (l.take j = l.take j) = true by simp]; have HB5 := hide (HB4.out.trans (B5.mono HB4.out.size)); clear B5)
          | (go_at_call 31; refine (known4_any _ (HT.out.below HB5.out (Nat.le_refl _))).mono ?_; rintro e w6 ⟨rfl, B6⟩; have HB6 := hide (HB5.out.trans (B6.mono HB5.out.size)); clear B6))
        go_ret
        exact ⟨rfl, HB6.out⟩
      · rw [if_neg h0]
        have hz : (0 : Int) < (l.length : Int) := by omega
        clear h0
        go_wp2_with (first
          | (go_at_call 27; refine (rsame_any l l _ _ _ HS2.out (rdls_in HR.out HB2.out (Nat.le_refl _)) (by omega) (by omega)).mono ?_; rintro e w3 ⟨rfl, B3⟩; rw [show decide (l = l) = true by simp]; have HX3 := hide (own_below HX2.out B3); have HB3 := hide (HB2.out.trans (B3.mono HB2.out.size)); clear B3 HS2)
          | (go_at_call 39; refine (count_any n (bb.length + 1) _ HN.out (by omega)).mono ?_; rintro e w' ⟨rfl, rfl⟩; rw [HKK.out])
          | (go_at_call 34; refine (scan_any (bb.take kk) _ _ (HT.out.below HB3.out (Nat.le_refl _)) (rd_take (Rd.own HX3.out) hkl) (by rw [List.length_take]; omega)).mono ?_; rintro e w4 ⟨r4, vs4, rfl, hr4, B4⟩; rw [← HSC2.out] at hr4; rw [← HSC2.out]; rw [HF.out] at hr4; have hs4 := hr4.rds; obtain ⟨r4o, r4c, rfl, -⟩ := id hs4; rw [HJL.out] at hs4; rw [HJL.out]; have HS4 := hide hs4; have HB4 := hide (HB3.out.trans (B4.mono HB3.out.size)); clear hr4 hs4 B4)
          | (go_at_call 27; refine (rsame_any (l.take j) (l.take j) _ _ _ HS4.out ((rdls_in HR.out HB4.out (Nat.le_refl _)).take hj) (by rw [HJL.out]; omega) (by rw [HJL.out]; omega)).mono ?_; rintro e w5 ⟨rfl, B5⟩; rw [show decide (l.take j = l.take j) = true by simp]; have HB5 := hide (HB4.out.trans (B5.mono HB4.out.size)); clear B5)
          | (go_at_call 31; refine (known4_any _ (HT.out.below HB5.out (Nat.le_refl _))).mono ?_; rintro e w6 ⟨rfl, B6⟩; have HB6 := hide (HB5.out.trans (B6.mono HB5.out.size)); clear B6))
        go_ret
        exact ⟨rfl, HB6.out⟩
end Go.Proofs.YtgobnnciijlpaaaDoor

