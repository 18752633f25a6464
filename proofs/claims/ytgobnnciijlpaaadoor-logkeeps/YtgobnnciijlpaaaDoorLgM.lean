/- What the document says of a log, as plain functions: sums, frames, the records of some bytes. No program in sight. -/
import Derived.Test.YtgobnnciijlpaaaDoorDkM
namespace Go.DsLg
open Go.DsDk

/-- what four bits do to a sum -/
def tbl (k : Nat) : Nat :=
  [0x00000000, 0x1db71064, 0x3b6e20c8, 0x26d930ac, 0x76dc4190, 0x6b6b51f4, 0x4db26158, 0x5005713c,
   0xedb88320, 0xf00f9344, 0xd6d6a3e8, 0xcb61b38c, 0x9b64c2b0, 0x86d3d2d4, 0xa00ae278, 0xbdbdf21c].getD k 0
/-- four bits of a sum -/
def nib (s : Nat) : Nat := (s >>> 4) ^^^ tbl (s &&& 15)
/-- a byte -/
def crcB (s : Nat) (c : UInt8) : Nat := nib (nib (s ^^^ c.toNat))
def crcL (s : Nat) (l : List UInt8) : Nat := l.foldl crcB s
/-- CRC-32 -/
def sum32 (l : List UInt8) : Nat := 4294967295 ^^^ crcL 4294967295 l
theorem tbl_lt (k : Nat) : tbl k < 4294967296 := by
  unfold tbl
  by_cases h : k < 16
  · have : ∀ i, i < 16 → ([0x00000000, 0x1db71064, 0x3b6e20c8, 0x26d930ac, 0x76dc4190, 0x6b6b51f4, 0x4db26158, 0x5005713c,
   0xedb88320, 0xf00f9344, 0xd6d6a3e8, 0xcb61b38c, 0x9b64c2b0, 0x86d3d2d4, 0xa00ae278, 0xbdbdf21c] : List Nat).getD i 0 < 4294967296 := by decide
    exact this k h
  · rw [List.getD, List.getElem?_eq_none (by simpa using h)]; decide
theorem nib_lt {s : Nat} (h : s < 4294967296) : nib s < 4294967296 := by
  unfold nib
  exact Nat.xor_lt_two_pow (n := 32) (Nat.lt_of_le_of_lt (Nat.shiftRight_le _ _) h) (tbl_lt _)
theorem crcB_lt {s : Nat} (h : s < 4294967296) (c : UInt8) : crcB s c < 4294967296 :=
  nib_lt (nib_lt (Nat.xor_lt_two_pow (n := 32) h (by have := c.toNat_lt; omega)))
theorem crcL_lt {s : Nat} (h : s < 4294967296) (l : List UInt8) : crcL s l < 4294967296 := by
  unfold crcL
  induction l generalizing s with
  | nil => exact h
  | cons a l ih => exact ih (crcB_lt h a)
theorem sum32_lt (l : List UInt8) : sum32 l < 4294967296 := Nat.xor_lt_two_pow (n := 32) (by decide) (crcL_lt (by decide) l)
theorem crcL_snoc (s : Nat) (l : List UInt8) (c : UInt8) : crcL s (l ++ [c]) = crcB (crcL s l) c := by simp [crcL]

/-- the k lowest bytes of a number, the highest first -/
def lowB : Nat → Nat → List UInt8
  | 0, _ => []
  | k + 1, n => UInt8.ofNat (n / 256 ^ k % 256) :: lowB k n
theorem lowB_len (k n : Nat) : (lowB k n).length = k := by
  induction k with
  | zero => rfl
  | succ k ih => simp [lowB, ih]
/-- bytes as a number, the highest first -/
def getN (l : List UInt8) : Nat := l.foldl (fun n c => n * 256 + c.toNat) 0
theorem getN_snoc (l : List UInt8) (c : UInt8) : getN (l ++ [c]) = getN l * 256 + c.toNat := by simp [getN]
theorem fold_lt (l : List UInt8) (n : Nat) : l.foldl (fun n c => n * 256 + c.toNat) n < (n + 1) * 256 ^ l.length := by
  induction l generalizing n with
  | nil => simp
  | cons c l ih =>
    have hc := c.toNat_lt
    refine Nat.lt_of_lt_of_le (ih _) ?_
    rw [List.length_cons, Nat.pow_succ, Nat.mul_comm (256 ^ l.length) 256, ← Nat.mul_assoc]
    exact Nat.mul_le_mul_right _ (show n * 256 + c.toNat + 1 ≤ (n + 1) * 256 by omega)
theorem getN_lt (l : List UInt8) : getN l < 256 ^ l.length := by have := fold_lt l 0; simpa [getN] using this

/-- a record's frame -/
def frameB (seq : Nat) (rec : List UInt8) : List UInt8 := lowB 4 rec.length ++ (lowB 4 (sum32 (lowB 8 seq ++ rec)) ++ (lowB 8 seq ++ rec))
theorem frameB_len (seq : Nat) (rec : List UInt8) : (frameB seq rec).length = 16 + rec.length := by simp [frameB, lowB_len]; omega

/-- the frame that bytes begin with: its number and its record -/
def unfB (b : List UInt8) : Option (Nat × List UInt8) :=
  if b.length < 16 then none
  else if 60000 < getN (b.take 4) then none
  else if b.length - 16 < getN (b.take 4) then none
  else if sum32 ((b.take (16 + getN (b.take 4))).drop 8) = getN ((b.take 8).drop 4) then some (getN ((b.take 16).drop 8), (b.take (16 + getN (b.take 4))).drop 16)
  else none
theorem get4_lt (b : List UInt8) : getN (b.take 4) < 4294967296 := Nat.lt_of_lt_of_le (getN_lt _) (Nat.le_trans (Nat.pow_le_pow_right (by decide) (show (b.take 4).length ≤ 4 by simp; omega)) (by decide))
theorem get48_lt (b : List UInt8) : getN ((b.take 8).drop 4) < 4294967296 := Nat.lt_of_lt_of_le (getN_lt _) (Nat.le_trans (Nat.pow_le_pow_right (by decide) (show ((b.take 8).drop 4).length ≤ 4 by simp; omega)) (by decide))
theorem get8_lt (b : List UInt8) : getN ((b.take 16).drop 8) < 18446744073709551616 := Nat.lt_of_lt_of_le (getN_lt _) (Nat.le_trans (Nat.pow_le_pow_right (by decide) (show ((b.take 16).drop 8).length ≤ 8 by simp; omega)) (by decide))

/-- the records of some bytes, from a place on -/
def scanL : Nat → List UInt8 → Nat → List (List UInt8) → Nat → Nat × List (List UInt8) × Nat
  | 0, _, first, recs, p => (first, recs, p)
  | fuel + 1, b, first, recs, p =>
    match unfB (b.drop p) with
    | none => (first, recs, p)
    | some (q, r) =>
      if q = 0 then (first, recs, p)
      else if recs.length = 0 then scanL fuel b q [r] (p + (16 + r.length))
      else if q = (first + recs.length) % 18446744073709551616 then scanL fuel b first (recs ++ [r]) (p + (16 + r.length))
      else (first, recs, p)
/-- the records of some bytes: the first one's number, all of them, how many bytes their frames are -/
def scanB (b : List UInt8) : Nat × List (List UInt8) × Nat := scanL (b.length + 1) b 0 [] 0
theorem unf_len {b r : List UInt8} {q : Nat} (h : unfB b = some (q, r)) : 16 + r.length ≤ b.length ∧ r.length ≤ 60000 ∧ q < 18446744073709551616 := by
  unfold unfB at h
  split at h
  · cases h
  · split at h
    · cases h
    · split at h
      · cases h
      · split at h
        · simp only [Option.some.injEq, Prod.mk.injEq] at h
          obtain ⟨rfl, rfl⟩ := h
          simp only [List.length_drop, List.length_take]
          have := get8_lt b
          omega
        · cases h

/-- a file is written beside another one, and takes its place -/
def replB (D : Dk) (room to : Int) (b : List UInt8) : Dk × Int :=
  if (D.clear room).2 = 0 then
    (if ((D.clear room).1.append room b).2 = 0 then
      (if (((D.clear room).1.append room b).1.sync room).2 = 0 then (((D.clear room).1.append room b).1.sync room).1.rename room to
       else ((D.clear room).1.append room b).1.sync room)
     else (D.clear room).1.append room b)
  else D.clear room
/-- a snapshot's number, its bytes, an error -/
def snapB (b : List UInt8) : Nat × List UInt8 × Int :=
  if b.length = 0 then (0, [], 0)
  else match unfB b with
    | none => (0, [], 11)
    | some (q, r) => if 16 + r.length = b.length then (q, r, 0) else (0, [], 11)
/-- the records behind a snapshot -/
def behB (seq first : Nat) (recs : List (List UInt8)) : List (List UInt8) × Int :=
  if recs.length = 0 then ([], 0)
  else if seq < first then (if first - seq = 1 then (recs, 0) else ([], 11))
  else if recs.length ≤ seq - first + 1 then ([], 0)
  else (recs.drop (seq - first + 1), 0)
/-- what Open answers: an error; else the next number, how many records, the snapshot, the records -/
structure Opened where
  err : Int
  next : Nat
  snap : List UInt8
  recs : List (List UInt8)
def openB (D : Dk) : Dk × Opened :=
  if (snapB (D.b 1)).2.2 = 0 then
    (if (behB (snapB (D.b 1)).1 (scanB (D.b 0)).1 (scanB (D.b 0)).2.1).2 = 0 then
      (if (scanB (D.b 0)).2.2 < (D.b 0).length then
        (if (replB D 2 0 ((D.b 0).take (scanB (D.b 0)).2.2)).2 = 0 then
          ((replB D 2 0 ((D.b 0).take (scanB (D.b 0)).2.2)).1, ⟨0, ((snapB (D.b 1)).1 + (behB (snapB (D.b 1)).1 (scanB (D.b 0)).1 (scanB (D.b 0)).2.1).1.length + 1) % 18446744073709551616, (snapB (D.b 1)).2.1, (behB (snapB (D.b 1)).1 (scanB (D.b 0)).1 (scanB (D.b 0)).2.1).1⟩)
         else ((replB D 2 0 ((D.b 0).take (scanB (D.b 0)).2.2)).1, ⟨(replB D 2 0 ((D.b 0).take (scanB (D.b 0)).2.2)).2, 0, [], []⟩))
       else (D, ⟨0, ((snapB (D.b 1)).1 + (behB (snapB (D.b 1)).1 (scanB (D.b 0)).1 (scanB (D.b 0)).2.1).1.length + 1) % 18446744073709551616, (snapB (D.b 1)).2.1, (behB (snapB (D.b 1)).1 (scanB (D.b 0)).1 (scanB (D.b 0)).2.1).1⟩))
     else (D, ⟨(behB (snapB (D.b 1)).1 (scanB (D.b 0)).1 (scanB (D.b 0)).2.1).2, 0, [], []⟩))
  else (D, ⟨(snapB (D.b 1)).2.2, 0, [], []⟩)

/-- what holds of the records of some bytes -/
def ScanOk (b : List UInt8) (t : Nat × List (List UInt8) × Nat) : Prop := t.1 < 18446744073709551616 ∧ (0 < t.2.1.length → 1 ≤ t.1) ∧ t.2.2 ≤ b.length ∧ 16 * t.2.1.length ≤ t.2.2 ∧ ∀ r ∈ t.2.1, r.length ≤ 60000
theorem scanL_inv (fuel : Nat) (b : List UInt8) (first : Nat) (recs : List (List UInt8)) (p : Nat) (h : ScanOk b (first, recs, p)) : ScanOk b (scanL fuel b first recs p) := by
  induction fuel generalizing first recs p with
  | zero => exact h
  | succ fuel ih =>
    unfold scanL
    cases hu : unfB (b.drop p) with
    | none => exact h
    | some qr =>
      obtain ⟨q, r⟩ := qr
      obtain ⟨h1, h2, h3⟩ := unf_len hu
      rw [List.length_drop] at h1
      simp only [ScanOk] at h
      simp only
      split
      · exact h
      · rename_i hq
        split
        · refine ih _ _ _ ⟨h3, fun _ => by show 1 ≤ q; omega, by show p + (16 + r.length) ≤ b.length; omega, by show 16 * [r].length ≤ p + (16 + r.length); simp; omega, fun x hx => by simp at hx; subst hx; exact h2⟩
        · rename_i hr
          split
          · refine ih _ _ _ ⟨h.1, fun _ => h.2.1 (by omega), by show p + (16 + r.length) ≤ b.length; omega, by show 16 * (recs ++ [r]).length ≤ p + (16 + r.length); rw [List.length_append]; simp; omega, fun x hx => ?_⟩
            rcases List.mem_append.1 hx with hx | hx
            · exact h.2.2.2.2 x hx
            · simp at hx; subst hx; exact h2
          · exact h
theorem scanB_ok (b : List UInt8) : ScanOk b (scanB b) := scanL_inv _ b 0 [] 0 ⟨by decide, fun h => by simp at h, Nat.zero_le _, by simp, fun x hx => by simp at hx⟩
theorem snapB_lt (b : List UInt8) : (snapB b).1 < 18446744073709551616 ∧ (snapB b).2.1.length ≤ 60000 := by
  unfold snapB
  split
  · simp
  · cases hu : unfB b with
    | none => simp
    | some qr =>
      obtain ⟨q, r⟩ := qr
      obtain ⟨h1, h2, h3⟩ := unf_len hu
      simp only
      split
      · exact ⟨h3, h2⟩
      · simp
theorem behB_len (seq first : Nat) (recs : List (List UInt8)) : (behB seq first recs).1.length ≤ recs.length := by
  unfold behB
  split
  · simp
  · split
    · split <;> simp
    · split
      · simp
      · simp

/-- a log: the next number, how many records, whether a call had an error -/
structure Lg where
  next : Nat
  size : Nat
  broken : Bool
def addB (D : Dk) (f : List UInt8) : Dk × Int := if (D.append 0 f).2 = 0 then (D.append 0 f).1.sync 0 else D.append 0 f
def setB (D : Dk) (f : List UInt8) : Dk × Int := if (replB D 3 1 f).2 = 0 then (replB D 3 1 f).1.clear 0 else replB D 3 1 f
/-- a record more -/
def appB (D : Dk) (L : Lg) (rec : List UInt8) : Dk × Lg × Int :=
  if L.broken then (D, L, 5)
  else if 60000 < rec.length then (D, L, 3)
  else if (addB D (frameB L.next rec)).2 = 0 then ((addB D (frameB L.next rec)).1, ⟨(L.next + 1) % 18446744073709551616, L.size + 1, false⟩, 0)
  else ((addB D (frameB L.next rec)).1, ⟨L.next, L.size, true⟩, (addB D (frameB L.next rec)).2)
def lessN (n : Nat) : Nat := (n + 18446744073709551615) % 18446744073709551616
/-- a snapshot in the place of all records -/
def insB (D : Dk) (L : Lg) (snap : List UInt8) : Dk × Lg × Int :=
  if L.broken then (D, L, 5)
  else if 60000 < snap.length then (D, L, 3)
  else if (setB D (frameB (lessN L.next) snap)).2 = 0 then ((setB D (frameB (lessN L.next) snap)).1, ⟨L.next, 0, false⟩, 0)
  else ((setB D (frameB (lessN L.next) snap)).1, ⟨L.next, L.size, true⟩, (setB D (frameB (lessN L.next) snap)).2)
end Go.DsLg
