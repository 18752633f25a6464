/- Package lex: the walk of readNumber. -/
import Derived.Test.YtkpgfhapffijkaaGreatDoorR07
import Derived.Deep.CutBlock
import Derived.Deep.CutRange
namespace Go.Proofs.YtkpgfhapffijkaaGreatDoor
open Go.ChangeShapes Go.WideShapes Go.ChangeAt Go.RowKit Go.DsMem Go.DsLx
set_option linter.unusedVariables false
theorem dg_bd {n : Int} (h : DsLx.dgB n = true) : 48 ≤ n ∧ n ≤ 57 := by
  unfold DsLx.dgB clsF at h
  simp only [decide_eq_true_eq] at h
  split at h
  · omega
  · split at h
    · assumption
    · split at h
      · omega
      · split at h <;> omega
theorem numV_bd9 {s : ByteArray} {k E i : Nat} (hE : endE DsLx.dgB s k = E) (h9 : E - k ≤ 9) (hi : k + i ≤ E) : 0 ≤ numV s k i ∧ numV s k i ≤ 1000000000 := by
  have h := numV_bd (s := s) (k := k) i (by omega) (fun j hj => by
    have := runE_all (p := DsLx.dgB) (s := s) (s.size - k) k (k + j) (by omega) (by show _ < endE DsLx.dgB s k; omega)
    exact this)
  have hp : (10 ^ i : Nat) ≤ 10 ^ 9 := Nat.pow_le_pow_right (by decide) (by omega)
  have : (10 ^ 9 : Nat) = 1000000000 := by decide
  omega
set_option maxHeartbeats 4000000 in
/-- lex.readNumber -/
theorem readNumber_any (s : ByteArray) (k : Nat) (w : World) (hs : s.size ≤ 100000) (hk : k ≤ s.size) : Calls Tryz.prog 71 #[.string s, .int .i64 k] w fun e w' => e = tkE (numF s k) ∧ Below w.heap.size w w' := by
  have hbd := endE_bd DsLx.dgB s k hk
  obtain ⟨E, hE⟩ : ∃ E, endE DsLx.dgB s k = E := ⟨_, rfl⟩
  obtain ⟨Z, hZ⟩ : ∃ Z, numF s k = Z := ⟨_, rfl⟩
  have HN : Hid (Z = if 9 < E - k ∨ (E < s.size ∧ DsLx.inB (bAt s E) = true) then (tk0, false) else (⟨2, s.extract k E, numV s k (E - k), k⟩, true)) := by refine hide ?_; rw [← hZ]; unfold numF; rw [hE]
  have HD : Hid (∀ w : World, Calls Tryz.prog 73 #[.string s, .int .i64 k] w fun e w' => e = .returned (.int .i64 E) ∧ w' = w) := fun w => by rw [← hE]; exact digitsEnd_any s k w hs hk
  rw [hE] at hbd
  obtain ⟨hE1, hE2⟩ := hbd
  rw [hZ]
  have HC : Hid (∀ (b : Bool) (hlt : E < s.size) (w : World), DsLx.inB (bAt s E) = b → Calls Tryz.prog 92 #[.int .u8 (s[E].toNat : Int)] w fun e w' => e = .returned (.bool b) ∧ w' = w) := fun b hlt w hin => by
    have hb := bAt_bd s E
    rw [bAt_eq s E hlt, ← hin]; exact inName_any _ w hb.1 hb.2
  have HDG : Hid (∀ i, k ≤ i → i < E → 48 ≤ bAt s i ∧ bAt s i ≤ 57) := fun i h1 h2 => dg_bd (runE_all (p := DsLx.dgB) (s := s) (s.size - k) k i h1 (by show _ < endE DsLx.dgB s k; omega))
  have HNB : Hid (E - k ≤ 9 → ∀ i, k + i ≤ E → 0 ≤ numV s k i ∧ numV s k i ≤ 1000000000) := fun h9 i hi => numV_bd9 hE h9 hi
  clear hZ hE
  have hz : ¬ (9 < E - k ∨ (E < s.size ∧ DsLx.inB (bAt s E) = true)) → Calls Tryz.prog 71 #[.string s, .int .i64 k] w fun e w' => e = tkE Z ∧ Below w.heap.size w w' := by
    intro hno
    have HZ : Hid (Z = (⟨2, s.extract k E, numV s k (E - k), k⟩, true)) := by refine hide ?_; rw [HN.out, if_neg hno]
    have h9 : (E : Int) - k ≤ 9 := by omega
    have h9n : E - k ≤ 9 := by omega
    have hin : E < s.size → DsLx.inB (bAt s E) = false := fun hlt => by
      cases h : DsLx.inB (bAt s E) with
      | false => rfl
      | true => exact absurd (.inr ⟨hlt, h⟩) hno
    clear hno HN
    have hd9 : decide ((9 : Int) < (E : Int) - k) = false := by simp; omega
    by_cases hlt : E < s.size
    · have hin' := hin hlt
      go_enter Tryz.func71, Tryz.ntmps71
      go_wp2_with (first | (go_at_call 73; refine (HD.out _).mono ?_; rintro e w' ⟨rfl, rfl⟩) | (go_at_call 92; refine (HC.out false hlt _ hin').mono ?_; rintro e w' ⟨rfl, rfl⟩))
      obtain ⟨w1, hw1⟩ : ∃ w1, w1 = w.alloc (.cells #[.int .i64 0, .string ⟨#[]⟩, .int .i64 0, .int .i64 0] 127) := ⟨_, rfl⟩
      have HW1 : Hid (Below w.heap.size w w1) := by refine hide ?_; rw [hw1]; exact (Below.refl _ _).alloc (Nat.le_refl _) _
      have HRS : Hid (Res0 w1 w.heap.size) := by refine hide ?_; rw [hw1]; exact heap_alloc_new w _
      rw [← hw1]
      clear hw1
      go_loopw [7, 8] (fun tn ti wr => ∃ i : Nat, k + i ≤ E ∧ tn = .int .i64 (numV s k i) ∧ ti = .int .i64 ((k + i : Nat) : Int) ∧ wr = w1) (fun _ ti _ => E - (intOf ti).toNat)
      case atStart => exact ⟨0, by omega, rfl, rfl, rfl⟩
      case round =>
        obtain ⟨i, hi, rfl, rfl, rfl⟩ := hrel
        obtain ⟨b0, b1⟩ := HNB.out h9n i hi
        by_cases hgo : k + i < E
        · obtain ⟨d0, d1⟩ := HDG.out (k + i) (by omega) hgo
          have hls : k + i < s.size := by omega
          have hbe := bAt_eq s (k + i) hls
          rw [← hbe] at d0 d1
          have HV : Hid (numV s k (i + 1) = numV s k i * 10 + ((s[k + i].toNat : Int) - 48)) := by refine hide ?_; rw [hbe]; rfl
          clear hbe
          generalize numV s k i = v at *
          go_wp2
          go_roundw
          case rel => exact ⟨i + 1, by omega, by rw [HV.out], by go_num, trivial⟩
          case measure => simp [intOf]; omega
        · obtain rfl : E = k + i := by omega
          obtain ⟨⟨q0, q1, q2, q3⟩, f0, f1, f2, f3⟩ := HRS.out.all
          go_wp2
          refine bodyPost_ret (v := .tuple #[.agg #[.int .i64 2, .string (s.extract k (k + i)), .int .i64 (numV s k i), .int .i64 k], .bool true]) (by simp [results, Tryz.results71, go_sem, q0, q1, q2, q3]) rfl ⟨by rw [HZ.out, show k + i - k = i by omega]; rfl, below_set4 HW1.out (Nat.le_refl _) _ _ _ _⟩
    · have hds : decide ((E : Int) < (s.size : Int)) = false := by simp; omega
      go_enter Tryz.func71, Tryz.ntmps71
      go_wp2_with (go_at_call 73; refine (HD.out _).mono ?_; rintro e w' ⟨rfl, rfl⟩)
      obtain ⟨w1, hw1⟩ : ∃ w1, w1 = w.alloc (.cells #[.int .i64 0, .string ⟨#[]⟩, .int .i64 0, .int .i64 0] 127) := ⟨_, rfl⟩
      have HW1 : Hid (Below w.heap.size w w1) := by refine hide ?_; rw [hw1]; exact (Below.refl _ _).alloc (Nat.le_refl _) _
      have HRS : Hid (Res0 w1 w.heap.size) := by refine hide ?_; rw [hw1]; exact heap_alloc_new w _
      rw [← hw1]
      clear hw1
      go_loopw [7, 8] (fun tn ti wr => ∃ i : Nat, k + i ≤ E ∧ tn = .int .i64 (numV s k i) ∧ ti = .int .i64 ((k + i : Nat) : Int) ∧ wr = w1) (fun _ ti _ => E - (intOf ti).toNat)
      case atStart => exact ⟨0, by omega, rfl, rfl, rfl⟩
      case round =>
        obtain ⟨i, hi, rfl, rfl, rfl⟩ := hrel
        obtain ⟨b0, b1⟩ := HNB.out h9n i hi
        by_cases hgo : k + i < E
        · obtain ⟨d0, d1⟩ := HDG.out (k + i) (by omega) hgo
          have hls : k + i < s.size := by omega
          have hbe := bAt_eq s (k + i) hls
          rw [← hbe] at d0 d1
          have HV : Hid (numV s k (i + 1) = numV s k i * 10 + ((s[k + i].toNat : Int) - 48)) := by refine hide ?_; rw [hbe]; rfl
          clear hbe
          generalize numV s k i = v at *
          go_wp2
          go_roundw
          case rel => exact ⟨i + 1, by omega, by rw [HV.out], by go_num, trivial⟩
          case measure => simp [intOf]; omega
        · obtain rfl : E = k + i := by omega
          obtain ⟨⟨q0, q1, q2, q3⟩, f0, f1, f2, f3⟩ := HRS.out.all
          go_wp2
          refine bodyPost_ret (v := .tuple #[.agg #[.int .i64 2, .string (s.extract k (k + i)), .int .i64 (numV s k i), .int .i64 k], .bool true]) (by simp [results, Tryz.results71, go_sem, q0, q1, q2, q3]) rfl ⟨by rw [HZ.out, show k + i - k = i by omega]; rfl, below_set4 HW1.out (Nat.le_refl _) _ _ _ _⟩
  by_cases hcond : 9 < E - k ∨ (E < s.size ∧ DsLx.inB (bAt s E) = true)
  · have HZ : Hid (Z = (tk0, false)) := by refine hide ?_; rw [HN.out, if_pos hcond]
    clear hz HN
    by_cases h9 : 9 < E - k
    · have h9' : (9 : Int) < (E : Int) - k := by omega
      clear hcond
      go_enter Tryz.func71, Tryz.ntmps71
      go_wp2_with (go_at_call 73; refine (HD.out _).mono ?_; rintro e w' ⟨rfl, rfl⟩)
      refine bodyPost_ret (v := .tuple #[.agg #[.int .i64 0, .string ⟨#[]⟩, .int .i64 0, .int .i64 0], .bool false]) (by simp [results, Tryz.results71, go_sem]) rfl ⟨by rw [HZ.out]; rfl, (Below.refl _ _).alloc (Nat.le_refl _) _⟩
    · have h9' : (E : Int) - k ≤ 9 := by omega
      obtain ⟨hlt, hin⟩ : E < s.size ∧ DsLx.inB (bAt s E) = true := by
        rcases hcond with h | h
        · exact absurd h h9
        · exact h
      go_enter Tryz.func71, Tryz.ntmps71
      go_wp2_with (first | (go_at_call 73; refine (HD.out _).mono ?_; rintro e w' ⟨rfl, rfl⟩) | (go_at_call 92; refine (HC.out true hlt _ hin).mono ?_; rintro e w' ⟨rfl, rfl⟩))
      refine bodyPost_ret (v := .tuple #[.agg #[.int .i64 0, .string ⟨#[]⟩, .int .i64 0, .int .i64 0], .bool false]) (by simp [results, Tryz.results71, go_sem]) rfl ⟨by rw [HZ.out]; rfl, (Below.refl _ _).alloc (Nat.le_refl _) _⟩
  · exact hz hcond
end Go.Proofs.YtkpgfhapffijkaaGreatDoor

/- Package lex: the walk of read. -/
namespace Go.DsLx
def readF (s : ByteArray) (k : Nat) (kd : Int) : Tk × Bool :=
  if kd = 1 then nameF s k else if kd = 2 then numF s k else if kd = 3 then timeF s k else if kd = 4 then (⟨4, s.extract k (k + 1), 0, k⟩, true) else (tk0, false)
end Go.DsLx
namespace Go.Proofs.YtkpgfhapffijkaaGreatDoor
open Go.ChangeShapes Go.WideShapes Go.ChangeAt Go.RowKit Go.DsMem Go.DsLx
set_option linter.unusedVariables false
set_option maxHeartbeats 2000000 in
/-- lex.read -/
theorem read_any (s : ByteArray) (k : Nat) (kd : Int) (w : World) (hs : s.size ≤ 100000) (hk : k < s.size) (h0 : 0 ≤ kd) (h4 : kd ≤ 4) :
    Calls Tryz.prog 47 #[.string s, .int .i64 k, .int .i64 kd] w fun e w' => e = tkE (readF s k kd) ∧ Below w.heap.size w w' := by
  obtain ⟨Z, hZ⟩ : ∃ Z, readF s k kd = Z := ⟨_, rfl⟩
  rw [hZ]
  have HZ := hide hZ
  clear hZ
  have hc : kd = 1 ∨ kd = 2 ∨ kd = 3 ∨ kd = 4 ∨ kd = 0 := by omega
  have HRS := hide (show Res0 (w.alloc (.cells #[.int .i64 0, .string ⟨#[]⟩, .int .i64 0, .int .i64 0] 127)) w.heap.size from heap_alloc_new w _)
  have HW1 : Hid (Below w.heap.size w (w.alloc (.cells #[.int .i64 0, .string ⟨#[]⟩, .int .i64 0, .int .i64 0] 127))) := (Below.refl _ _).alloc (Nat.le_refl _) _
  rcases hc with rfl | rfl | rfl | rfl | rfl
  · have HZ2 : Hid (nameF s k = Z) := HZ.out
    go_enter Tryz.func47, Tryz.ntmps47
    go_wp2_with fail
    refine (readName_any s k _ hs (by omega)).mono ?_
    rw [HZ2.out]
    unfold tkE
    rintro e w2 ⟨rfl, hb2⟩
    obtain ⟨⟨q0, q1, q2, q3⟩, f0, f1, f2, f3⟩ := (HRS.out.below hb2).all
    have HB2 := hide hb2
    clear hb2
    go_wp2
    refine bodyPost_ret (v := .tuple #[.agg #[.int .i64 Z.1.kind, .string Z.1.text, .int .i64 Z.1.n, .int .i64 Z.1.at_], .bool Z.2]) (by simp [results, Tryz.results47, go_sem, q0, q1, q2, q3]) rfl ⟨rfl, below_set4 (HW1.out.trans (HB2.out.mono HW1.out.size)) (Nat.le_refl _) _ _ _ _⟩
  · have HZ2 : Hid (numF s k = Z) := HZ.out
    go_enter Tryz.func47, Tryz.ntmps47
    go_wp2_with fail
    refine (readNumber_any s k _ hs (by omega)).mono ?_
    rw [HZ2.out]
    unfold tkE
    rintro e w2 ⟨rfl, hb2⟩
    obtain ⟨⟨q0, q1, q2, q3⟩, f0, f1, f2, f3⟩ := (HRS.out.below hb2).all
    have HB2 := hide hb2
    clear hb2
    go_wp2
    refine bodyPost_ret (v := .tuple #[.agg #[.int .i64 Z.1.kind, .string Z.1.text, .int .i64 Z.1.n, .int .i64 Z.1.at_], .bool Z.2]) (by simp [results, Tryz.results47, go_sem, q0, q1, q2, q3]) rfl ⟨rfl, below_set4 (HW1.out.trans (HB2.out.mono HW1.out.size)) (Nat.le_refl _) _ _ _ _⟩
  · have HZ2 : Hid (timeF s k = Z) := HZ.out
    go_enter Tryz.func47, Tryz.ntmps47
    go_wp2_with fail
    refine (readTime_any s k _ hs (by omega)).mono ?_
    rw [HZ2.out]
    unfold tkE
    rintro e w2 ⟨rfl, hb2⟩
    obtain ⟨⟨q0, q1, q2, q3⟩, f0, f1, f2, f3⟩ := (HRS.out.below hb2).all
    have HB2 := hide hb2
    clear hb2
    go_wp2
    refine bodyPost_ret (v := .tuple #[.agg #[.int .i64 Z.1.kind, .string Z.1.text, .int .i64 Z.1.n, .int .i64 Z.1.at_], .bool Z.2]) (by simp [results, Tryz.results47, go_sem, q0, q1, q2, q3]) rfl ⟨rfl, below_set4 (HW1.out.trans (HB2.out.mono HW1.out.size)) (Nat.le_refl _) _ _ _ _⟩
  · have HZ2 : Hid (Z = (⟨4, s.extract k (k + 1), 0, k⟩, true)) := HZ.out.symm
    go_enter Tryz.func47, Tryz.ntmps47
    go_wp2
    refine bodyPost_ret (v := .tuple #[.agg #[.int .i64 4, .string (s.extract k (k + 1)), .int .i64 0, .int .i64 k], .bool true]) (by simp [results, Tryz.results47, go_sem]) rfl ⟨by rw [HZ2.out]; rfl, (Below.refl _ _).alloc (Nat.le_refl _) _⟩
  · have HZ2 : Hid (Z = (tk0, false)) := HZ.out.symm
    go_enter Tryz.func47, Tryz.ntmps47
    go_wp2
    refine bodyPost_ret (v := .tuple #[.agg #[.int .i64 0, .string ⟨#[]⟩, .int .i64 0, .int .i64 0], .bool false]) (by simp [results, Tryz.results47, go_sem]) rfl ⟨by rw [HZ2.out]; rfl, (Below.refl _ _).alloc (Nat.le_refl _) _⟩
end Go.Proofs.YtkpgfhapffijkaaGreatDoor

/- Package lex: words of a source, plain. -/
namespace Go.Proofs.YtkpgfhapffijkaaGreatDoor
open Go.ChangeShapes Go.WideShapes Go.ChangeAt Go.RowKit Go.DsMem Go.DsLx
set_option linter.unusedVariables false
theorem wordF_bd (s : ByteArray) : ∀ (f k : Nat), k ≤ s.size → k ≤ wordF s f k ∧ wordF s f k ≤ s.size
  | 0, k, h => ⟨Nat.le_refl _, h⟩
  | f + 1, k, h => by
    rw [wordF]
    by_cases c : k < s.size
    · rw [if_pos c]
      by_cases d : bAt s k = 35
      · have hl := lineE_hash c d
        have := wordF_bd s f (DsLx.lineE s k) hl.2
        rw [if_pos d]; omega
      · rw [if_neg d]
        split
        · have := wordF_bd s f (k + 1) (by omega)
          omega
        · omega
    · rw [if_neg c]; omega
theorem wordE_bd (s : ByteArray) (k : Nat) (h : k ≤ s.size) : k ≤ wordE s k ∧ wordE s k ≤ s.size := wordF_bd s _ k h
/-- the word at a place -/
def rdF (s : ByteArray) (k : Nat) : Tk × Bool := readF s k (kindF (clsF (bAt s k)) (colB s k))
theorem clsF_bd (n : Int) : 0 ≤ clsF n ∧ clsF n ≤ 4 := by
  unfold clsF
  split
  · omega
  · split
    · omega
    · split
      · omega
      · split <;> omega
theorem kindF_bd (f : Int) (b : Bool) : 0 ≤ kindF f b ∧ kindF f b ≤ 4 := by
  unfold kindF
  split
  · omega
  · split
    · omega
    · split
      · omega
      · split <;> omega
/-- a word that can be is not empty, and lies in the source -/
theorem rdF_size {s : ByteArray} {k : Nat} (hk : k < s.size) (h : (rdF s k).2 = true) : 1 ≤ (rdF s k).1.text.size ∧ k + (rdF s k).1.text.size ≤ s.size := by
  unfold rdF readF at *
  have hcls : kindF (clsF (bAt s k)) (colB s k) = 1 → clsF (bAt s k) = 1 := by
    unfold kindF
    intro h
    split at h
    · rename_i c; exact c.1
    · split at h
      · omega
      · split at h
        · omega
        · split at h <;> omega
  have hcls2 : kindF (clsF (bAt s k)) (colB s k) = 2 → clsF (bAt s k) = 2 := by
    unfold kindF
    intro h
    split at h
    · omega
    · split at h
      · rename_i c; exact c.1
      · split at h
        · omega
        · split at h <;> omega
  split at h
  · rename_i c
    rw [if_pos c]
    have hin : DsLx.inB (bAt s k) = true := by unfold DsLx.inB; simp [hcls c]
    have e := endE_step hk hin
    have hb := endE_bd DsLx.inB s (k + 1) (by omega)
    unfold nameF at *
    split at h
    · cases h
    · rename_i c2
      rw [if_neg c2]
      simp only [foldS_size, ByteArray.size_extract]
      omega
  · rename_i c
    rw [if_neg c]
    split at h
    · rename_i c2
      rw [if_pos c2]
      have hin : DsLx.dgB (bAt s k) = true := by unfold DsLx.dgB; simp [hcls2 c2]
      have e := endE_step hk hin
      have hb := endE_bd DsLx.dgB s (k + 1) (by omega)
      unfold numF at *
      split at h
      · cases h
      · rename_i c3
        rw [if_neg c3]
        simp only [ByteArray.size_extract]
        omega
    · rename_i c2
      rw [if_neg c2]
      split at h
      · rename_i c3
        rw [if_pos c3]
        unfold timeF at *
        split at h
        · cases h
        · rename_i c4
          rw [if_neg c4]
          simp only [ByteArray.size_extract]
          omega
      · rename_i c3
        rw [if_neg c3]
        split at h
        · rename_i c4
          rw [if_pos c4]
          simp only [ByteArray.size_extract]
          omega
        · cases h
def tokG (s : ByteArray) : Nat → Nat → List Tk → List Tk × Nat × Int
  | 0, _, acc => (acc, 0, 0)
  | f + 1, k, acc => if k < s.size then (if (rdF s k).2 = true then tokG s f (wordE s (k + (rdF s k).1.text.size)) (acc ++ [(rdF s k).1]) else ([], k, 20)) else (acc, 0, 0)
theorem tokG_eq (s : ByteArray) : ∀ (f g k : Nat) (acc : List Tk), s.size - k ≤ f → s.size - k ≤ g → tokG s f k acc = tokG s g k acc
  | 0, 0, k, acc, _, _ => rfl
  | 0, g + 1, k, acc, h, _ => by rw [tokG, tokG, if_neg (by omega)]
  | f + 1, 0, k, acc, _, h => by rw [tokG, tokG, if_neg (by omega)]
  | f + 1, g + 1, k, acc, h1, h2 => by
    rw [tokG, tokG]
    by_cases c : k < s.size
    · rw [if_pos c, if_pos c]
      by_cases d : (rdF s k).2 = true
      · have hsz := rdF_size c d
        have hw := wordE_bd s (k + (rdF s k).1.text.size) hsz.2
        rw [if_pos d, if_pos d]
        exact tokG_eq s f g _ _ (by omega) (by omega)
      · rw [if_neg d, if_neg d]
    · rw [if_neg c, if_neg c]
/-- the words behind a place -/
def tokW (s : ByteArray) (k : Nat) (acc : List Tk) : List Tk × Nat × Int := tokG s (s.size - k) k acc
theorem tokW_step {s : ByteArray} {k : Nat} (acc : List Tk) (h : k < s.size) (hr : (rdF s k).2 = true) : tokW s k acc = tokW s (wordE s (k + (rdF s k).1.text.size)) (acc ++ [(rdF s k).1]) := by
  have hsz := rdF_size h hr
  have hw := wordE_bd s (k + (rdF s k).1.text.size) hsz.2
  unfold tokW
  rw [show s.size - k = (s.size - k - 1) + 1 by omega, tokG, if_pos h, if_pos hr]
  exact tokG_eq s _ _ _ _ (by omega) (Nat.le_refl _)
theorem tokW_bad {s : ByteArray} {k : Nat} (acc : List Tk) (h : k < s.size) (hr : (rdF s k).2 = false) : tokW s k acc = ([], k, 20) := by
  unfold tokW
  rw [show s.size - k = (s.size - k - 1) + 1 by omega, tokG, if_pos h, if_neg (by rw [hr]; decide)]
theorem tokW_end {s : ByteArray} {k : Nat} (acc : List Tk) (h : ¬ k < s.size) : tokW s k acc = (acc, 0, 0) := by
  unfold tokW
  rw [show s.size - k = 0 by omega]
  rfl
/-- what Tokens answers: words, a place, an error -/
def tokensF (s : ByteArray) : List Tk × Nat × Int := if 8192 < s.size then ([], 0, 3) else tokW s (wordE s 0) []
end Go.Proofs.YtkpgfhapffijkaaGreatDoor
