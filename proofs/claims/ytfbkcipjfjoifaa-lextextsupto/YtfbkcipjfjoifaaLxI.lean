/- Package lex: the walk of readNumber. -/
import Derived.Test.YtfbkcipjfjoifaaLxH
import Derived.Deep.CutBlock
import Derived.Deep.CutRange
namespace Go.Proofs.Ytfbkcipjfjoifaa
open Go.ChangeShapes Go.WideShapes Go.ChangeAt Go.RowKit Go.DsMem Go.DsLx
set_option linter.unusedVariables false
theorem dg_bd {n : Int} (h : DsLx.dgB n = true) : 48 ≤ n ∧ n ≤ 57 := by
  unfold DsLx.dgB clsF at h
  simp only [decide_eq_true_eq] at h
  split at h
  · omega
  · split at h
    · assumption
    · split at h
      · omega
      · split at h <;> omega
theorem numV_bd9 {s : ByteArray} {k E i : Nat} (hE : endE DsLx.dgB s k = E) (h9 : E - k ≤ 9) (hi : k + i ≤ E) : 0 ≤ numV s k i ∧ numV s k i ≤ 1000000000 := by
  have h := numV_bd (s := s) (k := k) i (by omega) (fun j hj => by
    have := runE_all (p := DsLx.dgB) (s := s) (s.size - k) k (k + j) (by omega) (by show _ < endE DsLx.dgB s k; omega)
    exact this)
  have hp : (10 ^ i : Nat) ≤ 10 ^ 9 := Nat.pow_le_pow_right (by decide) (by omega)
  have : (10 ^ 9 : Nat) = 1000000000 := by decide
  omega
set_option maxHeartbeats 4000000 in
/-- lex.readNumber -/
theorem readNumber_any (s : ByteArray) (k : Nat) (w : World) (hs : s.size ≤ 100000) (hk : k ≤ s.size) : Calls Try.prog 36 #[.string s, .int .i64 k] w fun e w' => e = tkE (numF s k) ∧ Below w.heap.size w w' := by
  have hbd := endE_bd DsLx.dgB s k hk
  obtain ⟨E, hE⟩ : ∃ E, endE DsLx.dgB s k = E := ⟨_, rfl⟩
  obtain ⟨Z, hZ⟩ : ∃ Z, numF s k = Z := ⟨_, rfl⟩
  have HN : Hid (Z = if 9 < E - k ∨ (E < s.size ∧ DsLx.inB (bAt s E) = true) then (tk0, false) else (⟨2, s.extract k E, numV s k (E - k), k⟩, true)) := by refine hide ?_; rw [← hZ]; unfold numF; rw [hE]
  have HD : Hid (∀ w : World, Calls Try.prog 38 #[.string s, .int .i64 k] w fun e w' => e = .returned (.int .i64 E) ∧ w' = w) := fun w => by rw [← hE]; exact digitsEnd_any s k w hs hk
  rw [hE] at hbd
  obtain ⟨hE1, hE2⟩ := hbd
  rw [hZ]
  have HC : Hid (∀ (b : Bool) (hlt : E < s.size) (w : World), DsLx.inB (bAt s E) = b → Calls Try.prog 44 #[.int .u8 (s[E].toNat : Int)] w fun e w' => e = .returned (.bool b) ∧ w' = w) := fun b hlt w hin => by
    have hb := bAt_bd s E
    rw [bAt_eq s E hlt, ← hin]; exact inName_any _ w hb.1 hb.2
  have HDG : Hid (∀ i, k ≤ i → i < E → 48 ≤ bAt s i ∧ bAt s i ≤ 57) := fun i h1 h2 => dg_bd (runE_all (p := DsLx.dgB) (s := s) (s.size - k) k i h1 (by show _ < endE DsLx.dgB s k; omega))
  have HNB : Hid (E - k ≤ 9 → ∀ i, k + i ≤ E → 0 ≤ numV s k i ∧ numV s k i ≤ 1000000000) := fun h9 i hi => numV_bd9 hE h9 hi
  clear hZ hE
  have hz : ¬ (9 < E - k ∨ (E < s.size ∧ DsLx.inB (bAt s E) = true)) → Calls Try.prog 36 #[.string s, .int .i64 k] w fun e w' => e = tkE Z ∧ Below w.heap.size w w' := by
    intro hno
    have HZ : Hid (Z = (⟨2, s.extract k E, numV s k (E - k), k⟩, true)) := by refine hide ?_; rw [HN.out, if_neg hno]
    have h9 : (E : Int) - k ≤ 9 := by omega
    have h9n : E - k ≤ 9 := by omega
    have hin : E < s.size → DsLx.inB (bAt s E) = false := fun hlt => by
      cases h : DsLx.inB (bAt s E) with
      | false => rfl
      | true => exact absurd (.inr ⟨hlt, h⟩) hno
    clear hno HN
    have hd9 : decide ((9 : Int) < (E : Int) - k) = false := by simp; omega
    by_cases hlt : E < s.size
    · have hin' := hin hlt
      go_enter Try.func36, Try.ntmps36
      go_wp2_with (first | (go_at_call 38; refine (HD.out _).mono ?_; rintro e w' ⟨rfl, rfl⟩) | (go_at_call 44; refine (HC.out false hlt _ hin').mono ?_; rintro e w' ⟨rfl, rfl⟩))
      obtain ⟨w1, hw1⟩ : ∃ w1, w1 = w.alloc (.cells #[.int .i64 0, .string ⟨#[]⟩, .int .i64 0, .int .i64 0] 39) := ⟨_, rfl⟩
      have HW1 : Hid (Below w.heap.size w w1) := by refine hide ?_; rw [hw1]; exact (Below.refl _ _).alloc (Nat.le_refl _) _
      have HRS : Hid (Res0 w1 w.heap.size) := by refine hide ?_; rw [hw1]; exact heap_alloc_new w _
      rw [← hw1]
      clear hw1
      go_loopw [7, 8] (fun tn ti wr => ∃ i : Nat, k + i ≤ E ∧ tn = .int .i64 (numV s k i) ∧ ti = .int .i64 ((k + i : Nat) : Int) ∧ wr = w1) (fun _ ti _ => E - (intOf ti).toNat)
      case atStart => exact ⟨0, by omega, rfl, rfl, rfl⟩
      case round =>
        obtain ⟨i, hi, rfl, rfl, rfl⟩ := hrel
        obtain ⟨b0, b1⟩ := HNB.out h9n i hi
        by_cases hgo : k + i < E
        · obtain ⟨d0, d1⟩ := HDG.out (k + i) (by omega) hgo
          have hls : k + i < s.size := by omega
          have hbe := bAt_eq s (k + i) hls
          rw [← hbe] at d0 d1
          have HV : Hid (numV s k (i + 1) = numV s k i * 10 + ((s[k + i].toNat : Int) - 48)) := by refine hide ?_; rw [hbe]; rfl
          clear hbe
          generalize numV s k i = v at *
          go_wp2
          go_roundw
          case rel => exact ⟨i + 1, by omega, by rw [HV.out], by go_num, trivial⟩
          case measure => simp [intOf]; omega
        · obtain rfl : E = k + i := by omega
          obtain ⟨⟨q0, q1, q2, q3⟩, f0, f1, f2, f3⟩ := HRS.out.all
          go_wp2
          refine bodyPost_ret (v := .tuple #[.agg #[.int .i64 2, .string (s.extract k (k + i)), .int .i64 (numV s k i), .int .i64 k], .bool true]) (by simp [results, Try.results36, go_sem, q0, q1, q2, q3]) rfl ⟨by rw [HZ.out, show k + i - k = i by omega]; rfl, below_set4 HW1.out (Nat.le_refl _) _ _ _ _⟩
    · have hds : decide ((E : Int) < (s.size : Int)) = false := by simp; omega
      go_enter Try.func36, Try.ntmps36
      go_wp2_with (go_at_call 38; refine (HD.out _).mono ?_; rintro e w' ⟨rfl, rfl⟩)
      obtain ⟨w1, hw1⟩ : ∃ w1, w1 = w.alloc (.cells #[.int .i64 0, .string ⟨#[]⟩, .int .i64 0, .int .i64 0] 39) := ⟨_, rfl⟩
      have HW1 : Hid (Below w.heap.size w w1) := by refine hide ?_; rw [hw1]; exact (Below.refl _ _).alloc (Nat.le_refl _) _
      have HRS : Hid (Res0 w1 w.heap.size) := by refine hide ?_; rw [hw1]; exact heap_alloc_new w _
      rw [← hw1]
      clear hw1
      go_loopw [7, 8] (fun tn ti wr => ∃ i : Nat, k + i ≤ E ∧ tn = .int .i64 (numV s k i) ∧ ti = .int .i64 ((k + i : Nat) : Int) ∧ wr = w1) (fun _ ti _ => E - (intOf ti).toNat)
      case atStart => exact ⟨0, by omega, rfl, rfl, rfl⟩
      case round =>
        obtain ⟨i, hi, rfl, rfl, rfl⟩ := hrel
        obtain ⟨b0, b1⟩ := HNB.out h9n i hi
        by_cases hgo : k + i < E
        · obtain ⟨d0, d1⟩ := HDG.out (k + i) (by omega) hgo
          have hls : k + i < s.size := by omega
          have hbe := bAt_eq s (k + i) hls
          rw [← hbe] at d0 d1
          have HV : Hid (numV s k (i + 1) = numV s k i * 10 + ((s[k + i].toNat : Int) - 48)) := by refine hide ?_; rw [hbe]; rfl
          clear hbe
          generalize numV s k i = v at *
          go_wp2
          go_roundw
          case rel => exact ⟨i + 1, by omega, by rw [HV.out], by go_num, trivial⟩
          case measure => simp [intOf]; omega
        · obtain rfl : E = k + i := by omega
          obtain ⟨⟨q0, q1, q2, q3⟩, f0, f1, f2, f3⟩ := HRS.out.all
          go_wp2
          refine bodyPost_ret (v := .tuple #[.agg #[.int .i64 2, .string (s.extract k (k + i)), .int .i64 (numV s k i), .int .i64 k], .bool true]) (by simp [results, Try.results36, go_sem, q0, q1, q2, q3]) rfl ⟨by rw [HZ.out, show k + i - k = i by omega]; rfl, below_set4 HW1.out (Nat.le_refl _) _ _ _ _⟩
  by_cases hcond : 9 < E - k ∨ (E < s.size ∧ DsLx.inB (bAt s E) = true)
  · have HZ : Hid (Z = (tk0, false)) := by refine hide ?_; rw [HN.out, if_pos hcond]
    clear hz HN
    by_cases h9 : 9 < E - k
    · have h9' : (9 : Int) < (E : Int) - k := by omega
      clear hcond
      go_enter Try.func36, Try.ntmps36
      go_wp2_with (go_at_call 38; refine (HD.out _).mono ?_; rintro e w' ⟨rfl, rfl⟩)
      refine bodyPost_ret (v := .tuple #[.agg #[.int .i64 0, .string ⟨#[]⟩, .int .i64 0, .int .i64 0], .bool false]) (by simp [results, Try.results36, go_sem]) rfl ⟨by rw [HZ.out]; rfl, (Below.refl _ _).alloc (Nat.le_refl _) _⟩
    · have h9' : (E : Int) - k ≤ 9 := by omega
      obtain ⟨hlt, hin⟩ : E < s.size ∧ DsLx.inB (bAt s E) = true := by
        rcases hcond with h | h
        · exact absurd h h9
        · exact h
      go_enter Try.func36, Try.ntmps36
      go_wp2_with (first | (go_at_call 38; refine (HD.out _).mono ?_; rintro e w' ⟨rfl, rfl⟩) | (go_at_call 44; refine (HC.out true hlt _ hin).mono ?_; rintro e w' ⟨rfl, rfl⟩))
      refine bodyPost_ret (v := .tuple #[.agg #[.int .i64 0, .string ⟨#[]⟩, .int .i64 0, .int .i64 0], .bool false]) (by simp [results, Try.results36, go_sem]) rfl ⟨by rw [HZ.out]; rfl, (Below.refl _ _).alloc (Nat.le_refl _) _⟩
  · exact hz hcond
end Go.Proofs.Ytfbkcipjfjoifaa
