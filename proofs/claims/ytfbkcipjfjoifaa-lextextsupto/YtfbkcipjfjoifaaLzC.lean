/- Places as lines and columns: package lex and layer 7's reference. -/
import Derived.Test.YtfbkcipjfjoifaaLzB
import Derived.Lib.LastIndexByte
namespace Go.Proofs.Ytfbkcipjfjoifaa
open Go.ChangeShapes Go.WideShapes Go.ChangeAt Go.RowKit Go.DsMem Go.DsLx
set_option linter.unusedVariables false
/-- a place that is within the text -/
def clampN (a : Int) (n : Nat) : Nat := if a < 0 then 0 else if (n : Int) < a then n else a.toNat
theorem clampN_le (a : Int) (n : Nat) : clampN a n ≤ n := by unfold clampN; split <;> (try split) <;> omega
/-- ends of lines ahead of a place -/
def pcn (s : ByteArray) (i : Nat) : Nat := (s.data.toList.take i).count 10
/-- the last one of them -/
def pli (s : ByteArray) (i : Nat) : Int := Lib.lastIdx s 10 i
theorem data_bang (s : ByteArray) (k : Nat) (h : k < s.size) : ((s.data[k]!).toNat : Int) = bAt s k := by
  have h' : k < s.data.size := h
  rw [getElem!_pos s.data k h', ← bAt_eq s k h]
  rfl
theorem pli_hit {s : ByteArray} {k : Nat} (hk : k < s.size) (h : bAt s k = 10) : pli s (k + 1) = k := Lib.lastIdx_hit s 10 k (by rw [data_bang s k hk]; exact h)
theorem pli_miss {s : ByteArray} {k : Nat} (hk : k < s.size) (h : bAt s k ≠ 10) : pli s (k + 1) = pli s k := Lib.lastIdx_miss s 10 k (by rw [data_bang s k hk]; exact h)
theorem pli_bd (s : ByteArray) : ∀ k, -1 ≤ pli s k ∧ pli s k < k
  | 0 => by unfold pli Lib.lastIdx; omega
  | k + 1 => by
    have := pli_bd s k
    unfold pli at *
    unfold Lib.lastIdx
    split <;> omega
theorem pcn_step {s : ByteArray} {k : Nat} (hk : k < s.size) : pcn s (k + 1) = pcn s k + (if bAt s k = 10 then 1 else 0) := by
  have hl : k < s.data.toList.length := by simpa using hk
  have hb : bAt s k = (s.data.toList[k].toNat : Int) := by unfold bAt; rw [List.getD, List.getElem?_eq_getElem hl]; rfl
  unfold pcn
  rw [List.take_add_one, List.getElem?_eq_getElem hl, List.count_append, hb]
  congr 1
  by_cases h : s.data.toList[k] = 10
  · rw [h]; decide
  · have : ¬ ((s.data.toList[k].toNat : Nat) : Int) = 10 := fun e => h (by
      apply UInt8.toNat_inj.1
      show _ = 10
      omega)
    rw [if_neg this]
    exact List.count_eq_zero.2 (fun hm => h (List.mem_singleton.1 hm).symm)
theorem pcn_bd (s : ByteArray) (k : Nat) : pcn s k ≤ k := by
  unfold pcn
  exact Nat.le_trans List.count_le_length (by rw [List.length_take]; omega)
theorem pli_ext (s : ByteArray) (c : Nat) (hc : c ≤ s.size) : ∀ k, k ≤ c → pli (s.extract 0 c) k = pli s k
  | 0, _ => rfl
  | k + 1, hk => by
    have hsz : (s.extract 0 c).size = c := by rw [ByteArray.size_extract]; omega
    have hb : bAt (s.extract 0 c) k = bAt s k := by
      unfold bAt
      rw [ByteArray.data_extract, Array.toList_extract, List.getD, List.getD]
      simp [show k < c by omega]
    have ih := pli_ext s c hc k (by omega)
    by_cases h : bAt s k = 10
    · rw [pli_hit (by omega) (by rw [hb]; exact h), pli_hit (by omega) h]
    · rw [pli_miss (by omega) (by rw [hb]; exact h), pli_miss (by omega) h, ih]
theorem pcn_ext (s : ByteArray) (c : Nat) (hc : c ≤ s.size) : Lib.countByte (s.extract 0 c).data.toList 10 = pcn s c := by
  unfold Lib.countByte pcn
  rw [ByteArray.data_extract, Array.toList_extract]
  simp
set_option maxHeartbeats 4000000 in
set_option maxRecDepth 20000 in
/-- dayshiftref07.Place -/
theorem refPlace (s : ByteArray) (a : Int) (w : World) (hs : s.size ≤ 140737488355328) (h1 : -9223372036854775808 ≤ a) (h2 : a ≤ 9223372036854775807) :
    Calls Try.prog 10 #[.string s, .int .i64 a] w fun e w' => e = .returned (.tuple #[.int .i64 ((pcn s (clampN a s.size) : Int) + 1), .int .i64 ((clampN a s.size : Int) - pli s (clampN a s.size))]) ∧ w' = w := by
  obtain ⟨c, hc⟩ : ∃ c, clampN a s.size = c := ⟨_, rfl⟩
  have hcl := clampN_le a s.size
  rw [hc] at hcl ⊢
  have HC := hide hc
  have HP := hide (pcn_bd s)
  have HL := hide (pli_bd s)
  clear hc
  have hcase : (a < 0 ∧ c = 0) ∨ (0 ≤ a ∧ (s.size : Int) < a ∧ c = s.size) ∨ (0 ≤ a ∧ a ≤ (s.size : Int) ∧ a = (c : Int)) := by
    have := HC.out
    unfold clampN at this
    split at this
    · left; omega
    · split at this <;> omega
  rcases hcase with ⟨b1, b2⟩ | ⟨b1, b2, b3⟩ | ⟨b1, b2, b3⟩
  · subst b2
    go_enter Try.func10, Try.ntmps10
    go_wp2
    go_loopw [6, 7, 8] (fun tl tc ti wr => ∃ i : Nat, i ≤ 0 ∧ tl = .int .i64 ((pcn s i : Int) + 1) ∧ tc = .int .i64 ((i : Int) - pli s i) ∧ ti = .int .i64 i ∧ wr = w) (fun _ _ ti _ => 0 - (intOf ti).toNat)
    case atStart => exact ⟨0, Nat.zero_le _, rfl, rfl, rfl, rfl⟩
    case round =>
      obtain ⟨i, hi, rfl, rfl, rfl, rfl⟩ := hrel
      have hp := HP.out i
      have hl := HL.out i
      obtain rfl : i = 0 := by omega
      go_wp2
      go_ret2
      exact ⟨rfl, rfl⟩
  · subst b3
    go_enter Try.func10, Try.ntmps10
    go_wp2
    go_loopw [6, 7, 8] (fun tl tc ti wr => ∃ i : Nat, i ≤ s.size ∧ tl = .int .i64 ((pcn s i : Int) + 1) ∧ tc = .int .i64 ((i : Int) - pli s i) ∧ ti = .int .i64 i ∧ wr = w) (fun _ _ ti _ => s.size - (intOf ti).toNat)
    case atStart => exact ⟨0, Nat.zero_le _, rfl, rfl, rfl, rfl⟩
    case round =>
      obtain ⟨i, hi, rfl, rfl, rfl, rfl⟩ := hrel
      have hp := HP.out i
      have hl := HL.out i
      by_cases hlt : i < s.size
      · have hlt' : i < s.size := by omega
        have HB := hide (bAt_eq s i hlt')
        by_cases h10 : bAt s i = 10
        · have H1 := hide (pcn_step hlt')
          have H2 := hide (pli_hit hlt' h10)
          have hx : ((s[i].toNat : Nat) : Int) = 10 := by rw [HB.out]; exact h10
          have e1 : pcn s (i + 1) = pcn s i + 1 := by rw [H1.out, if_pos h10]
          have E1 := hide e1
          clear h10 e1 H1
          generalize pcn s i = n at *
          generalize pli s i = k at *
          go_wp2
          go_roundw
          case rel => exact ⟨i + 1, by omega, by rw [E1.out]; go_num, by rw [H2.out]; go_num, by go_num, trivial⟩
          case measure => simp [intOf]; omega
        · have H1 := hide (pcn_step hlt')
          have H2 := hide (pli_miss hlt' h10)
          have hx : (((s[i].toNat : Nat) : Int) == 10) = false := by rw [HB.out]; simpa using h10
          have e1 : pcn s (i + 1) = pcn s i := by rw [H1.out, if_neg h10]; rfl
          have E1 := hide e1
          clear h10 e1 H1
          generalize pcn s i = n at *
          generalize pli s i = k at *
          go_wp2
          go_roundw
          case rel => exact ⟨i + 1, by omega, by rw [E1.out], by rw [H2.out]; go_num, by go_num, trivial⟩
          case measure => simp [intOf]; omega
      · obtain rfl : i = s.size := by omega
        go_wp2
        go_ret2
        exact ⟨rfl, rfl⟩
  · subst b3
    go_enter Try.func10, Try.ntmps10
    go_wp2
    go_loopw [6, 7, 8] (fun tl tc ti wr => ∃ i : Nat, i ≤ c ∧ tl = .int .i64 ((pcn s i : Int) + 1) ∧ tc = .int .i64 ((i : Int) - pli s i) ∧ ti = .int .i64 i ∧ wr = w) (fun _ _ ti _ => c - (intOf ti).toNat)
    case atStart => exact ⟨0, Nat.zero_le _, rfl, rfl, rfl, rfl⟩
    case round =>
      obtain ⟨i, hi, rfl, rfl, rfl, rfl⟩ := hrel
      have hp := HP.out i
      have hl := HL.out i
      by_cases hlt : i < c
      · have hlt' : i < s.size := by omega
        have HB := hide (bAt_eq s i hlt')
        by_cases h10 : bAt s i = 10
        · have H1 := hide (pcn_step hlt')
          have H2 := hide (pli_hit hlt' h10)
          have hx : ((s[i].toNat : Nat) : Int) = 10 := by rw [HB.out]; exact h10
          have e1 : pcn s (i + 1) = pcn s i + 1 := by rw [H1.out, if_pos h10]
          have E1 := hide e1
          clear h10 e1 H1
          generalize pcn s i = n at *
          generalize pli s i = k at *
          go_wp2
          go_roundw
          case rel => exact ⟨i + 1, by omega, by rw [E1.out]; go_num, by rw [H2.out]; go_num, by go_num, trivial⟩
          case measure => simp [intOf]; omega
        · have H1 := hide (pcn_step hlt')
          have H2 := hide (pli_miss hlt' h10)
          have hx : (((s[i].toNat : Nat) : Int) == 10) = false := by rw [HB.out]; simpa using h10
          have e1 : pcn s (i + 1) = pcn s i := by rw [H1.out, if_neg h10]; rfl
          have E1 := hide e1
          clear h10 e1 H1
          generalize pcn s i = n at *
          generalize pli s i = k at *
          go_wp2
          go_roundw
          case rel => exact ⟨i + 1, by omega, by rw [E1.out], by rw [H2.out]; go_num, by go_num, trivial⟩
          case measure => simp [intOf]; omega
      · obtain rfl : i = c := by omega
        go_wp2
        go_ret2
        exact ⟨rfl, rfl⟩
set_option maxHeartbeats 4000000 in
set_option maxRecDepth 20000 in
/-- lex.Place -/
theorem lexPlace (s : ByteArray) (a : Int) (w : World) (hs : s.size ≤ 140737488355328) (h1 : -9223372036854775808 ≤ a) (h2 : a ≤ 9223372036854775807) :
    Calls Try.prog 9 #[.string s, .int .i64 a] w fun e w' => e = .returned (.tuple #[.int .i64 ((pcn s (clampN a s.size) : Int) + 1), .int .i64 ((clampN a s.size : Int) - pli s (clampN a s.size))]) ∧ w' = w := by
  obtain ⟨c, hc⟩ : ∃ c, clampN a s.size = c := ⟨_, rfl⟩
  have hcl := clampN_le a s.size
  rw [hc] at hcl ⊢
  have hmm : min (max a 0) (s.size : Int) = (c : Int) := by
    unfold clampN at hc
    split at hc
    · omega
    · split at hc <;> omega
  have hsz : (s.extract 0 c).size = c := by rw [ByteArray.size_extract]; omega
  have hp := pcn_bd s c
  have hl := pli_bd s c
  have HLI := hide (fun w => Try.strings_LastIndexByte (s.extract 0 c) 10 (by omega) w)
  have HCN := hide (fun w => Try.strings_Count_one (s.extract 0 c) 10 w)
  rw [pcn_ext s c hcl] at HCN
  have e1 : Lib.lastIndexByte (s.extract 0 c) 10 = pli s c := by
    show Lib.lastIdx _ _ _ = _
    rw [hsz]
    exact pli_ext s c hcl c (Nat.le_refl _)
  rw [e1] at HLI
  clear e1 hc
  generalize pcn s c = n at *
  generalize pli s c = k at *
  go_enter Try.func9, Try.ntmps9
  go_wp2_with fail
  refine (HLI.out w).mono ?_
  rintro e w1 ⟨rfl, rfl⟩
  go_wp2_with fail
  refine (HCN.out w1).mono ?_
  rintro e w2 ⟨rfl, rfl⟩
  go_wp2
  go_ret2
  refine ⟨?_, rfl⟩
  show Ending.returned (.tuple #[.int .i64 ((n : Int) + 1), .int .i64 ((c : Int) - (k + 1) + 1)]) = _
  rw [show (c : Int) - (k + 1) + 1 = (c : Int) - k by omega]
end Go.Proofs.Ytfbkcipjfjoifaa
