/- Package lex: where lines end, where words begin. -/
import Derived.Test.YtfbkcipjfjoifaaLxA
namespace Go.DsLx
theorem endE_le (p : Int → Bool) (s : ByteArray) : ∀ (f k : Nat), k ≤ s.size → k ≤ runE p s f k ∧ runE p s f k ≤ s.size
  | 0, k, h => ⟨Nat.le_refl _, h⟩
  | f + 1, k, h => by
    rw [runE]
    split
    · rename_i c
      have := endE_le p s f (k + 1) (by omega)
      omega
    · exact ⟨Nat.le_refl _, h⟩
theorem endE_bd (p : Int → Bool) (s : ByteArray) (k : Nat) (h : k ≤ s.size) : k ≤ endE p s k ∧ endE p s k ≤ s.size := endE_le p s _ k h
/-- where a line ends -/
def lnB (n : Int) : Bool := decide (n ≠ 10)
def lineE (s : ByteArray) (k : Nat) : Nat := endE lnB s k
theorem drop_cons (s : ByteArray) (k : Nat) (h : k < s.size) : s.data.toList.drop k = s.data.toList.getD k 0 :: s.data.toList.drop (k + 1) := by
  have hl : k < s.data.toList.length := by simpa using h
  rw [List.drop_eq_getElem_cons hl]
  simp [List.getD, List.getElem?_eq_getElem hl]
theorem idx_line (s : ByteArray) : ∀ (f k : Nat), s.size - k ≤ f → k ≤ s.size →
    (Lib.indexByte (s.data.toList.drop k) 10 = -1 ∧ lineE s k = s.size) ∨ (0 ≤ Lib.indexByte (s.data.toList.drop k) 10 ∧ (k : Int) + Lib.indexByte (s.data.toList.drop k) 10 = lineE s k)
  | 0, k, h, hk => by
    have : s.data.toList.drop k = [] := List.drop_of_length_le (by simp; omega)
    rw [this]
    exact .inl ⟨rfl, by unfold lineE; rw [endE_stop (by omega)]; omega⟩
  | f + 1, k, h, hk => by
    by_cases hlt : k < s.size
    · rw [drop_cons s k hlt, Lib.indexByte]
      have hb : bAt s k = ((s.data.toList.getD k 0).toNat : Int) := rfl
      generalize s.data.toList.getD k 0 = c at *
      by_cases hc : c = 10
      · subst hc
        refine .inr ⟨by simp, ?_⟩
        unfold lineE
        rw [endE_stop (by rw [hb]; simp [lnB])]
        simp
      · have hstep : lineE s k = lineE s (k + 1) := by
          unfold lineE
          refine endE_step hlt ?_
          rw [hb]
          unfold lnB
          have : c.toNat ≠ 10 := fun e => hc (UInt8.toNat_inj.1 (by simpa using e))
          simp; omega
        have hc' : (c == 10) = false := by simpa using hc
        rw [hc', hstep]
        rcases idx_line s f (k + 1) (by omega) (by omega) with ⟨h1, h2⟩ | ⟨h1, h2⟩
        · rw [h1]; exact .inl ⟨by simp, h2⟩
        · have h3 : (Lib.indexByte (s.data.toList.drop (k + 1)) 10 == -1) = false := by
            rw [beq_eq_false_iff_ne]; omega
          rw [h3]
          refine .inr ⟨by simp; omega, ?_⟩
          simp only [Bool.false_eq_true, if_false]
          omega
    · have : s.data.toList.drop k = [] := List.drop_of_length_le (by simp; omega)
      rw [this]
      exact .inl ⟨rfl, by unfold lineE; rw [endE_stop (by omega)]; omega⟩
/-- where the next word begins, f steps at most -/
def wordF (s : ByteArray) : Nat → Nat → Nat
  | 0, k => k
  | f + 1, k => if k < s.size then (if bAt s k = 35 then wordF s f (lineE s k) else if blB (bAt s k) = true then wordF s f (k + 1) else k) else k
def wordE (s : ByteArray) (k : Nat) : Nat := wordF s (s.size - k) k
theorem lineE_hash {s : ByteArray} {k : Nat} (h : k < s.size) (hb : bAt s k = 35) : k < lineE s k ∧ lineE s k ≤ s.size := by
  have e : lineE s k = lineE s (k + 1) := endE_step h (by rw [hb]; decide)
  have := endE_bd lnB s (k + 1) (by omega)
  rw [e]; unfold lineE; omega
theorem wordF_eq (s : ByteArray) : ∀ (f g k : Nat), s.size - k ≤ f → s.size - k ≤ g → wordF s f k = wordF s g k
  | 0, 0, k, _, _ => rfl
  | 0, g + 1, k, h, _ => by rw [wordF, wordF, if_neg (by omega)]
  | f + 1, 0, k, _, h => by rw [wordF, wordF, if_neg (by omega)]
  | f + 1, g + 1, k, h1, h2 => by
    rw [wordF, wordF]
    by_cases c : k < s.size
    · rw [if_pos c, if_pos c]
      by_cases d : bAt s k = 35
      · have := lineE_hash c d
        rw [if_pos d, if_pos d, wordF_eq s f g _ (by omega) (by omega)]
      · rw [if_neg d, if_neg d, wordF_eq s f g (k + 1) (by omega) (by omega)]
    · rw [if_neg c, if_neg c]
theorem wordE_hash {s : ByteArray} {k : Nat} (h : k < s.size) (hb : bAt s k = 35) : wordE s k = wordE s (lineE s k) := by
  have := lineE_hash h hb
  unfold wordE
  rw [show s.size - k = (s.size - k - 1) + 1 by omega, wordF, if_pos h, if_pos hb]
  exact wordF_eq s _ _ _ (by omega) (Nat.le_refl _)
theorem wordE_blank {s : ByteArray} {k : Nat} (h : k < s.size) (hb : ¬ bAt s k = 35) (hl : blB (bAt s k) = true) : wordE s k = wordE s (k + 1) := by
  unfold wordE
  rw [show s.size - k = (s.size - (k + 1)) + 1 by omega, wordF, if_pos h, if_neg hb, if_pos hl]
theorem wordE_stop {s : ByteArray} {k : Nat} (h : ¬ k < s.size ∨ (¬ bAt s k = 35 ∧ blB (bAt s k) = false)) : wordE s k = k := by
  unfold wordE
  cases hf : s.size - k with
  | zero => rfl
  | succ f =>
    rw [wordF]
    rcases h with h | ⟨h1, h2⟩
    · rw [if_neg h]
    · by_cases c : k < s.size
      · rw [if_pos c, if_neg h1, if_neg (by rw [h2]; decide)]
      · rw [if_neg c]
theorem extract_drop (s : ByteArray) (k : Nat) : (s.extract k s.size).data.toList = s.data.toList.drop k := by
  have : (s.data.toList.drop k).length ≤ s.size - k := by simp
  simp only [ByteArray.data_extract, Array.toList_extract, List.extract_eq_take_drop]
  exact List.take_of_length_le this
end Go.DsLx
namespace Go.Proofs.Ytfbkcipjfjoifaa
open Go.ChangeShapes Go.WideShapes Go.ChangeAt Go.RowKit Go.DsMem Go.DsLx
set_option linter.unusedVariables false
set_option maxHeartbeats 1000000 in
/-- lex.lineEnd -/
theorem lineEnd_any (s : ByteArray) (k : Nat) (w : World) (hs : s.size ≤ 100000) (hk : k ≤ s.size) :
    Calls Try.prog 33 #[.string s, .int .i64 k] w fun e w' => e = .returned (.int .i64 (DsLx.lineE s k)) ∧ w' = w := by
  have hi := idx_line s (s.size - k) k (Nat.le_refl _) hk
  have hbd := endE_bd lnB s k hk
  obtain ⟨x, hx⟩ : ∃ x, Lib.indexByte (s.data.toList.drop k) 10 = x := ⟨_, rfl⟩
  rw [hx] at hi
  have HC : Hid (∀ w : World, Calls Try.prog 34 #[.string (s.extract k s.size), .int .u8 10] w fun e w' => e = .returned (.int .i64 x) ∧ w' = w) := fun w => by
    have := ib_any (s.extract k s.size) 10 w
    rw [extract_drop] at this
    rw [← hx]; exact this
  clear hx
  rcases hi with ⟨rfl, he⟩ | ⟨h0, he⟩
  · have HE := hide he
    clear he
    go_enter Try.func33, Try.ntmps33
    go_wp2_with (go_at_call 34; refine (HC.out _).mono ?_; rintro e w' ⟨rfl, rfl⟩)
    go_ret
    exact ⟨ret_int (by rw [HE.out]), rfl⟩
  · have hx2 : x ≤ 100000 := by unfold DsLx.lineE at he; omega
    have HE := hide he
    clear he
    go_enter Try.func33, Try.ntmps33
    go_wp2_with (go_at_call 34; refine (HC.out _).mono ?_; rintro e w' ⟨rfl, rfl⟩)
    go_ret
    exact ⟨ret_int HE.out, rfl⟩
end Go.Proofs.Ytfbkcipjfjoifaa
