/- Package lex: words of a source, plain. -/
import Derived.Test.YtfbkcipjfjoifaaLxJ
namespace Go.Proofs.Ytfbkcipjfjoifaa
open Go.ChangeShapes Go.WideShapes Go.ChangeAt Go.RowKit Go.DsMem Go.DsLx
set_option linter.unusedVariables false
theorem wordF_bd (s : ByteArray) : ∀ (f k : Nat), k ≤ s.size → k ≤ wordF s f k ∧ wordF s f k ≤ s.size
  | 0, k, h => ⟨Nat.le_refl _, h⟩
  | f + 1, k, h => by
    rw [wordF]
    by_cases c : k < s.size
    · rw [if_pos c]
      by_cases d : bAt s k = 35
      · have hl := lineE_hash c d
        have := wordF_bd s f (DsLx.lineE s k) hl.2
        rw [if_pos d]; omega
      · rw [if_neg d]
        split
        · have := wordF_bd s f (k + 1) (by omega)
          omega
        · omega
    · rw [if_neg c]; omega
theorem wordE_bd (s : ByteArray) (k : Nat) (h : k ≤ s.size) : k ≤ wordE s k ∧ wordE s k ≤ s.size := wordF_bd s _ k h
/-- the word at a place -/
def rdF (s : ByteArray) (k : Nat) : Tk × Bool := readF s k (kindF (clsF (bAt s k)) (colB s k))
theorem clsF_bd (n : Int) : 0 ≤ clsF n ∧ clsF n ≤ 4 := by
  unfold clsF
  split
  · omega
  · split
    · omega
    · split
      · omega
      · split <;> omega
theorem kindF_bd (f : Int) (b : Bool) : 0 ≤ kindF f b ∧ kindF f b ≤ 4 := by
  unfold kindF
  split
  · omega
  · split
    · omega
    · split
      · omega
      · split <;> omega
/-- a word that can be is not empty, and lies in the source -/
theorem rdF_size {s : ByteArray} {k : Nat} (hk : k < s.size) (h : (rdF s k).2 = true) : 1 ≤ (rdF s k).1.text.size ∧ k + (rdF s k).1.text.size ≤ s.size := by
  unfold rdF readF at *
  have hcls : kindF (clsF (bAt s k)) (colB s k) = 1 → clsF (bAt s k) = 1 := by
    unfold kindF
    intro h
    split at h
    · rename_i c; exact c.1
    · split at h
      · omega
      · split at h
        · omega
        · split at h <;> omega
  have hcls2 : kindF (clsF (bAt s k)) (colB s k) = 2 → clsF (bAt s k) = 2 := by
    unfold kindF
    intro h
    split at h
    · omega
    · split at h
      · rename_i c; exact c.1
      · split at h
        · omega
        · split at h <;> omega
  split at h
  · rename_i c
    rw [if_pos c]
    have hin : DsLx.inB (bAt s k) = true := by unfold DsLx.inB; simp [hcls c]
    have e := endE_step hk hin
    have hb := endE_bd DsLx.inB s (k + 1) (by omega)
    unfold nameF at *
    split at h
    · cases h
    · rename_i c2
      rw [if_neg c2]
      simp only [foldS_size, ByteArray.size_extract]
      omega
  · rename_i c
    rw [if_neg c]
    split at h
    · rename_i c2
      rw [if_pos c2]
      have hin : DsLx.dgB (bAt s k) = true := by unfold DsLx.dgB; simp [hcls2 c2]
      have e := endE_step hk hin
      have hb := endE_bd DsLx.dgB s (k + 1) (by omega)
      unfold numF at *
      split at h
      · cases h
      · rename_i c3
        rw [if_neg c3]
        simp only [ByteArray.size_extract]
        omega
    · rename_i c2
      rw [if_neg c2]
      split at h
      · rename_i c3
        rw [if_pos c3]
        unfold timeF at *
        split at h
        · cases h
        · rename_i c4
          rw [if_neg c4]
          simp only [ByteArray.size_extract]
          omega
      · rename_i c3
        rw [if_neg c3]
        split at h
        · rename_i c4
          rw [if_pos c4]
          simp only [ByteArray.size_extract]
          omega
        · cases h
def tokG (s : ByteArray) : Nat → Nat → List Tk → List Tk × Nat × Int
  | 0, _, acc => (acc, 0, 0)
  | f + 1, k, acc => if k < s.size then (if (rdF s k).2 = true then tokG s f (wordE s (k + (rdF s k).1.text.size)) (acc ++ [(rdF s k).1]) else ([], k, 20)) else (acc, 0, 0)
theorem tokG_eq (s : ByteArray) : ∀ (f g k : Nat) (acc : List Tk), s.size - k ≤ f → s.size - k ≤ g → tokG s f k acc = tokG s g k acc
  | 0, 0, k, acc, _, _ => rfl
  | 0, g + 1, k, acc, h, _ => by rw [tokG, tokG, if_neg (by omega)]
  | f + 1, 0, k, acc, _, h => by rw [tokG, tokG, if_neg (by omega)]
  | f + 1, g + 1, k, acc, h1, h2 => by
    rw [tokG, tokG]
    by_cases c : k < s.size
    · rw [if_pos c, if_pos c]
      by_cases d : (rdF s k).2 = true
      · have hsz := rdF_size c d
        have hw := wordE_bd s (k + (rdF s k).1.text.size) hsz.2
        rw [if_pos d, if_pos d]
        exact tokG_eq s f g _ _ (by omega) (by omega)
      · rw [if_neg d, if_neg d]
    · rw [if_neg c, if_neg c]
/-- the words behind a place -/
def tokW (s : ByteArray) (k : Nat) (acc : List Tk) : List Tk × Nat × Int := tokG s (s.size - k) k acc
theorem tokW_step {s : ByteArray} {k : Nat} (acc : List Tk) (h : k < s.size) (hr : (rdF s k).2 = true) : tokW s k acc = tokW s (wordE s (k + (rdF s k).1.text.size)) (acc ++ [(rdF s k).1]) := by
  have hsz := rdF_size h hr
  have hw := wordE_bd s (k + (rdF s k).1.text.size) hsz.2
  unfold tokW
  rw [show s.size - k = (s.size - k - 1) + 1 by omega, tokG, if_pos h, if_pos hr]
  exact tokG_eq s _ _ _ _ (by omega) (Nat.le_refl _)
theorem tokW_bad {s : ByteArray} {k : Nat} (acc : List Tk) (h : k < s.size) (hr : (rdF s k).2 = false) : tokW s k acc = ([], k, 20) := by
  unfold tokW
  rw [show s.size - k = (s.size - k - 1) + 1 by omega, tokG, if_pos h, if_neg (by rw [hr]; decide)]
theorem tokW_end {s : ByteArray} {k : Nat} (acc : List Tk) (h : ¬ k < s.size) : tokW s k acc = (acc, 0, 0) := by
  unfold tokW
  rw [show s.size - k = 0 by omega]
  rfl
/-- what Tokens answers: words, a place, an error -/
def tokensF (s : ByteArray) : List Tk × Nat × Int := if 8192 < s.size then ([], 0, 3) else tokW s (wordE s 0) []
end Go.Proofs.Ytfbkcipjfjoifaa
