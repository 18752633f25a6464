/- Plain: blanks ahead of a source and a remark behind it change no words. -/
import Derived.Test.YtfbkcipjfjoifaaLxT
namespace Go.Proofs.Ytfbkcipjfjoifaa
open Go.ChangeShapes Go.WideShapes Go.ChangeAt Go.RowKit Go.DsMem Go.DsLx
/-- a source that can not be can not be with more behind -/
theorem tokW_pre_bad {s s' : ByteArray} (h : Pre s s') : ∀ (f k : Nat) (acc : List Tk), s.size - k ≤ f → k ≤ s.size → (tokW s k acc).2.2 ≠ 0 → wordE s k = k →
    tokW s' (wordE s' k) acc = tokW s k acc := by
  intro f
  induction f with
  | zero =>
    intro k acc hf hk h0 hw
    have e : k = s.size := by omega
    subst e
    rw [tokW_end acc (Nat.lt_irrefl _)] at h0
    exact absurd rfl h0
  | succ f ih =>
    intro k acc hf hk h0 hw
    by_cases d : k < s.size
    · have e : wordE s' k = k := by rw [wordE_pre h _ k (Nat.le_refl _) hk, hw, if_pos d]
      have hlt := h.lt
      rw [e]
      cases hr : (rdF s k).2 with
      | false => rw [tokW_bad acc d hr, tokW_bad (s := s') acc (by omega) (by rw [rdF_pre h d]; exact hr)]
      | true =>
        have hsz := rdF_size d hr
        have hwb := wordE_bd s (k + (rdF s k).1.text.size) hsz.2
        have hr' : (rdF s' k).2 = true := by rw [rdF_pre h d]; exact hr
        rw [tokW_step acc d hr] at h0 ⊢
        rw [tokW_step (s := s') acc (by omega) hr', rdF_pre h d]
        have hidem : wordE s (wordE s (k + (rdF s k).1.text.size)) = wordE s (k + (rdF s k).1.text.size) := wordE_idem s _ hsz.2
        have := ih (wordE s (k + (rdF s k).1.text.size)) (acc ++ [(rdF s k).1]) (by omega) hwb.2 h0 hidem
        rw [← this]
        congr 1
        rw [wordE_pre h _ (k + (rdF s k).1.text.size) (Nat.le_refl _) hsz.2, wordE_pre h _ (wordE s (k + (rdF s k).1.text.size)) (Nat.le_refl _) hwb.2, hidem]
    · have e : k = s.size := by omega
      subst e
      rw [tokW_end acc (Nat.lt_irrefl _)] at h0
      exact absurd rfl h0
theorem tokW_bad_nil (s : ByteArray) : ∀ (f k : Nat) (acc : List Tk), (tokG s f k acc).2.2 ≠ 0 → (tokG s f k acc).1 = [] ∧ (tokG s f k acc).2.2 = 20
  | 0, _, _, h => absurd rfl h
  | f + 1, k, acc, h => by
    rw [tokG] at h ⊢
    by_cases c : k < s.size
    · rw [if_pos c] at h ⊢
      by_cases d : (rdF s k).2 = true
      · rw [if_pos d] at h ⊢
        exact tokW_bad_nil s f _ _ h
      · rw [if_neg d]; exact ⟨rfl, rfl⟩
    · rw [if_neg c] at h; exact absurd rfl h
theorem tokens_bad {s : ByteArray} (h : (tokensF s).2.2 ≠ 0) : (tokensF s).1 = [] := by
  unfold tokensF at *
  split at h
  · rename_i c; rw [if_pos c]
  · rename_i c; rw [if_neg c]; exact (tokW_bad_nil s _ _ _ h).1
def rem : ByteArray := ⟨#[10, 35, 32, 120, 32, 59]⟩
def rem1 : ByteArray := ⟨#[35, 32, 120, 32, 59]⟩
def bl4 : ByteArray := ⟨#[32, 9, 13, 10]⟩
theorem wordE_rem1 : wordE rem1 0 = 5 := by decide +kernel
theorem wordE_bl4 (s : ByteArray) : wordE (bl4 ++ s) 0 = wordE (bl4 ++ s) 4 := by
  have hs : (bl4 ++ s).size = 4 + s.size := size_app _ _
  have key : ∀ k, k < 4 → bAt bl4 k ≠ 35 ∧ blB (bAt bl4 k) = true := by decide +kernel
  have step : ∀ k, k < 4 → wordE (bl4 ++ s) k = wordE (bl4 ++ s) (k + 1) := fun k hk => by
    have e : bAt (bl4 ++ s) k = bAt bl4 k := bAt_app_l hk
    exact wordE_blank (by omega) (by rw [e]; exact (key k hk).1) (by rw [e]; exact (key k hk).2)
  rw [step 0 (by decide), step 1 (by decide), step 2 (by decide), step 3 (by decide)]
theorem rem_app (s : ByteArray) : s ++ rem = s ++ ⟨#[10]⟩ ++ rem1 := by
  have : rem = (⟨#[10]⟩ : ByteArray) ++ rem1 := by decide +kernel
  rw [this, ByteArray.append_assoc]
/-- with a remark behind -/
theorem tokens_rem (s : ByteArray) (h8 : s.size + 6 ≤ 8192) : (tokensF (s ++ rem)).1 = (tokensF s).1 ∧ (tokensF (s ++ rem)).2.2 = (tokensF s).2.2 := by
  rw [rem_app]
  have hp := pre_app s rem1
  have hq := post_two s rem1
  have hs : (s ++ (⟨#[10]⟩ : ByteArray) ++ rem1).size = 5 + (s.size + 1) := hq.size
  generalize hu : s ++ (⟨#[10]⟩ : ByteArray) ++ rem1 = u at *
  have hw := wordE_bd s 0 (Nat.zero_le _)
  have hid := wordE_idem s 0 (Nat.zero_le _)
  have eA : tokensF s = tokW s (wordE s 0) [] := by unfold tokensF; rw [if_neg (by omega)]
  have eS : tokensF u = tokW u (wordE u 0) [] := by unfold tokensF; rw [if_neg (by omega)]
  have e0 : wordE u 0 = wordE u (wordE s 0) := by
    rw [wordE_pre hp _ 0 (Nat.le_refl _) (Nat.zero_le _), wordE_pre hp _ (wordE s 0) (Nat.le_refl _) hw.2, hid]
  have eE : wordE u (s.size + 1) = u.size := by
    have := wordE_post hq 0
    rw [Nat.zero_add, wordE_rem1] at this
    rw [this, hs]
  rw [eS, e0, eA]
  by_cases h0 : (tokW s (wordE s 0) []).2.2 = 0
  · rw [tokW_pre hp _ (wordE s 0) [] (Nat.le_refl _) hw.2 h0 hid, eE, tokW_end _ (Nat.lt_irrefl _), h0]
    exact ⟨rfl, rfl⟩
  · rw [tokW_pre_bad hp _ (wordE s 0) [] (Nat.le_refl _) hw.2 h0 hid]
    exact ⟨rfl, rfl⟩
/-- with blanks ahead too -/
theorem tokens_blanks (s : ByteArray) (h8 : s.size + 10 ≤ 8192) : (tokensF (bl4 ++ s ++ rem)).1 = (tokensF s).1.map (sh 4) ∧ (tokensF (bl4 ++ s ++ rem)).2.2 = (tokensF s).2.2 := by
  rw [ByteArray.append_assoc]
  obtain ⟨h1, h2⟩ := tokens_rem s (by omega)
  have hsr : (s ++ rem).size = s.size + 6 := size_app _ _
  generalize s ++ rem = u at *
  have hq : Post u (bl4 ++ u) 4 := post_app bl4 u
  have hsz := hq.size
  have hb := tokens_behind hq (by omega) []
  have e : tokensF (bl4 ++ u) = tokW (bl4 ++ u) (wordE (bl4 ++ u) 4) [] := by unfold tokensF; rw [if_neg (by omega), wordE_bl4]
  have h2' : (tokensF (bl4 ++ u)).2.2 = (tokensF u).2.2 := by rw [e]; exact hb.1
  refine ⟨?_, h2'.trans h2⟩
  by_cases h0 : (tokensF u).2.2 = 0
  · rw [e, hb.2 h0, h1]; rfl
  · rw [tokens_bad (by rw [h2']; exact h0), tokens_bad (s := s) (by rw [← h2]; exact h0)]; rfl
end Go.Proofs.Ytfbkcipjfjoifaa
