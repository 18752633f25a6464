/- Plain: the words of two sources, one behind the other. -/
import Derived.Test.YtfbkcipjfjoifaaLxP
namespace Go.Proofs.Ytfbkcipjfjoifaa
open Go.ChangeShapes Go.WideShapes Go.ChangeAt Go.RowKit Go.DsMem Go.DsLx
theorem wordE_idem (s : ByteArray) : ∀ (k : Nat), k ≤ s.size → wordE s (wordE s k) = wordE s k := by
  have key : ∀ (f k : Nat), s.size - k ≤ f → k ≤ s.size → wordE s (wordE s k) = wordE s k := by
    intro f
    induction f with
    | zero =>
      intro k hf hk
      rw [wordE_stop (s := s) (k := k) (.inl (by omega)), wordE_stop (s := s) (k := k) (.inl (by omega))]
    | succ f ih =>
      intro k hf hk
      by_cases d : k < s.size
      · by_cases c : bAt s k = 35
        · have hb := lineE_hash d c
          rw [wordE_hash d c]
          exact ih _ (by omega) hb.2
        · cases b : blB (bAt s k) with
          | true => rw [wordE_blank d c b]; exact ih _ (by omega) (by omega)
          | false => rw [wordE_stop (s := s) (k := k) (.inr ⟨c, b⟩), wordE_stop (s := s) (k := k) (.inr ⟨c, b⟩)]
      · rw [wordE_stop (s := s) (k := k) (.inl d), wordE_stop (s := s) (k := k) (.inl d)]
  exact fun k h => key _ k (Nat.le_refl _) h
theorem lineE_pre {s s' : ByteArray} (h : Pre s s') {k : Nat} (hk : k ≤ s.size) : lineE s' k = lineE s k :=
  endE_pre h (by decide) _ k (Nat.le_refl _) hk
theorem wordE_pre {s s' : ByteArray} (h : Pre s s') : ∀ (f k : Nat), s.size - k ≤ f → k ≤ s.size → wordE s' k = if wordE s k < s.size then wordE s k else wordE s' s.size := by
  intro f
  induction f with
  | zero =>
    intro k hf hk
    have e : k = s.size := by omega
    subst e
    rw [wordE_stop (s := s) (.inl (Nat.lt_irrefl _)), if_neg (Nat.lt_irrefl _)]
  | succ f ih =>
    intro k hf hk
    have hlt := h.lt
    by_cases d : k < s.size
    · have e := h.at_ k d
      by_cases c : bAt s k = 35
      · have hb := lineE_hash d c
        rw [wordE_hash d c, wordE_hash (s := s') (by omega) (by rw [e]; exact c), lineE_pre h hk]
        exact ih _ (by omega) hb.2
      · cases b : blB (bAt s k) with
        | true =>
          rw [wordE_blank d c b, wordE_blank (s := s') (by omega) (by rw [e]; exact c) (by rw [e]; exact b)]
          exact ih _ (by omega) (by omega)
        | false =>
          rw [wordE_stop (s := s) (.inr ⟨c, b⟩), if_pos d, wordE_stop (s := s') (.inr (by rw [e]; exact ⟨c, b⟩))]
    · have e : k = s.size := by omega
      subst e
      rw [wordE_stop (s := s) (.inl (Nat.lt_irrefl _)), if_neg (Nat.lt_irrefl _)]
theorem wordE_nl {s s' : ByteArray} (h : Pre s s') : wordE s' s.size = wordE s' (s.size + 1) :=
  wordE_blank h.lt (by rw [h.nl]; decide) (by rw [h.nl]; decide)
/-- the words of the one are read, then those behind the line's end -/
theorem tokW_pre {s s' : ByteArray} (h : Pre s s') : ∀ (f k : Nat) (acc : List Tk), s.size - k ≤ f → k ≤ s.size → (tokW s k acc).2.2 = 0 → wordE s k = k →
    tokW s' (wordE s' k) acc = tokW s' (wordE s' (s.size + 1)) (tokW s k acc).1 := by
  intro f
  induction f with
  | zero =>
    intro k acc hf hk h0 hw
    have e : k = s.size := by omega
    subst e
    rw [tokW_end acc (Nat.lt_irrefl _), wordE_nl h]
  | succ f ih =>
    intro k acc hf hk h0 hw
    by_cases d : k < s.size
    · have e : wordE s' k = k := by rw [wordE_pre h _ k (Nat.le_refl _) hk, hw, if_pos d]
      have hlt := h.lt
      rw [e]
      cases hr : (rdF s k).2 with
      | false => rw [tokW_bad acc d hr] at h0; cases h0
      | true =>
        have hsz := rdF_size d hr
        have hwb := wordE_bd s (k + (rdF s k).1.text.size) hsz.2
        have hr' : (rdF s' k).2 = true := by rw [rdF_pre h d]; exact hr
        rw [tokW_step acc d hr] at h0 ⊢
        rw [tokW_step (s := s') acc (by omega) hr', rdF_pre h d]
        have hidem : wordE s (wordE s (k + (rdF s k).1.text.size)) = wordE s (k + (rdF s k).1.text.size) := wordE_idem s _ hsz.2
        have := ih (wordE s (k + (rdF s k).1.text.size)) (acc ++ [(rdF s k).1]) (by omega) hwb.2 h0 hidem
        rw [← this]
        congr 1
        rw [wordE_pre h _ (k + (rdF s k).1.text.size) (Nat.le_refl _) hsz.2, wordE_pre h _ (wordE s (k + (rdF s k).1.text.size)) (Nat.le_refl _) hwb.2, hidem]
    · have e : k = s.size := by omega
      subst e
      rw [tokW_end acc (Nat.lt_irrefl _), wordE_nl h]
end Go.Proofs.Ytfbkcipjfjoifaa
