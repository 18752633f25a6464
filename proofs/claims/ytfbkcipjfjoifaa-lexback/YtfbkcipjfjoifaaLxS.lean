/- Plain: the words of two sources with a line's end between. -/
import Derived.Test.YtfbkcipjfjoifaaLxR
namespace Go.Proofs.Ytfbkcipjfjoifaa
open Go.ChangeShapes Go.WideShapes Go.ChangeAt Go.RowKit Go.DsMem Go.DsLx
theorem tokens_behind {t s' : ByteArray} {d : Nat} (h : Post t s' d) (h8 : t.size ≤ 8192) (acc : List Tk) :
    (tokW s' (wordE s' d) acc).2.2 = (tokensF t).2.2 ∧ ((tokensF t).2.2 = 0 → (tokW s' (wordE s' d) acc).1 = acc ++ (tokensF t).1.map (sh d)) := by
  have e : wordE s' d = wordE t 0 + d := by have := wordE_post h 0; rw [Nat.zero_add] at this; exact this
  have := tokG_post h acc (t.size - wordE t 0) (wordE t 0) []
  unfold tokensF
  rw [if_neg (by omega), e]
  unfold tokW
  rw [h.size, show t.size + d - (wordE t 0 + d) = t.size - wordE t 0 by omega]
  simpa using this
theorem tokens_two {a b s' : ByteArray} (hp : Pre a s') (hq : Post b s' (a.size + 1)) (h8 : s'.size ≤ 8192) (ha : (tokensF a).2.2 = 0) :
    (tokensF s').2.2 = (tokensF b).2.2 ∧ ((tokensF b).2.2 = 0 → (tokensF s').1 = (tokensF a).1 ++ (tokensF b).1.map (sh (a.size + 1))) := by
  have hs := hq.size
  have hw := wordE_bd a 0 (Nat.zero_le _)
  have hid := wordE_idem a 0 (Nat.zero_le _)
  have eA : tokensF a = tokW a (wordE a 0) [] := by unfold tokensF; rw [if_neg (by omega)]
  have eS : tokensF s' = tokW s' (wordE s' 0) [] := by unfold tokensF; rw [if_neg (by omega)]
  have e0 : wordE s' 0 = wordE s' (wordE a 0) := by
    rw [wordE_pre hp _ 0 (Nat.le_refl _) (Nat.zero_le _), wordE_pre hp _ (wordE a 0) (Nat.le_refl _) hw.2, hid]
  rw [eA] at ha
  have := tokW_pre hp _ (wordE a 0) [] (Nat.le_refl _) hw.2 ha hid
  rw [eS, e0, this, eA]
  exact tokens_behind hq (by omega) _
end Go.Proofs.Ytfbkcipjfjoifaa
