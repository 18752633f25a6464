/- One byte of written frames is another one: fewer records, each as it was. No program in sight. -/
import Derived.Test.YtgobnnciijlpaaaDoorLgP
namespace Go.DsLg
open Go.DsDk

theorem unf_sum {N : Nat} {B Y t : List UInt8} (hN : N ≤ 60000) (hB : B.length = 4) (hY : Y.length = 8 + N) (h : sum32 Y ≠ getN B) : unfB (lowB 4 N ++ (B ++ (Y ++ t))) = none := by
  have l1 := lowB_len 4 N
  have hg : getN (lowB 4 N) = N := by rw [getN_lowB]; exact Nat.mod_eq_of_lt (by omega)
  generalize lowB 4 N = A at *
  have p1 : (A ++ (B ++ (Y ++ t))).take 4 = A := by rw [← l1, List.take_left]
  have hd4 : (A ++ (B ++ (Y ++ t))).drop 4 = B ++ (Y ++ t) := by rw [← l1, List.drop_left]
  have hd8 : (A ++ (B ++ (Y ++ t))).drop 8 = Y ++ t := by rw [show 8 = 4 + 4 from rfl, ← List.drop_drop, hd4, ← hB, List.drop_left]
  have p2 : ((A ++ (B ++ (Y ++ t))).take 8).drop 4 = B := by rw [List.drop_take, hd4]; show List.take 4 _ = _; rw [← hB, List.take_left]
  have p4 : ((A ++ (B ++ (Y ++ t))).take (16 + N)).drop 8 = Y := by rw [List.drop_take, hd8, show 16 + N - 8 = Y.length by omega, List.take_left]
  have hl : (A ++ (B ++ (Y ++ t))).length = 16 + N + t.length := by simp only [List.length_append]; omega
  unfold unfB
  rw [p1, hg, if_neg (by omega), if_neg (by omega), if_neg (by omega), p2, p4, if_neg h]
theorem set_split {α : Type} {l : List α} {i : Nat} (c : α) (h : i < l.length) : l.set i c = l.take i ++ ([c] ++ l.drop (i + 1)) ∧ l = l.take i ++ ([l[i]] ++ l.drop (i + 1)) := by
  refine ⟨by rw [List.set_eq_take_append_cons_drop, if_pos h]; rfl, ?_⟩
  have := List.take_append_drop i l
  rw [List.drop_eq_getElem_cons h] at this
  exact this.symm
/-- a frame of which one byte is another one, that stands in no length, is none -/
theorem unf_turn {m q : Nat} {r t : List UInt8} {c : UInt8} (hr : r.length ≤ 60000) (h4 : 4 ≤ q) (hq : q < (frameB m r).length) (hc : (frameB m r)[q]? ≠ some c) : unfB ((frameB m r).set q c ++ t) = none := by
  have l1 := lowB_len 4 r.length
  have l2 := lowB_len 4 (sum32 (lowB 8 m ++ r))
  have l3 := lowB_len 8 m
  have hS : getN (lowB 4 (sum32 (lowB 8 m ++ r))) = sum32 (lowB 8 m ++ r) := by rw [getN_lowB]; exact Nat.mod_eq_of_lt (sum32_lt _)
  rw [frameB_len] at hq
  unfold frameB at hc ⊢
  generalize hBe : lowB 4 (sum32 (lowB 8 m ++ r)) = B at *
  generalize hYe : lowB 8 m ++ r = Y at *
  have hY : Y.length = 8 + r.length := by rw [← hYe, List.length_append, l3]
  rw [List.set_append_right _ _ (by omega), l1]
  rw [List.getElem?_append_right (by omega), l1] at hc
  by_cases h8 : q < 8
  · rw [List.set_append_left _ _ (by omega)]
    rw [List.getElem?_append_left (by omega), List.getElem?_eq_getElem (by omega)] at hc
    have hc : c ≠ B[q - 4] := fun e => hc (by rw [e])
    simp only [List.append_assoc]
    refine unf_sum hr (by simpa using l2) hY ?_
    obtain ⟨e1, e2⟩ := set_split (l := B) (i := q - 4) c (by omega)
    rw [e1, ← hS]
    intro e
    have := getN_ne (B.take (q - 4)) (B.drop (q - 4 + 1)) hc
    rw [← e2] at this
    exact this e.symm
  · rw [List.set_append_right _ _ (by omega), l2]
    rw [List.getElem?_append_right (by omega), l2, List.getElem?_eq_getElem (by omega)] at hc
    have hc : c ≠ Y[q - 4 - 4] := fun e => hc (by rw [e])
    simp only [List.append_assoc]
    refine unf_sum hr l2 (by simpa using hY) ?_
    obtain ⟨e1, e2⟩ := set_split (l := Y) (i := q - 4 - 4) c (by omega)
    rw [e1, hS]
    have := sum_ne (Y.take (q - 4 - 4)) (Y.drop (q - 4 - 4 + 1)) hc
    rw [← e2] at this
    exact this
/-- whether a byte stands in the length of a record, the first of which begins at s -/
def longB : List (List UInt8) → Nat → Nat → Bool
  | [], _, _ => false
  | r :: l, s, at_ => if s ≤ at_ ∧ at_ < s + 4 then true else longB l (s + 16 + r.length) at_
theorem scan_turnL (l : List (List UInt8)) (n p s : Nat) (c : UInt8) (hp : p < (wrB n l).length) (hlong : longB l s (s + p) = false) (hc : (wrB n l)[p]? ≠ some c) (hl : ∀ r ∈ l, r.length ≤ 60000) :
    ∃ j t, j < l.length ∧ (wrB n l).set p c = wrB n (l.take j) ++ t ∧ unfB t = none := by
  induction l generalizing n p s with
  | nil => simp [wrB] at hp
  | cons r l ih =>
    have hr := hl r List.mem_cons_self
    simp only [longB] at hlong
    split at hlong
    · cases hlong
    · rename_i hns
      simp only [wrB] at hp hc ⊢
      by_cases h : p < 16 + r.length
      · refine ⟨0, (frameB n r).set p c ++ wrB (n + 1) l, by simp, ?_, ?_⟩
        · rw [List.set_append_left _ _ (by rw [frameB_len]; omega)]; simp [wrB]
        · rw [List.getElem?_append_left (by rw [frameB_len]; omega)] at hc
          exact unf_turn hr (by omega) (by rw [frameB_len]; omega) hc
      · rw [List.getElem?_append_right (by rw [frameB_len]; omega), frameB_len] at hc
        rw [List.length_append, frameB_len] at hp
        obtain ⟨j, t, h1, h2, h3⟩ := ih (n + 1) (p - (16 + r.length)) (s + 16 + r.length) (by omega) (by rw [show s + 16 + r.length + (p - (16 + r.length)) = s + p by omega]; exact hlong) hc (fun x hx => hl x (List.mem_cons_of_mem _ hx))
        refine ⟨j + 1, t, by simpa using h1, ?_, h3⟩
        rw [List.set_append_right _ _ (by rw [frameB_len]; omega), frameB_len, h2]
        simp only [List.take_succ_cons, wrB, List.append_assoc]
/-- bytes of which one is another one, that stands in no length, tell fewer records, each as it was -/
theorem scan_turn {l : List (List UInt8)} {n p : Nat} {c : UInt8} (hn : 1 ≤ n) (hb : n + l.length ≤ 18446744073709551616) (hl : ∀ r ∈ l, r.length ≤ 60000) (hp : p < (wrB n l).length) (hlong : longB l 0 p = false) (hc : (wrB n l)[p]? ≠ some c) :
    ∃ j, j < l.length ∧ (scanB ((wrB n l).set p c)).2.1 = l.take j := by
  obtain ⟨j, t, h1, h2, h3⟩ := scan_turnL l n p 0 c hp (by rw [Nat.zero_add]; exact hlong) hc hl
  have hs := scanB_wr (l := l.take j) (n := n) (t := t) hn (by rw [List.length_take]; omega) (fun r hr => hl r (List.mem_of_mem_take hr)) h3
  exact ⟨j, h1, by rw [h2, hs]⟩
end Go.DsLg
