/- Plain: the words of joined words are the same words. -/
import Derived.Test.YtfbkcipjfjoifaaLyE
import Derived.Test.YtfbkcipjfjoifaaLyD
namespace Go.Proofs.Ytfbkcipjfjoifaa
open Go.ChangeShapes Go.WideShapes Go.ChangeAt Go.RowKit Go.DsMem Go.DsLx
set_option linter.unusedVariables false
theorem tokG_again (s : ByteArray) : ∀ (f k : Nat) (acc : List Tk), (∀ t ∈ acc, Again t) → ∀ t ∈ (tokG s f k acc).1, Again t
  | 0, _, _, h => h
  | f + 1, k, acc, h => by
    rw [tokG]
    split
    · rename_i c
      split
      · rename_i d
        refine tokG_again s f _ _ ?_
        intro t ht
        rcases List.mem_append.1 ht with a | a
        · exact h t a
        · simp only [List.mem_cons, List.not_mem_nil, or_false] at a
          subst a
          exact rdF_again c d
      · intro t ht; simp at ht
    · exact h
theorem tokens_again (s : ByteArray) : ∀ t ∈ (tokensF s).1, Again t := by
  unfold tokensF
  split
  · intro t ht; simp at ht
  · exact tokG_again s _ _ _ (fun t ht => by simp at ht)
theorem cls_word : ∀ n : Fin 256, (clsF (n.val : Int) = 1 ∨ clsF (n.val : Int) = 2 ∨ clsF (n.val : Int) = 4) → ¬ (n.val : Int) = 35 ∧ blB (n.val : Int) = false := by decide +kernel
theorem cls_first {W : ByteArray} {j : Nat} (h : clsF (bAt W j) = 1 ∨ clsF (bAt W j) = 2 ∨ clsF (bAt W j) = 4) : ¬ bAt W j = 35 ∧ blB (bAt W j) = false := by
  have hb := bAt_bd W j
  have := cls_word ⟨(bAt W j).toNat, by omega⟩
  rw [show (((⟨(bAt W j).toNat, by omega⟩ : Fin 256).val : Nat) : Int) = bAt W j by simp only; omega] at this
  exact this h
theorem starts_of {x W : ByteArray} {d : Nat} {rest : List UInt8} (h : x.data.toList.drop d = W.data.toList ++ rest) (hr : rest = [] ∨ ∃ r, rest = 32 :: r) (hW : 1 ≤ W.size) : Starts x d W := by
  have hlx : x.data.toList.length = x.size := by simp
  have hlw : W.data.toList.length = W.size := by simp
  have hlen := congrArg List.length h
  rw [List.length_drop, List.length_append, hlx, hlw] at hlen
  refine ⟨by omega, fun j hj => ?_, ?_, ?_⟩
  · unfold bAt
    have := congrArg (fun z : List UInt8 => z[j]?) h
    simp only [List.getElem?_drop] at this
    rw [List.getD, List.getD, this, List.getElem?_append_left (by omega)]
  · apply ba_ext
    rw [ext_toList, h, show d + W.size - d = W.data.toList.length by omega, List.take_left']
    rfl
  · rcases hr with rfl | ⟨r, rfl⟩
    · left; simp at hlen; omega
    · right
      unfold bAt
      have := congrArg (fun z : List UInt8 => z[W.size]?) h
      simp only [List.getElem?_drop] at this
      rw [List.getD, this, List.getElem?_append_right (by omega), hlw, Nat.sub_self]
      rfl
def jl (l : List Tk) : List UInt8 := Lib.join (l.map (fun t => t.text.data.toList)) [32]
theorem joinB_jl (l : List Tk) : (joinB (l.map (fun t => t.text))).data.toList = jl l := by
  unfold joinB jl
  rw [List.map_map]
  rfl
theorem jl_two (t u : Tk) (r : List Tk) : jl (t :: u :: r) = t.text.data.toList ++ 32 :: jl (u :: r) := by
  unfold jl
  simp only [List.map_cons]
  rw [Lib.join_cons, Lib.join_cons]
  rfl
theorem tok_join (x : ByteArray) : ∀ (l : List Tk) (d : Nat) (acc : List Tk), (∀ t ∈ l, Again t) → d ≤ x.size → x.data.toList.drop d = jl l →
    ∃ m, tokW x (wordE x d) acc = (acc ++ m, 0, 0) ∧ m.map (nw false) = l.map (nw false)
  | [], d, acc, _, hd, h => by
    have hlen := congrArg List.length h
    rw [List.length_drop] at hlen
    have hz : x.data.toList.length - d = 0 := by rw [hlen]; rfl
    have hlx : x.data.toList.length = x.size := by simp
    refine ⟨[], ?_, rfl⟩
    rw [wordE_stop (.inl (by omega)), tokW_end acc (by omega)]
    simp
  | t :: r, d, acc, ha, hd, h => by
    obtain ⟨h1, hcls, hag⟩ := ha t (by simp)
    obtain ⟨rest, hrest, hdrop, hnext⟩ : ∃ rest, (rest = [] ∨ ∃ r', rest = 32 :: r') ∧ x.data.toList.drop d = t.text.data.toList ++ rest ∧ (r = [] ∧ rest = [] ∨ rest = 32 :: jl r) := by
      cases r with
      | nil => exact ⟨[], .inl rfl, by rw [h]; unfold jl; simp [Lib.join_one], .inl ⟨rfl, rfl⟩⟩
      | cons u r => exact ⟨32 :: jl (u :: r), .inr ⟨_, rfl⟩, by rw [h, jl_two], .inr rfl⟩
    have hst := starts_of hdrop hrest h1
    have hle := hst.le
    have hx0 : bAt x d = bAt t.text 0 := by have := hst.at_ 0 (by omega); rw [Nat.add_zero] at this; exact this
    have hrd := hag x d hst
    have hf := cls_first hcls
    rw [wordE_stop (s := x) (k := d) (.inr (by rw [hx0]; exact hf)), tokW_step acc (by omega) (by rw [hrd]), hrd]
    simp only
    rcases hnext with ⟨rfl, rfl⟩ | rfl
    · have hend : d + t.text.size = x.size := by
        have hlen := congrArg List.length hdrop
        simp at hlen
        have : t.text.data.size = t.text.size := rfl
        have : x.data.size = x.size := rfl
        omega
      refine ⟨[{ t with at_ := d }], ?_, rfl⟩
      rw [wordE_stop (.inl (by omega)), tokW_end _ (by omega)]
    · have h32 : d + t.text.size < x.size := by
        have hlen := congrArg List.length hdrop
        simp at hlen
        have : t.text.data.size = t.text.size := rfl
        have : x.data.size = x.size := rfl
        omega
      have hb : bAt x (d + t.text.size) = 32 := by
        rcases hst.fin with c | c
        · omega
        · exact c
      have hdr : x.data.toList.drop (d + t.text.size + 1) = jl r := by
        have hlw : t.text.data.toList.length = t.text.size := by simp
        rw [show d + t.text.size + 1 = d + (t.text.size + 1) by omega, ← List.drop_drop, hdrop, List.drop_append, hlw, List.drop_eq_nil_of_le (by omega), Nat.add_sub_cancel_left]
        rfl
      obtain ⟨m, hm, hmm⟩ := tok_join x r (d + t.text.size + 1) (acc ++ [{ t with at_ := d }]) (fun u hu => ha u (by simp [hu])) (by omega) hdr
      refine ⟨{ t with at_ := d } :: m, ?_, ?_⟩
      · rw [wordE_blank h32 (by rw [hb]; decide) (by rw [hb]; decide), hm]
        simp
      · rw [List.map_cons, List.map_cons, hmm]; rfl
/-- the words of words as a source -/
theorem tokens_joined (s : ByteArray) (h8 : (joinB ((tokensF s).1.map (fun t => t.text))).size ≤ 8192) :
    (tokensF (joinB ((tokensF s).1.map (fun t => t.text)))).2.2 = 0 ∧ (tokensF (joinB ((tokensF s).1.map (fun t => t.text)))).1.map (nw false) = (tokensF s).1.map (nw false) := by
  have ha := tokens_again s
  have hj := joinB_jl (tokensF s).1
  generalize (tokensF s).1 = l at *
  generalize joinB (l.map (fun t => t.text)) = x at *
  obtain ⟨m, h1, h2⟩ := tok_join x l 0 [] ha (Nat.zero_le _) (by rw [List.drop_zero]; exact hj)
  have e : tokensF x = tokW x (wordE x 0) [] := by unfold tokensF; rw [if_neg (by omega)]
  rw [e, h1]
  exact ⟨rfl, by simpa using h2⟩
theorem tokens_long {x : ByteArray} (h : 8192 < x.size) : tokensF x = ([], 0, 3) := by unfold tokensF; rw [if_pos h]
/-- words as a source are not much longer than the source -/
theorem jl_size : ∀ l : List Tk, (jl l).length + 1 ≤ (l.map (fun t => t.text.size + 1)).sum + 1
  | [] => by decide
  | [t] => by unfold jl; simp [Lib.join_one]
  | t :: u :: r => by
    have := jl_size (u :: r)
    rw [jl_two, List.length_append, List.length_cons, List.map_cons, List.sum_cons]
    have e : t.text.data.toList.length = t.text.size := by simp
    omega
theorem Placed.sum {s : ByteArray} : ∀ {a : Nat} {l : List Tk}, Placed s a l → a ≤ s.size → a + (l.map (fun t => t.text.size)).sum ≤ s.size
  | _, [], _, h => by simpa using h
  | _, t :: l, h, _ => by
    have := Placed.sum (l := l) h.2.2.2.2 h.2.2.1
    have := h.1
    simp only [List.map_cons, List.sum_cons]
    omega
theorem sum_one : ∀ l : List Tk, (l.map (fun t => t.text.size + 1)).sum = (l.map (fun t => t.text.size)).sum + l.length
  | [] => rfl
  | t :: l => by simp only [List.map_cons, List.sum_cons, List.length_cons, sum_one l]; omega
theorem joined_size {s : ByteArray} (h : (tokensF s).2.2 = 0) : (joinB ((tokensF s).1.map (fun t => t.text))).size ≤ 2 * s.size := by
  have hp := tokens_placed h
  have h1 := hp.sum (Nat.zero_le _)
  have h2 : 0 + (tokensF s).1.length ≤ s.size := by
    have hz : ∀ {a : Nat} {l : List Tk}, Placed s a l → a ≤ s.size → a + l.length ≤ s.size := by
      intro a l
      induction l generalizing a with
      | nil => intro _ h; simpa using h
      | cons t l ih =>
        intro h _
        have := ih h.2.2.2.2 h.2.2.1
        have := h.1
        have := h.2.1
        simp only [List.length_cons]
        omega
    exact hz hp (Nat.zero_le _)
  have h3 := jl_size (tokensF s).1
  rw [sum_one] at h3
  have h4 : (joinB ((tokensF s).1.map (fun t => t.text))).size = (jl (tokensF s).1).length := by rw [← joinB_jl]; simp
  omega
end Go.Proofs.Ytfbkcipjfjoifaa
