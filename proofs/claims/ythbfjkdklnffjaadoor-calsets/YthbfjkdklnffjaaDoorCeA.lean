/- Package cal: the days of a node in a month, as a plain function; what refuse lets by. -/
import Derived.Test.YthbfjkdklnffjaaDoorCdF
namespace Go.Proofs.YthbfjkdklnffjaaDoor
open Go.ChangeShapes Go.WideShapes Go.ChangeAt Go.RowKit Go.DsMem Go.DsMk
set_option linter.unusedVariables false

/-- a month: year, number, first day, size -/
structure Mo where
  y : Int
  m : Int
  f : Int
  s : Int
def Mo.ok (M : Mo) : Prop := IsMo M.y M.m M.f M.s
def Mo.val (M : Mo) : Value := moV M.y M.m M.f M.s

/-- the days of a node in a month -/
def daysF (cs : List (ByteArray × Nd)) (M : Mo) : Nat → Nd → Nat
  | 0, _ => 0
  | k + 1, .mk op ns kids nm =>
    if op = 1 then weekN (ns.getD 0 0).toNat ((M.f - 1) % 7) M.s
    else if op = 2 then theseN M.f M.s ns
    else if op = 3 then daysN M.s ns
    else if op = 4 then theseN M.f M.s [(DsCal.nres M.f M.s (ns.getD 0 0) (ns.getD 1 0)).1]
    else if op = 5 then daysN M.s [(nthL (dl ((calOf cs nm).elim 0 (daysF cs M k))) (ns.getD 0 0) : Int)]
    else if op = 6 then fisN M.y M.f M.s (ns.getD 0 0) (ns.getD 1 0)
    else if op = 7 then kids.tail.foldl (fun a c => a &&& daysF cs M k c) (kids.head?.elim 0 (daysF cs M k))
    else if op = 8 then kids.tail.foldl (fun a c => a ||| daysF cs M k c) (kids.head?.elim 0 (daysF cs M k))
    else if op = 9 then difN (allN M.s) (kids.head?.elim 0 (daysF cs M k))
    else if op = 10 then (calOf cs nm).elim 0 (daysF cs M k)
    else 0

/-- a node, and all that it goes to, can be asked, at most k nodes on -/
def okD (cs : List (ByteArray × Nd)) : Nat → Nd → Prop
  | 0, _ => False
  | k + 1, .mk op ns kids nm => (shapeB op ns.length kids.length nm = true ∧ numsB op ns = true) ∧ (op = 5 ∨ op = 10 → ∃ t, calOf cs nm = some t ∧ okD cs k t) ∧ (¬ (op = 5 ∨ op = 10) → ∀ c ∈ kids, okD cs k c)
/-- how many nodes are met behind it -/
def costF (cs : List (ByteArray × Nd)) : Nat → Nd → Nat
  | 0, _ => 0
  | k + 1, .mk op ns kids nm => if op = 10 ∨ op = 5 then 1 + (calOf cs nm).elim 0 (costF cs k) else kids.foldl (fun a c => a + costF cs k c) 1

theorem okD_up (cs : List (ByteArray × Nd)) : ∀ (k : Nat) (t : Nd), okD cs k t → okD cs (k + 1) t
  | 0, _, h => h.elim
  | k + 1, .mk op ns kids nm, ⟨h1, h2, h3⟩ => ⟨h1, fun ho => let ⟨t, ht, hk⟩ := h2 ho; ⟨t, ht, okD_up cs k t hk⟩, fun ho c hc => okD_up cs k c (h3 ho c hc)⟩
theorem foldl_cong {α : Type} (g h : α → Nd → α) (l : List Nd) (e : ∀ a c, c ∈ l → g a c = h a c) (a : α) : l.foldl g a = l.foldl h a := by
  induction l generalizing a with
  | nil => rfl
  | cons c l ih => rw [List.foldl_cons, List.foldl_cons, e a c (by simp), ih (fun a c hc => e a c (by simp [hc]))]
theorem daysF_up (cs : List (ByteArray × Nd)) (M : Mo) : ∀ (k : Nat) (t : Nd), okD cs k t → daysF cs M (k + 1) t = daysF cs M k t
  | 0, _, h => h.elim
  | k + 1, .mk op ns kids nm, ⟨h1, h2, h3⟩ => by
    have e1 : op = 5 ∨ op = 10 → (calOf cs nm).elim 0 (daysF cs M (k + 1)) = (calOf cs nm).elim 0 (daysF cs M k) := fun ho => by
      obtain ⟨t, ht, hk⟩ := h2 ho
      rw [ht]; exact daysF_up cs M k t hk
    have e2 : ¬ (op = 5 ∨ op = 10) → ∀ c ∈ kids, daysF cs M (k + 1) c = daysF cs M k c := fun ho c hc => daysF_up cs M k c (h3 ho c hc)
    have e3 : ¬ (op = 5 ∨ op = 10) → kids.head?.elim 0 (daysF cs M (k + 1)) = kids.head?.elim 0 (daysF cs M k) := fun ho => by
      cases kids with
      | nil => rfl
      | cons c l => exact e2 ho c (by simp)
    rw [daysF, daysF]
    by_cases c1 : op = 1
    · rw [if_pos c1, if_pos c1]
    rw [if_neg c1, if_neg c1]
    by_cases c2 : op = 2
    · rw [if_pos c2, if_pos c2]
    rw [if_neg c2, if_neg c2]
    by_cases c3 : op = 3
    · rw [if_pos c3, if_pos c3]
    rw [if_neg c3, if_neg c3]
    by_cases c4 : op = 4
    · rw [if_pos c4, if_pos c4]
    rw [if_neg c4, if_neg c4]
    by_cases c5 : op = 5
    · rw [if_pos c5, if_pos c5, e1 (.inl c5)]
    rw [if_neg c5, if_neg c5]
    by_cases c6 : op = 6
    · rw [if_pos c6, if_pos c6]
    rw [if_neg c6, if_neg c6]
    by_cases c10 : op = 10
    · rw [if_neg (by omega), if_neg (by omega), if_neg (by omega), if_pos c10, if_neg (by omega), if_neg (by omega), if_neg (by omega), if_pos c10, e1 (.inr c10)]
    have ho : ¬ (op = 5 ∨ op = 10) := by omega
    by_cases c7 : op = 7
    · rw [if_pos c7, if_pos c7, e3 ho, foldl_cong _ _ _ (fun a c hc => by rw [e2 ho c (List.mem_of_mem_tail hc)])]
    rw [if_neg c7, if_neg c7]
    by_cases c8 : op = 8
    · rw [if_pos c8, if_pos c8, e3 ho, foldl_cong _ _ _ (fun a c hc => by rw [e2 ho c (List.mem_of_mem_tail hc)])]
    rw [if_neg c8, if_neg c8]
    by_cases c9 : op = 9
    · rw [if_pos c9, if_pos c9, e3 ho]
    rw [if_neg c9, if_neg c9, if_neg c10, if_neg c10]
theorem okD_le {cs : List (ByteArray × Nd)} {k j : Nat} {t : Nd} (h : okD cs k t) (hj : k ≤ j) : okD cs j t := by
  obtain ⟨d, rfl⟩ := Nat.exists_eq_add_of_le hj
  clear hj
  induction d with
  | zero => exact h
  | succ d ih => exact okD_up cs (k + d) t ih
theorem daysF_le {cs : List (ByteArray × Nd)} {k j : Nat} {t : Nd} (M : Mo) (h : okD cs k t) (hj : k ≤ j) : daysF cs M j t = daysF cs M k t := by
  obtain ⟨d, rfl⟩ := Nat.exists_eq_add_of_le hj
  clear hj
  induction d with
  | zero => rfl
  | succ d ih => rw [show k + (d + 1) = (k + d) + 1 from rfl, daysF_up cs M (k + d) t (okD_le h (by omega)), ih]
/-- two depths tell the same -/
theorem daysF_eq {cs : List (ByteArray × Nd)} {k j : Nat} {t : Nd} (M : Mo) (h : okD cs k t) (g : okD cs j t) : daysF cs M k t = daysF cs M j t := by
  rcases Nat.le_total k j with hk | hk
  · exact (daysF_le M h hk).symm
  · exact daysF_le M g hk

/-- what can be, and is met with no error, can be asked -/
theorem ok_of_meet (cs : List (ByteArray × Nd)) (hcs : ∀ c ∈ cs, rightN c.2 = true) : ∀ (k : Nat) (t : Nd) (j : Nat) (refs : Nat) (inw : Bool) (met : Nat), canB j t = true → (meetF cs k t refs inw met).1 = 0 → okD cs k t ∧ met + costF cs k t ≤ (meetF cs k t refs inw met).2
  | 0, t, j, refs, inw, met, _, hm => by simp [meetF] at hm
  | k + 1, .mk op ns kids nm, 0, refs, inw, met, hr, _ => by simp [canB] at hr
  | k + 1, .mk op ns kids nm, j + 1, refs, inw, met, hr, hm => by
    unfold canB at hr
    simp only [Bool.and_eq_true] at hr
    obtain ⟨⟨hs, hn⟩, hk⟩ := hr
    unfold meetF at hm ⊢
    unfold costF
    by_cases c1 : 256 < met + 1 ∨ (op = 5 ∧ inw = true)
    · rw [if_pos c1] at hm; simp at hm
    rw [if_neg c1] at hm ⊢
    by_cases c2 : op = 10 ∨ op = 5
    · rw [if_pos c2] at hm ⊢
      rw [if_pos c2]
      cases hc : calOf cs nm with
      | none => rw [hc] at hm; simp at hm
      | some t =>
        rw [hc] at hm
        simp only at hm ⊢
        by_cases c3 : refs = 24
        · rw [if_pos c3] at hm; simp at hm
        rw [if_neg c3] at hm ⊢
        have hrt : canB 16 t = true := by
          unfold calOf at hc
          rw [Option.map_eq_some_iff] at hc
          obtain ⟨c, hc1, rfl⟩ := hc
          exact hcs c (List.mem_of_getElem? hc1)
        obtain ⟨h1, h2⟩ := ok_of_meet cs hcs k t 16 (refs + 1) (inw || op == 5) (met + 1) hrt hm
        exact ⟨⟨⟨hs, hn⟩, fun _ => ⟨t, hc, h1⟩, fun ho => absurd c2 (by omega)⟩, by simp only [Option.elim]; omega⟩
    · rw [if_neg c2] at hm ⊢
      rw [if_neg c2]
      have key : ∀ (l : List Nd) (m : Nat) (a : Nat), (∀ c ∈ l, canB j c = true) → (l.foldl (fun st k_1 => if st.1 ≠ 0 then st else meetF cs k k_1 refs inw st.2) ((0 : Int), m)).1 = 0 → (∀ c ∈ l, okD cs k c) ∧ m + (l.foldl (fun a c => a + costF cs k c) a) ≤ a + (l.foldl (fun st k_1 => if st.1 ≠ 0 then st else meetF cs k k_1 refs inw st.2) ((0 : Int), m)).2 := by
        intro l
        induction l with
        | nil => intro m a _ _; exact ⟨fun c hc => by simp at hc, by simp; omega⟩
        | cons c l ih =>
          intro m a hl h0
          rw [List.foldl_cons] at h0
          rw [List.foldl_cons, List.foldl_cons]
          rw [if_neg (by simp)] at h0 ⊢
          generalize hq : meetF cs k c refs inw m = q at h0 ⊢
          obtain ⟨q1, q2⟩ := q
          by_cases e0 : q1 = 0
          · subst e0
            obtain ⟨h1, h2⟩ := ok_of_meet cs hcs k c j refs inw m (hl c (by simp)) (by rw [hq])
            rw [hq] at h2
            obtain ⟨h3, h4⟩ := ih q2 (a + costF cs k c) (fun c hc => hl c (by simp [hc])) h0
            refine ⟨fun d hd => ?_, by simp only at h2; omega⟩
            rw [List.mem_cons] at hd
            rcases hd with rfl | hd
            · exact h1
            · exact h3 d hd
          · exfalso
            have := metK_err cs k refs inw m [c] l (by unfold metK; simp only [List.foldl_cons, List.foldl_nil]; rw [if_neg (by simp), hq]; exact e0)
            unfold metK at this
            simp only [List.foldl_append, List.foldl_cons, List.foldl_nil] at this
            rw [if_neg (by simp), hq] at this
            rw [this] at h0
            exact e0 h0
      obtain ⟨h1, h2⟩ := key kids (met + 1) 1 (fun c hc => List.all_eq_true.1 hk c hc) hm
      exact ⟨⟨⟨hs, hn⟩, fun ho => absurd ho (by omega), fun _ c hc => h1 c hc⟩, by omega⟩
end Go.Proofs.YthbfjkdklnffjaaDoor
