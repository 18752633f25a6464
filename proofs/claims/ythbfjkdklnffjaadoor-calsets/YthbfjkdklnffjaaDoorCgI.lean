/- And, Or, Not of nodes that can be asked, plain. -/
import Derived.Test.YthbfjkdklnffjaaDoorCgH
import Derived.Test.YthbfjkdklnffjaaDoorCfA
namespace Go.Proofs.YthbfjkdklnffjaaDoor
open Go.ChangeShapes Go.WideShapes Go.ChangeAt Go.RowKit Go.DsMem Go.DsMk
set_option linter.unusedVariables false

theorem foldl_inv {α β : Type} (P : α → Prop) (g : α → β → α) : ∀ (l : List β) (a : α), P a → (∀ a c, c ∈ l → P a → P (g a c)) → P (l.foldl g a)
  | [], a, h, _ => h
  | c :: l, a, h, hs => foldl_inv P g l (g a c) (hs a c (by simp) h) (fun a d hd ha => hs a d (by simp [hd]) ha)
/-- of what can be asked there is no error but 'too deep' -/
theorem meet_in (cs : List (ByteArray × Nd)) : ∀ (k : Nat) (t : Nd), okD cs k t → ∀ (f refs : Nat) (inw : Bool) (m : Nat), (meetF cs f t refs inw m).1 = 0 ∨ (meetF cs f t refs inw m).1 = 23
  | 0, t, h, _, _, _, _ => h.elim
  | k + 1, .mk op ns kids nm, h, 0, refs, inw, m => by simp [meetF]
  | k + 1, .mk op ns kids nm, ⟨_, h2, h3⟩, f + 1, refs, inw, m => by
    unfold meetF
    split
    · simp
    split
    · rename_i ho
      obtain ⟨t, ht, hk⟩ := h2 (by omega)
      rw [ht]
      simp only
      split
      · simp
      · exact meet_in cs k t hk f _ _ _
    · rename_i ho
      refine foldl_inv (fun st : Int × Nat => st.1 = 0 ∨ st.1 = 23) _ kids _ (.inl rfl) (fun st c hc hst => ?_)
      split
      · exact hst
      · exact meet_in cs k c (h3 (by omega) c hc) f _ _ _
theorem meet_kids (cs : List (ByteArray × Nd)) (f : Nat) (op : Int) (kids : List Nd) (nm : ByteArray) (refs : Nat) (m : Nat) (ho : ¬ op = 5 ∧ ¬ op = 10) :
    meetF cs (f + 1) (.mk op [] kids nm) refs false m = if 256 < m + 1 then (23, m + 1) else kids.foldl (fun st k => if st.1 ≠ 0 then st else meetF cs f k refs false st.2) (0, m + 1) := by
  rw [meetF]
  simp [ho.1, ho.2]
theorem ref_parts {cs : List (ByteArray × Nd)} {t : Nd} {d : Int} (h : refF cs t d = 0) : ¬ 24 < cs.length ∧ (cs.all fun c => rightN c.2) = true ∧ DsCal.rightB d = true := by
  unfold refF at h
  split at h
  · omega
  split at h
  · omega
  split at h
  · omega
  split at h
  · omega
  rename_i h1 h2 h3 h4
  exact ⟨h1, by simpa using h3, by simpa using h4⟩
theorem ref_join {cs : List (ByteArray × Nd)} {x : Nd} {d : Int} (hx : refF cs x d = 0) (op : Int) (kids : List Nd) (hk : ∀ c ∈ kids, okD cs 257 c) (hop : op = 7 ∨ op = 8 ∨ op = 9) (hsh : shapeB op 0 kids.length ⟨#[]⟩ = true) :
    refF cs (.mk op [] kids ⟨#[]⟩) d = (if kids.all (canB 15) = true then (kids.foldl (fun st k => if st.1 ≠ 0 then st else meetF cs 256 k 0 false st.2) (0, 1)).1 else 1) ∧ (refF cs (.mk op [] kids ⟨#[]⟩) d = 0 ∨ refF cs (.mk op [] kids ⟨#[]⟩) d = 1 ∨ refF cs (.mk op [] kids ⟨#[]⟩) d = 23) := by
  obtain ⟨p1, p2, p3⟩ := ref_parts hx
  have hnb : numsB op [] = true := by rcases hop with rfl | rfl | rfl <;> decide
  have hr : rightN (.mk op [] kids ⟨#[]⟩) = kids.all (canB 15) := by
    unfold rightN canB
    have : shapeB op ([] : List Int).length kids.length ⟨#[]⟩ = true := hsh
    rw [this, hnb]; simp
  have hm := meet_kids cs 256 op kids ⟨#[]⟩ 0 0 (by omega)
  rw [if_neg (by omega)] at hm
  have hok : okD cs 258 (.mk op [] kids ⟨#[]⟩) := ⟨⟨hsh, hnb⟩, fun ho => by omega, fun _ c hc => hk c hc⟩
  have hin := meet_in cs 258 _ hok 257 0 false 0
  have e : refF cs (.mk op [] kids ⟨#[]⟩) d = if kids.all (canB 15) = true then (meetF cs 257 (.mk op [] kids ⟨#[]⟩) 0 false 0).1 else 1 := by
    unfold refF
    rw [if_neg p1, hr]
    cases hb : kids.all (canB 15) with
    | false => simp
    | true => rw [if_neg (by simp), if_neg (by rw [p2]; simp), if_neg (by rw [p3]; simp), if_pos rfl]
  constructor
  · rw [e, hm]
  · rw [e]
    split
    · rcases hin with h | h
      · exact .inl h
      · exact .inr (.inr h)
    · exact .inr (.inl rfl)
theorem hasB_and (a b : Nat) (d : Int) : hasB (a &&& b) d = (hasB a d && hasB b d) := by
  unfold hasB
  rw [Nat.testBit_and]
  cases decide (1 ≤ d ∧ d ≤ 31) <;> simp
theorem hasB_or (a b : Nat) (d : Int) : hasB (a ||| b) d = (hasB a d || hasB b d) := by
  unfold hasB
  rw [Nat.testBit_or]
  cases decide (1 ≤ d ∧ d ≤ 31) <;> simp
theorem hasB_not (a : Nat) (s d : Int) (ha : a < 2147483648) (h1 : 1 ≤ d) (h2 : d ≤ s) (h3 : s ≤ 31) : hasB (difN (allN s) a) d = !hasB a d := by
  unfold hasB
  have hl := allN_lt s
  rw [difN_bit _ _ (by omega) (by omega), allN_bit]
  have e : (((d.toNat - 1 : Nat) : Int) < s ∧ d.toNat - 1 < 31) := by omega
  have e2 : (1 ≤ d ∧ d ≤ 31) := by omega
  simp [e, e2]
theorem daysF_op7 (cs : List (ByteArray × Nd)) (M : Mo) (k : Nat) (x y : Nd) (nm : ByteArray) : daysF cs M (k + 1) (.mk 7 [] [x, y] nm) = daysF cs M k x &&& daysF cs M k y := by rw [daysF]; simp
theorem daysF_op8 (cs : List (ByteArray × Nd)) (M : Mo) (k : Nat) (x y : Nd) (nm : ByteArray) : daysF cs M (k + 1) (.mk 8 [] [x, y] nm) = daysF cs M k x ||| daysF cs M k y := by rw [daysF]; simp
theorem daysF_op9 (cs : List (ByteArray × Nd)) (M : Mo) (k : Nat) (x : Nd) (nm : ByteArray) : daysF cs M (k + 1) (.mk 9 [] [x] nm) = difN (allN M.s) (daysF cs M k x) := by rw [daysF]; simp
theorem inF_ok {cs : List (ByteArray × Nd)} {t : Nd} {d : Int} (h : refF cs t d = 0) : inF cs t d = (inB cs 257 t d, 0) := by unfold inF; rw [if_pos h]
theorem inF_snd (cs : List (ByteArray × Nd)) (t : Nd) (d : Int) : (inF cs t d).2 = refF cs t d := by
  unfold inF
  split
  · rename_i h; rw [h]
  · rfl
theorem sets_plain {cs : List (ByteArray × Nd)} {x y : Nd} {d : Int} {a b : Bool} (hx : inF cs x d = (a, 0)) (hy : inF cs y d = (b, 0)) :
    ∃ p g q h r i, inF cs (.mk 7 [] [x, y] ⟨#[]⟩) d = (p, g) ∧ inF cs (.mk 8 [] [x, y] ⟨#[]⟩) d = (q, h) ∧ inF cs (.mk 9 [] [x] ⟨#[]⟩) d = (r, i) ∧
      (g = 1 ∨ g = 23 ∨ (g = 0 ∧ i = 1) ∨ (g = 0 ∧ i = 23) ∨ (g = 0 ∧ h = 0 ∧ i = 0 ∧ p = (a && b) ∧ q = (a || b) ∧ r = !a)) := by
  have rx : refF cs x d = 0 := by have := inF_snd cs x d; rw [hx] at this; exact this.symm
  have ry : refF cs y d = 0 := by have := inF_snd cs y d; rw [hy] at this; exact this.symm
  obtain ⟨-, d1, d2, okx, -⟩ := refF_ok rx
  obtain ⟨-, -, -, oky, -⟩ := refF_ok ry
  have hk2 : ∀ c ∈ [x, y], okD cs 257 c := by intro c hc; simp at hc; rcases hc with rfl | rfl <;> assumption
  have hk1 : ∀ c ∈ [x], okD cs 257 c := by intro c hc; simp at hc; subst hc; exact okx
  obtain ⟨e7, r7⟩ := ref_join rx 7 [x, y] hk2 (by omega) (by show shapeB 7 0 2 ⟨#[]⟩ = true; decide +kernel)
  obtain ⟨e8, r8⟩ := ref_join rx 8 [x, y] hk2 (by omega) (by show shapeB 8 0 2 ⟨#[]⟩ = true; decide +kernel)
  obtain ⟨e9, r9⟩ := ref_join rx 9 [x] hk1 (by omega) (by show shapeB 9 0 1 ⟨#[]⟩ = true; decide +kernel)
  have h78 : refF cs (.mk 8 [] [x, y] ⟨#[]⟩) d = refF cs (.mk 7 [] [x, y] ⟨#[]⟩) d := e8.trans e7.symm
  refine ⟨(inF cs (.mk 7 [] [x, y] ⟨#[]⟩) d).1, (inF cs (.mk 7 [] [x, y] ⟨#[]⟩) d).2, (inF cs (.mk 8 [] [x, y] ⟨#[]⟩) d).1, (inF cs (.mk 8 [] [x, y] ⟨#[]⟩) d).2, (inF cs (.mk 9 [] [x] ⟨#[]⟩) d).1, (inF cs (.mk 9 [] [x] ⟨#[]⟩) d).2, rfl, rfl, rfl, ?_⟩
  rw [inF_snd, inF_snd, inF_snd, h78]
  rcases r7 with h0 | h1 | h2
  · rcases r9 with i0 | i1 | i2
    · refine .inr (.inr (.inr (.inr ⟨h0, h0, i0, ?_⟩)))
      rw [inF_ok h0, inF_ok (h78.trans h0), inF_ok i0]
      simp only
      obtain ⟨-, -, -, ok7, -⟩ := refF_ok h0
      obtain ⟨-, -, k7⟩ := ok7
      have ox := k7 (by omega) x (by simp)
      have oy := k7 (by omega) y (by simp)
      obtain ⟨M, hM, m1, m2⟩ := mo_ex d1 d2
      have hbd := isMo_bd hM
      have ea : a = hasB (daysF cs M 256 x) (d - M.f + 1) := by
        have : (inF cs x d).1 = a := by rw [hx]
        rw [inF_ok rx] at this
        rw [← this, ← inB_eq hM m1 m2, daysF_up cs M 256 x ox]
      have eb : b = hasB (daysF cs M 256 y) (d - M.f + 1) := by
        have : (inF cs y d).1 = b := by rw [hy]
        rw [inF_ok ry] at this
        rw [← this, ← inB_eq hM m1 m2, daysF_up cs M 256 y oy]
      rw [← inB_eq hM m1 m2, ← inB_eq hM m1 m2, ← inB_eq hM m1 m2, daysF_op7, daysF_op8, daysF_op9, hasB_and, hasB_or, hasB_not _ _ _ (daysF_lt cs M 256 x) (by omega) (by omega) (by omega), ea, eb]
      exact ⟨rfl, rfl, rfl⟩
    · exact .inr (.inr (.inl ⟨h0, i1⟩))
    · exact .inr (.inr (.inr (.inl ⟨h0, i2⟩)))
  · exact .inl h1
  · exact .inr (.inl h2)
end Go.Proofs.YthbfjkdklnffjaaDoor
