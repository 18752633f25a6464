/- Package cal: the days of a node in a month, as a plain function; what refuse lets by. -/
import Derived.Test.YtkpgfhapffijkaaGreatDoorR32
import Derived.Test.YtkpgfhapffijkaaGreatDoorR05
import Derived.Maps.OwnSet
import Derived.Maps.Views
import Derived.DeepKeys4
namespace Go.Proofs.YtkpgfhapffijkaaGreatDoor
open Go.ChangeShapes Go.WideShapes Go.ChangeAt Go.RowKit Go.DsMem Go.DsMk
set_option linter.unusedVariables false
/-- a month: year, number, first day, size -/
structure Mo where
  y : Int
  m : Int
  f : Int
  s : Int
def Mo.ok (M : Mo) : Prop := IsMo M.y M.m M.f M.s
def Mo.val (M : Mo) : Value := moV M.y M.m M.f M.s
/-- the days of a node in a month -/
def daysF (cs : List (ByteArray × Nd)) (M : Mo) : Nat → Nd → Nat
  | 0, _ => 0
  | k + 1, .mk op ns kids nm =>
    if op = 1 then weekN (ns.getD 0 0).toNat ((M.f - 1) % 7) M.s
    else if op = 2 then theseN M.f M.s ns
    else if op = 3 then daysN M.s ns
    else if op = 4 then theseN M.f M.s [(DsCal.nres M.f M.s (ns.getD 0 0) (ns.getD 1 0)).1]
    else if op = 5 then daysN M.s [(nthL (dl ((calOf cs nm).elim 0 (daysF cs M k))) (ns.getD 0 0) : Int)]
    else if op = 6 then fisN M.y M.f M.s (ns.getD 0 0) (ns.getD 1 0)
    else if op = 7 then kids.tail.foldl (fun a c => a &&& daysF cs M k c) (kids.head?.elim 0 (daysF cs M k))
    else if op = 8 then kids.tail.foldl (fun a c => a ||| daysF cs M k c) (kids.head?.elim 0 (daysF cs M k))
    else if op = 9 then difN (allN M.s) (kids.head?.elim 0 (daysF cs M k))
    else if op = 10 then (calOf cs nm).elim 0 (daysF cs M k)
    else 0
/-- a node, and all that it goes to, can be asked, at most k nodes on -/
def okD (cs : List (ByteArray × Nd)) : Nat → Nd → Prop
  | 0, _ => False
  | k + 1, .mk op ns kids nm => (shapeB op ns.length kids.length nm = true ∧ numsB op ns = true) ∧ (op = 5 ∨ op = 10 → ∃ t, calOf cs nm = some t ∧ okD cs k t) ∧ (¬ (op = 5 ∨ op = 10) → ∀ c ∈ kids, okD cs k c)
/-- how many nodes are met behind it -/
def costF (cs : List (ByteArray × Nd)) : Nat → Nd → Nat
  | 0, _ => 0
  | k + 1, .mk op ns kids nm => if op = 10 ∨ op = 5 then 1 + (calOf cs nm).elim 0 (costF cs k) else kids.foldl (fun a c => a + costF cs k c) 1
theorem okD_up (cs : List (ByteArray × Nd)) : ∀ (k : Nat) (t : Nd), okD cs k t → okD cs (k + 1) t
  | 0, _, h => h.elim
  | k + 1, .mk op ns kids nm, ⟨h1, h2, h3⟩ => ⟨h1, fun ho => let ⟨t, ht, hk⟩ := h2 ho; ⟨t, ht, okD_up cs k t hk⟩, fun ho c hc => okD_up cs k c (h3 ho c hc)⟩
theorem foldl_cong {α : Type} (g h : α → Nd → α) (l : List Nd) (e : ∀ a c, c ∈ l → g a c = h a c) (a : α) : l.foldl g a = l.foldl h a := by
  induction l generalizing a with
  | nil => rfl
  | cons c l ih => rw [List.foldl_cons, List.foldl_cons, e a c (by simp), ih (fun a c hc => e a c (by simp [hc]))]
theorem daysF_up (cs : List (ByteArray × Nd)) (M : Mo) : ∀ (k : Nat) (t : Nd), okD cs k t → daysF cs M (k + 1) t = daysF cs M k t
  | 0, _, h => h.elim
  | k + 1, .mk op ns kids nm, ⟨h1, h2, h3⟩ => by
    have e1 : op = 5 ∨ op = 10 → (calOf cs nm).elim 0 (daysF cs M (k + 1)) = (calOf cs nm).elim 0 (daysF cs M k) := fun ho => by
      obtain ⟨t, ht, hk⟩ := h2 ho
      rw [ht]; exact daysF_up cs M k t hk
    have e2 : ¬ (op = 5 ∨ op = 10) → ∀ c ∈ kids, daysF cs M (k + 1) c = daysF cs M k c := fun ho c hc => daysF_up cs M k c (h3 ho c hc)
    have e3 : ¬ (op = 5 ∨ op = 10) → kids.head?.elim 0 (daysF cs M (k + 1)) = kids.head?.elim 0 (daysF cs M k) := fun ho => by
      cases kids with
      | nil => rfl
      | cons c l => exact e2 ho c (by simp)
    rw [daysF, daysF]
    by_cases c1 : op = 1
    · rw [if_pos c1, if_pos c1]
    rw [if_neg c1, if_neg c1]
    by_cases c2 : op = 2
    · rw [if_pos c2, if_pos c2]
    rw [if_neg c2, if_neg c2]
    by_cases c3 : op = 3
    · rw [if_pos c3, if_pos c3]
    rw [if_neg c3, if_neg c3]
    by_cases c4 : op = 4
    · rw [if_pos c4, if_pos c4]
    rw [if_neg c4, if_neg c4]
    by_cases c5 : op = 5
    · rw [if_pos c5, if_pos c5, e1 (.inl c5)]
    rw [if_neg c5, if_neg c5]
    by_cases c6 : op = 6
    · rw [if_pos c6, if_pos c6]
    rw [if_neg c6, if_neg c6]
    by_cases c10 : op = 10
    · rw [if_neg (by omega), if_neg (by omega), if_neg (by omega), if_pos c10, if_neg (by omega), if_neg (by omega), if_neg (by omega), if_pos c10, e1 (.inr c10)]
    have ho : ¬ (op = 5 ∨ op = 10) := by omega
    by_cases c7 : op = 7
    · rw [if_pos c7, if_pos c7, e3 ho, foldl_cong _ _ _ (fun a c hc => by rw [e2 ho c (List.mem_of_mem_tail hc)])]
    rw [if_neg c7, if_neg c7]
    by_cases c8 : op = 8
    · rw [if_pos c8, if_pos c8, e3 ho, foldl_cong _ _ _ (fun a c hc => by rw [e2 ho c (List.mem_of_mem_tail hc)])]
    rw [if_neg c8, if_neg c8]
    by_cases c9 : op = 9
    · rw [if_pos c9, if_pos c9, e3 ho]
    rw [if_neg c9, if_neg c9, if_neg c10, if_neg c10]
theorem okD_le {cs : List (ByteArray × Nd)} {k j : Nat} {t : Nd} (h : okD cs k t) (hj : k ≤ j) : okD cs j t := by
  obtain ⟨d, rfl⟩ := Nat.exists_eq_add_of_le hj
  clear hj
  induction d with
  | zero => exact h
  | succ d ih => exact okD_up cs (k + d) t ih
theorem daysF_le {cs : List (ByteArray × Nd)} {k j : Nat} {t : Nd} (M : Mo) (h : okD cs k t) (hj : k ≤ j) : daysF cs M j t = daysF cs M k t := by
  obtain ⟨d, rfl⟩ := Nat.exists_eq_add_of_le hj
  clear hj
  induction d with
  | zero => rfl
  | succ d ih => rw [show k + (d + 1) = (k + d) + 1 from rfl, daysF_up cs M (k + d) t (okD_le h (by omega)), ih]
/-- two depths tell the same -/
theorem daysF_eq {cs : List (ByteArray × Nd)} {k j : Nat} {t : Nd} (M : Mo) (h : okD cs k t) (g : okD cs j t) : daysF cs M k t = daysF cs M j t := by
  rcases Nat.le_total k j with hk | hk
  · exact (daysF_le M h hk).symm
  · exact daysF_le M g hk
/-- what can be, and is met with no error, can be asked -/
theorem ok_of_meet (cs : List (ByteArray × Nd)) (hcs : ∀ c ∈ cs, rightN c.2 = true) : ∀ (k : Nat) (t : Nd) (j : Nat) (refs : Nat) (inw : Bool) (met : Nat), canB j t = true → (meetF cs k t refs inw met).1 = 0 → okD cs k t ∧ met + costF cs k t ≤ (meetF cs k t refs inw met).2
  | 0, t, j, refs, inw, met, _, hm => by simp [meetF] at hm
  | k + 1, .mk op ns kids nm, 0, refs, inw, met, hr, _ => by simp [canB] at hr
  | k + 1, .mk op ns kids nm, j + 1, refs, inw, met, hr, hm => by
    unfold canB at hr
    simp only [Bool.and_eq_true] at hr
    obtain ⟨⟨hs, hn⟩, hk⟩ := hr
    unfold meetF at hm ⊢
    unfold costF
    by_cases c1 : 256 < met + 1 ∨ (op = 5 ∧ inw = true)
    · rw [if_pos c1] at hm; simp at hm
    rw [if_neg c1] at hm ⊢
    by_cases c2 : op = 10 ∨ op = 5
    · rw [if_pos c2] at hm ⊢
      rw [if_pos c2]
      cases hc : calOf cs nm with
      | none => rw [hc] at hm; simp at hm
      | some t =>
        rw [hc] at hm
        simp only at hm ⊢
        by_cases c3 : refs = 24
        · rw [if_pos c3] at hm; simp at hm
        rw [if_neg c3] at hm ⊢
        have hrt : canB 16 t = true := by
          unfold calOf at hc
          rw [Option.map_eq_some_iff] at hc
          obtain ⟨c, hc1, rfl⟩ := hc
          exact hcs c (List.mem_of_getElem? hc1)
        obtain ⟨h1, h2⟩ := ok_of_meet cs hcs k t 16 (refs + 1) (inw || op == 5) (met + 1) hrt hm
        exact ⟨⟨⟨hs, hn⟩, fun _ => ⟨t, hc, h1⟩, fun ho => absurd c2 (by omega)⟩, by simp only [Option.elim]; omega⟩
    · rw [if_neg c2] at hm ⊢
      rw [if_neg c2]
      have key : ∀ (l : List Nd) (m : Nat) (a : Nat), (∀ c ∈ l, canB j c = true) → (l.foldl (fun st k_1 => if st.1 ≠ 0 then st else meetF cs k k_1 refs inw st.2) ((0 : Int), m)).1 = 0 → (∀ c ∈ l, okD cs k c) ∧ m + (l.foldl (fun a c => a + costF cs k c) a) ≤ a + (l.foldl (fun st k_1 => if st.1 ≠ 0 then st else meetF cs k k_1 refs inw st.2) ((0 : Int), m)).2 := by
        intro l
        induction l with
        | nil => intro m a _ _; exact ⟨fun c hc => by simp at hc, by simp; omega⟩
        | cons c l ih =>
          intro m a hl h0
          rw [List.foldl_cons] at h0
          rw [List.foldl_cons, List.foldl_cons]
          rw [if_neg (by simp)] at h0 ⊢
          generalize hq : meetF cs k c refs inw m = q at h0 ⊢
          obtain ⟨q1, q2⟩ := q
          by_cases e0 : q1 = 0
          · subst e0
            obtain ⟨h1, h2⟩ := ok_of_meet cs hcs k c j refs inw m (hl c (by simp)) (by rw [hq])
            rw [hq] at h2
            obtain ⟨h3, h4⟩ := ih q2 (a + costF cs k c) (fun c hc => hl c (by simp [hc])) h0
            refine ⟨fun d hd => ?_, by simp only at h2; omega⟩
            rw [List.mem_cons] at hd
            rcases hd with rfl | hd
            · exact h1
            · exact h3 d hd
          · exfalso
            have := metK_err cs k refs inw m [c] l (by unfold metK; simp only [List.foldl_cons, List.foldl_nil]; rw [if_neg (by simp), hq]; exact e0)
            unfold metK at this
            simp only [List.foldl_append, List.foldl_cons, List.foldl_nil] at this
            rw [if_neg (by simp), hq] at this
            rw [this] at h0
            exact e0 h0
      obtain ⟨h1, h2⟩ := key kids (met + 1) 1 (fun c hc => List.all_eq_true.1 hk c hc) hm
      exact ⟨⟨⟨hs, hn⟩, fun ho => absurd ho (by omega), fun _ c hc => h1 c hc⟩, by omega⟩
end Go.Proofs.YtkpgfhapffijkaaGreatDoor

/- Package cal: the map of what was asked. -/
namespace Go.Proofs.YtkpgfhapffijkaaGreatDoor
open Go.ChangeShapes Go.WideShapes Go.ChangeAt Go.RowKit Go.DsMem Go.DsMk
set_option linter.unusedVariables false
theorem askedRow : 280 < Tryz.prog.types.size := of_decide_eq_true (by kernel_rfl)
theorem askedLaw : Maps.Keyed Tryz.prog 280 := Maps.Keyed.of_law (deep_law_laid laidOutK (m := 4) (by decide) askedRow (by kernel_rfl) (by kernel_rfl))
theorem askedType : Tryz.prog.keyType 280 = true := by kernel_rfl
theorem askedCells : Tryz.prog.cellsOf 280 = 2 := by kernel_rfl
theorem int1 : Tryz.prog.cellsOf 3 = 1 := by kernel_rfl
theorem int641 : Tryz.prog.cellsOf 2 = 1 := by kernel_rfl
def askV (c : Nat) (f : Int) : Value := .agg #[.int .i64 c, .int .i64 f]
theorem wf64 {n : Int} (h1 : -9223372036854775808 ≤ n) (h2 : n ≤ 9223372036854775807) : (Lit.int .i64 n).wf = true := WalkArith.wf_i64 ⟨h1, h2⟩
theorem asked_key (c : Nat) (f : Int) (hc : c ≤ 1000000) (h1 : 1 ≤ f) (h2 : f ≤ 3652059) : ∃ kl, keyOf Tryz.prog 280 (askV c f) = some kl := by
  have w1 : (Lit.int .i64 (c : Int)).wf = true := wf64 (by omega) (by omega)
  have w2 : (Lit.int .i64 f).wf = true := wf64 (by omega) (by omega)
  unfold keyOf askV
  rw [Tryz.underlying280]
  simp only
  rw [if_pos (by rw [askedType]; simp [Value.formed, Tryz.underlying280, askedCells])]
  have hsz : ∃ m, Tryz.prog.types.size = m + 1 := ⟨Tryz.prog.types.size - 1, by have := askedRow; omega⟩
  obtain ⟨m, hm⟩ := hsz
  rw [hm]
  unfold Program.keyLits
  rw [Tryz.underlying280]
  simp [Value.cells, askedCells, Program.keyLits, Tryz.underlying3, Tryz.underlying2, int1, int641, w1, w2]
end Go.Proofs.YtkpgfhapffijkaaGreatDoor

/- Package cal: what was asked already; the walk of named. -/
namespace Go.Proofs.YtkpgfhapffijkaaGreatDoor
open Go.ChangeShapes Go.WideShapes Go.ChangeAt Go.RowKit Go.DsMem Go.DsMk
set_option linter.unusedVariables false
theorem mo_eq {M N : Mo} (hM : M.ok) (hN : N.ok) (h : M.f = N.f) : M = N := by
  obtain ⟨y, m, f, s⟩ := M
  obtain ⟨y', m', f', s'⟩ := N
  obtain ⟨v1, hf, hs⟩ := hM
  obtain ⟨v2, hf', hs'⟩ := hN
  simp only at h v1 v2 hf hs hf' hs'
  subst hf hs hf' hs'
  obtain ⟨rfl, rfl, _⟩ := DsCal.num_inj v1 v2 h
  rfl
/-- the map in block B, of at most n entries, tells the days of calendars in months -/
def Memo (cs : List (ByteArray × Nd)) (w : World) (B n : Nat) : Prop :=
  ∃ D : DataW Unit, w.ownsMap Tryz.prog 280 (plainElem Tryz.prog 224) B n D ∧ Maps.IsMap D ∧
    ∀ (c : Nat) (hc : c < cs.length) (M : Mo) (kl : Lit), M.ok → keyOf Tryz.prog 280 (askV c M.f) = some kl → Maps.has D kl = true → ∃ k, okD cs k cs[c].2 ∧ D.atKey kl (.lit (.int .u32 0)) = .lit (.int .u32 (daysF cs M k cs[c].2))
theorem Memo.same {cs : List (ByteArray × Nd)} {w w' : World} {B n : Nat} (h : Memo cs w B n) (hb : w'.heap[B]? = w.heap[B]?) : Memo cs w' B n := by
  obtain ⟨D, ⟨es, clock, h1, h2⟩, h3⟩ := h
  exact ⟨D, ⟨es, clock, by rw [hb]; exact h1, h2⟩, h3⟩
theorem Memo.lt {cs : List (ByteArray × Nd)} {w : World} {B n : Nat} (h : Memo cs w B n) : B < w.heap.size := by
  obtain ⟨D, ⟨es, clock, h1, h2⟩, h3⟩ := h
  exact block_lt h1
theorem Memo.below {cs : List (ByteArray × Nd)} {w w' : World} {B n : Nat} (h : Memo cs w B n) (hb : Below w.heap.size w w') : Memo cs w' B n := h.same (hb.block B h.lt)
theorem askV_inj {c c' : Nat} {f f' : Int} (h : askV c f = askV c' f') : c = c' ∧ f = f' := by
  unfold askV at h
  simp at h
  exact ⟨by omega, h.2⟩
/-- what a call that asks does -/
def Dayd (cs : List (ByteArray × Nd)) (w : World) (B n : Nat) (r : Nat) (e : Ending) (w' : World) : Prop := e = .returned (.int .u32 r) ∧ (∃ n', n' ≤ n ∧ Memo cs w' B n') ∧ Only (· = B) w w'
theorem Dayd.of {cs : List (ByteArray × Nd)} {w w' : World} {B n r : Nat} {e : Ending} (h : e = .returned (.int .u32 r) ∧ (∃ n', n' ≤ n ∧ Memo cs w' B n') ∧ Only (· = B) w w') : Dayd cs w B n r e w' := h
def askrV (co : Option Addr) (cl cc B : Nat) : Value := .agg #[.slice co cl cc, .map (some B)]
/-- days are asked, at most k nodes on -/
def DaysOk (k : Nat) : Prop := ∀ (t : Nd) (v : NVal) (M : Mo) (n : Nat) (W w : World) (B : Nat) (co : Option Addr) (cc : Nat) (cs : List (ByteArray × Nd)) (g o : Nat) (V : Nat → NVal),
  Gc W w → W.heap.size ≤ B → NdAt W v t → CalsAt W co cc cs g o V → cs.length ≤ 24 → Memo cs w B n → M.ok → okD cs k t → n + costF cs k t ≤ 100000 →
  Calls Tryz.prog 127 #[askrV co cs.length cc B, v.val, M.val] w (Dayd cs w B (n + costF cs k t) (daysF cs M k t))
theorem daysF_lt (cs : List (ByteArray × Nd)) (M : Mo) : ∀ (k : Nat) (t : Nd), daysF cs M k t < 2147483648
  | 0, _ => by simp [daysF]
  | k + 1, .mk op ns kids nm => by
    have hh : ∀ o : Option Nd, o.elim 0 (daysF cs M k) < 2147483648 := fun o => by cases o with
      | none => show (0 : Nat) < 2147483648; decide
      | some t => exact daysF_lt cs M k t
    unfold daysF
    repeat' split
    · exact weekN_lt _ _ _
    · exact theseN_lt _ _ _
    · exact daysN_lt _ _
    · exact theseN_lt _ _ _
    · exact daysN_lt _ _
    · exact fiY_lt _ _ _ _ _ _
    · exact foldl_keep (fun a b : Nat => a < 2147483648 → b < 2147483648) (fun _ h => h) (fun _ _ _ h1 h2 h => h2 (h1 h)) _ _ (fun a c _ ha => Nat.lt_of_le_of_lt Nat.and_le_left ha) _ (hh _)
    · exact foldl_keep (fun a b : Nat => a < 2147483648 → b < 2147483648) (fun _ h => h) (fun _ _ _ h1 h2 h => h2 (h1 h)) _ _ (fun a c _ ha => Nat.or_lt_two_pow (n := 31) ha (daysF_lt cs M k c)) _ (hh _)
    · exact difN_lt31 _ _ (allN_lt _)
    · exact hh _
    · decide
/-- a calendar's days, laid into the map -/
theorem Memo.put {cs : List (ByteArray × Nd)} {w w' : World} {B n c : Nat} {M : Mo} {kl : Lit} {D : DataW Unit} {k : Nat} (hc : c < cs.length) (hM : M.ok) (hkl : keyOf Tryz.prog 280 (askV c M.f) = some kl) (hk : okD cs k cs[c].2)
    (hD : Maps.IsMap D) (hold : ∀ (c : Nat) (hc : c < cs.length) (M : Mo) (kl : Lit), M.ok → keyOf Tryz.prog 280 (askV c M.f) = some kl → Maps.has D kl = true → ∃ k, okD cs k cs[c].2 ∧ D.atKey kl (.lit (.int .u32 0)) = .lit (.int .u32 (daysF cs M k cs[c].2)))
    (hown : w'.ownsMap Tryz.prog 280 (plainElem Tryz.prog 224) B (n + 1) (D.put kl (.lit (.int .u32 (daysF cs M k cs[c].2))))) : Memo cs w' B (n + 1) := by
  refine ⟨_, hown, ?_, fun c' hc' M' kl' hM' hkl' hh => ?_⟩
  · obtain ⟨es, rfl⟩ := hD; exact ⟨_, rfl⟩
  · by_cases e : kl' = kl
    · subst e
      obtain ⟨rfl, hf⟩ := askV_inj (askedLaw.inj hkl' hkl)
      obtain rfl := mo_eq hM' hM hf
      exact ⟨k, hk, Maps.atKey_put_same hD (askedLaw.key hkl) _ _⟩
    · rw [Maps.has_put_other e] at hh
      obtain ⟨k', h1, h2⟩ := hold c' hc' M' kl' hM' hkl' hh
      exact ⟨k', h1, by rw [Maps.atKey_put_other e]; exact h2⟩
end Go.Proofs.YtkpgfhapffijkaaGreatDoor

/- Package cal: the walk of named. -/
namespace Go.Proofs.YtkpgfhapffijkaaGreatDoor
open Go.ChangeShapes Go.WideShapes Go.ChangeAt Go.RowKit Go.DsMem Go.DsMk
set_option linter.unusedVariables false
theorem bcell {W w1 : World} (hb : Below W.heap.size W w1) : (∀ b o, b < W.heap.size → w1.cell? ⟨b, o, none⟩ = W.cell? ⟨b, o, none⟩) ∧ (∀ b o, b < W.heap.size → w1.frozen? ⟨b, o, none⟩ = W.frozen? ⟨b, o, none⟩) :=
  ⟨fun b o h => hb.cell (p := ⟨b, o, none⟩) h, fun b o h => hb.frozen (p := ⟨b, o, none⟩) h⟩
theorem Gc.setc {W w : World} (h : Gc W w) {p : Nat} (hp : W.heap.size ≤ p) (k : Nat) (x : Value) : Gc W (w.setCell ⟨p, k, none⟩ x) := ⟨h.bits, h.len, h.shp, h.below.setCell hp _⟩
theorem wf32 {n : Int} (h1 : 0 ≤ n) (h2 : n ≤ 4294967295) : (Lit.int .u32 n).wf = true := by
  have e1 : IntKind.u32.min = 0 := rfl
  have e2 : IntKind.u32.max = 4294967295 := rfl
  simp [Lit.wf, e1, e2]; omega
/-- the key lies in block q -/
def KeyIn (wA w : World) (q : Nat) (c f : Int) : Prop := w.heap[q]? = some (.cells #[.int .i64 c, .int .i64 f] 280 (0, 0)) ∧ Gc wA w ∧ wA.heap.size ≤ q
theorem zeroMonth (w : World) : (zeroValue 224).run Tryz.prog w = .ok (.int .u32 0) w := by kernel_rfl
set_option maxHeartbeats 8000000 in
set_option maxRecDepth 20000 in
/-- cal.asker.named -/
theorem named_step (k : Nat) (ih : DaysOk k) (nm : ByteArray) (t : Nd) (M : Mo) (n : Nat) (W w : World) (B : Nat) (co : Option Addr) (cc : Nat) (cs : List (ByteArray × Nd)) (g o : Nat) (V : Nat → NVal)
    (h : Gc W w) (hp : W.heap.size ≤ B) (hc : CalsAt W co cc cs g o V) (h24 : cs.length ≤ 24) (hm : Memo cs w B n) (hM : M.ok) (hcal : calOf cs nm = some t) (hk : okD cs k t) (hn : n + (1 + costF cs k t) ≤ 100000) :
    Calls Tryz.prog 154 #[askrV co cs.length cc B, .string nm, M.val] w (Dayd cs w B (n + (1 + costF cs k t)) (daysF cs M k t)) := by
  obtain ⟨b1, b2, b3, b4, b5, b6, b7, b8⟩ := isMo_bd hM
  have HIH := hide ih
  have HG := hide h
  have HC := hide hc
  have HMM := hide hm
  have HMO := hide hM
  have HK := hide hk
  clear ih h hc hm hM hk
  have hfi : fiC cs nm < cs.length := by
    rcases Nat.lt_or_ge (fiC cs nm) cs.length with h | h
    · exact h
    · rw [calOf_none (by omega)] at hcal; cases hcal
  have HV : Hid (fiV cs nm = (fiC cs nm : Int)) := by show _ = _; unfold fiV; rw [if_pos hfi]
  obtain ⟨i, hi⟩ : ∃ i, fiC cs nm = i := ⟨_, rfl⟩
  have HT : Hid (∀ hj : i < cs.length, cs[i].2 = t) := fun hj => by
    have := calOf_some hfi
    rw [hcal] at this
    subst hi
    exact (Option.some.inj this).symm
  rw [hi] at HV hfi
  clear hi hcal
  have hB : B < w.heap.size := HMM.out.lt
  unfold askrV Mo.val moV
  go_enter Tryz.func154, Tryz.ntmps154
  go_wp2
  obtain ⟨wB, hwB⟩ : ∃ wB, wB = w.alloc (.cells #[.slice co cs.length cc, .map (some B)] 181) := ⟨_, rfl⟩
  have hbx : wB.heap[w.heap.size]? = some (.cells #[.slice co cs.length cc, .map (some B)] 181 (0, 0)) := by rw [hwB]; exact heap_alloc_new w _
  have HZ : Hid (w.heap.size + 1 = wB.heap.size) := by rw [hwB]; show _ = _; simp
  have HBL : Hid (Below w.heap.size w wB) := by rw [hwB]; exact (Below.refl _ _).alloc (Nat.le_refl _) _
  rw [← hwB, HZ.out]
  clear hwB
  obtain ⟨wA, hwA⟩ : ∃ wA, wA = wB.alloc (.cells #[.int .i64 M.y, .int .i64 M.m, .int .i64 M.f, .int .i64 M.s] 222) := ⟨_, rfl⟩
  have hmo : wA.heap[wB.heap.size]? = some (.cells #[.int .i64 M.y, .int .i64 M.m, .int .i64 M.f, .int .i64 M.s] 222 (0, 0)) := by rw [hwA]; exact heap_alloc_new wB _
  have hax : wA.heap[w.heap.size]? = some (.cells #[.slice co cs.length cc, .map (some B)] 181 (0, 0)) := by rw [hwA]; exact heap_keep hbx
  have HBA : Hid (Below w.heap.size w wA) := by rw [hwA]; exact HBL.out.trans (((Below.refl _ _).alloc (Nat.le_refl _) _).mono HBL.out.size)
  rw [← hwA]
  clear hwA hbx
  have HMOB := hide hmo
  have HASK := hide hax
  clear hmo hax
  generalize hp5 : wB.heap.size = p5 at HMOB HZ ⊢
  generalize hp3 : w.heap.size = p3 at HASK HZ ⊢
  have HGA : Hid (Gc W wA) := HG.out.more HBA.out
  have HMA : Hid (Memo cs wA B n) := HMM.out.below HBA.out
  have CEL : Hid (∀ w', Below wA.heap.size wA w' → w'.cell? ⟨p3, 0, none⟩ = some (.slice co cs.length cc) ∧ w'.cell? ⟨p3, 1, none⟩ = some (.map (some B)) ∧ w'.cell? ⟨p5, 0, none⟩ = some (.int .i64 M.y) ∧ w'.cell? ⟨p5, 1, none⟩ = some (.int .i64 M.m) ∧ w'.cell? ⟨p5, 2, none⟩ = some (.int .i64 M.f) ∧ w'.cell? ⟨p5, 3, none⟩ = some (.int .i64 M.s)) := fun w' hb => by
    have e1 := (hb.block p3 (block_lt HASK.out)).trans HASK.out
    have e2 := (hb.block p5 (block_lt HMOB.out)).trans HMOB.out
    exact ⟨by rw [cell_of e1]; rfl, by rw [cell_of e1]; rfl, by rw [cell_of e2]; rfl, by rw [cell_of e2]; rfl, by rw [cell_of e2]; rfl, by rw [cell_of e2]; rfl⟩
  obtain ⟨a0, a1, m0, m1, m2, m3⟩ := CEL.out wA (Below.refl _ _)
  have hg0 : Gc wA wA.drew := HGA.out.here.drew
  have KP : Hid (∀ w', Gc wA w' → w'.cell? ⟨p3, 0, none⟩ = some (.slice co cs.length cc) ∧ w'.cell? ⟨p5, 2, none⟩ = some (.int .i64 M.f)) := fun w' hw => ⟨(CEL.out w' hw.below).1, (CEL.out w' hw.below).2.2.2.2.1⟩
  have HCA : Hid (∀ w', Gc wA w' → CalsAt w' co cc cs g o V) := fun w' hw => HC.out.grew (HGA.out.more hw.below).below
  first
    | (go_region_held3 (fun w' => w'.cell? ⟨p3, 0, none⟩ = some (.slice co cs.length cc) ∧ w'.cell? ⟨p5, 2, none⟩ = some (.int .i64 M.f)) (first | go_keep | (exact KP.out _ (by assumption)) | (exact KP.out _ (Gc.alloc (by assumption) _)) | (exact KP.out _ (Gc.setc (Gc.setc (by assumption) (Nat.le_refl _) _ _) (Nat.le_refl _) _ _)))
      ((go_at_call 179; refine (Gc.find (Gc.here (W := wA) (by first | exact hg0 | exact Gc.alloc hg0 _)) co cc cs g o V (by first | exact HCA.out _ hg0 | exact HCA.out _ (Gc.alloc hg0 _)) nm).mono ?_; rintro e w1 ⟨rfl, hgF⟩; obtain ⟨hcc, hff⟩ := bcell hgF.below; have hzz := hgF.below.size; simp at hcc hff hzz; have hgG : Gc wA w1 := by first | exact Gc.more hg0 hgF.below | exact Gc.more (Gc.alloc hg0 _) hgF.below)))
    | fail
  · obtain ⟨w2, hw2⟩ : ∃ w2, w2 = w1.alloc (.cells #[.int .i64 (fiV cs nm), .int .i64 M.f] 280) := ⟨_, rfl⟩
    have HKI : Hid (KeyIn wA w2 w1.heap.size (fiV cs nm) M.f) := by rw [hw2]; exact ⟨heap_alloc_new w1 _, hgG.alloc _, hgG.below.size⟩
    rw [← hw2]
    generalize w1.heap.size = q at HKI ⊢
    clear hw2 hcc hff hzz hgG hgF hg0 KP a0 a1 m0 m1 m2 m3
    have HG2 : Hid (Gc wA w2) := HKI.out.2.1
    have HM2 : Hid (Memo cs w2 B n) := HMA.out.below HG2.out.below
    obtain ⟨a0, a1, m0, m1, m2, m3⟩ := CEL.out w2 HG2.out.below
    have q0 : w2.cell? ⟨q, 0, none⟩ = some (.int .i64 i) := by rw [cell_of HKI.out.1, HV.out]; rfl
    have q1 : w2.cell? ⟨q, 1, none⟩ = some (.int .i64 M.f) := by rw [cell_of HKI.out.1]; rfl
    rw [HV.out]
    obtain ⟨kl, hkl⟩ := asked_key i M.f (by omega) b5 b6
    have HKL := hide hkl
    obtain ⟨D, hown, hD, hold⟩ := HM2.out
    have HOWN := hide hown
    have HDD := hide hD
    have HOLD := hide hold
    clear hkl hown hD hold
    have hNB : n < 200000 := by omega
    go_wp2_with (at_lookup; refine Hid.out ?_)
    refine hide ?_
    refine wpList_lookup_own_ok_int _ rfl _ _ 179 rfl 280 224 .u32 askedLaw Tryz.underlying179 Tryz.underlying224 (zeroMonth _) B n D rfl HOWN.out _ kl rfl HKL.out ?_
    intro c hat hwc
    obtain ⟨bh, hbh⟩ : ∃ b, Maps.has D kl = b := ⟨_, rfl⟩
    rw [hbh]
    have HBH := hide hbh
    have HAT := hide hat
    clear hbh hat hwc
    cases bh
    · obtain rfl := HC.out.at_ (by omega)
      have HBW : Hid (∀ a u, W.cell? a = some u → w2.cell? a = some u) := fun a u hc => Below.keeps (HGA.out.more HG2.out.below).below (Nat.le_refl _) hc
      obtain ⟨n0, n1, n2, n3⟩ := (HC.out.cell i hfi).mono HBW.out
      have HND : Hid (NdAt W (V i) t) := by have := HC.out.node i hfi; rw [HT.out hfi] at this; exact this
      have hgB : ¬ g = B := fun e => by have := World.block_lt_of_cell? W _ (HC.out.name i hfi); simp at this; omega
      have hq : wA.heap.size ≤ q := HKI.out.2.2
      have hwz : w.heap.size ≤ wA.heap.size := HBA.out.size
      have h3B : ¬ p3 = B := by omega
      have h5B : ¬ p5 = B := by have := HZ.out; omega
      have hqB : ¬ q = B := by omega
      generalize V i = kv at *
      have HGD : Hid (Gc W w2.drew) := (HGA.out.more HG2.out.below).drew
      have HMD : Hid (Memo cs w2.drew B n) := HM2.out.below (Below.refl _ _).drew
      have HCALL := hide (HIH.out t kv M n W w2.drew B (some ⟨g, o, none⟩) cc cs g o V HGD.out hp HND.out HC.out h24 HMD.out HMO.out HK.out (by omega))
      unfold askrV NVal.val ndV Mo.val moV at HCALL
      have CEL2 : Hid (∀ w', Only (· = B) w2.drew w' → (w'.cell? ⟨p3, 0, none⟩ = some (.slice (some ⟨g, o, none⟩) cs.length cc) ∧ w'.cell? ⟨p3, 1, none⟩ = some (.map (some B)) ∧ w'.cell? ⟨p5, 0, none⟩ = some (.int .i64 M.y) ∧ w'.cell? ⟨p5, 1, none⟩ = some (.int .i64 M.m) ∧ w'.cell? ⟨p5, 2, none⟩ = some (.int .i64 M.f) ∧ w'.cell? ⟨p5, 3, none⟩ = some (.int .i64 M.s)) ∧ (w'.cell? ⟨q, 0, none⟩ = some (.int .i64 i) ∧ w'.cell? ⟨q, 1, none⟩ = some (.int .i64 M.f)) ∧
          (w'.cell? ⟨g, o + i * 5 + 1, none⟩ = some (.int .i64 kv.op) ∧ w'.cell? ⟨g, o + i * 5 + 1 + 1, none⟩ = some (.slice kv.no kv.nl kv.nc) ∧ w'.cell? ⟨g, o + i * 5 + 1 + 2, none⟩ = some (.slice kv.ko kv.kl kv.kc) ∧ w'.cell? ⟨g, o + i * 5 + 1 + 3, none⟩ = some (.string kv.nm))) := fun w' ho =>
        ⟨⟨ho.cell (w := w2.drew) a0 h3B, ho.cell (w := w2.drew) a1 h3B, ho.cell (w := w2.drew) m0 h5B, ho.cell (w := w2.drew) m1 h5B, ho.cell (w := w2.drew) m2 h5B, ho.cell (w := w2.drew) m3 h5B⟩, ⟨ho.cell (w := w2.drew) q0 hqB, ho.cell (w := w2.drew) q1 hqB⟩, ho.cell (w := w2.drew) n0 hgB, ho.cell (w := w2.drew) n1 hgB, ho.cell (w := w2.drew) n2 hgB, ho.cell (w := w2.drew) n3 hgB⟩
      have i0 : (0 : Int) ≤ (i : Int) := by omega
      have il : (i : Int) < (cs.length : Int) := by omega
      clear hgB hq hwz h3B h5B hqB
      go_wp2
      first
        | (go_region_held3 (fun w' => w'.cell? ⟨p3, 0, none⟩ = some (.slice (some ⟨g, o, none⟩) cs.length cc) ∧ w'.cell? ⟨p3, 1, none⟩ = some (.map (some B)) ∧ w'.cell? ⟨p5, 0, none⟩ = some (.int .i64 M.y) ∧ w'.cell? ⟨p5, 1, none⟩ = some (.int .i64 M.m) ∧ w'.cell? ⟨p5, 2, none⟩ = some (.int .i64 M.f) ∧ w'.cell? ⟨p5, 3, none⟩ = some (.int .i64 M.s) ∧ w'.cell? ⟨q, 0, none⟩ = some (.int .i64 i) ∧ w'.cell? ⟨g, o + i * 5 + 1, none⟩ = some (.int .i64 kv.op) ∧ w'.cell? ⟨g, o + i * 5 + 1 + 1, none⟩ = some (.slice kv.no kv.nl kv.nc) ∧ w'.cell? ⟨g, o + i * 5 + 1 + 2, none⟩ = some (.slice kv.ko kv.kl kv.kc) ∧ w'.cell? ⟨g, o + i * 5 + 1 + 3, none⟩ = some (.string kv.nm))
            (first | go_keep | (have hx := CEL2.out _ (by assumption); exact ⟨hx.1.1, hx.1.2.1, hx.1.2.2.1, hx.1.2.2.2.1, hx.1.2.2.2.2.1, hx.1.2.2.2.2.2, hx.2.1.1, hx.2.2⟩))
            ((go_at_call 127; refine HCALL.out.mono ?_; rintro e w3 ⟨rfl, hmem, hon⟩)))
        | fail
      have HMEM := hide hmem
      have HON3 := hide hon
      clear hmem hon a0 a1 m0 m1 m2 m3 q0 q1 n0 n1 n2 n3
      obtain ⟨⟨a0, a1, m0, m1, m2, m3⟩, ⟨q0, q1⟩, -⟩ := CEL2.out w3 HON3.out
      obtain ⟨n', hn', D', hown', hD', hold'⟩ := HMEM.out
      have HOW' := hide hown'
      have HD' := hide hD'
      have HOL' := hide hold'
      have HN' := hide hn'
      clear hown' hD' hold' hn'
      have hdl := daysF_lt cs M k t
      have HDV : Hid (plainElem (H := Unit) Tryz.prog 224 (.int .u32 (daysF cs M k t)) = some (.lit (.int .u32 (daysF cs M k t)), [])) := plainElem_int Tryz.underlying224 (wf32 (by omega) (by omega))
      go_wp2_with (at_mapUpdate; refine Hid.out ?_)
      refine hide ?_
      refine wpList_mapUpdate_own _ rfl _ _ _ 179 rfl 280 224 askedLaw Tryz.underlying179 _ B n' D' rfl HOW'.out (by have := HN'.out; unfold maxLen; omega) _ _ kl rfl rfl HKL.out _ [] HDV.out ?_
      intro w4 hown4 hgrow4
      have HM4 : Hid (Memo cs w4 B (n' + 1)) := Memo.put (w := w3) hfi HMO.out HKL.out (by rw [HT.out hfi]; exact HK.out) HD'.out HOL'.out (by rw [HT.out hfi]; exact hown4)
      have HON4 : Hid (Only (· = B) w w4) := (Only.below (HBA.out.trans (HG2.out.below.mono HBA.out.size))).drew.trans (HON3.out.trans ((Only.grown hgrow4).mono (fun i _ h => by simpa using h.symm)) (fun _ _ h => h)) (fun _ _ h => h)
      clear hown4 hgrow4
      go_wp2
      go_ret
      exact Dayd.of ⟨rfl, ⟨n' + 1, by have := HN'.out; omega, HM4.out⟩, HON4.out⟩
    · obtain ⟨k', hk', hat'⟩ := HOLD.out i hfi M kl HMO.out HKL.out HBH.out
      rw [HT.out hfi] at hk' hat'
      have HCE : Hid (c = (daysF cs M k t : Int)) := by
        have e1 := HAT.out
        rw [hat'] at e1
        have e2 : (daysF cs M k' t : Int) = c := by simpa using e1
        rw [← e2, daysF_eq M hk' HK.out]
        rfl
      clear hk' hat'
      go_wp2
      go_ret
      exact Dayd.of ⟨ret_int (by rw [HCE.out]), ⟨n, by omega, HM2.out⟩, Only.below (HBA.out.trans (HG2.out.below.mono HBA.out.size))⟩
  · obtain ⟨w2, hw2⟩ : ∃ w2, w2 = (w1.setCell ⟨wA.heap.size, 0, none⟩ (.int .i64 (fiV cs nm))).setCell ⟨wA.heap.size, 1, none⟩ (.int .i64 M.f) := ⟨_, rfl⟩
    have hblk1 : w1.heap[wA.heap.size]? = some (.cells #[.int .i64 0, .int .i64 0] 280 (0, 0)) := by
      have e := hgF.below.block wA.heap.size (by simp)
      rw [e]
      exact heap_alloc_new wA _
    have HKI : Hid (KeyIn wA w2 wA.heap.size (fiV cs nm) M.f) := by rw [hw2]; exact ⟨hset_same (hset_same hblk1 _) _, Gc.setc (Gc.setc hgG (Nat.le_refl _) _ _) (Nat.le_refl _) _ _, Nat.le_refl _⟩
    rw [← hw2]
    generalize hqe : wA.heap.size = q at HKI ⊢
    clear hw2 hcc hff hzz hgG hgF hg0 KP a0 a1 m0 m1 m2 m3 hblk1
    have HG2 : Hid (Gc wA w2) := HKI.out.2.1
    have HM2 : Hid (Memo cs w2 B n) := HMA.out.below HG2.out.below
    obtain ⟨a0, a1, m0, m1, m2, m3⟩ := CEL.out w2 HG2.out.below
    have q0 : w2.cell? ⟨q, 0, none⟩ = some (.int .i64 i) := by rw [cell_of HKI.out.1, HV.out]; rfl
    have q1 : w2.cell? ⟨q, 1, none⟩ = some (.int .i64 M.f) := by rw [cell_of HKI.out.1]; rfl
    rw [HV.out]
    obtain ⟨kl, hkl⟩ := asked_key i M.f (by omega) b5 b6
    have HKL := hide hkl
    obtain ⟨D, hown, hD, hold⟩ := HM2.out
    have HOWN := hide hown
    have HDD := hide hD
    have HOLD := hide hold
    clear hkl hown hD hold
    have hNB : n < 200000 := by omega
    go_wp2_with (at_lookup; refine Hid.out ?_)
    refine hide ?_
    refine wpList_lookup_own_ok_int _ rfl _ _ 179 rfl 280 224 .u32 askedLaw Tryz.underlying179 Tryz.underlying224 (zeroMonth _) B n D rfl HOWN.out _ kl rfl HKL.out ?_
    intro c hat hwc
    obtain ⟨bh, hbh⟩ : ∃ b, Maps.has D kl = b := ⟨_, rfl⟩
    rw [hbh]
    have HBH := hide hbh
    have HAT := hide hat
    clear hbh hat hwc
    cases bh
    · obtain rfl := HC.out.at_ (by omega)
      have HBW : Hid (∀ a u, W.cell? a = some u → w2.cell? a = some u) := fun a u hc => Below.keeps (HGA.out.more HG2.out.below).below (Nat.le_refl _) hc
      obtain ⟨n0, n1, n2, n3⟩ := (HC.out.cell i hfi).mono HBW.out
      have HND : Hid (NdAt W (V i) t) := by have := HC.out.node i hfi; rw [HT.out hfi] at this; exact this
      have hgB : ¬ g = B := fun e => by have := World.block_lt_of_cell? W _ (HC.out.name i hfi); simp at this; omega
      have hq : wA.heap.size ≤ q := HKI.out.2.2
      have hwz : w.heap.size ≤ wA.heap.size := HBA.out.size
      have h3B : ¬ p3 = B := by omega
      have h5B : ¬ p5 = B := by have := HZ.out; omega
      have hqB : ¬ q = B := by omega
      generalize V i = kv at *
      have HGD : Hid (Gc W w2.drew) := (HGA.out.more HG2.out.below).drew
      have HMD : Hid (Memo cs w2.drew B n) := HM2.out.below (Below.refl _ _).drew
      have HCALL := hide (HIH.out t kv M n W w2.drew B (some ⟨g, o, none⟩) cc cs g o V HGD.out hp HND.out HC.out h24 HMD.out HMO.out HK.out (by omega))
      unfold askrV NVal.val ndV Mo.val moV at HCALL
      have CEL2 : Hid (∀ w', Only (· = B) w2.drew w' → (w'.cell? ⟨p3, 0, none⟩ = some (.slice (some ⟨g, o, none⟩) cs.length cc) ∧ w'.cell? ⟨p3, 1, none⟩ = some (.map (some B)) ∧ w'.cell? ⟨p5, 0, none⟩ = some (.int .i64 M.y) ∧ w'.cell? ⟨p5, 1, none⟩ = some (.int .i64 M.m) ∧ w'.cell? ⟨p5, 2, none⟩ = some (.int .i64 M.f) ∧ w'.cell? ⟨p5, 3, none⟩ = some (.int .i64 M.s)) ∧ (w'.cell? ⟨q, 0, none⟩ = some (.int .i64 i) ∧ w'.cell? ⟨q, 1, none⟩ = some (.int .i64 M.f)) ∧
          (w'.cell? ⟨g, o + i * 5 + 1, none⟩ = some (.int .i64 kv.op) ∧ w'.cell? ⟨g, o + i * 5 + 1 + 1, none⟩ = some (.slice kv.no kv.nl kv.nc) ∧ w'.cell? ⟨g, o + i * 5 + 1 + 2, none⟩ = some (.slice kv.ko kv.kl kv.kc) ∧ w'.cell? ⟨g, o + i * 5 + 1 + 3, none⟩ = some (.string kv.nm))) := fun w' ho =>
        ⟨⟨ho.cell (w := w2.drew) a0 h3B, ho.cell (w := w2.drew) a1 h3B, ho.cell (w := w2.drew) m0 h5B, ho.cell (w := w2.drew) m1 h5B, ho.cell (w := w2.drew) m2 h5B, ho.cell (w := w2.drew) m3 h5B⟩, ⟨ho.cell (w := w2.drew) q0 hqB, ho.cell (w := w2.drew) q1 hqB⟩, ho.cell (w := w2.drew) n0 hgB, ho.cell (w := w2.drew) n1 hgB, ho.cell (w := w2.drew) n2 hgB, ho.cell (w := w2.drew) n3 hgB⟩
      have i0 : (0 : Int) ≤ (i : Int) := by omega
      have il : (i : Int) < (cs.length : Int) := by omega
      clear hgB hq hwz h3B h5B hqB
      go_wp2
      first
        | (go_region_held3 (fun w' => w'.cell? ⟨p3, 0, none⟩ = some (.slice (some ⟨g, o, none⟩) cs.length cc) ∧ w'.cell? ⟨p3, 1, none⟩ = some (.map (some B)) ∧ w'.cell? ⟨p5, 0, none⟩ = some (.int .i64 M.y) ∧ w'.cell? ⟨p5, 1, none⟩ = some (.int .i64 M.m) ∧ w'.cell? ⟨p5, 2, none⟩ = some (.int .i64 M.f) ∧ w'.cell? ⟨p5, 3, none⟩ = some (.int .i64 M.s) ∧ w'.cell? ⟨q, 0, none⟩ = some (.int .i64 i) ∧ w'.cell? ⟨g, o + i * 5 + 1, none⟩ = some (.int .i64 kv.op) ∧ w'.cell? ⟨g, o + i * 5 + 1 + 1, none⟩ = some (.slice kv.no kv.nl kv.nc) ∧ w'.cell? ⟨g, o + i * 5 + 1 + 2, none⟩ = some (.slice kv.ko kv.kl kv.kc) ∧ w'.cell? ⟨g, o + i * 5 + 1 + 3, none⟩ = some (.string kv.nm))
            (first | go_keep | (have hx := CEL2.out _ (by assumption); exact ⟨hx.1.1, hx.1.2.1, hx.1.2.2.1, hx.1.2.2.2.1, hx.1.2.2.2.2.1, hx.1.2.2.2.2.2, hx.2.1.1, hx.2.2⟩))
            ((go_at_call 127; refine HCALL.out.mono ?_; rintro e w3 ⟨rfl, hmem, hon⟩)))
        | fail
      have HMEM := hide hmem
      have HON3 := hide hon
      clear hmem hon a0 a1 m0 m1 m2 m3 q0 q1 n0 n1 n2 n3
      obtain ⟨⟨a0, a1, m0, m1, m2, m3⟩, ⟨q0, q1⟩, -⟩ := CEL2.out w3 HON3.out
      obtain ⟨n', hn', D', hown', hD', hold'⟩ := HMEM.out
      have HOW' := hide hown'
      have HD' := hide hD'
      have HOL' := hide hold'
      have HN' := hide hn'
      clear hown' hD' hold' hn'
      have hdl := daysF_lt cs M k t
      have HDV : Hid (plainElem (H := Unit) Tryz.prog 224 (.int .u32 (daysF cs M k t)) = some (.lit (.int .u32 (daysF cs M k t)), [])) := plainElem_int Tryz.underlying224 (wf32 (by omega) (by omega))
      go_wp2_with (at_mapUpdate; refine Hid.out ?_)
      refine hide ?_
      refine wpList_mapUpdate_own _ rfl _ _ _ 179 rfl 280 224 askedLaw Tryz.underlying179 _ B n' D' rfl HOW'.out (by have := HN'.out; unfold maxLen; omega) _ _ kl rfl rfl HKL.out _ [] HDV.out ?_
      intro w4 hown4 hgrow4
      have HM4 : Hid (Memo cs w4 B (n' + 1)) := Memo.put (w := w3) hfi HMO.out HKL.out (by rw [HT.out hfi]; exact HK.out) HD'.out HOL'.out (by rw [HT.out hfi]; exact hown4)
      have HON4 : Hid (Only (· = B) w w4) := (Only.below (HBA.out.trans (HG2.out.below.mono HBA.out.size))).drew.trans (HON3.out.trans ((Only.grown hgrow4).mono (fun i _ h => by simpa using h.symm)) (fun _ _ h => h)) (fun _ _ h => h)
      clear hown4 hgrow4
      go_wp2
      go_ret
      exact Dayd.of ⟨rfl, ⟨n' + 1, by have := HN'.out; omega, HM4.out⟩, HON4.out⟩
    · obtain ⟨k', hk', hat'⟩ := HOLD.out i hfi M kl HMO.out HKL.out HBH.out
      rw [HT.out hfi] at hk' hat'
      have HCE : Hid (c = (daysF cs M k t : Int)) := by
        have e1 := HAT.out
        rw [hat'] at e1
        have e2 : (daysF cs M k' t : Int) = c := by simpa using e1
        rw [← e2, daysF_eq M hk' HK.out]
        rfl
      clear hk' hat'
      go_wp2
      go_ret
      exact Dayd.of ⟨ret_int (by rw [HCE.out]), ⟨n, by omega, HM2.out⟩, Only.below (HBA.out.trans (HG2.out.below.mono HBA.out.size))⟩
end Go.Proofs.YtkpgfhapffijkaaGreatDoor

/- Package cal: the walk of days, of operations that go to no other node (written by gen_cee.py). -/
namespace Go.Proofs.YtkpgfhapffijkaaGreatDoor
open Go.ChangeShapes Go.WideShapes Go.ChangeAt Go.RowKit Go.DsMem Go.DsMk
set_option linter.unusedVariables false
/-- the boxes of days: the asker in p, the node in p + 1, the month in p + 2 -/
structure Bxs (w : World) (p : Nat) (co : Option Addr) (cl cc B : Nat) (op : Int) (no : Option Addr) (nl nc : Nat) (ko : Option Addr) (kl kc : Nat) (nm : ByteArray) (M : Mo) : Prop where
  a0 : w.cell? ⟨p, 0, none⟩ = some (.slice co cl cc)
  a1 : w.cell? ⟨p, 1, none⟩ = some (.map (some B))
  n0 : w.cell? ⟨p + 1, 0, none⟩ = some (.int .i64 op)
  n1 : w.cell? ⟨p + 1, 1, none⟩ = some (.slice no nl nc)
  n2 : w.cell? ⟨p + 1, 2, none⟩ = some (.slice ko kl kc)
  n3 : w.cell? ⟨p + 1, 3, none⟩ = some (.string nm)
  m0 : w.cell? ⟨p + 2, 0, none⟩ = some (.int .i64 M.y)
  m1 : w.cell? ⟨p + 2, 1, none⟩ = some (.int .i64 M.m)
  m2 : w.cell? ⟨p + 2, 2, none⟩ = some (.int .i64 M.f)
  m3 : w.cell? ⟨p + 2, 3, none⟩ = some (.int .i64 M.s)
theorem Bxs.mono {w w' : World} {p : Nat} {co : Option Addr} {cl cc B : Nat} {op : Int} {no : Option Addr} {nl nc : Nat} {ko : Option Addr} {kl kc : Nat} {nm : ByteArray} {M : Mo} (h : Bxs w p co cl cc B op no nl nc ko kl kc nm M)
    (hc : ∀ b i v, p ≤ b → w.cell? ⟨b, i, none⟩ = some v → w'.cell? ⟨b, i, none⟩ = some v) : Bxs w' p co cl cc B op no nl nc ko kl kc nm M :=
  ⟨hc _ _ _ (by omega) h.a0, hc _ _ _ (by omega) h.a1, hc _ _ _ (by omega) h.n0, hc _ _ _ (by omega) h.n1, hc _ _ _ (by omega) h.n2, hc _ _ _ (by omega) h.n3, hc _ _ _ (by omega) h.m0, hc _ _ _ (by omega) h.m1, hc _ _ _ (by omega) h.m2, hc _ _ _ (by omega) h.m3⟩
theorem Bxs.below {w w' : World} {p : Nat} {co : Option Addr} {cl cc B : Nat} {op : Int} {no : Option Addr} {nl nc : Nat} {ko : Option Addr} {kl kc : Nat} {nm : ByteArray} {M : Mo} (h : Bxs w p co cl cc B op no nl nc ko kl kc nm M) (hb : Below w.heap.size w w') : Bxs w' p co cl cc B op no nl nc ko kl kc nm M :=
  h.mono fun _ _ _ _ hc => Below.keeps hb (Nat.le_refl _) hc
theorem Bxs.only {w w' : World} {p : Nat} {co : Option Addr} {cl cc B : Nat} {op : Int} {no : Option Addr} {nl nc : Nat} {ko : Option Addr} {kl kc : Nat} {nm : ByteArray} {M : Mo} (h : Bxs w p co cl cc B op no nl nc ko kl kc nm M) (hb : Only (· = B) w w') (hB : B < p) : Bxs w' p co cl cc B op no nl nc ko kl kc nm M :=
  h.mono fun b _ _ hp hc => hb.cell hc (by show ¬ b = B; omega)
theorem Bxs.new (w : World) (co : Option Addr) (cl cc B : Nat) (op : Int) (no : Option Addr) (nl nc : Nat) (ko : Option Addr) (kl kc : Nat) (nm : ByteArray) (M : Mo) :
    Bxs (((w.alloc (.cells #[.slice co cl cc, .map (some B)] 181)).alloc (.cells #[.int .i64 op, .slice no nl nc, .slice ko kl kc, .string nm] 49)).alloc (.cells #[.int .i64 M.y, .int .i64 M.m, .int .i64 M.f, .int .i64 M.s] 222)) w.heap.size co cl cc B op no nl nc ko kl kc nm M := by
  obtain ⟨w1, h1⟩ : ∃ w1, w1 = w.alloc (.cells #[.slice co cl cc, .map (some B)] 181) := ⟨_, rfl⟩
  have z1 : w1.heap.size = w.heap.size + 1 := by rw [h1]; simp
  have e1 : w1.heap[w.heap.size]? = some (.cells #[.slice co cl cc, .map (some B)] 181 (0, 0)) := by rw [h1]; exact heap_alloc_new w _
  rw [← h1]
  obtain ⟨w2, h2⟩ : ∃ w2, w2 = w1.alloc (.cells #[.int .i64 op, .slice no nl nc, .slice ko kl kc, .string nm] 49) := ⟨_, rfl⟩
  have z2 : w2.heap.size = w.heap.size + 2 := by rw [h2]; simp [z1]
  have e2 : w2.heap[w.heap.size + 1]? = some (.cells #[.int .i64 op, .slice no nl nc, .slice ko kl kc, .string nm] 49 (0, 0)) := by rw [← z1, h2]; exact heap_alloc_new w1 _
  have e1' : w2.heap[w.heap.size]? = some (.cells #[.slice co cl cc, .map (some B)] 181 (0, 0)) := by rw [h2]; exact heap_keep e1
  rw [← h2]
  have e3 := heap_alloc_new w2 (.cells #[.int .i64 M.y, .int .i64 M.m, .int .i64 M.f, .int .i64 M.s] 222)
  rw [z2] at e3
  have f1 := heap_keep (o := .cells #[.int .i64 M.y, .int .i64 M.m, .int .i64 M.f, .int .i64 M.s] 222) e1'
  have f2 := heap_keep (o := .cells #[.int .i64 M.y, .int .i64 M.m, .int .i64 M.f, .int .i64 M.s] 222) e2
  exact ⟨by rw [cell_of f1]; rfl, by rw [cell_of f1]; rfl, by rw [cell_of f2]; rfl, by rw [cell_of f2]; rfl, by rw [cell_of f2]; rfl, by rw [cell_of f2]; rfl, by rw [cell_of e3]; rfl, by rw [cell_of e3]; rfl, by rw [cell_of e3]; rfl, by rw [cell_of e3]; rfl⟩
theorem rd1 {w : World} {a : Addr} {x : Int} {n c : Nat} (h : RdI w (.slice (some a) n c) [x]) : w.cell? a = some (.int .i64 x) := by
  obtain ⟨ao, cap, hv, _, _, hr⟩ := h
  simp only [Value.slice.injEq] at hv
  obtain ⟨rfl, _, _⟩ := hv
  have := hr a rfl 0 x rfl
  have ad0 : a.add 0 = a := by cases a; simp [Addr.add]
  rwa [ad0] at this
theorem rd2 {w : World} {a : Addr} {x y : Int} {n c : Nat} (h : RdI w (.slice (some a) n c) [x, y]) : w.cell? a = some (.int .i64 x) ∧ w.cell? (a.add 1) = some (.int .i64 y) := by
  obtain ⟨ao, cap, hv, _, _, hr⟩ := h
  simp only [Value.slice.injEq] at hv
  obtain ⟨rfl, _, _⟩ := hv
  have := hr a rfl 0 x rfl
  have ad0 : a.add 0 = a := by cases a; simp [Addr.add]
  rw [ad0] at this
  exact ⟨this, hr a rfl 1 y rfl⟩
set_option maxHeartbeats 8000000 in
set_option maxRecDepth 20000 in
theorem Gc.days2 {W w : World} (h : Gc W w) (co : Option Addr) (cl cc B : Nat) (ns : List Int) (no : Option Addr) (nc : Nat) (ko : Option Addr) (kl kc : Nat) (nm : ByteArray) (M : Mo) (hM : M.ok) (hr : RdI w (.slice no ns.length nc) ns) (hl : ns.length ≤ 64) (hk : ∀ k ∈ ns, 1 ≤ k ∧ k ≤ 3652059) :
    Calls Tryz.prog 127 #[askrV co cl cc B, ndV 2 no ns.length nc ko kl kc nm, M.val] w fun e w' => e = .returned (.int .u32 (theseN M.f M.s ns)) ∧ Gc W w' := by
  obtain ⟨b1, b2, b3, b4, b5, b6, b7, b8⟩ := isMo_bd hM
  have HG := hide h
  have HR := hide hr
  have HMO := hide hM
  clear h hr hM
  unfold askrV ndV Mo.val moV
  go_enter Tryz.func127, Tryz.ntmps127
  go_wp2_with fail
  obtain ⟨wA, hwA⟩ : ∃ wA, wA = ((w.alloc (.cells #[.slice co cl cc, .map (some B)] 181)).alloc (.cells #[.int .i64 2, .slice no ns.length nc, .slice ko kl kc, .string nm] 49)).alloc (.cells #[.int .i64 M.y, .int .i64 M.m, .int .i64 M.f, .int .i64 M.s] 222) := ⟨_, rfl⟩
  have HBX : Hid (Bxs wA w.heap.size co cl cc B 2 no ns.length nc ko kl kc nm M) := by rw [hwA]; exact Bxs.new _ _ _ _ _ _ _ _ _ _ _ _ _ _
  have HGA : Hid (Gc W wA) := by rw [hwA]; exact ((HG.out.alloc _).alloc _).alloc _
  have HRA : Hid (RdI wA (.slice no ns.length nc) ns) := by rw [hwA]; exact HR.out.below ((((Below.refl _ _).alloc (Nat.le_refl _) _).alloc (by simp) _).alloc (by simp; omega) _)
  rw [← hwA]
  clear hwA
  generalize w.heap.size = p at *
  obtain ⟨a0, a1, n0, n1, n2, n3, m0, m1, m2, m3⟩ := HBX.out
  refine (Gc.these (W := wA) HGA.out.here M.y M.m M.f M.s ns _ HRA.out (by omega) (fun k hk' => by have := hk k hk'; omega) b5 b6 (by omega) b8).mono ?_
  rintro e w2 ⟨rfl, hg⟩
  have HG2 := hide hg
  clear hg
  go_wp2
  go_ret
  exact ⟨rfl, HGA.out.more HG2.out.below⟩
set_option maxHeartbeats 8000000 in
set_option maxRecDepth 20000 in
theorem Gc.days3 {W w : World} (h : Gc W w) (co : Option Addr) (cl cc B : Nat) (ns : List Int) (no : Option Addr) (nc : Nat) (ko : Option Addr) (kl kc : Nat) (nm : ByteArray) (M : Mo) (hM : M.ok) (hr : RdI w (.slice no ns.length nc) ns) (hl : ns.length ≤ 64) (hk : ∀ k ∈ ns, -31 ≤ k ∧ k ≤ 31) :
    Calls Tryz.prog 127 #[askrV co cl cc B, ndV 3 no ns.length nc ko kl kc nm, M.val] w fun e w' => e = .returned (.int .u32 (daysN M.s ns)) ∧ Gc W w' := by
  obtain ⟨b1, b2, b3, b4, b5, b6, b7, b8⟩ := isMo_bd hM
  have HG := hide h
  have HR := hide hr
  have HMO := hide hM
  clear h hr hM
  unfold askrV ndV Mo.val moV
  go_enter Tryz.func127, Tryz.ntmps127
  go_wp2_with fail
  obtain ⟨wA, hwA⟩ : ∃ wA, wA = ((w.alloc (.cells #[.slice co cl cc, .map (some B)] 181)).alloc (.cells #[.int .i64 3, .slice no ns.length nc, .slice ko kl kc, .string nm] 49)).alloc (.cells #[.int .i64 M.y, .int .i64 M.m, .int .i64 M.f, .int .i64 M.s] 222) := ⟨_, rfl⟩
  have HBX : Hid (Bxs wA w.heap.size co cl cc B 3 no ns.length nc ko kl kc nm M) := by rw [hwA]; exact Bxs.new _ _ _ _ _ _ _ _ _ _ _ _ _ _
  have HGA : Hid (Gc W wA) := by rw [hwA]; exact ((HG.out.alloc _).alloc _).alloc _
  have HRA : Hid (RdI wA (.slice no ns.length nc) ns) := by rw [hwA]; exact HR.out.below ((((Below.refl _ _).alloc (Nat.le_refl _) _).alloc (by simp) _).alloc (by simp; omega) _)
  rw [← hwA]
  clear hwA
  generalize w.heap.size = p at *
  obtain ⟨a0, a1, n0, n1, n2, n3, m0, m1, m2, m3⟩ := HBX.out
  refine (mlist_any ns M.s _ _ HRA.out (by omega) (by omega) (by omega) (fun k hk' => by have := hk k hk'; omega)).mono ?_
  rintro e w2 ⟨rfl, rfl⟩
  go_wp2
  go_ret
  exact ⟨rfl, HGA.out⟩
set_option maxHeartbeats 8000000 in
set_option maxRecDepth 20000 in
theorem Gc.days1 {W w : World} (h : Gc W w) (co : Option Addr) (cl cc B : Nat) (x : Nat) (no : Option Addr) (nc : Nat) (ko : Option Addr) (kl kc : Nat) (nm : ByteArray) (M : Mo) (hM : M.ok) (hr : RdI w (.slice no 1 nc) [(x : Int)]) (hx : x < 128) :
    Calls Tryz.prog 127 #[askrV co cl cc B, ndV 1 no 1 nc ko kl kc nm, M.val] w fun e w' => e = .returned (.int .u32 (weekN x ((M.f - 1) % 7) M.s)) ∧ Gc W w' := by
  obtain ⟨b1, b2, b3, b4, b5, b6, b7, b8⟩ := isMo_bd hM
  have HG := hide h
  have HR := hide hr
  have HMO := hide hM
  clear h hr hM
  unfold askrV ndV Mo.val moV
  go_enter Tryz.func127, Tryz.ntmps127
  go_wp2
  obtain ⟨wA, hwA⟩ : ∃ wA, wA = ((w.alloc (.cells #[.slice co cl cc, .map (some B)] 181)).alloc (.cells #[.int .i64 1, .slice no 1 nc, .slice ko kl kc, .string nm] 49)).alloc (.cells #[.int .i64 M.y, .int .i64 M.m, .int .i64 M.f, .int .i64 M.s] 222) := ⟨_, rfl⟩
  have HBX : Hid (Bxs wA w.heap.size co cl cc B 1 no 1 nc ko kl kc nm M) := by rw [hwA]; exact Bxs.new _ _ _ _ _ _ _ _ _ _ _ _ _ _
  have HGA : Hid (Gc W wA) := by rw [hwA]; exact ((HG.out.alloc _).alloc _).alloc _
  have HRA : Hid (RdI wA (.slice no 1 nc) [(x : Int)]) := by rw [hwA]; exact HR.out.below ((((Below.refl _ _).alloc (Nat.le_refl _) _).alloc (by simp) _).alloc (by simp; omega) _)
  rw [← hwA]
  clear hwA
  generalize w.heap.size = p at *
  obtain ⟨a0, a1, n0, n1, n2, n3, m0, m1, m2, m3⟩ := HBX.out
  have hg0 : Gc wA wA.drew := HGA.out.here.drew
  obtain ⟨xa, rfl⟩ : ∃ a, no = some a := by
    obtain ⟨ao, cap, hv, _, hnil, _⟩ := HRA.out
    cases no with
    | none => simp at hv; obtain ⟨rfl, hl, _⟩ := hv; have := hnil rfl; simp at this
    | some a => exact ⟨a, rfl⟩
  obtain ⟨xc0, -⟩ := (fun h => And.intro (rd1 h) trivial : _ → _ ∧ True) HRA.out
  obtain ⟨xg, xo, xs⟩ := xa
  have hpl := plain_addr xc0
  simp only [Addr.mk.injEq, true_and] at hpl
  subst hpl
  have KP : Hid (∀ w', Gc wA w' → w'.cell? ⟨p + 1, 1, none⟩ = some (.slice (some ⟨xg, xo, none⟩) 1 nc) ∧ w'.cell? ⟨p + 2, 0, none⟩ = some (.int .i64 M.y) ∧ w'.cell? ⟨p + 2, 1, none⟩ = some (.int .i64 M.m) ∧ w'.cell? ⟨p + 2, 2, none⟩ = some (.int .i64 M.f) ∧ w'.cell? ⟨p + 2, 3, none⟩ = some (.int .i64 M.s) ∧ w'.cell? ⟨xg, xo, none⟩ = some (.int .i64 x)) := fun w' hw => by
    have hx := HBX.out.below hw.below
    exact ⟨hx.n1, hx.m0, hx.m1, hx.m2, hx.m3, Below.keeps hw.below (Nat.le_refl _) xc0⟩
  first
    | (go_region_held3 (fun w' => w'.cell? ⟨p + 1, 1, none⟩ = some (.slice (some ⟨xg, xo, none⟩) 1 nc) ∧ w'.cell? ⟨p + 2, 0, none⟩ = some (.int .i64 M.y) ∧ w'.cell? ⟨p + 2, 1, none⟩ = some (.int .i64 M.m) ∧ w'.cell? ⟨p + 2, 2, none⟩ = some (.int .i64 M.f) ∧ w'.cell? ⟨p + 2, 3, none⟩ = some (.int .i64 M.s) ∧ w'.cell? ⟨xg, xo, none⟩ = some (.int .i64 x)) (first | go_keep | (exact KP.out _ (by assumption))) ((go_at_call 150; refine (Gc.weekdays (W := wA) (by assumption) M.y M.m M.f M.s x hx b5 b6).mono ?_; rintro e w2 ⟨rfl, hg⟩)))
    | fail
  have HG2 := hide hg
  clear hg
  go_wp2
  go_ret
  exact ⟨rfl, HGA.out.more HG2.out.below⟩
set_option maxHeartbeats 8000000 in
set_option maxRecDepth 20000 in
theorem Gc.days4 {W w : World} (h : Gc W w) (co : Option Addr) (cl cc B : Nat) (x y : Int) (no : Option Addr) (nc : Nat) (ko : Option Addr) (kl kc : Nat) (nm : ByteArray) (M : Mo) (hM : M.ok) (hr : RdI w (.slice no 2 nc) [x, y]) (ha : DsCal.okA x y) :
    Calls Tryz.prog 127 #[askrV co cl cc B, ndV 4 no 2 nc ko kl kc nm, M.val] w fun e w' => e = .returned (.int .u32 (theseN M.f M.s [(DsCal.nres M.f M.s x y).1])) ∧ Gc W w' := by
  obtain ⟨b1, b2, b3, b4, b5, b6, b7, b8⟩ := isMo_bd hM
  have HG := hide h
  have HR := hide hr
  have HMO := hide hM
  clear h hr hM
  unfold askrV ndV Mo.val moV
  go_enter Tryz.func127, Tryz.ntmps127
  go_wp2
  obtain ⟨wA, hwA⟩ : ∃ wA, wA = ((w.alloc (.cells #[.slice co cl cc, .map (some B)] 181)).alloc (.cells #[.int .i64 4, .slice no 2 nc, .slice ko kl kc, .string nm] 49)).alloc (.cells #[.int .i64 M.y, .int .i64 M.m, .int .i64 M.f, .int .i64 M.s] 222) := ⟨_, rfl⟩
  have HBX : Hid (Bxs wA w.heap.size co cl cc B 4 no 2 nc ko kl kc nm M) := by rw [hwA]; exact Bxs.new _ _ _ _ _ _ _ _ _ _ _ _ _ _
  have HGA : Hid (Gc W wA) := by rw [hwA]; exact ((HG.out.alloc _).alloc _).alloc _
  have HRA : Hid (RdI wA (.slice no 2 nc) [x, y]) := by rw [hwA]; exact HR.out.below ((((Below.refl _ _).alloc (Nat.le_refl _) _).alloc (by simp) _).alloc (by simp; omega) _)
  rw [← hwA]
  clear hwA
  generalize w.heap.size = p at *
  obtain ⟨a0, a1, n0, n1, n2, n3, m0, m1, m2, m3⟩ := HBX.out
  have hg0 : Gc wA wA.drew := HGA.out.here.drew
  obtain ⟨xa, rfl⟩ : ∃ a, no = some a := by
    obtain ⟨ao, cap, hv, _, hnil, _⟩ := HRA.out
    cases no with
    | none => simp at hv; obtain ⟨rfl, hl, _⟩ := hv; have := hnil rfl; simp at this
    | some a => exact ⟨a, rfl⟩
  obtain ⟨xc0, xc1⟩ := rd2 HRA.out
  obtain ⟨xg, xo, xs⟩ := xa
  have hpl := plain_addr xc0
  simp only [Addr.mk.injEq, true_and] at hpl
  subst hpl
  rw [add_mk] at xc1
  have KP : Hid (∀ w', Gc wA w' → w'.cell? ⟨p + 1, 1, none⟩ = some (.slice (some ⟨xg, xo, none⟩) 2 nc) ∧ w'.cell? ⟨p + 2, 0, none⟩ = some (.int .i64 M.y) ∧ w'.cell? ⟨p + 2, 1, none⟩ = some (.int .i64 M.m) ∧ w'.cell? ⟨p + 2, 2, none⟩ = some (.int .i64 M.f) ∧ w'.cell? ⟨p + 2, 3, none⟩ = some (.int .i64 M.s) ∧ w'.cell? ⟨xg, xo, none⟩ = some (.int .i64 x) ∧ w'.cell? ⟨xg, xo + 1, none⟩ = some (.int .i64 y)) := fun w' hw => by
    have hx := HBX.out.below hw.below
    exact ⟨hx.n1, hx.m0, hx.m1, hx.m2, hx.m3, Below.keeps hw.below (Nat.le_refl _) xc0, Below.keeps hw.below (Nat.le_refl _) xc1⟩
  first
    | (go_region_held3 (fun w' => w'.cell? ⟨p + 1, 1, none⟩ = some (.slice (some ⟨xg, xo, none⟩) 2 nc) ∧ w'.cell? ⟨p + 2, 0, none⟩ = some (.int .i64 M.y) ∧ w'.cell? ⟨p + 2, 1, none⟩ = some (.int .i64 M.m) ∧ w'.cell? ⟨p + 2, 2, none⟩ = some (.int .i64 M.f) ∧ w'.cell? ⟨p + 2, 3, none⟩ = some (.int .i64 M.s) ∧ w'.cell? ⟨xg, xo, none⟩ = some (.int .i64 x) ∧ w'.cell? ⟨xg, xo + 1, none⟩ = some (.int .i64 y)) (first | go_keep | (exact KP.out _ (by assumption))) ((go_at_call 153; refine (Gc.nthDays (W := wA) (by assumption) M.y M.m M.f M.s x y HMO.out ha).mono ?_; rintro e w2 ⟨rfl, hg⟩)))
    | fail
  have HG2 := hide hg
  clear hg
  go_wp2
  go_ret
  exact ⟨rfl, HGA.out.more HG2.out.below⟩
set_option maxHeartbeats 8000000 in
set_option maxRecDepth 20000 in
theorem Gc.days6 {W w : World} (h : Gc W w) (co : Option Addr) (cl cc B : Nat) (x y : Int) (no : Option Addr) (nc : Nat) (ko : Option Addr) (kl kc : Nat) (nm : ByteArray) (M : Mo) (hM : M.ok) (hr : RdI w (.slice no 2 nc) [x, y]) (ha : okP x) (hb1 : 1 ≤ y) (hb2 : y ≤ 12) :
    Calls Tryz.prog 127 #[askrV co cl cc B, ndV 6 no 2 nc ko kl kc nm, M.val] w fun e w' => e = .returned (.int .u32 (fisN M.y M.f M.s x y)) ∧ Gc W w' := by
  obtain ⟨b1, b2, b3, b4, b5, b6, b7, b8⟩ := isMo_bd hM
  have HG := hide h
  have HR := hide hr
  have HMO := hide hM
  clear h hr hM
  unfold askrV ndV Mo.val moV
  go_enter Tryz.func127, Tryz.ntmps127
  go_wp2
  obtain ⟨wA, hwA⟩ : ∃ wA, wA = ((w.alloc (.cells #[.slice co cl cc, .map (some B)] 181)).alloc (.cells #[.int .i64 6, .slice no 2 nc, .slice ko kl kc, .string nm] 49)).alloc (.cells #[.int .i64 M.y, .int .i64 M.m, .int .i64 M.f, .int .i64 M.s] 222) := ⟨_, rfl⟩
  have HBX : Hid (Bxs wA w.heap.size co cl cc B 6 no 2 nc ko kl kc nm M) := by rw [hwA]; exact Bxs.new _ _ _ _ _ _ _ _ _ _ _ _ _ _
  have HGA : Hid (Gc W wA) := by rw [hwA]; exact ((HG.out.alloc _).alloc _).alloc _
  have HRA : Hid (RdI wA (.slice no 2 nc) [x, y]) := by rw [hwA]; exact HR.out.below ((((Below.refl _ _).alloc (Nat.le_refl _) _).alloc (by simp) _).alloc (by simp; omega) _)
  rw [← hwA]
  clear hwA
  generalize w.heap.size = p at *
  obtain ⟨a0, a1, n0, n1, n2, n3, m0, m1, m2, m3⟩ := HBX.out
  have hg0 : Gc wA wA.drew := HGA.out.here.drew
  obtain ⟨xa, rfl⟩ : ∃ a, no = some a := by
    obtain ⟨ao, cap, hv, _, hnil, _⟩ := HRA.out
    cases no with
    | none => simp at hv; obtain ⟨rfl, hl, _⟩ := hv; have := hnil rfl; simp at this
    | some a => exact ⟨a, rfl⟩
  obtain ⟨xc0, xc1⟩ := rd2 HRA.out
  obtain ⟨xg, xo, xs⟩ := xa
  have hpl := plain_addr xc0
  simp only [Addr.mk.injEq, true_and] at hpl
  subst hpl
  rw [add_mk] at xc1
  have KP : Hid (∀ w', Gc wA w' → w'.cell? ⟨p + 1, 1, none⟩ = some (.slice (some ⟨xg, xo, none⟩) 2 nc) ∧ w'.cell? ⟨p + 2, 0, none⟩ = some (.int .i64 M.y) ∧ w'.cell? ⟨p + 2, 1, none⟩ = some (.int .i64 M.m) ∧ w'.cell? ⟨p + 2, 2, none⟩ = some (.int .i64 M.f) ∧ w'.cell? ⟨p + 2, 3, none⟩ = some (.int .i64 M.s) ∧ w'.cell? ⟨xg, xo, none⟩ = some (.int .i64 x) ∧ w'.cell? ⟨xg, xo + 1, none⟩ = some (.int .i64 y)) := fun w' hw => by
    have hx := HBX.out.below hw.below
    exact ⟨hx.n1, hx.m0, hx.m1, hx.m2, hx.m3, Below.keeps hw.below (Nat.le_refl _) xc0, Below.keeps hw.below (Nat.le_refl _) xc1⟩
  first
    | (go_region_held3 (fun w' => w'.cell? ⟨p + 1, 1, none⟩ = some (.slice (some ⟨xg, xo, none⟩) 2 nc) ∧ w'.cell? ⟨p + 2, 0, none⟩ = some (.int .i64 M.y) ∧ w'.cell? ⟨p + 2, 1, none⟩ = some (.int .i64 M.m) ∧ w'.cell? ⟨p + 2, 2, none⟩ = some (.int .i64 M.f) ∧ w'.cell? ⟨p + 2, 3, none⟩ = some (.int .i64 M.s) ∧ w'.cell? ⟨xg, xo, none⟩ = some (.int .i64 x) ∧ w'.cell? ⟨xg, xo + 1, none⟩ = some (.int .i64 y)) (first | go_keep | (exact KP.out _ (by assumption))) ((go_at_call 156; refine (Gc.fiscal (W := wA) (by assumption) M.y M.m M.f M.s x y HMO.out ha hb1 hb2).mono ?_; rintro e w2 ⟨rfl, hg⟩)))
    | fail
  have HG2 := hide hg
  clear hg
  go_wp2
  go_ret
  exact ⟨rfl, HGA.out.more HG2.out.below⟩
end Go.Proofs.YtkpgfhapffijkaaGreatDoor
