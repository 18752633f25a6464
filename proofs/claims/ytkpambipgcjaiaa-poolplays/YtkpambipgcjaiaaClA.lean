/- Conditions, said plainly: names and days, in order; sets of them. -/
import Derived.Test.YtkpambipgcjaiaaMem
import Derived.Sort.Walk0
import Derived.Lib.Bytealg
namespace Go.DsCo
set_option linter.unusedVariables false

/-- a condition: a name and a day -/
structure Cn where
  nm : ByteArray
  day : Int
theorem Cn.ext' {a b : Cn} (h1 : a.nm = b.nm) (h2 : a.day = b.day) : a = b := by cases a; cases b; simp_all
noncomputable instance : DecidableEq Cn := fun a b => Classical.propDecidable _
def Cn.k (c : Cn) : List UInt8 := c.nm.data.toList
theorem nm_of_k {a b : ByteArray} (h : a.data.toList = b.data.toList) : a = b := by
  cases a with | mk x => cases b with | mk y => exact congrArg ByteArray.mk (Array.toList_inj.1 h)
theorem Cn.eq_of {a b : Cn} (h1 : a.k = b.k) (h2 : a.day = b.day) : a = b := Cn.ext' (nm_of_k h1) h2
/-- the one stands ahead of the other -/
def ahead (a b : Cn) : Prop := a.k < b.k ∨ a.k = b.k ∧ a.day < b.day
theorem k_irrefl (a : List UInt8) : ¬ a < a := List.lt_irrefl a
theorem k_trans {a b c : List UInt8} (h : a < b) (h' : b < c) : a < c := List.lt_trans h h'
theorem k_total (a b : List UInt8) : a < b ∨ a = b ∨ b < a := by
  by_cases h : a < b
  · exact .inl h
  · by_cases h' : b < a
    · exact .inr (.inr h')
    · exact .inr (.inl (List.le_antisymm (List.not_lt.1 h') (List.not_lt.1 h)))
theorem ahead_irrefl (a : Cn) : ¬ ahead a a := fun h => by
  rcases h with h | ⟨_, h⟩
  · exact k_irrefl _ h
  · omega
theorem ahead_trans {a b c : Cn} (h : ahead a b) (h' : ahead b c) : ahead a c := by
  rcases h with h | ⟨h, h2⟩ <;> rcases h' with h' | ⟨h', h2'⟩
  · exact .inl (k_trans h h')
  · exact .inl (h' ▸ h)
  · exact .inl (h ▸ h')
  · exact .inr ⟨h.trans h', by omega⟩
theorem ahead_total (a b : Cn) : ahead a b ∨ a = b ∨ ahead b a := by
  rcases k_total a.k b.k with h | h | h
  · exact .inl (.inl h)
  · by_cases h1 : a.day < b.day
    · exact .inl (.inr ⟨h, h1⟩)
    · by_cases h2 : b.day < a.day
      · exact .inr (.inr (.inr ⟨h.symm, h2⟩))
      · exact .inr (.inl (Cn.eq_of h (by omega)))
  · exact .inr (.inr (.inl h))

/-- in order, each once -/
def Up (L : List Cn) : Prop := L.Pairwise ahead
theorem Up.nodup {L : List Cn} (h : Up L) : L.Nodup := List.Pairwise.imp (fun {a b} hab e => by subst e; exact ahead_irrefl _ hab) h
theorem up_ext {L M : List Cn} (hL : Up L) (hM : Up M) (h : ∀ c, c ∈ L ↔ c ∈ M) : L = M := by
  induction L generalizing M with
  | nil =>
    cases M with
    | nil => rfl
    | cons m M => exact absurd ((h m).2 (by simp)) (by simp)
  | cons a L ih =>
    cases M with
    | nil => exact absurd ((h a).1 (by simp)) (by simp)
    | cons m M =>
      have hL' := List.pairwise_cons.1 hL
      have hM' := List.pairwise_cons.1 hM
      have e : a = m := by
        have h1 := (h a).1 (by simp)
        have h2 := (h m).2 (by simp)
        rcases List.mem_cons.1 h1 with e | h1
        · exact e
        · rcases List.mem_cons.1 h2 with e | h2
          · exact e.symm
          · exact absurd (ahead_trans (hL'.1 m h2) (hM'.1 a h1)) (ahead_irrefl _)
      subst e
      have : L = M := ih hL'.2 hM'.2 fun c => by
        constructor
        · intro hc
          rcases List.mem_cons.1 ((h c).1 (List.mem_cons_of_mem _ hc)) with rfl | h'
          · exact absurd (hL'.1 c hc) (ahead_irrefl _)
          · exact h'
        · intro hc
          rcases List.mem_cons.1 ((h c).2 (List.mem_cons_of_mem _ hc)) with rfl | h'
          · exact absurd (hM'.1 c hc) (ahead_irrefl _)
          · exact h'
      rw [this]
open Classical in
/-- one more, at its place -/
noncomputable def insL (c : Cn) : List Cn → List Cn
  | [] => [c]
  | x :: r => if ahead c x then c :: x :: r else x :: insL c r
theorem mem_insL (c x : Cn) : ∀ L, x ∈ insL c L ↔ x = c ∨ x ∈ L
  | [] => by simp [insL]
  | y :: r => by
    unfold insL
    split
    · simp
    · simp only [List.mem_cons, mem_insL c x r]
      constructor
      · rintro (h | h | h)
        · exact .inr (.inl h)
        · exact .inl h
        · exact .inr (.inr h)
      · rintro (h | h | h)
        · exact .inr (.inl h)
        · exact .inl h
        · exact .inr (.inr h)
theorem len_insL (c : Cn) : ∀ L, (insL c L).length = L.length + 1
  | [] => rfl
  | y :: r => by
    unfold insL
    split
    · rfl
    · simp [len_insL c r]
theorem Up.ins {L : List Cn} (h : Up L) {c : Cn} (hc : c ∉ L) : Up (insL c L) := by
  induction L with
  | nil => exact List.pairwise_singleton _ _
  | cons y r ih =>
    have h' := List.pairwise_cons.1 h
    unfold insL
    split
    · rename_i ha
      exact List.pairwise_cons.2 ⟨fun x hx => by
        rcases List.mem_cons.1 hx with rfl | hx
        · exact ha
        · exact ahead_trans ha (h'.1 x hx), h⟩
    · rename_i ha
      refine List.pairwise_cons.2 ⟨fun x hx => ?_, ih h'.2 (fun hm => hc (List.mem_cons_of_mem _ hm))⟩
      rcases (mem_insL c x r).1 hx with rfl | hx
      · rcases ahead_total x y with a | a | a
        · exact absurd a ha
        · exact absurd (a ▸ List.mem_cons_self) hc
        · exact a
      · exact h'.1 x hx
theorem Up.filter {L : List Cn} (h : Up L) (p : Cn → Bool) : Up (L.filter p) := List.Pairwise.filter p h

/-- it can be -/
def okC (c : Cn) : Prop := 1 ≤ c.nm.size ∧ c.nm.size ≤ 20 ∧ 1 ≤ c.day ∧ c.day ≤ 3652059
open Classical in
/-- one is added: what there is then, what is told -/
noncomputable def addF (L : List Cn) (c : Cn) : List Cn × Int :=
  if ¬ okC c then (L, 1) else if c ∈ L then (L, 0) else if 128 ≤ L.length then (L, 4) else (insL c L, 0)
noncomputable def dropF (L : List Cn) (c : Cn) : List Cn := L.filter (fun x => decide (x ≠ c))
noncomputable def dropN (L : List Cn) (s : ByteArray) : List Cn := L.filter (fun x => decide (x.nm ≠ s))
def cleanF (L : List Cn) (d : Int) : List Cn := L.filter (fun x => decide (d ≤ x.day))

theorem mem_drop (L : List Cn) (c d : Cn) : d ∈ dropF L c ↔ d ∈ L ∧ d ≠ c := by unfold dropF; simp [List.mem_filter]
theorem drop_not {L : List Cn} {c : Cn} (h : c ∉ L) : dropF L c = L := List.filter_eq_self.2 fun x hx => decide_eq_true (fun e => h (e ▸ hx))
theorem len_drop_not {L : List Cn} {c : Cn} (h : c ∉ L) : (dropF L c).length = L.length := by rw [drop_not h]
theorem len_drop_mem {L : List Cn} {c : Cn} (hL : Up L) (h : c ∈ L) : (dropF L c).length + 1 = L.length := by
  induction L with
  | nil => simp at h
  | cons a r ih =>
    have h' := List.pairwise_cons.1 hL
    by_cases e : a = c
    · subst e
      have hn : a ∉ r := fun hm => ahead_irrefl _ (h'.1 a hm)
      have : dropF (a :: r) a = dropF r a := by unfold dropF; simp
      rw [this, len_drop_not hn]; rfl
    · have : dropF (a :: r) c = a :: dropF r c := by unfold dropF; simp [e]
      rw [this]
      have hr : c ∈ r := by
        rcases List.mem_cons.1 h with x | x
        · exact absurd x.symm e
        · exact x
      simp [ih h'.2 hr]
/-- what a store holds: in order, each can be, no more than there may be -/
structure Fine (L : List Cn) : Prop where
  up : Up L
  ok : ∀ c ∈ L, okC c
  le : L.length ≤ 128
theorem Fine.nil : Fine [] := ⟨List.Pairwise.nil, fun c hc => by simp at hc, by simp⟩
theorem Fine.filter {L : List Cn} (h : Fine L) (p : Cn → Bool) : Fine (L.filter p) :=
  ⟨h.up.filter p, fun c hc => h.ok c (List.mem_filter.1 hc).1, Nat.le_trans (List.length_filter_le _ _) h.le⟩
theorem Fine.add {L : List Cn} (h : Fine L) (c : Cn) : Fine (addF L c).1 := by
  unfold addF
  split
  · exact h
  · rename_i h1
    split
    · exact h
    · rename_i h2
      split
      · exact h
      · rename_i h3
        exact ⟨h.up.ins h2, fun x hx => by
          rcases (mem_insL c x L).1 hx with rfl | hx
          · exact Classical.not_not.1 h1
          · exact h.ok x hx, by rw [len_insL]; omega⟩
end Go.DsCo
