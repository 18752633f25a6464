/- Package cond: a map of conditions: its keys, what it holds. -/
import Derived.Test.YtliinilbfacpbaaClA
import Derived.Test.YtliinilbfacpbaaProg
import Derived.Maps.OwnSet
import Derived.Maps.RangeWalk
import Derived.Maps.Views
import Derived.DeepKeys4
import Derived.Carry
namespace Go.Proofs.Ytliinilbfacpbaa
open Go.ChangeShapes Go.WideShapes Go.ChangeAt Go.RowKit Go.DsMem Go.DsCo
set_option linter.unusedVariables false

theorem laidOutC : laidOutB Try.prog = true := by kernel_rfl
theorem cnRow : 24 < Try.prog.types.size := of_decide_eq_true (by kernel_rfl)
theorem cnLaw : Maps.Keyed Try.prog 24 := Maps.Keyed.of_law (deep_law_laid laidOutC (m := 4) (by decide) cnRow (by kernel_rfl) (by kernel_rfl))
theorem cnType : Try.prog.keyType 24 = true := by kernel_rfl
theorem cnCells : Try.prog.cellsOf 24 = 2 := by kernel_rfl
theorem cnStr1 : Try.prog.cellsOf 9 = 1 := by kernel_rfl
theorem cnInt1 : Try.prog.cellsOf 2 = 1 := by kernel_rfl
theorem cnZero (w : World) : (zeroValue 53).run Try.prog w = .ok (.agg #[]) w := by kernel_rfl
/-- a condition as a value -/
def cvl (c : Cn) : Value := .agg #[.string c.nm, .int .i64 c.day]
/-- it fits the machine -/
def fitC (c : Cn) : Prop := c.nm.size ≤ 140737488355000 ∧ -9223372036854775808 ≤ c.day ∧ c.day ≤ 9223372036854775807
theorem okC.fit {c : Cn} (h : okC c) : fitC c := ⟨by have := h.2.1; omega, by have := h.2.2.1; omega, by have := h.2.2.2; omega⟩
theorem cn_key (c : Cn) (h : fitC c) : ∃ kl, keyOf Try.prog 24 (cvl c) = some kl := by
  obtain ⟨h0, h1, h2⟩ := h
  have w1 : (Lit.int .i64 c.day).wf = true := WalkArith.wf_i64 ⟨h1, h2⟩
  have w2 : c.nm.size ≤ maxLen := by unfold maxLen; omega
  unfold keyOf cvl
  rw [Try.underlying24]
  simp only
  rw [if_pos (by rw [cnType]; simp [Value.formed, Try.underlying24, cnCells])]
  have hsz : ∃ m, Try.prog.types.size = m + 1 := ⟨Try.prog.types.size - 1, by have := cnRow; omega⟩
  obtain ⟨m, hm⟩ := hsz
  rw [hm]
  unfold Program.keyLits
  rw [Try.underlying24]
  simp [Value.cells, cnCells, Program.keyLits, Try.underlying9, Try.underlying2, cnStr1, cnInt1, w1, w2]
theorem cvl_inj {c d : Cn} (h : cvl c = cvl d) : c = d := by
  unfold cvl at h
  simp at h
  exact Cn.ext' h.1 h.2
theorem cn_keys {c d : Cn} {kl : Lit} (h : keyOf Try.prog 24 (cvl c) = some kl) (h' : keyOf Try.prog 24 (cvl d) = some kl) : c = d := cvl_inj (cnLaw.inj h h')

/-- the map in block B holds just the conditions of L -/
def Sto (w : World) (B : Nat) (L : List Cn) : Prop :=
  ∃ D : DataW Unit, w.ownsMap Try.prog 24 unitElem B L.length D ∧ Maps.size D = L.length ∧ ∀ (c : Cn) (kl : Lit), keyOf Try.prog 24 (cvl c) = some kl → (Maps.has D kl = true ↔ c ∈ L)
theorem Sto.same {w w' : World} {B : Nat} {L : List Cn} (h : Sto w B L) (hb : w'.heap[B]? = w.heap[B]?) : Sto w' B L := by
  obtain ⟨D, ⟨es, clock, h1, h2⟩, h3⟩ := h
  exact ⟨D, ⟨es, clock, by rw [hb]; exact h1, h2⟩, h3⟩
theorem Sto.lt {w : World} {B : Nat} {L : List Cn} (h : Sto w B L) : B < w.heap.size := by
  obtain ⟨D, ⟨es, clock, h1, h2⟩, h3⟩ := h
  exact block_lt h1
theorem Sto.below {w w' : World} {B : Nat} {L : List Cn} (h : Sto w B L) (hb : Below w.heap.size w w') : Sto w' B L := h.same (hb.block B h.lt)
theorem Sto.only {S : Nat → Prop} {w w' : World} {B : Nat} {L : List Cn} (h : Sto w B L) (ho : Only S w w') (hs : ¬ S B) : Sto w' B L := h.same (ho.block B h.lt hs)
theorem Sto.drew {w : World} {B : Nat} {L : List Cn} (h : Sto w B L) : Sto w.drew B L := h
theorem own_tight {P : Program} {k : TypeId} {R : Value → Option (DataW Unit × List MemPlace)} {w : World} {b n : Nat} {D : DataW Unit} (h : w.ownsMap P k R b n D) : w.ownsMap P k R b (Maps.size D) D := by
  obtain ⟨es, clock, hb, F, hs, rfl⟩ := h
  exact ⟨es, clock, hb, F, by simp [Maps.size, length_sorted], rfl⟩
theorem Sto.made (w : World) : Sto (w.alloc (.map #[] 0)) w.heap.size [] :=
  ⟨.map [], World.ownsMap_made (H := Unit) w Try.prog 24 unitElem, rfl, fun c kl _ => by simp [Maps.has]⟩
/-- what is there in the other's words -/
theorem Sto.perm {w : World} {B : Nat} {L M : List Cn} (h : Sto w B L) (hl : M.length = L.length) (hm : ∀ c, c ∈ M ↔ c ∈ L) : Sto w B M := by
  obtain ⟨D, h1, h2, h3⟩ := h
  exact ⟨D, by rw [hl]; exact h1, by rw [hl]; exact h2, fun c kl hk => (h3 c kl hk).trans (hm c).symm⟩
/-- a key more -/
theorem Sto.put {w : World} {B : Nat} {L : List Cn} {c : Cn} (h : Sto w B L) (hc : fitC c) (hn : c ∉ L) (hl : L.length ≤ 1000) :
    ∃ w', (Instr.mapUpdate 49 (.map (some B)) (cvl c) (.agg #[])).run Try.prog w = .ok () w' ∧ Sto w' B (insL c L) ∧ Only (· = B) w w' := by
  obtain ⟨D, h1, h2, h3⟩ := h
  obtain ⟨kl, hkl⟩ := cn_key c hc
  obtain ⟨w', hrun, hown, hturn⟩ := h1.store cnLaw Try.underlying49 (by unfold maxLen; omega) hkl unitElem_mk
  refine ⟨w', hrun, ⟨_, by rw [len_insL]; exact hown, ?_, fun d kd hkd => ?_⟩, ?_⟩
  · rw [Maps.size_put (h1.tidy cnLaw), if_neg (fun e => hn ((h3 c kl hkl).1 e)), len_insL, h2]
  · rw [mem_insL]
    by_cases e : kd = kl
    · subst e
      obtain rfl := cn_keys hkd hkl
      simp [Maps.has_put_same h1.isMap (cnLaw.key hkl)]
    · rw [Maps.has_put_other e, h3 d kd hkd]
      constructor
      · exact .inr
      · rintro (rfl | h)
        · exact absurd (Option.some.inj (hkd.symm.trans hkl)) e
        · exact h
  · obtain ⟨es, clock, es', clock', hb, rfl⟩ := hturn
    refine ⟨rfl, rfl, rfl, by simp [ChangeMaps.setBlock], fun i hi hne => ?_⟩
    simp only [ChangeMaps.setBlock, Array.getElem?_setIfInBounds]
    rw [if_neg (fun e => hne e.symm)]
theorem turned_only {w w' : World} {B : Nat} (h : w.mapTurned w' B) : Only (· = B) w w' := by
  obtain ⟨es, clock, es', clock', hb, rfl⟩ := h
  refine ⟨rfl, rfl, rfl, by simp [ChangeMaps.setBlock], fun i hi hne => ?_⟩
  simp only [ChangeMaps.setBlock, Array.getElem?_setIfInBounds]
  rw [if_neg (fun e => hne e.symm)]
/-- a key less -/
theorem Sto.del {w : World} {B : Nat} {L : List Cn} {c : Cn} (h : Sto w B L) (hf : Up L) (hc : fitC c) (ty : TypeId) :
    ∃ w', (Builtin.delete_ #[49, 24] ty #[.map (some B), cvl c]).run Try.prog w = .ok (.tuple #[]) w' ∧ Sto w' B (dropF L c) ∧ Only (· = B) w w' := by
  obtain ⟨D, h1, h2, h3⟩ := h
  obtain ⟨kl, hkl⟩ := cn_key c hc
  obtain ⟨w', hrun, hown, hturn⟩ := h1.drop cnLaw Try.underlying49 hkl ty
  have hsz : Maps.size (D.del kl) = (dropF L c).length := by
    have hd := Maps.size_del (k := kl) (h1.tidy cnLaw)
    have hi := h3 c kl hkl
    rw [h2] at hd
    by_cases hm : c ∈ L
    · rw [if_pos (hi.2 hm)] at hd
      have := len_drop_mem hf hm
      omega
    · rw [if_neg (fun e => hm (hi.1 e))] at hd
      rw [len_drop_not hm]
      omega
  refine ⟨w', hrun, ⟨_, by rw [← hsz]; exact own_tight hown, hsz, fun d kd hkd => ?_⟩, turned_only hturn⟩
  · rw [mem_drop]
    by_cases e : kd = kl
    · subst e
      obtain rfl := cn_keys hkd hkl
      simp [Maps.has_del_same]
    · rw [Maps.has_del_other e, h3 d kd hkd]
      constructor
      · exact fun h => ⟨h, fun e' => e (by subst e'; exact Option.some.inj (hkd.symm.trans hkl))⟩
      · exact fun h => h.1
end Go.Proofs.Ytliinilbfacpbaa
