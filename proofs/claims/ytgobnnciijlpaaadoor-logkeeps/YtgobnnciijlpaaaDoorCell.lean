/- What comes in, opened: a cell that holds a slice of bytes, or of numbers; where it lies, how long it is. -/
import Derived.Test.YtgobnnciijlpaaaDoorDkH
import Derived.Deep.Slices
import Derived.SizedLaws
namespace Go.Proofs.YtgobnnciijlpaaaDoor
open Go.ChangeShapes Go.WideShapes Go.ChangeAt Go.RowKit Go.DsMem Go.DsDk
set_option linter.unusedVariables false

section
variable {H : Type} {enc : TypeId × Value → H} {W : World}
theorem cells_u8 : Tryd.prog.cellsOf 5 = 1 := by kernel_rfl
theorem cells_int : Tryd.prog.cellsOf 3 = 1 := by kernel_rfl
theorem bytes_u8 : Tryd.prog.bytesOf 5 = 1 := by kernel_rfl

theorem open_bytes {n : Nat} {c : Value} {y : DataW H × List MemPlace} (h : DataW.trod enc Tryd.prog W 0 (fun _ => true) true n 28 [c] = some y)
    (hs : (y.1.weights Tryd.prog 28).all (· ≤ reachBytes) = true) : ∃ (l : List UInt8) (ao : Option Addr) (cap : Nat), c = .slice ao l.length cap ∧ Rd W c l ∧ l.length ≤ 140737488351232 := by
  rcases open_ints Tryd.underlying28 Tryd.underlying5 cells_u8 h with ⟨hcs, _⟩ | ⟨x, l, cp, zs, hcs, _, hl, hm, hz, hx, hcell, hwz⟩
  · simp at hcs; subst hcs
    exact ⟨[], none, 0, rfl, Rd.nil W, by simp⟩
  · simp at hcs; subst hcs
    obtain ⟨l', hl', hr⟩ := row_rd (w := W) (a := some x) (len := l) (cap := cp) (zs := zs) (.inr ⟨x, rfl, hl, hm, by simpa using hz, hcell, hwz⟩)
    refine ⟨l', some x, cp, by rw [hl'], hr, ?_⟩
    rw [hx] at hs
    simp only [DataW.weights, Tryd.underlying28, List.all_cons, Bool.and_eq_true, decide_eq_true_eq, bytes_u8] at hs
    have := hs.1
    simp only [lits, List.length_map, List.length_take, List.length_drop, reachBytes] at this
    have hz' : zs.length = cp := by simpa using hz
    omega
theorem open_nums {n : Nat} {c : Value} {y : DataW H × List MemPlace} (h : DataW.trod enc Tryd.prog W 0 (fun _ => true) true n 36 [c] = some y) :
    ∃ (l : List Int) (ao : Option Addr) (cap : Nat), c = .slice ao l.length cap ∧ RdI W c l := by
  rcases open_ints Tryd.underlying36 Tryd.underlying3 cells_int h with ⟨hcs, _⟩ | ⟨x, l, cp, zs, hcs, _, hl, hm, hz, hx, hcell, hwz⟩
  · simp at hcs; subst hcs
    exact ⟨[], none, 0, rfl, RdI.nil W⟩
  · simp at hcs; subst hcs
    obtain ⟨l', hl', hr⟩ := row_rdi (w := W) (a := some x) (len := l) (cap := cp) (zs := zs) (.inr ⟨x, rfl, hl, hm, by simpa using hz, hcell, hwz⟩)
    exact ⟨l', some x, cp, by rw [hl'], hr⟩
theorem open_num {n : Nat} {c : Value} {y : DataW H × List MemPlace} (h : DataW.trod enc Tryd.prog W 0 (fun _ => true) true n 3 [c] = some y) :
    ∃ x : Int, c = .int .i64 x ∧ -9223372036854775808 ≤ x ∧ x ≤ 9223372036854775807 := by
  obtain ⟨x, e, _, hw⟩ := DataW.trod_int Tryd.underlying3 h
  simp at e
  exact ⟨x, e, bounds_i64 hw⟩
theorem weights_at {ts : List TypeId} {ds : List (DataW H)} (h : (DataW.weightsEach Tryd.prog ts ds).all (· ≤ reachBytes) = true) {j : Nat} {t : TypeId} {d : DataW H} (ht : ts[j]? = some t) (hd : ds[j]? = some d) :
    (d.weights Tryd.prog t).all (· ≤ reachBytes) = true := by
  rw [List.all_eq_true]
  intro x hx
  exact List.all_eq_true.1 h _ (DataW.weights_mem_each ht hd x hx)
theorem weights_all {e : TypeId} {ds : List (DataW H)} (h : (DataW.weightsAll Tryd.prog e ds).all (· ≤ reachBytes) = true) {j : Nat} {d : DataW H} (hd : ds[j]? = some d) :
    (d.weights Tryd.prog e).all (· ≤ reachBytes) = true := by
  induction ds generalizing j with
  | nil => simp at hd
  | cons a r ih =>
    simp only [DataW.weightsAll, List.all_append, Bool.and_eq_true] at h
    cases j with
    | zero => simp at hd; subst hd; exact h.1
    | succ j => exact ih h.2 (by simpa using hd)
/-- the elements of a slice that came in -/
theorem weights_elem {t e : TypeId} {es sp : List (DataW H)} (ht : Tryd.prog.underlying t = some (.slice e)) (h : ((DataW.slice es sp).weights Tryd.prog t).all (· ≤ reachBytes) = true) {j : Nat} {d : DataW H} (hd : es[j]? = some d) :
    (d.weights Tryd.prog e).all (· ≤ reachBytes) = true := by
  simp only [DataW.weights, ht, List.all_cons, List.all_append, Bool.and_eq_true] at h
  exact weights_all h.2.1 hd
/-- a cell of an element that came in: its address is plain -/
theorem plain_addr {a : Addr} {v : Value} (h : W.cell? a = some v) : a = ⟨a.block, a.off, none⟩ := by
  have : a.spot = none := by
    unfold World.cell? at h
    cases hs : a.spot with
    | none => rfl
    | some s => rw [hs] at h; revert h; cases W.heap[a.block]? with
      | none => simp
      | some o => cases o <;> simp
  cases a; simp_all
theorem cells_at {a : Addr} {n : Nat} {cs : List Value} (h : W.cells? 0 a n = some cs) : cs.length = n ∧ ∀ j v, cs[j]? = some v → W.cell? (a.add j) = some v := by
  obtain ⟨_, hlen, hc⟩ := World.cells?_some h
  exact ⟨hlen, fun j v hv => by
    have hj : j < n := by have := (List.getElem?_eq_some_iff.1 hv).1; omega
    rw [hc j hj, hv]⟩
end
end Go.Proofs.YtgobnnciijlpaaaDoor
