/- What each law's row of package mask gives its walk: the table that it lists, cell by cell; what comes in, opened; and a world that meets the list. -/
import Derived.Test.YtjalachjmmojhaaDoorMkB
import Derived.Test.YtjalachjmmojhaaDoorRows
import Derived.WalkKit
import Derived.ProofKit
import Derived.OpenShut
import Derived.ShutString
import Derived.ChangeOld
import Derived.Below
import Derived.SizedLaws
import Derived.Deep.Slices
import Derived.Deep.DeepHandedRow
import Derived.Lib.LaidTab
namespace Go.Proofs.YtjalachjmmojhaaDoor
open Go.ChangeShapes Go.WideShapes Go.ChangeAt Go.RowKit Go.DsMem Go.DsMk

theorem own : ownKnob Tryd.prog.godebug = none := by kernel_rfl
theorem laidOut : laidOutB Tryd.prog = true := by kernel_rfl
theorem gTab : Tryd.prog.globalNamed (Rows.maskBothRow.laid.headD ("", .nil)).1 = some 0 := by kernel_rfl
theorem gTabType : (Tryd.prog.globals[0]?).map (·.type) = some 89 := by kernel_rfl
theorem cellsTab : Tryd.prog.cellsOf 89 = 32 := by kernel_rfl
theorem cellsU8 : Tryd.prog.cellsOf 5 = 1 := by kernel_rfl

theorem table {W : World} (h : laidMetH Tryd.prog Rows.maskBothRow.laid W) : Lib.TabIs Tryd.prog W (Rows.maskBothRow.laid.headD ("", .nil)).1 .u8 [0, 1, 28, 2, 29, 14, 24, 3, 30, 22, 20, 15, 25, 17, 4, 8, 31, 27, 13, 23, 21, 19, 16, 7, 26, 12, 18, 6, 11, 5, 10, 9] :=
  Lib.tabIs_of_head (rest := []) gTab gTabType Tryd.underlying89 Tryd.underlying5 cellsU8 cellsTab h
theorem tab_of {W : World} (h : laidMetH Tryd.prog Rows.maskBothRow.laid W) : TabT W := by
  have h := table h
  intro k hk
  match k, hk with
  | 0, _ => exact h.cell gTab 0 (by decide)
  | 1, _ => exact h.cell gTab 1 (by decide)
  | 2, _ => exact h.cell gTab 2 (by decide)
  | 3, _ => exact h.cell gTab 3 (by decide)
  | 4, _ => exact h.cell gTab 4 (by decide)
  | 5, _ => exact h.cell gTab 5 (by decide)
  | 6, _ => exact h.cell gTab 6 (by decide)
  | 7, _ => exact h.cell gTab 7 (by decide)
  | 8, _ => exact h.cell gTab 8 (by decide)
  | 9, _ => exact h.cell gTab 9 (by decide)
  | 10, _ => exact h.cell gTab 10 (by decide)
  | 11, _ => exact h.cell gTab 11 (by decide)
  | 12, _ => exact h.cell gTab 12 (by decide)
  | 13, _ => exact h.cell gTab 13 (by decide)
  | 14, _ => exact h.cell gTab 14 (by decide)
  | 15, _ => exact h.cell gTab 15 (by decide)
  | 16, _ => exact h.cell gTab 16 (by decide)
  | 17, _ => exact h.cell gTab 17 (by decide)
  | 18, _ => exact h.cell gTab 18 (by decide)
  | 19, _ => exact h.cell gTab 19 (by decide)
  | 20, _ => exact h.cell gTab 20 (by decide)
  | 21, _ => exact h.cell gTab 21 (by decide)
  | 22, _ => exact h.cell gTab 22 (by decide)
  | 23, _ => exact h.cell gTab 23 (by decide)
  | 24, _ => exact h.cell gTab 24 (by decide)
  | 25, _ => exact h.cell gTab 25 (by decide)
  | 26, _ => exact h.cell gTab 26 (by decide)
  | 27, _ => exact h.cell gTab 27 (by decide)
  | 28, _ => exact h.cell gTab 28 (by decide)
  | 29, _ => exact h.cell gTab 29 (by decide)
  | 30, _ => exact h.cell gTab 30 (by decide)
  | 31, _ => exact h.cell gTab 31 (by decide)
  | k + 32, hk => omega

/-- A world for the witness: the settled one, the table (block 0) holding what its initialiser lays. -/
def laidWorld1 (P : Program) (os : Os) : World :=
  { World.holding P os ⟨#[], #[], []⟩ with heap := (World.holding P os ⟨#[], #[], []⟩).heap.modify 0 fun
      | .cells _ t frozen => .cells #[.int .u8 0, .int .u8 1, .int .u8 28, .int .u8 2, .int .u8 29, .int .u8 14, .int .u8 24, .int .u8 3, .int .u8 30, .int .u8 22, .int .u8 20, .int .u8 15, .int .u8 25, .int .u8 17, .int .u8 4, .int .u8 8, .int .u8 31, .int .u8 27, .int .u8 13, .int .u8 23, .int .u8 21, .int .u8 19, .int .u8 16, .int .u8 7, .int .u8 26, .int .u8 12, .int .u8 18, .int .u8 6, .int .u8 11, .int .u8 5, .int .u8 10, .int .u8 9] t frozen
      | o => o }

section
variable {H : Type} {enc : TypeId × Value → H} {W : World}
theorem cells_i64 : Tryd.prog.cellsOf 2 = 1 := by kernel_rfl
theorem bytes_i64 : Tryd.prog.bytesOf 2 = 8 := by kernel_rfl
theorem row_rdi {w : World} {a : Option Addr} {len cap : Nat} {zs : List Int} (h : (a = none ∧ len = 0 ∧ cap = 0 ∧ zs = []) ∨
    ∃ x, a = some x ∧ len ≤ cap ∧ cap ≤ maxLen ∧ zs.length = cap ∧ (∀ i, i < zs.length → w.cell? (x.add i) = some (.int .i64 (zs.getD i 0))) ∧ ∀ n ∈ zs, (Lit.int .i64 n).wf = true) :
    ∃ l : List Int, l.length = len ∧ RdI w (.slice a len cap) l ∧ ∀ k ∈ l, -9223372036854775808 ≤ k ∧ k ≤ 9223372036854775807 := by
  rcases h with ⟨rfl, rfl, rfl, rfl⟩ | ⟨x, rfl, hl, hm, hz, hc, hw⟩
  · exact ⟨[], rfl, RdI.nil w, fun k hk => by cases hk⟩
  · have hlen : (zs.take len).length = len := by simp; omega
    refine ⟨zs.take len, hlen, ⟨some x, cap, by rw [hlen], by rw [hlen]; exact hl, fun h => (by cases h), fun y hy j u hu => ?_⟩, fun k hk => bounds_i64 (hw k (List.mem_of_mem_take hk))⟩
    obtain rfl : x = y := Option.some.inj hy
    have hj : j < len := by
      have := (List.getElem?_eq_some_iff.1 hu).1
      omega
    have hjz : j < zs.length := by omega
    rw [hc j hjz]
    simp [hj, List.getElem?_eq_getElem hjz] at hu
    simp [List.getD, List.getElem?_eq_getElem hjz, hu]
theorem open_nums {n : Nat} {c : Value} {y : DataW H × List MemPlace} (h : DataW.trod enc Tryd.prog W 0 (fun _ => true) true n 22 [c] = some y)
    (hs : (y.1.weights Tryd.prog 22).all (· ≤ reachBytes) = true) :
    ∃ (l : List Int) (ao : Option Addr) (cap : Nat), c = .slice ao l.length cap ∧ RdI W c l ∧ l.length ≤ 17592186043904 ∧ ∀ k ∈ l, -9223372036854775808 ≤ k ∧ k ≤ 9223372036854775807 := by
  rcases open_ints Tryd.underlying22 Tryd.underlying2 cells_i64 h with ⟨hcs, _⟩ | ⟨x, l, cp, zs, hcs, _, hl, hm, hz, hx, hcell, hwz⟩
  · simp at hcs; subst hcs
    exact ⟨[], none, 0, rfl, RdI.nil W, by simp, fun k hk => by cases hk⟩
  · simp at hcs; subst hcs
    obtain ⟨l', hl', hr, hb⟩ := row_rdi (w := W) (a := some x) (len := l) (cap := cp) (zs := zs) (.inr ⟨x, rfl, hl, hm, by simpa using hz, hcell, hwz⟩)
    refine ⟨l', some x, cp, by rw [hl'], hr, ?_, hb⟩
    rw [hx] at hs
    simp only [DataW.weights, Tryd.underlying22, List.all_cons, Bool.and_eq_true, decide_eq_true_eq, bytes_i64] at hs
    have := hs.1
    simp only [lits, List.length_map, List.length_take, List.length_drop, reachBytes] at this
    have hz' : zs.length = cp := by simpa using hz
    omega
theorem weights_at {ts : List TypeId} {ds : List (DataW H)} (h : (DataW.weightsEach Tryd.prog ts ds).all (· ≤ reachBytes) = true) {j : Nat} {t : TypeId} {d : DataW H} (ht : ts[j]? = some t) (hd : ds[j]? = some d) :
    (d.weights Tryd.prog t).all (· ≤ reachBytes) = true := by
  rw [List.all_eq_true]
  intro x hx
  exact List.all_eq_true.1 h _ (DataW.weights_mem_each ht hd x hx)
end
end Go.Proofs.YtjalachjmmojhaaDoor
