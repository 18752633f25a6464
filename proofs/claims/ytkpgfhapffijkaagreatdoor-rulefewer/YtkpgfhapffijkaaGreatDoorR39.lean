/- Package jdl: read: a fault is caught. -/
import Derived.Test.YtkpgfhapffijkaaGreatDoorR18
import Derived.Defers
import Derived.Recover
namespace Go.Proofs.YtkpgfhapffijkaaGreatDoor
open Go.ChangeShapes Go.WideShapes Go.ChangeAt Go.RowKit Go.DsMem Go.DsLx Go.DsJd Go.DsMk
set_option linter.unusedVariables false
abbrev zSrc : Array Value := #[.int .i64 0, .int .i64 0, .slice none 0 0, .slice none 0 0, .slice none 0 0]
/-- the named results in their blocks -/
structure Res3 (w : World) (p : Nat) (cs : Array Value) (a b : Int) : Prop where
  src : w.heap[p]? = some (.cells cs 26 (0, 0))
  at_ : w.heap[p + 1]? = some (.cells #[.int .i64 a] 3 (0, 0))
  er : w.heap[p + 2]? = some (.cells #[.int .i64 b] 27 (0, 0))
set_option maxHeartbeats 800000 in
set_option maxRecDepth 20000 in
theorem read1_panics (p : Nat) (f : Fl) (w : World) (h : Res3 w p #[.int .i64 0, .int .i64 0, .slice none 0 0, .slice none 0 0, .slice none 0 0] 0 0) :
    CallsD Tryz.prog 49 #[.pointer (some ⟨p, 0, none⟩), .pointer (some ⟨p + 1, 0, none⟩), .pointer (some ⟨p + 2, 0, none⟩)] (.panicking [{ v := flV f, recovered := false }]) w fun e u' w' =>
      e = .returned (.tuple #[]) ∧ u' = .panicking [{ v := flV f, recovered := true }] ∧ Res3 w' p zSrc f.1 f.2 ∧ Only (fun i => p ≤ i ∧ i ≤ p + 2) w w' := by
  obtain ⟨f1, f2⟩ := f
  have q0 : w.cell? ⟨p, 0, none⟩ = some (.int .i64 0) := by rw [cell_of h.src]; rfl
  have q1 : w.cell? ⟨p, 1, none⟩ = some (.int .i64 0) := by rw [cell_of h.src]; rfl
  have q2 : w.cell? ⟨p, 2, none⟩ = some (.slice none 0 0) := by rw [cell_of h.src]; rfl
  have q3 : w.cell? ⟨p, 3, none⟩ = some (.slice none 0 0) := by rw [cell_of h.src]; rfl
  have q4 : w.cell? ⟨p, 4, none⟩ = some (.slice none 0 0) := by rw [cell_of h.src]; rfl
  have q5 : w.cell? ⟨p + 1, 0, none⟩ = some (.int .i64 0) := by rw [cell_of h.at_]; rfl
  have q6 : w.cell? ⟨p + 2, 0, none⟩ = some (.int .i64 0) := by rw [cell_of h.er]; rfl
  have f0 : ∀ k, w.frozen? ⟨p, k, none⟩ = false := fun k => frozen_of h.src
  have f5 : w.frozen? ⟨p + 1, 0, none⟩ = false := frozen_of h.at_
  have f6 : w.frozen? ⟨p + 2, 0, none⟩ = false := frozen_of h.er
  have hl := block_lt h.er
  have hn0 : ¬ p = w.heap.size := by omega
  have hn1 : ¬ p + 1 = w.heap.size := by omega
  have hn2 : ¬ p + 2 = w.heap.size := by omega
  have hn3 : ¬ w.heap.size = p := by omega
  have hn4 : ¬ w.heap.size = p + 1 := by omega
  have hn5 : ¬ w.heap.size = p + 2 := by omega
  have hta : ∀ (v : Value) (w : World), (Instr.typeAssert (.iface 137 v) 20 137 true).run Tryz.prog w = .ok (.tuple #[v, .bool true]) w := fun v w => by kernel_rfl
  unfold flV
  simp only
  refine callsD_of_wpS Tryz.func49 rfl fun c₀ cs hu => ?_
  simp only [Tryz.ntmps49, List.size_toArray, List.length_cons, List.length_nil, Nat.reduceAdd, Nat.reduceSub, Array.replicate_succ, Array.replicate_zero, List.push_toArray, List.append_toArray, List.nil_append, List.cons_append]
  apply wpS_seq
  apply wpS_region
  simp [wpOpsS, go_sem, recoverD, hu, Exit.thenS]
  refine wpS_of_wp ?_
  go_wp2
  obtain ⟨w1, hw1⟩ : ∃ w1, w1 = w.alloc (.cells #[.int .i64 f1, .int .i64 f2] 137) := ⟨_, rfl⟩
  have hb : Below w.heap.size w w1 := by rw [hw1]; exact (Below.refl _ _).alloc (Nat.le_refl _) _
  have hO : Only (fun _ => False) w w1 := by rw [hw1]; exact Only.alloc _ _ _
  have a0 : w1.cell? ⟨w.heap.size, 0, none⟩ = some (.int .i64 f1) := by rw [hw1, World.cell?_alloc_mark]; rfl
  have a1 : w1.cell? ⟨w.heap.size, 1, none⟩ = some (.int .i64 f2) := by rw [hw1, World.cell?_alloc_mark]; rfl
  have R1 : Res3 w1 p #[.int .i64 0, .int .i64 0, .slice none 0 0, .slice none 0 0, .slice none 0 0] 0 0 := ⟨by rw [hO.block p (by omega) (fun e => e)]; exact h.src, by rw [hO.block (p + 1) (by omega) (fun e => e)]; exact h.at_, by rw [hO.block (p + 2) (by omega) (fun e => e)]; exact h.er⟩
  rw [← hw1]
  have HR := hide R1
  have HOO := hide hO
  have k0 : w1.cell? ⟨p, 0, none⟩ = some (.int .i64 0) := by rw [cell_of R1.src]; rfl
  have k1 : w1.cell? ⟨p, 1, none⟩ = some (.int .i64 0) := by rw [cell_of R1.src]; rfl
  have k2 : w1.cell? ⟨p, 2, none⟩ = some (.slice none 0 0) := by rw [cell_of R1.src]; rfl
  have k3 : w1.cell? ⟨p, 3, none⟩ = some (.slice none 0 0) := by rw [cell_of R1.src]; rfl
  have k4 : w1.cell? ⟨p, 4, none⟩ = some (.slice none 0 0) := by rw [cell_of R1.src]; rfl
  have k5 : w1.cell? ⟨p + 1, 0, none⟩ = some (.int .i64 0) := by rw [cell_of R1.at_]; rfl
  have k6 : w1.cell? ⟨p + 2, 0, none⟩ = some (.int .i64 0) := by rw [cell_of R1.er]; rfl
  have g0 : ∀ k, w1.frozen? ⟨p, k, none⟩ = false := fun k => frozen_of R1.src
  have g5 : w1.frozen? ⟨p + 1, 0, none⟩ = false := frozen_of R1.at_
  have g6 : w1.frozen? ⟨p + 2, 0, none⟩ = false := frozen_of R1.er
  clear hw1 hb hO R1 h q0 q1 q2 q3 q4 q5 q6 f0 f5 f6
  go_region
  all_goals
    go_wp2
    have hsz := HOO.out.size
    refine ⟨rfl, _, rfl, .tuple #[], results_none rfl _ _ _, rfl, rfl, ?_, ?_⟩
    · have e0 := hset_same (k := 0) HR.out.src (.int .i64 0)
      have e1 := hset_same (k := 1) e0 (.int .i64 0)
      have e2 := hset_same (k := 2) e1 (.slice none 0 0)
      have e3 := hset_same (k := 3) e2 (.slice none 0 0)
      have e4 := hset_same (k := 4) e3 (.slice none 0 0)
      have O5 : Only (· = p) w1 _ := (((((Only.set w1 p 0 (.int .i64 0)).trans (Only.set _ p 1 (.int .i64 0)) (fun _ _ e => e)).trans (Only.set _ p 2 (.slice none 0 0)) (fun _ _ e => e)).trans (Only.set _ p 3 (.slice none 0 0)) (fun _ _ e => e)).trans (Only.set _ p 4 (.slice none 0 0)) (fun _ _ e => e))
      have hs5 := O5.size
      have b5 := (O5.block (p + 1) (by omega) (by omega)).trans HR.out.at_
      have c5 := (O5.block (p + 2) (by omega) (by omega)).trans HR.out.er
      generalize ((((w1.setCell ⟨p, 0, none⟩ (.int .i64 0)).setCell ⟨p, 1, none⟩ (.int .i64 0)).setCell ⟨p, 2, none⟩ (.slice none 0 0)).setCell ⟨p, 3, none⟩ (.slice none 0 0)).setCell ⟨p, 4, none⟩ (.slice none 0 0) = A at *
      have O6 := Only.set A (p + 1) 0 (.int .i64 f1)
      have hs6 := O6.size
      have d6 := hset_same (k := 0) b5 (.int .i64 f1)
      have c6 := (O6.block (p + 2) (by omega) (by omega)).trans c5
      have a6 := (O6.block p (by omega) (by omega)).trans e4
      generalize A.setCell ⟨p + 1, 0, none⟩ (.int .i64 f1) = B at *
      have O7 := Only.set B (p + 2) 0 (.int .i64 f2)
      exact ⟨((O7.block p (by omega) (by omega)).trans a6).trans (by kernel_rfl), ((O7.block (p + 1) (by omega) (by omega)).trans d6).trans (by kernel_rfl), (hset_same (k := 0) c6 (.int .i64 f2)).trans (by kernel_rfl)⟩
    · have O5 := (((((Only.set w1 p 0 (.int .i64 0)).trans (Only.set _ p 1 (.int .i64 0)) (fun _ _ e => e)).trans (Only.set _ p 2 (.slice none 0 0)) (fun _ _ e => e)).trans (Only.set _ p 3 (.slice none 0 0)) (fun _ _ e => e)).trans (Only.set _ p 4 (.slice none 0 0)) (fun _ _ e => e))
      have O6 := ((O5.mono (T := fun i => p ≤ i ∧ i ≤ p + 2) (fun _ _ e => by omega)).trans (Only.set _ (p + 1) 0 (.int .i64 f1)) (fun _ _ e => by omega)).trans (Only.set _ (p + 2) 0 (.int .i64 f2)) (fun _ _ e => by omega)
      exact ((HOO.out.mono (fun _ _ e => e.elim)).trans O6 (fun _ _ h => h)).drew
theorem read1_idle (p q s : Addr) (w : World) : CallsD Tryz.prog 49 #[.pointer (some p), .pointer (some q), .pointer (some s)] .returning w fun e u' w' => e = .returned (.tuple #[]) ∧ u' = .returning ∧ w' = w := by
  refine callsD_of_wpS Tryz.func49 rfl fun c₀ cs hu => ?_
  simp only [Tryz.ntmps49, List.size_toArray, List.length_cons, List.length_nil, Nat.reduceAdd, Nat.reduceSub, Array.replicate_succ, Array.replicate_zero, List.push_toArray, List.append_toArray, List.nil_append, List.cons_append]
  apply wpS_seq
  apply wpS_region
  simp [wpOpsS, go_sem, recoverD, hu, Exit.thenS]
  refine wpS_of_wp ?_
  go_wp2
  cases c₀
  simp_all [bodyPostS, results, Tryz.results49]
end Go.Proofs.YtkpgfhapffijkaaGreatDoor
