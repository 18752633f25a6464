/- Package jdl: read, whole. -/
import Derived.Test.YtkpgfhapffijkaaGreatDoorR38
import Derived.Test.YtkpgfhapffijkaaGreatDoorR39
namespace Go.Proofs.YtkpgfhapffijkaaGreatDoor
open Go.ChangeShapes Go.WideShapes Go.ChangeAt Go.RowKit Go.DsMem Go.DsLx Go.DsJd Go.DsMk
set_option linter.unusedVariables false
theorem VSrc.moved {w0 wA w1 w2 : World} {T : Nat → Prop} {x : Srcp} {v : Value} (h : VSrc wA x v w1) (ho : Only T w1 w2) (hT : ∀ b, T b → b < wA.heap.size) (hs : w0.heap.size ≤ wA.heap.size) : VSrc w0 x v w2 := by
  obtain ⟨s, rfl, h1, h2, h3, h4, h5⟩ := h
  have hb : ∀ b, (wA.heap.size ≤ b ∧ b < w1.heap.size) → (w0.heap.size ≤ b ∧ b < w2.heap.size) := fun b hb => ⟨by omega, Nat.lt_of_lt_of_le hb.2 ho.size⟩
  have hc : ∀ a u, (wA.heap.size ≤ a.block ∧ a.block < w1.heap.size) → w1.cell? a = some u → w2.cell? a = some u := fun a u hB hc => ho.cell hc (fun e => by have := hT _ e; omega)
  have hk : ∀ {k : Nat}, wA.heap.size ≤ k → k < w1.heap.size → w2.heap[k]? = w1.heap[k]? := fun {k} a b => ho.block k b (fun e => by have := hT _ e; omega)
  exact ⟨s, rfl, own_baseK (own_sameK h1 (fun k hk' => hk (h1.lt k hk').1 (h1.lt k hk').2)) hs, own_baseK (own_sameK h2 (fun k hk' => hk (h2.lt k hk').1 (h2.lt k hk').2)) hs, own_baseK (own_sameK h3 (fun k hk' => hk (h3.lt k hk').1 (h3.lt k hk').2)) hs, fun i hi => (h4 i hi).mono hb hc, fun i hi => (h5 i hi).mono hb hc⟩
/-- how read ends -/
def PRd (R B : Nat) (q : Except Fl Srcp) (w : World) (e : Ending) (w' : World) : Prop := match q with
  | .error f => e = .returned (.tuple #[.agg #[.int .i64 0, .int .i64 0, .slice none 0 0, .slice none 0 0, .slice none 0 0], .int .i64 f.1, .int .i64 f.2]) ∧ Only (fun i => i = R ∨ i = B) w w'
  | .ok x => ∃ v, e = .returned (.tuple #[v, .int .i64 0, .int .i64 0]) ∧ VSrc w x v w' ∧ Only (fun i => i = R ∨ i = B) w w'
theorem Res3.cells {w : World} {p : Nat} {x0 x1 x2 x3 x4 : Value} {a b : Int} (h : Res3 w p #[x0, x1, x2, x3, x4] a b) : w.cell? ⟨p, 0, none⟩ = some x0 ∧ w.cell? ⟨p, 1, none⟩ = some x1 ∧ w.cell? ⟨p, 2, none⟩ = some x2 ∧ w.cell? ⟨p, 3, none⟩ = some x3 ∧ w.cell? ⟨p, 4, none⟩ = some x4 ∧ w.cell? ⟨p + 1, 0, none⟩ = some (.int .i64 a) ∧ w.cell? ⟨p + 2, 0, none⟩ = some (.int .i64 b) := by
  refine ⟨?_, ?_, ?_, ?_, ?_, ?_, ?_⟩
  · rw [cell_of h.src]; rfl
  · rw [cell_of h.src]; rfl
  · rw [cell_of h.src]; rfl
  · rw [cell_of h.src]; rfl
  · rw [cell_of h.src]; rfl
  · rw [cell_of h.at_]; rfl
  · rw [cell_of h.er]; rfl
theorem Res3.set7 {w : World} {p : Nat} {a0 a1 a2 a3 a4 : Value} {a b : Int} (h : Res3 w p #[a0, a1, a2, a3, a4] a b) (v0 v1 v2 v3 v4 : Value) (n m : Int) :
    Res3 (((((((w.setCell ⟨p, 0, none⟩ v0).setCell ⟨p, 1, none⟩ v1).setCell ⟨p, 2, none⟩ v2).setCell ⟨p, 3, none⟩ v3).setCell ⟨p, 4, none⟩ v4).setCell ⟨p + 1, 0, none⟩ (.int .i64 n)).setCell ⟨p + 1 + 1, 0, none⟩ (.int .i64 m)) p #[v0, v1, v2, v3, v4] n m ∧
    Only (fun i => p ≤ i ∧ i ≤ p + 2) w (((((((w.setCell ⟨p, 0, none⟩ v0).setCell ⟨p, 1, none⟩ v1).setCell ⟨p, 2, none⟩ v2).setCell ⟨p, 3, none⟩ v3).setCell ⟨p, 4, none⟩ v4).setCell ⟨p + 1, 0, none⟩ (.int .i64 n)).setCell ⟨p + 1 + 1, 0, none⟩ (.int .i64 m)) := by
  have hl := block_lt h.er
  have e4 := hset_same (k := 4) (hset_same (k := 3) (hset_same (k := 2) (hset_same (k := 1) (hset_same (k := 0) h.src v0) v1) v2) v3) v4
  have O5 := (((((Only.set w p 0 v0).trans (Only.set _ p 1 v1) (fun _ _ e => e)).trans (Only.set _ p 2 v2) (fun _ _ e => e)).trans (Only.set _ p 3 v3) (fun _ _ e => e)).trans (Only.set _ p 4 v4) (fun _ _ e => e))
  have hs5 := O5.size
  have b5 := (O5.block (p + 1) (by omega) (by omega)).trans h.at_
  have c5 := (O5.block (p + 2) (by omega) (by omega)).trans h.er
  generalize ((((w.setCell ⟨p, 0, none⟩ v0).setCell ⟨p, 1, none⟩ v1).setCell ⟨p, 2, none⟩ v2).setCell ⟨p, 3, none⟩ v3).setCell ⟨p, 4, none⟩ v4 = A at *
  have O6 := Only.set A (p + 1) 0 (.int .i64 n)
  have hs6 := O6.size
  have d6 := hset_same (k := 0) b5 (.int .i64 n)
  have c6 := (O6.block (p + 2) (by omega) (by omega)).trans c5
  have a6 := (O6.block p (by omega) (by omega)).trans e4
  generalize A.setCell ⟨p + 1, 0, none⟩ (.int .i64 n) = B at *
  have O7 := Only.set B (p + 2) 0 (.int .i64 m)
  exact ⟨⟨((O7.block p (by omega) (by omega)).trans a6).trans (by kernel_rfl), ((O7.block (p + 1) (by omega) (by omega)).trans d6).trans (by kernel_rfl), (hset_same (k := 0) c6 (.int .i64 m)).trans (by kernel_rfl)⟩,
    ((O5.mono (T := fun i => p ≤ i ∧ i ≤ p + 2) (fun _ _ e => by omega)).trans O6 (fun _ _ e => by omega)).trans O7 (fun _ _ e => by omega)⟩
set_option maxHeartbeats 2000000 in
set_option maxRecDepth 20000 in
/-- (*jdl.reader).read -/
theorem jread_any {w : World} {R : Nat} {E : Int} {B N : Nat} {ws : List Tk} (h : Rdr w R E 0 B N ws) (hG : Few9 ws) (hW : FitW ws) (hs : StM w B []) (hBN : B < N) :
    Calls Tryz.prog 30 #[.pointer (some ⟨R, 0, none⟩)] w (PRd R B (sourceP E ws) w) := by
  obtain ⟨hN1, hN2⟩ := h.n
  have hBw := hs.lt
  have hmf : ∀ (fn : Fn) (first cap : Array Value) (w : World), (Instr.makeFunc fn first cap).run Tryz.prog w = .ok (.func fn first cap) w := fun _ _ _ _ => rfl
  obtain ⟨w3, hw3⟩ : ∃ w3, w3 = ((w.alloc (.cells #[.int .i64 0, .int .i64 0, .slice none 0 0, .slice none 0 0, .slice none 0 0] 26)).alloc (.cells #[.int .i64 0] 3)).alloc (.cells #[.int .i64 0] 27) := ⟨_, rfl⟩
  have hO3 : Only (fun _ => False) w w3 := by rw [hw3]; exact ((Only.alloc _ _ _).trans (Only.alloc _ _ _) (fun _ _ e => e)).trans (Only.alloc _ _ _) (fun _ _ e => e)
  have hs3 : w3.heap.size = w.heap.size + 3 := by rw [hw3]; simp
  have hb3 : Below w.heap.size w w3 := by rw [hw3]; exact (((Below.refl _ _).alloc (Nat.le_refl _) _).alloc (by simp) _).alloc (by simp; omega) _
  have hres : Res3 w3 w.heap.size #[.int .i64 0, .int .i64 0, .slice none 0 0, .slice none 0 0, .slice none 0 0] 0 0 := by
    rw [hw3]
    refine ⟨heap_keep' (heap_keep' (heap_alloc_new w _)), heap_keep' ?_, ?_⟩
    · have := heap_alloc_new (w.alloc (.cells #[.int .i64 0, .int .i64 0, .slice none 0 0, .slice none 0 0, .slice none 0 0] 26)) (.cells #[.int .i64 0] 3)
      simpa using this
    · have := heap_alloc_new ((w.alloc (.cells #[.int .i64 0, .int .i64 0, .slice none 0 0, .slice none 0 0, .slice none 0 0] 26)).alloc (.cells #[.int .i64 0] 3)) (.cells #[.int .i64 0] 27)
      simpa using this
  have HSC := hide (source_any (h.below hb3) hG hW (hs.below hb3) hBN)
  have HP := hide hres
  have HO := hide hO3
  clear h hG hW hs hO3 hb3 hres
  unfold PS Ends at HSC
  generalize sourceP E ws = q at *
  go_enter_defers Tryz.func30, Tryz.ntmps30
  go_wp2_with fail
  rw [← hw3]
  clear hw3
  refine HSC.out.mono ?_
  intro e w4 hz
  cases q with
  | error f =>
    obtain ⟨rfl, ho4⟩ := hz
    have HP4 := hide (⟨(ho4.block w.heap.size (by omega) (by omega)).trans HP.out.src, (ho4.block (w.heap.size + 1) (by omega) (by omega)).trans HP.out.at_, (ho4.block (w.heap.size + 2) (by omega) (by omega)).trans HP.out.er⟩ : Res3 w4 w.heap.size #[.int .i64 0, .int .i64 0, .slice none 0 0, .slice none 0 0, .slice none 0 0] 0 0)
    have HO4 := hide (((HO.out.mono (T := fun i => i = R ∨ i = B) (fun _ _ e => e.elim)).trans ho4 (fun _ _ h => h)))
    clear ho4 HSC
    go_wp2
    refine leaves_cons (f := 49) (args := #[.pointer (some ⟨w.heap.size, 0, none⟩), .pointer (some ⟨w.heap.size + 1, 0, none⟩), .pointer (some ⟨w.heap.size + 2, 0, none⟩)]) (by simp) (by simp [go_sem]) ?_
    refine (read1_panics w.heap.size f w4 HP4.out).mono ?_
    rintro e u' w'' ⟨rfl, rfl, hr, ho⟩
    obtain ⟨z0, z1, z2, z3, z4, z5, z6⟩ := hr.cells
    simp [Leaves, settle, results, Tryz.results30, go_sem, z0, z1, z2, z3, z4, z5, z6]
    unfold PRd
    exact ⟨rfl, HO4.out.trans ho (fun i hi e => by omega)⟩
  | ok x =>
    obtain ⟨v, rfl, hv, ho4⟩ := hz
    have HP4 := hide (⟨(ho4.block w.heap.size (by omega) (by omega)).trans HP.out.src, (ho4.block (w.heap.size + 1) (by omega) (by omega)).trans HP.out.at_, (ho4.block (w.heap.size + 2) (by omega) (by omega)).trans HP.out.er⟩ : Res3 w4 w.heap.size #[.int .i64 0, .int .i64 0, .slice none 0 0, .slice none 0 0, .slice none 0 0] 0 0)
    have HO4 := hide (((HO.out.mono (T := fun i => i = R ∨ i = B) (fun _ _ e => e.elim)).trans ho4 (fun _ _ h => h)))
    have HV := hide hv
    have hs4 := ho4.size
    clear ho4 HSC hv
    obtain ⟨s, hvs⟩ : ∃ s : SSl, v = .agg (sC x s) := by obtain ⟨s, e, _⟩ := HV.out; exact ⟨s, e⟩
    unfold sC at hvs
    subst hvs
    obtain ⟨z0, z1, z2, z3, z4, z5, z6⟩ := HP4.out.cells
    have f0 : ∀ k, w4.frozen? ⟨w.heap.size, k, none⟩ = false := fun k => frozen_of HP4.out.src
    have f5 : w4.frozen? ⟨w.heap.size + 1, 0, none⟩ = false := frozen_of HP4.out.at_
    have f6 : w4.frozen? ⟨w.heap.size + 2, 0, none⟩ = false := frozen_of HP4.out.er
    have hm1 : ¬ w.heap.size + 1 = w.heap.size := by omega
    have hm2 : ¬ w.heap.size + 2 = w.heap.size := by omega
    have hm3 : ¬ w.heap.size + 2 = w.heap.size + 1 := by omega
    go_wp2
    refine leaves_cons (f := 49) (args := #[.pointer (some ⟨w.heap.size, 0, none⟩), .pointer (some ⟨w.heap.size + 1, 0, none⟩), .pointer (some ⟨w.heap.size + 2, 0, none⟩)]) (by simp) (by simp [go_sem]) ?_
    refine (read1_idle ⟨w.heap.size, 0, none⟩ ⟨w.heap.size + 1, 0, none⟩ ⟨w.heap.size + 2, 0, none⟩ _).mono ?_
    rintro e u' w'' ⟨rfl, rfl, hw⟩
    obtain ⟨hr, ho⟩ := HP4.out.set7 (.int .i64 x.start) (.int .i64 x.keep) (.slice s.co x.cals.length s.cc) (.slice s.ro x.res.length s.rc) (.slice s.jo x.jobs.length s.jc) 0 0
    rw [← hw] at hr ho
    clear hw
    obtain ⟨y0, y1, y2, y3, y4, y5, y6⟩ := hr.cells
    simp [Leaves, settle, results, Tryz.results30, go_sem, y0, y1, y2, y3, y4, y5, y6]
    unfold PRd
    exact ⟨_, rfl, HV.out.moved ho (fun b hb => by omega) (by omega), HO4.out.trans ho (fun i hi e => by omega)⟩
end Go.Proofs.YtkpgfhapffijkaaGreatDoor
