/- The walk of CalAgain. -/
import Derived.Test.YthbfjkdklnffjaaDoorCgD
import Derived.Test.YthbfjkdklnffjaaDoorCfFr
namespace Go.Proofs.YthbfjkdklnffjaaDoor
open Go.ChangeShapes Go.WideShapes Go.ChangeAt Go.RowKit Go.DsMem Go.DsMk
set_option linter.unusedVariables false

theorem CalsAt.nil_ (w : World) : CalsAt w none 0 [] 0 0 (fun _ => ⟨0, none, 0, 0, none, 0, 0, ⟨#[]⟩⟩) :=
  ⟨by simp, by simp, fun h => absurd h (by simp), fun j hj => absurd hj (by simp), fun j hj => absurd hj (by simp), fun j hj => absurd hj (by simp)⟩
theorem in_nil {W w : World} (g : Gc W w) {t : Nd} {v : NVal} (hv : NdAt w v t) (d : Int) (x : Bool) (e : Int) (hx : inF [] t d = (x, e)) :
    Calls Tryd.prog 9 #[.slice none 0 0, .agg #[.int .i64 v.op, .slice v.no v.nl v.nc, .slice v.ko v.kl v.kc, .string v.nm], .int .i64 d] w fun r w' => r = .returned (.tuple #[.bool x, .int .i64 e]) ∧ Gc W w' := by
  have := g.inAny none 0 [] 0 0 _ (CalsAt.nil_ w) t v hv d
  rw [hx] at this
  exact this
set_option maxHeartbeats 8000000 in
set_option maxRecDepth 20000 in
theorem again_walk0 (op : Int) (ns : List Int) (kids : List Nd) (nm : ByteArray) (v : NVal) (d : Int) (W : World) (h : Gc W W) (hv : NdAt W v (.mk op ns kids nm)) (hf : Fits (.mk op ns kids nm)) (hd1 : -9223372036854775808 ≤ d) (hd2 : d ≤ 9223372036854775807) :
    Calls Tryd.prog 6 #[.agg #[.int .i64 v.op, .slice v.no v.nl v.nc, .slice v.ko v.kl v.kc, .string v.nm], .int .i64 d] W fun e W' => e = .returned (.bool true) ∧ Below W.heap.size W W' := by
  have HG := hide h
  have HV := hide hv
  have HF := hide hf
  have hop : v.op = op := by cases hv; rfl
  obtain ⟨vop, no, nl, nc, ko, kl, kc, vnm⟩ := v
  simp only at hop
  subst hop
  clear h hv hf
  simp only
  by_cases hq : (vop = 1 ∨ vop = 3 ∨ vop = 4 ∨ vop = 6) ∧ 800 ≤ d ∧ d ≤ 3505059
  · obtain ⟨ho, q1, q2⟩ := hq
    obtain ⟨x, e, hx⟩ : ∃ x e, inF [] (.mk vop ns kids nm) d = (x, e) := ⟨_, _, rfl⟩
    have HX := hide hx
    have HX2 := hide (again_inF vop ns kids nm ho q1 q2)
    rw [hx] at HX2
    clear hx
    obtain ⟨wA, hwA⟩ : ∃ wA, wA = W.alloc (.cells #[.int .i64 vop, .slice no nl nc, .slice ko kl kc, .string vnm] 26) := ⟨_, rfl⟩
    have HBA : Hid (Below W.heap.size W wA) := by refine hide ?_; rw [hwA]; exact (Below.refl _ _).alloc (Nat.le_refl _) _
    rcases ho with rfl | rfl | rfl | rfl
    all_goals
      go_enter Tryd.func6, Tryd.ntmps6
      go_wp2_with fail
      rw [← hwA]
      refine (given_any HF.out _ wA wA (HG.out.more HBA.out).here (HV.out.grew HBA.out)).mono ?_
      rintro e1 w1 ⟨v1, rfl, hon1, hg1⟩
      have HG1 : Hid (Gc W w1) := (HG.out.more HBA.out).more hg1.below
      have HN1 := hide hon1.at_
      clear hon1 hg1
      go_wp2_with fail
      obtain ⟨wB, hwB⟩ : ∃ wB, wB = w1.alloc (.cells #[.int .i64 v1.op, .slice v1.no v1.nl v1.nc, .slice v1.ko v1.kl v1.kc, .string v1.nm] 31) := ⟨_, rfl⟩
      have hX : wB.heap[w1.heap.size]? = some (.cells #[.int .i64 v1.op, .slice v1.no v1.nl v1.nc, .slice v1.ko v1.kl v1.kc, .string v1.nm] 31 (0, 0)) := by rw [hwB]; exact heap_alloc_new w1 _
      have HBB : Hid (Below w1.heap.size w1 wB) := by refine hide ?_; rw [hwB]; exact (Below.refl _ _).alloc (Nat.le_refl _) _
      rw [← hwB]
      clear hwB
      refine (in_nil (HG1.out.more HBB.out).here (HN1.out.grew HBB.out) d x e HX.out).mono ?_
      rintro e2 w2 ⟨rfl, hg2⟩
      have HG2 : Hid (Gc W w2) := (HG1.out.more HBB.out).more hg2.below
      have HN2 := hide ((HN1.out.grew HBB.out).grew hg2.below)
      have hX2 : w2.heap[w1.heap.size]? = _ := (hg2.below.block _ (block_lt hX)).trans hX
      have k0 : w2.cell? ⟨w1.heap.size, 0, none⟩ = some (.int .i64 v1.op) := by rw [cell_of hX2]; rfl
      have k1 : w2.cell? ⟨w1.heap.size, 1, none⟩ = some (.slice v1.no v1.nl v1.nc) := by rw [cell_of hX2]; rfl
      have k2 : w2.cell? ⟨w1.heap.size, 2, none⟩ = some (.slice v1.ko v1.kl v1.kc) := by rw [cell_of hX2]; rfl
      have k3 : w2.cell? ⟨w1.heap.size, 3, none⟩ = some (.string v1.nm) := by rw [cell_of hX2]; rfl
      clear hg2 hX hX2
      go_wp2_with fail
      refine (in_nil HG2.out HN2.out (d + 146097) x e HX2.out).mono ?_
      rintro e3 w3 ⟨rfl, hg3⟩
      have HG3 := hide hg3
      clear hg3 k0 k1 k2 k3
      go_wp2_with (go_at_call 10; refine (HG3.out.known6).mono ?_; rintro e4 w4 ⟨rfl, hg4⟩; have HG4 := hide hg4; clear hg4)
      go_ret
      exact ⟨rfl, HG4.out.below⟩
  · have hno : (¬ vop = 1 ∧ ¬ vop = 3 ∧ ¬ vop = 4 ∧ ¬ vop = 6) ∨ ((vop = 1 ∨ vop = 3 ∨ vop = 4 ∨ vop = 6) ∧ d < 800) ∨ ((vop = 1 ∨ vop = 3 ∨ vop = 4 ∨ vop = 6) ∧ 800 ≤ d ∧ 3505059 < d) := by omega
    clear hq
    have HGA := hide (HG.out.alloc (.cells #[.int .i64 vop, .slice no nl nc, .slice ko kl kc, .string vnm] 26))
    rcases hno with ⟨n1, n3, n4, n6⟩ | ⟨rfl | rfl | rfl | rfl, q1⟩ | ⟨rfl | rfl | rfl | rfl, q1, q2⟩
    all_goals
      go_enter Tryd.func6, Tryd.ntmps6
      go_wp2_with (go_at_call 10; refine (HGA.out.known6).mono ?_; rintro e4 w4 ⟨rfl, hg4⟩; have HG4 := hide hg4; clear hg4)
      go_ret
      exact ⟨rfl, HG4.out.below⟩
theorem again_walk (t : Nd) (v : NVal) (d : Int) (W : World) (h : Gc W W) (hv : NdAt W v t) (hf : Fits t) (hd : -9223372036854775808 ≤ d ∧ d ≤ 9223372036854775807) :
    Calls Tryd.prog 6 #[.agg #[.int .i64 v.op, .slice v.no v.nl v.nc, .slice v.ko v.kl v.kc, .string v.nm], .int .i64 d] W fun e W' => e = .returned (.bool true) ∧ Below W.heap.size W W' := by
  obtain ⟨op, ns, kids, nm⟩ := t
  exact again_walk0 op ns kids nm v d W h hv hf hd.1 hd.2
end Go.Proofs.YthbfjkdklnffjaaDoor
