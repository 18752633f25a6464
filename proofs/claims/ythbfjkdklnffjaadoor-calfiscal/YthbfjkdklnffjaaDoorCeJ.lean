/- Package cal: newAsker, asking. -/
import Derived.Test.YthbfjkdklnffjaaDoorCeI
namespace Go.Proofs.YthbfjkdklnffjaaDoor
open Go.ChangeShapes Go.WideShapes Go.ChangeAt Go.RowKit Go.DsMem Go.DsMk
set_option linter.unusedVariables false

set_option maxHeartbeats 1000000 in
/-- cal.newAsker -/
theorem Gc.newAsker {W w : World} (h : Gc W w) (co : Option Addr) (cc : Nat) (cs : List (ByteArray × Nd)) :
    Calls Tryd.prog 15 #[.slice co cs.length cc] w fun e w' => ∃ B, e = .returned (askrV co cs.length cc B) ∧ (w.heap.size ≤ B ∧ Memo cs w' B 0) ∧ Gc w w' := by
  have HG := hide h
  clear h
  have hmm := @run_makeMap Tryd.prog
  go_enter Tryd.func15, Tryd.ntmps15
  go_wp2
  refine bodyPost_ret (v := askrV co cs.length cc (w.heap.size + 1)) (by simp [results, Tryd.results15, go_sem, askrV]) rfl ⟨w.heap.size + 1, rfl, ⟨by omega, ?_⟩, (HG.out.here.alloc _).alloc _⟩
  refine ⟨.map [], ?_, ⟨_, rfl⟩, fun c hc M kl _ _ hh => by simp [Maps.has] at hh⟩
  have := World.ownsMap_made (H := Unit) (w.alloc (.cells #[.slice co cs.length cc, .map (some (w.heap.size + 1))] 53)) Tryd.prog 91 (plainElem Tryd.prog 69)
  simpa using this

/-- what asking's function holds: the month asked last in pa, its days in pd, the asker's box in pk, the node's in pn -/
structure AskSt (cs : List (ByteArray × Nd)) (k : Nat) (t : Nd) (v : NVal) (co : Option Addr) (cc B : Nat) (pa pk pn pd : Nat) (w : World) (n : Nat) : Prop where
  at_ : ∃ y m f s : Int, ∃ d : Nat, w.heap[pa]? = some (.cells #[.int .i64 y, .int .i64 m, .int .i64 f, .int .i64 s] 67 (0, 0)) ∧ w.heap[pd]? = some (.cells #[.int .u32 d] 69 (0, 0)) ∧
    ((f = 0 ∧ s = 0) ∨ (IsMo y m f s ∧ d = daysF cs ⟨y, m, f, s⟩ k t))
  ask : w.heap[pk]? = some (.cells #[.slice co cs.length cc, .map (some B)] 53 (0, 0))
  node : w.heap[pn]? = some (.cells #[.int .i64 v.op, .slice v.no v.nl v.nc, .slice v.ko v.kl v.kc, .string v.nm] 31 (0, 0))
  memo : Memo cs w B n
set_option maxHeartbeats 1000000 in
/-- cal.asker.asking -/
theorem Gc.asking {W w : World} (h : Gc W w) (co : Option Addr) (cc : Nat) (cs : List (ByteArray × Nd)) (B n : Nat) (hm : Memo cs w B n) (k : Nat) (t : Nd) (v : NVal) :
    Calls Tryd.prog 16 #[askrV co cs.length cc B, v.val] w fun e w' => e = .returned (.func (.func 25) #[] #[.pointer (some ⟨w.heap.size + 2, 0, none⟩), .pointer (some ⟨w.heap.size, 0, none⟩), .pointer (some ⟨w.heap.size + 1, 0, none⟩), .pointer (some ⟨w.heap.size + 3, 0, none⟩)]) ∧
      AskSt cs k t v co cc B (w.heap.size + 2) w.heap.size (w.heap.size + 1) (w.heap.size + 3) w' n ∧ Gc w w' := by
  have HG := hide h
  have HM := hide hm
  clear h hm
  unfold askrV NVal.val ndV
  go_enter Tryd.func16, Tryd.ntmps16
  go_wp2
  go_ret
  refine ⟨rfl, ?_, (((HG.out.here.alloc _).alloc _).alloc _).alloc _⟩
  obtain ⟨w1, h1⟩ : ∃ w1, w1 = w.alloc (.cells #[.slice co cs.length cc, .map (some B)] 53) := ⟨_, rfl⟩
  have z1 : w1.heap.size = w.heap.size + 1 := by rw [h1]; simp
  have e1 : w1.heap[w.heap.size]? = some (.cells #[.slice co cs.length cc, .map (some B)] 53 (0, 0)) := by rw [h1]; exact heap_alloc_new w _
  have m1 : Memo cs w1 B n := by rw [h1]; exact HM.out.below ((Below.refl _ _).alloc (Nat.le_refl _) _)
  rw [← h1]
  clear h1
  obtain ⟨w2, h2⟩ : ∃ w2, w2 = w1.alloc (.cells #[.int .i64 v.op, .slice v.no v.nl v.nc, .slice v.ko v.kl v.kc, .string v.nm] 31) := ⟨_, rfl⟩
  have z2 : w2.heap.size = w.heap.size + 2 := by rw [h2]; simp [z1]
  have f1 : w2.heap[w.heap.size]? = some (.cells #[.slice co cs.length cc, .map (some B)] 53 (0, 0)) := by rw [h2]; exact heap_keep e1
  have e2 : w2.heap[w.heap.size + 1]? = some (.cells #[.int .i64 v.op, .slice v.no v.nl v.nc, .slice v.ko v.kl v.kc, .string v.nm] 31 (0, 0)) := by rw [← z1, h2]; exact heap_alloc_new w1 _
  have m2 : Memo cs w2 B n := by rw [h2]; exact m1.below ((Below.refl _ _).alloc (Nat.le_refl _) _)
  rw [← h2]
  clear h2
  obtain ⟨w3, h3⟩ : ∃ w3, w3 = w2.alloc (.cells #[.int .i64 0, .int .i64 0, .int .i64 0, .int .i64 0] 67) := ⟨_, rfl⟩
  have z3 : w3.heap.size = w.heap.size + 3 := by rw [h3]; simp [z2]
  have g1 : w3.heap[w.heap.size]? = some (.cells #[.slice co cs.length cc, .map (some B)] 53 (0, 0)) := by rw [h3]; exact heap_keep f1
  have g2 : w3.heap[w.heap.size + 1]? = some (.cells #[.int .i64 v.op, .slice v.no v.nl v.nc, .slice v.ko v.kl v.kc, .string v.nm] 31 (0, 0)) := by rw [h3]; exact heap_keep e2
  have e3 : w3.heap[w.heap.size + 2]? = some (.cells #[.int .i64 0, .int .i64 0, .int .i64 0, .int .i64 0] 67 (0, 0)) := by rw [← z2, h3]; exact heap_alloc_new w2 _
  have m3 : Memo cs w3 B n := by rw [h3]; exact m2.below ((Below.refl _ _).alloc (Nat.le_refl _) _)
  rw [← h3]
  clear h3
  have e4 := heap_alloc_new w3 (.cells #[.int .u32 0] 69)
  rw [z3] at e4
  exact ⟨⟨0, 0, 0, 0, 0, heap_keep e3, e4, .inl ⟨rfl, rfl⟩⟩, heap_keep g1, heap_keep g2, m3.below ((Below.refl _ _).alloc (Nat.le_refl _) _)⟩
end Go.Proofs.YthbfjkdklnffjaaDoor
