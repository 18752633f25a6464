/- Package pool: byOwnerThenName; the sort's order. Written by gen_pl.py. -/
import Derived.Test.YtkpambipgcjaiaaPlL
namespace Go.Proofs.Ytkpambipgcjaiaa
open Go.ChangeShapes Go.WideShapes Go.ChangeAt Go.RowKit Go.DsMem Go.DsCo Go.DsPl
open Go.Sort (grow grow_grow alloc_eq_grow SWO)

set_option linter.unusedVariables false
set_option maxHeartbeats 8000000 in
set_option maxRecDepth 20000 in
theorem pby_any (a b : Hd) (w : World) : Calls Try.prog 59 #[.agg #[.int .i64 a.1.1, .string a.1.2, .int .i64 a.2.1, .int .i64 a.2.2], .agg #[.int .i64 b.1.1, .string b.1.2, .int .i64 b.2.1, .int .i64 b.2.2]] w fun e w' => e = .returned (.int .i64 (cmpH a b)) ∧ ∃ q os', w' = grow (w.drewN q) os' := by
  have HS := hide (ccmpS_any a.1.2 b.1.2)
  have HI := hide (ccmpI_any a.1.1 b.1.1)
  have HO := hide (cor_any (Lib.compareInt a.1.1 b.1.1) (cmpS a.1.2 b.1.2))
  have HP : Hid (cmpH a b = if Lib.compareInt a.1.1 b.1.1 ≠ 0 then Lib.compareInt a.1.1 b.1.1 else cmpS a.1.2 b.1.2) := rfl
  rw [← HP.out] at HO
  clear HP
  generalize hr : cmpH a b = R at *
  generalize cmpS a.1.2 b.1.2 = y at *
  generalize Lib.compareInt a.1.1 b.1.1 = x at *
  clear hr
  obtain ⟨⟨o1, n1⟩, k1, m1⟩ := a
  obtain ⟨⟨o2, n2⟩, k2, m2⟩ := b
  simp only at HS HI ⊢
  obtain ⟨w1, hw1⟩ : ∃ w1, w1 = (w.alloc (.cells #[.int .i64 o1, .string n1, .int .i64 k1, .int .i64 m1] 89)).alloc (.cells #[.int .i64 o2, .string n2, .int .i64 k2, .int .i64 m2] 89) := ⟨_, rfl⟩
  have a0 : w1.cell? ⟨w.heap.size, 0, none⟩ = some (.int .i64 o1) := by rw [hw1]; simp [go_sem]
  have a1 : w1.cell? ⟨w.heap.size, 1, none⟩ = some (.string n1) := by rw [hw1]; simp [go_sem]
  have b0 : w1.cell? ⟨w.heap.size + 1, 0, none⟩ = some (.int .i64 o2) := by rw [hw1]; simp [go_sem]
  have b1 : w1.cell? ⟨w.heap.size + 1, 1, none⟩ = some (.string n2) := by rw [hw1]; simp [go_sem]
  have HW : Hid (∃ os', w1 = grow w os') := ⟨_, by rw [hw1, alloc_eq_grow, alloc_eq_grow, grow_grow]⟩
  have KX : Hid ((w1.alloc (.cells #[.int .i64 x, .int .i64 y] 3)).drew.cell? ⟨w1.heap.size, 0, none⟩ = some (.int .i64 x) ∧ (w1.alloc (.cells #[.int .i64 x, .int .i64 y] 3)).drew.cell? ⟨w1.heap.size, 1, none⟩ = some (.int .i64 y)) :=
    ⟨(show (w1.alloc (.cells #[.int .i64 x, .int .i64 y] 3)).cell? _ = _ from by rw [World.cell?_alloc_mark]; rfl), (show (w1.alloc (.cells #[.int .i64 x, .int .i64 y] 3)).cell? _ = _ from by rw [World.cell?_alloc_mark]; rfl)⟩
  generalize hp : w.heap.size = p at *
  go_enter Try.func59, Try.ntmps59
  go_wp2
  rw [← hw1]
  clear hw1
  first
    | (go_region_held3 (fun w' => w'.cell? ⟨p, 0, none⟩ = some (.int .i64 o1) ∧ w'.cell? ⟨p, 1, none⟩ = some (.string n1) ∧ w'.cell? ⟨p + 1, 0, none⟩ = some (.int .i64 o2) ∧ w'.cell? ⟨p + 1, 1, none⟩ = some (.string n2))
        (go_keep)
        (first
          | (go_at_call 72; refine (HS.out _).mono ?_; rintro e w' ⟨rfl, rfl⟩)
          | (go_at_call 88; refine (HI.out _).mono ?_; rintro e w' ⟨rfl, rfl⟩)
          | (go_at_call 87; refine (HO.out _ _ (by exact KX.out.1) (by exact KX.out.2)).mono ?_; rintro e w' ⟨rfl, rfl⟩)))
    | fail
  all_goals
    go_wp2
    go_ret
    obtain ⟨os', ho⟩ := HW.out
    exact ⟨rfl, 1, os' ++ #[.cells #[.int .i64 x, .int .i64 y] 3], by rw [ho, alloc_eq_grow, grow_grow]; rfl⟩
instance : Inhabited Hd := ⟨((0, ⟨#[]⟩), (0, 0))⟩
theorem lt_cmpH (a b : Hd) : ltOf cmpH a b = @decide (aheadH a.1 b.1) (Classical.propDecidable _) := by
  unfold ltOf
  by_cases h : aheadH a.1 b.1
  · rw [@decide_eq_true _ (Classical.propDecidable _) h, decide_eq_true ((cmpH_neg a b).2 h)]
  · rw [@decide_eq_false _ (Classical.propDecidable _) h, decide_eq_false (fun h' => h ((cmpH_neg a b).1 h'))]
theorem lt_true {a b : Hd} : ltOf cmpH a b = true ↔ aheadH a.1 b.1 := by rw [lt_cmpH]; exact @decide_eq_true_iff _ (Classical.propDecidable _)
theorem lt_false {a b : Hd} : ltOf cmpH a b = false ↔ ¬ aheadH a.1 b.1 := by
  rw [← lt_true]; cases ltOf cmpH a b <;> simp
theorem swoH : SWO (ltOf cmpH) where
  irrefl x := lt_false.2 (aheadH_irrefl x.1)
  trans x y z h1 h2 := lt_true.2 (aheadH_trans (lt_true.1 h1) (lt_true.1 h2))
  ntrans x y z h1 h2 := lt_false.2 fun h => by
    rcases aheadH_total x.1 y.1 with a | a | a
    · exact lt_false.1 h1 a
    · exact lt_false.1 h2 (by rw [← a]; exact h)
    · exact lt_false.1 h2 (aheadH_trans a h)
/-- a holder's four cells -/
def encH (c : Hd) : List Value := [.int .i64 c.1.1, .string c.1.2, .int .i64 c.2.1, .int .i64 c.2.2]
theorem cmpLaysH (blk off size : Nat) (w : World) : CmpLays Try.prog 59 #[] encH 4 cmpH blk off size w := fun _ _ _ _ x y => pby_any x y _
def CFn (K : Nat) : Prop := ∀ args w, (callFunc K args).run Try.prog w = .ok (.enter K args) w
theorem cfn_of {K : Nat} {fn : Func} (hf : Try.prog.funcs[K]? = some fn) (hn : ¬ fn.name = "runtime.NumGoroutine") (hb : fn.body.isNone = false) : CFn K := fun args w => by
  have hb' : ¬ fn.body = none := fun e => by rw [e] at hb; cases hb
  simp [callFunc, hf, hn, hb', go_sem]
theorem cf_by : CFn 59 := cfn_of Try.func59 (by decide +kernel) (by kernel_rfl)
theorem isAggH (w : World) : (isAgg 89).run Try.prog w = .ok true w := by kernel_rfl
theorem sizeOfH (w : World) : (Go.sizeOf 89).run Try.prog w = .ok 4 w := by kernel_rfl
open Go.Sort (PermIn SortedIn HoldsK) in
/-- the holders of a row, sorted -/
theorem psort_any (g cap : Nat) (d : Array Hd) (w : World) (hH : HoldsK encH 4 w g 0 d) (hg : g < w.heap.size) (hs : d.size < 4611686018427387904) :
    Calls Try.prog 58 #[.slice (some ⟨g, 0, none⟩) d.size cap, .func (.func 59) #[] #[]] w fun e w' =>
      e = .returned (.tuple #[]) ∧ ∃ d' n os, PermIn 0 d.size d d' ∧ SortedIn (ltOf cmpH) 0 d.size d' ∧ w' = sortWorldK encH 4 w g 0 n d' os :=
  AnyQ.slices_SortFunc Try.sortH 4 isAggH sizeOfH encH (fun _ => rfl) (fun x v hv => by simp [encH] at hv; rcases hv with rfl | rfl | rfl | rfl <;> rfl) cmpH swoH 59 #[] g 0 cap d w cf_by (cmpLaysH g 0 d.size w) hH hg hs
end Go.Proofs.Ytkpambipgcjaiaa
