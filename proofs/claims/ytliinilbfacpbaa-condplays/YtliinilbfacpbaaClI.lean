/- Package cond: byNameThenDay; the sort's order. -/
import Derived.Test.YtliinilbfacpbaaClH
namespace Go.Proofs.Ytliinilbfacpbaa
open Go.ChangeShapes Go.WideShapes Go.ChangeAt Go.RowKit Go.DsMem Go.DsCo
open Go.Sort (grow grow_grow alloc_eq_grow SWO)

set_option linter.unusedVariables false
set_option maxHeartbeats 8000000 in
set_option maxRecDepth 20000 in
theorem cby_any (a b : Cn) (w : World) : Calls Try.prog 33 #[.agg #[.string a.nm, .int .i64 a.day], .agg #[.string b.nm, .int .i64 b.day]] w fun e w' => e = .returned (.int .i64 (cmpC a b)) ∧ ∃ q os', w' = grow (w.drewN q) os' := by
  have HS := hide (ccmpS_any a.nm b.nm)
  have HI := hide (ccmpI_any a.day b.day)
  have HO := hide (cor_any (cmpS a.nm b.nm) (Lib.compareInt a.day b.day))
  have HP : Hid (cmpC a b = if cmpS a.nm b.nm ≠ 0 then cmpS a.nm b.nm else Lib.compareInt a.day b.day) := rfl
  rw [← HP.out] at HO
  clear HP
  generalize hr : cmpC a b = R at *
  generalize cmpS a.nm b.nm = x at *
  generalize Lib.compareInt a.day b.day = y at *
  clear hr
  obtain ⟨w1, hw1⟩ : ∃ w1, w1 = (w.alloc (.cells #[.string a.nm, .int .i64 a.day] 24)).alloc (.cells #[.string b.nm, .int .i64 b.day] 24) := ⟨_, rfl⟩
  have a0 : w1.cell? ⟨w.heap.size, 0, none⟩ = some (.string a.nm) := by rw [hw1]; exact (BoxC.new w a 24).below ((Below.refl _ _).alloc (Nat.le_refl _) _) |>.c0
  have a1 : w1.cell? ⟨w.heap.size, 1, none⟩ = some (.int .i64 a.day) := by rw [hw1]; exact (BoxC.new w a 24).below ((Below.refl _ _).alloc (Nat.le_refl _) _) |>.c1
  have hsz : (w.alloc (.cells #[.string a.nm, .int .i64 a.day] 24)).heap.size = w.heap.size + 1 := by simp
  have b0 : w1.cell? ⟨w.heap.size + 1, 0, none⟩ = some (.string b.nm) := by rw [hw1, ← hsz]; exact (BoxC.new _ b 24).c0
  have b1 : w1.cell? ⟨w.heap.size + 1, 1, none⟩ = some (.int .i64 b.day) := by rw [hw1, ← hsz]; exact (BoxC.new _ b 24).c1
  have HW : Hid (∃ os', w1 = grow w os') := ⟨_, by rw [hw1, alloc_eq_grow, alloc_eq_grow, grow_grow]⟩
  clear hsz
  have KX : Hid ((w1.alloc (.cells #[.int .i64 x, .int .i64 y] 3)).drew.cell? ⟨w1.heap.size, 0, none⟩ = some (.int .i64 x) ∧ (w1.alloc (.cells #[.int .i64 x, .int .i64 y] 3)).drew.cell? ⟨w1.heap.size, 1, none⟩ = some (.int .i64 y)) :=
    ⟨(show (w1.alloc (.cells #[.int .i64 x, .int .i64 y] 3)).cell? _ = _ from by rw [World.cell?_alloc_mark]; rfl), (show (w1.alloc (.cells #[.int .i64 x, .int .i64 y] 3)).cell? _ = _ from by rw [World.cell?_alloc_mark]; rfl)⟩
  generalize hp : w.heap.size = p at *
  go_enter Try.func33, Try.ntmps33
  go_wp2
  rw [← hw1]
  clear hw1
  first
    | (go_region_held3 (fun w' => w'.cell? ⟨p, 0, none⟩ = some (.string a.nm) ∧ w'.cell? ⟨p, 1, none⟩ = some (.int .i64 a.day) ∧ w'.cell? ⟨p + 1, 0, none⟩ = some (.string b.nm) ∧ w'.cell? ⟨p + 1, 1, none⟩ = some (.int .i64 b.day))
        (go_keep)
        (first
          | (go_at_call 41; refine (HS.out _).mono ?_; rintro e w' ⟨rfl, rfl⟩)
          | (go_at_call 42; refine (HI.out _).mono ?_; rintro e w' ⟨rfl, rfl⟩)
          | (go_at_call 40; refine (HO.out _ _ (by exact KX.out.1) (by exact KX.out.2)).mono ?_; rintro e w' ⟨rfl, rfl⟩)))
    | fail
  all_goals
    go_wp2
    go_ret
    obtain ⟨os', ho⟩ := HW.out
    exact ⟨rfl, 1, os' ++ #[.cells #[.int .i64 x, .int .i64 y] 3], by rw [ho, alloc_eq_grow, grow_grow]; rfl⟩
instance : Inhabited Cn := ⟨⟨⟨#[]⟩, 0⟩⟩
theorem lt_cmpC (a b : Cn) : ltOf cmpC a b = @decide (DsCo.ahead a b) (Classical.propDecidable _) := by
  unfold ltOf
  by_cases h : DsCo.ahead a b
  · rw [@decide_eq_true _ (Classical.propDecidable _) h, decide_eq_true ((cmpC_neg a b).2 h)]
  · rw [@decide_eq_false _ (Classical.propDecidable _) h, decide_eq_false (fun h' => h ((cmpC_neg a b).1 h'))]
theorem lt_true {a b : Cn} : ltOf cmpC a b = true ↔ DsCo.ahead a b := by rw [lt_cmpC]; exact @decide_eq_true_iff _ (Classical.propDecidable _)
theorem lt_false {a b : Cn} : ltOf cmpC a b = false ↔ ¬ DsCo.ahead a b := by
  rw [← lt_true]; cases ltOf cmpC a b <;> simp
theorem swoC : SWO (ltOf cmpC) where
  irrefl x := lt_false.2 (ahead_irrefl x)
  trans x y z h1 h2 := lt_true.2 (ahead_trans (lt_true.1 h1) (lt_true.1 h2))
  ntrans x y z h1 h2 := lt_false.2 fun h => by
    rcases ahead_total x y with a | a | a
    · exact lt_false.1 h1 a
    · subst a; exact lt_false.1 h2 h
    · exact lt_false.1 h2 (ahead_trans a h)
/-- a condition's two cells -/
def encC (c : Cn) : List Value := [.string c.nm, .int .i64 c.day]
theorem cmpLaysC (blk off size : Nat) (w : World) : CmpLays Try.prog 33 #[] encC 2 cmpC blk off size w := fun _ _ _ _ x y => cby_any x y _
theorem cf_by : CFn 33 := cfn_of Try.func33 (by decide +kernel) (by kernel_rfl)
theorem isAggC (w : World) : (isAgg 24).run Try.prog w = .ok true w := by kernel_rfl
theorem sizeOfC (w : World) : (Go.sizeOf 24).run Try.prog w = .ok 2 w := by kernel_rfl
open Go.Sort (PermIn SortedIn HoldsK) in
/-- the conditions of a row, sorted -/
theorem csort_any (g cap : Nat) (d : Array Cn) (w : World) (hH : HoldsK encC 2 w g 0 d) (hg : g < w.heap.size) (hs : d.size < 4611686018427387904) :
    Calls Try.prog 32 #[.slice (some ⟨g, 0, none⟩) d.size cap, .func (.func 33) #[] #[]] w fun e w' =>
      e = .returned (.tuple #[]) ∧ ∃ d' n os, PermIn 0 d.size d d' ∧ SortedIn (ltOf cmpC) 0 d.size d' ∧ w' = sortWorldK encC 2 w g 0 n d' os :=
  AnyQ.slices_SortFunc Try.sortC 2 isAggC sizeOfC encC (fun _ => rfl) (fun x v hv => by simp [encC] at hv; rcases hv with rfl | rfl <;> rfl) cmpC swoC 33 #[] g 0 cap d w cf_by (cmpLaysC g 0 d.size w) hH hg hs
end Go.Proofs.Ytliinilbfacpbaa
