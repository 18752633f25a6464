/- Package cond: DropAll, Clean. -/
import Derived.Test.YtliinilbfacpbaaClF
namespace Go.Proofs.Ytliinilbfacpbaa
open Go.ChangeShapes Go.WideShapes Go.ChangeAt Go.RowKit Go.DsMem Go.DsCo
set_option linter.unusedVariables false
/-- a function value is entered -/
def CFn (K : Nat) : Prop := ∀ args w, (callFunc K args).run Try.prog w = .ok (.enter K args) w
theorem cfn_of {K : Nat} {fn : Func} (hf : Try.prog.funcs[K]? = some fn) (hn : ¬ fn.name = "runtime.NumGoroutine") (hb : fn.body.isNone = false) : CFn K := fun args w => by
  have hb' : ¬ fn.body = none := fun e => by rw [e] at hb; cases hb
  simp [callFunc, hf, hn, hb', go_sem]
theorem filter_nm (L : List Cn) (s : ByteArray) : L.filter (fun c => !(c.nm.toList == s.toList)) = dropN L s := by
  unfold dropN
  congr 1
  funext c
  by_cases h : c.nm = s
  · simp [h]
  · rw [str_neC h]; simp [h]
theorem filter_day (L : List Cn) (d : Int) : L.filter (fun c => !decide (c.day < d)) = cleanF L d := by
  unfold cleanF
  congr 1
  funext c
  by_cases h : c.day < d
  · simp [h]
  · simp [h]; omega
set_option maxHeartbeats 4000000 in
theorem cgoes_nm (s : ByteArray) (bx : Nat) (c : Cn) (w : World) (h : w.cell? ⟨bx, 0, none⟩ = some (.string s)) :
    Calls Try.prog 27 #[.agg #[.string c.nm, .int .i64 c.day], .pointer (some ⟨bx, 0, none⟩)] w fun e w' => e = .returned (.bool (c.nm.toList == s.toList)) ∧ Below w.heap.size w w' := by
  have hbl : bx < w.heap.size := World.block_lt_of_cell? w _ h
  have hne : ¬ bx = w.heap.size := by omega
  go_enter Try.func27, Try.ntmps27
  go_wp2
  go_ret
  exact ⟨rfl, (Below.refl _ _).alloc (Nat.le_refl _) _⟩
set_option maxHeartbeats 4000000 in
theorem cgoes_day (d : Int) (bx : Nat) (c : Cn) (w : World) (h : w.cell? ⟨bx, 0, none⟩ = some (.int .i64 d)) :
    Calls Try.prog 34 #[.agg #[.string c.nm, .int .i64 c.day], .pointer (some ⟨bx, 0, none⟩)] w fun e w' => e = .returned (.bool (decide (c.day < d))) ∧ Below w.heap.size w w' := by
  have hbl : bx < w.heap.size := World.block_lt_of_cell? w _ h
  have hne : ¬ bx = w.heap.size := by omega
  go_enter Try.func34, Try.ntmps34
  go_wp2
  go_ret
  exact ⟨rfl, (Below.refl _ _).alloc (Nat.le_refl _) _⟩
set_option maxHeartbeats 4000000 in
/-- cond.Store.DropAll -/
theorem cdropall_any (s : ByteArray) (p B : Nat) (L : List Cn) (w : World) (h : StAt w p B L) : Calls Try.prog 12 #[ptr p, .string s] w fun e w' => e = .returned (.int .i64 (L.length - (dropN L s).length : Int)) ∧ StAt w' p B (dropN L s) ∧ Only (· = B) w w' := by
  have hB := h.ltB
  have HB : Hid (Below w.heap.size w (w.alloc (.cells #[.string s] 9))) := (Below.refl _ _).alloc (Nat.le_refl _) _
  have hcell : (w.alloc (.cells #[.string s] 9)).cell? ⟨w.heap.size, 0, none⟩ = some (.string s) := by rw [World.cell?_alloc_mark]; rfl
  have hcf : CFn 27 := cfn_of Try.func27 (by decide +kernel) (by kernel_rfl)
  have HC := hide (cdropw_any (fun c => c.nm.toList == s.toList) 27 w.heap.size (.string s) p B L (dropN L s) (filter_nm L s) _ (h.below HB.out) hcell (by omega) hcf (fun c w' hw' => cgoes_nm s w.heap.size c w' hw'))
  clear h hcell hcf
  unfold ptr at *
  go_enter Try.func12, Try.ntmps12
  go_wp2_with fail
  refine HC.out.mono ?_
  rintro e w2 ⟨rfl, hs, ho⟩
  have HS := hide hs
  have HO := hide ((Only.below HB.out).trans ho (fun _ _ h => h))
  clear hs ho
  go_wp2
  go_ret
  exact ⟨rfl, HS.out, HO.out⟩
set_option maxHeartbeats 4000000 in
/-- cond.Store.Clean -/
theorem cclean_any (d : Int) (p B : Nat) (L : List Cn) (w : World) (h : StAt w p B L) : Calls Try.prog 22 #[ptr p, .int .i64 d] w fun e w' => e = .returned (.int .i64 (L.length - (cleanF L d).length : Int)) ∧ StAt w' p B (cleanF L d) ∧ Only (· = B) w w' := by
  have hB := h.ltB
  have HB : Hid (Below w.heap.size w (w.alloc (.cells #[.int .i64 d] 2))) := (Below.refl _ _).alloc (Nat.le_refl _) _
  have hcell : (w.alloc (.cells #[.int .i64 d] 2)).cell? ⟨w.heap.size, 0, none⟩ = some (.int .i64 d) := by rw [World.cell?_alloc_mark]; rfl
  have hcf : CFn 34 := cfn_of Try.func34 (by decide +kernel) (by kernel_rfl)
  have HC := hide (cdropw_any (fun c => decide (c.day < d)) 34 w.heap.size (.int .i64 d) p B L (cleanF L d) (filter_day L d) _ (h.below HB.out) hcell (by omega) hcf (fun c w' hw' => cgoes_day d w.heap.size c w' hw'))
  clear h hcell hcf
  unfold ptr at *
  go_enter Try.func22, Try.ntmps22
  go_wp2_with fail
  refine HC.out.mono ?_
  rintro e w2 ⟨rfl, hs, ho⟩
  have HS := hide hs
  have HO := hide ((Only.below HB.out).trans ho (fun _ _ h => h))
  clear hs ho
  go_wp2
  go_ret
  exact ⟨rfl, HS.out, HO.out⟩
set_option maxHeartbeats 4000000 in
theorem cdropw_nil (fv : Value) (w : World) : Calls Try.prog 26 #[.pointer none, fv] w fun e w' => e = .returned (.int .i64 0) ∧ w' = w := by
  go_enter Try.func26, Try.ntmps26
  go_wp2
  go_ret
  exact ⟨rfl, rfl⟩
theorem cdropall_nil (s : ByteArray) (w : World) : Calls Try.prog 12 #[.pointer none, .string s] w fun e w' => e = .returned (.int .i64 0) ∧ Below w.heap.size w w' := by
  go_enter Try.func12, Try.ntmps12
  go_wp2_with (go_at_call 26; refine (cdropw_nil _ _).mono ?_; rintro e w' ⟨rfl, rfl⟩)
  go_ret
  exact ⟨rfl, (Below.refl _ _).alloc (Nat.le_refl _) _⟩
theorem cclean_nil (d : Int) (w : World) : Calls Try.prog 22 #[.pointer none, .int .i64 d] w fun e w' => e = .returned (.int .i64 0) ∧ Below w.heap.size w w' := by
  go_enter Try.func22, Try.ntmps22
  go_wp2_with (go_at_call 26; refine (cdropw_nil _ _).mono ?_; rintro e w' ⟨rfl, rfl⟩)
  go_ret
  exact ⟨rfl, (Below.refl _ _).alloc (Nat.le_refl _) _⟩
end Go.Proofs.Ytliinilbfacpbaa
