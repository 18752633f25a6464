/- Package pool: quantities that fit; the quantity of a name. -/
import Derived.Test.YtkpambipgcjaiaaPlC
import Derived.Deep.QuietTactic
import Derived.BigQuiet
namespace Go.Proofs.Ytkpambipgcjaiaa
open Go.ChangeShapes Go.WideShapes Go.ChangeAt Go.RowKit Go.DsMem Go.DsCo Go.DsPl Go.DsMap
set_option linter.unusedVariables false
set_option linter.unusedSimpArgs false
set_option maxHeartbeats 2000000 in
set_option maxRecDepth 20000 in
/-- (pool.quantity).fits -/
theorem qfits_any (k : Int) (n : Ne) (u : Us) (w : World) (hk : 0 ≤ k ∧ k ≤ 1000) (hu : 0 ≤ u.1 ∧ u.1 ≤ 1000000000000) : Calls Try.prog 139 #[.agg #[.int .i64 k], neV n, usV u] w fun e w' => e = .returned (.bool (fitsB (.units k) n u)) ∧ Below w.heap.size w w' := by
  obtain ⟨nm, m, md⟩ := n
  obtain ⟨a, b, c⟩ := u
  have HF := hide (fun w => qfree_any k (a, b, c) w hk hu)
  unfold neV usV at *
  simp only at *
  obtain ⟨w3, hw3⟩ : ∃ w3, w3 = ((w.alloc (.cells #[.int .i64 k] 93)).alloc (.cells #[.string nm, .int .i64 m, .int .i64 md] 61)).alloc (.cells #[.int .i64 a, .int .i64 b, .int .i64 c] 98) := ⟨_, rfl⟩
  have hb3 : Below w.heap.size w w3 := by rw [hw3]; exact bel3 _ _ _ _
  have c0 : w3.cell? ⟨w.heap.size, 0, none⟩ = some (.int .i64 k) := by rw [hw3]; simp [go_sem]
  have c1 : w3.cell? ⟨w.heap.size + 1, 1, none⟩ = some (.int .i64 m) := by rw [hw3]; simp [go_sem]
  have c2 : w3.cell? ⟨w.heap.size + 2, 0, none⟩ = some (.int .i64 a) := by rw [hw3]; simp [go_sem]
  have c3 : w3.cell? ⟨w.heap.size + 2, 1, none⟩ = some (.int .i64 b) := by rw [hw3]; simp [go_sem]
  have c4 : w3.cell? ⟨w.heap.size + 2, 2, none⟩ = some (.int .i64 c) := by rw [hw3]; simp [go_sem]
  have HB := hide hb3
  have hs3 : w3.heap.size = w.heap.size + 3 := by rw [hw3]; simp
  clear hb3
  go_enter Try.func139, Try.ntmps139
  go_wp2
  rw [← hw3]
  clear hw3
  go_region_with (go_at_call 61; refine (HF.out _).mono ?_; rintro e w4 ⟨rfl, hb4⟩; have d1 := Below.keeps hb4 (Nat.le_refl _) (show w3.drew.cell? ⟨w.heap.size + 1, 1, none⟩ = some (.int .i64 m) from c1); have HB4 := hide hb4; clear hb4)
  all_goals
    go_wp2
    go_ret
    exact ⟨retB (by simp [fitsB]), HB.out.drew.trans (HB4.out.mono HB.out.size)⟩
/-- what quantity tells -/
def quF (R : List Rk) (nm : ByteArray) : Value := .tuple #[.agg #[.int .i64 (unitsF R nm).1], .int .i64 (unitsF R nm).2]
set_option maxHeartbeats 2000000 in
set_option maxRecDepth 20000 in
/-- (*pool.Pool).quantity -/
theorem quantity_any (nm : ByteArray) (hn : FitN nm) (p a b : Nat) (R : List Rk) (H : List Hd) (w : World) (h : PoAt w p a b R H) : Calls Try.prog 60 #[ptr p, .string nm] w fun e w' => e = .returned (quF R nm) ∧ Below w.heap.size w w' := by
  have h1 : PoAt (w.alloc (.cells #[.int .i64 0] 93)) p a b R H := h.below (bel1 _ _)
  have c0 := h1.c0
  have hl := h.lt
  have hpn : ¬ p = w.heap.size := by omega
  have LK := lookK h1.mks nm hn false
  simp only [Bool.false_eq_true, if_false] at LK
  unfold quF unitsF
  have hta : ∀ (v : Value) (w : World), (Instr.typeAssert (.iface 93 v) 78 93 true).run Try.prog w = .ok (.tuple #[v, .bool true]) w := fun v w => by kernel_rfl
  have htb : ∀ (v : Value) (w : World), (Instr.typeAssert (.iface 123 v) 78 123 true).run Try.prog w = .ok (.tuple #[v, .bool true]) w := fun v w => by kernel_rfl
  have htc : ∀ (v : Value) (w : World), (Instr.typeAssert (.iface 123 v) 78 93 true).run Try.prog w = .ok (.tuple #[.agg #[.int .i64 0], .bool false]) w := fun v w => by kernel_rfl
  have htd : ∀ (w : World), (Instr.typeAssert .nilIface 78 93 true).run Try.prog w = .ok (.tuple #[.agg #[.int .i64 0], .bool false]) w := fun w => by kernel_rfl
  have hte : ∀ (w : World), (Instr.typeAssert .nilIface 78 123 true).run Try.prog w = .ok (.tuple #[.agg #[], .bool false]) w := fun w => by kernel_rfl
  unfold ptr
  cases hk : findK R nm with
  | none =>
    rw [hk] at LK
    simp only [Option.map_none, Option.getD_none] at LK ⊢
    go_enter Try.func60, Try.ntmps60
    go_wp2
    refine bodyPost_ret (v := .tuple #[.agg #[.int .i64 0], .int .i64 21]) (by simp [results, Try.results60, go_sem]) rfl ?_
    exact ⟨rfl, bel1 _ _⟩
  | some k =>
    rw [hk] at LK
    cases k with
    | lock =>
      simp only [Option.map_some, Option.getD_some, kdV] at LK ⊢
      go_enter Try.func60, Try.ntmps60
      go_wp2
      refine bodyPost_ret (v := .tuple #[.agg #[.int .i64 0], .int .i64 1]) (by simp [results, Try.results60, go_sem]) rfl ?_
      exact ⟨rfl, bel2 _ _ _⟩
    | units n =>
      simp only [Option.map_some, Option.getD_some, kdV] at LK ⊢
      go_enter Try.func60, Try.ntmps60
      go_wp2
      refine bodyPost_ret (v := .tuple #[.agg #[.int .i64 n], .int .i64 0]) (by simp [results, Try.results60, go_sem]) rfl ?_
      exact ⟨rfl, bel2 _ _ _⟩
theorem quantity_nil (nm : ByteArray) (w : World) : Calls Try.prog 60 #[.pointer none, .string nm] w fun e w' => e = .returned (.tuple #[.agg #[.int .i64 0], .int .i64 2]) ∧ Below w.heap.size w w' := by
  go_enter Try.func60, Try.ntmps60
  go_wp2
  refine bodyPost_ret (v := .tuple #[.agg #[.int .i64 0], .int .i64 2]) (by simp [results, Try.results60, go_sem]) rfl ?_
  exact ⟨rfl, bel1 _ _⟩
set_option maxHeartbeats 2000000 in
/-- (*pool.Pool).Units -/
theorem units_any (nm : ByteArray) (hn : FitN nm) (p a b : Nat) (R : List Rk) (H : List Hd) (w : World) (h : PoAt w p a b R H) : Calls Try.prog 23 #[ptr p, .string nm] w fun e w' => e = .returned (.tuple #[.int .i64 (unitsF R nm).1, .int .i64 (unitsF R nm).2]) ∧ Below w.heap.size w w' := by
  have HQ := hide (quantity_any nm hn p a b R H w h)
  clear h
  unfold quF ptr at *
  generalize unitsF R nm = x at *
  obtain ⟨n, er⟩ := x
  simp only at HQ ⊢
  go_enter Try.func23, Try.ntmps23
  go_wp2_with fail
  refine HQ.out.mono ?_
  rintro e w1 ⟨rfl, hb⟩
  have HB := hide hb
  clear hb
  go_wp2
  go_ret2
  exact ⟨rfl, HB.out.alloc HB.out.size _⟩
theorem units_nil (nm : ByteArray) (w : World) : Calls Try.prog 23 #[.pointer none, .string nm] w fun e w' => e = .returned (.tuple #[.int .i64 0, .int .i64 2]) ∧ Below w.heap.size w w' := by
  have HQ := hide (quantity_nil nm w)
  go_enter Try.func23, Try.ntmps23
  go_wp2_with fail
  refine HQ.out.mono ?_
  rintro e w1 ⟨rfl, hb⟩
  have HB := hide hb
  clear hb
  go_wp2
  go_ret2
  exact ⟨rfl, HB.out.alloc HB.out.size _⟩
end Go.Proofs.Ytkpambipgcjaiaa
