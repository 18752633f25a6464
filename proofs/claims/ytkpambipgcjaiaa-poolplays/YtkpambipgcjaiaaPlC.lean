/- Package pool: its kinds. -/
import Derived.Test.YtkpambipgcjaiaaPlB
import Derived.Lib.MinMax
namespace Go.Proofs.Ytkpambipgcjaiaa
open Go.ChangeShapes Go.WideShapes Go.ChangeAt Go.RowKit Go.DsMem Go.DsCo Go.DsPl Go.DsMap
set_option linter.unusedVariables false
set_option linter.unusedSimpArgs false
theorem retB {a b : Bool} (h : a = b) : Ending.returned (.bool a) = .returned (.bool b) := by rw [h]
theorem retI {k : IntKind} {a b : Int} (h : a = b) : Ending.returned (.int k a) = .returned (.int k b) := by rw [h]
theorem bel1 (w : World) (o : Obj) : Below w.heap.size w (w.alloc o) := (Below.refl _ _).alloc (Nat.le_refl _) _
theorem bel2 (w : World) (o p : Obj) : Below w.heap.size w ((w.alloc o).alloc p) := (bel1 w o).alloc (by simp) _
theorem bel3 (w : World) (o p q : Obj) : Below w.heap.size w (((w.alloc o).alloc p).alloc q) := (bel2 w o p).alloc (by simp; omega) _
def kindF (u : Int) (l : Bool) : Kd := if l = true then .lock else .units (min (max u 0) 1000)
set_option maxHeartbeats 1000000 in
/-- pool.kindOf -/
theorem kindOf_any (nm : ByteArray) (u : Int) (l : Bool) (w : World) : Calls Try.prog 50 #[.agg #[.string nm, .int .i64 u, .bool l]] w fun e w' => e = .returned (kdV (kindF u l)) ∧ Below w.heap.size w w' := by
  cases l with
  | true =>
    go_enter Try.func50, Try.ntmps50
    go_wp2
    go_ret
    exact ⟨rfl, bel1 _ _⟩
  | false =>
    go_enter Try.func50, Try.ntmps50
    go_wp2
    go_ret
    refine ⟨?_, bel1 _ _⟩
    simp [kdV, kindF]
set_option maxHeartbeats 1000000 in
/-- (pool.quantity).suits -/
theorem qsuits_any (k : Int) (n : Ne) (w : World) : Calls Try.prog 141 #[.agg #[.int .i64 k], neV n] w fun e w' => e = .returned (.bool (suitsB (.units k) n)) ∧ Below w.heap.size w w' := by
  obtain ⟨nm, m, md⟩ := n
  unfold neV
  simp only
  by_cases h1 : md = 0
  · subst h1
    by_cases h2 : 1 ≤ m
    · by_cases h3 : m ≤ 1000
      · go_enter Try.func141, Try.ntmps141
        go_wp2
        go_ret
        exact ⟨retB (by simp [suitsB, h2, h3]), bel2 _ _ _⟩
      · have h3' : decide (m ≤ 1000) = false := by simpa using h3
        go_enter Try.func141, Try.ntmps141
        go_wp2
        go_ret
        exact ⟨retB (by simp [suitsB, h2, h3]), bel2 _ _ _⟩
    · have h2' : decide (1 ≤ m) = false := by simpa using h2
      go_enter Try.func141, Try.ntmps141
      go_wp2
      go_ret
      exact ⟨retB (by simp [suitsB]; omega), bel2 _ _ _⟩
  · have h1' : (md == 0) = false := by simpa using h1
    go_enter Try.func141, Try.ntmps141
    go_wp2
    go_ret
    exact ⟨retB (by simp [suitsB, h1]), bel2 _ _ _⟩
set_option maxHeartbeats 1000000 in
/-- (pool.lock).suits -/
theorem lsuits_any (n : Ne) (w : World) : Calls Try.prog 144 #[.agg #[], neV n] w fun e w' => e = .returned (.bool (suitsB .lock n)) ∧ Below w.heap.size w w' := by
  obtain ⟨nm, m, md⟩ := n
  unfold neV
  simp only
  by_cases h1 : md = 1
  · subst h1
    go_enter Try.func144, Try.ntmps144
    go_wp2
    go_ret
    exact ⟨retB (by simp [suitsB]), bel2 _ _ _⟩
  · have h1' : (md == 1) = false := by simpa using h1
    go_enter Try.func144, Try.ntmps144
    go_wp2
    go_ret
    exact ⟨retB (by simp [suitsB, h1]; try rfl), bel2 _ _ _⟩
set_option maxHeartbeats 1000000 in
/-- (pool.quantity).free -/
theorem qfree_any (k : Int) (u : Us) (w : World) (hk : 0 ≤ k ∧ k ≤ 1000) (hu : 0 ≤ u.1 ∧ u.1 ≤ 1000000000000) : Calls Try.prog 61 #[.agg #[.int .i64 k], usV u] w fun e w' => e = .returned (.int .i64 (k - u.1)) ∧ Below w.heap.size w w' := by
  obtain ⟨a, b, c⟩ := u
  unfold usV
  simp only at hu ⊢
  obtain ⟨h1, h2⟩ := hk
  obtain ⟨h3, h4⟩ := hu
  go_enter Try.func61, Try.ntmps61
  go_wp2
  go_ret
  exact ⟨rfl, bel2 _ _ _⟩
set_option maxHeartbeats 1000000 in
/-- (pool.lock).fits -/
theorem lfits_any (n : Ne) (u : Us) (w : World) : Calls Try.prog 142 #[.agg #[], neV n, usV u] w fun e w' => e = .returned (.bool (fitsB .lock n u)) ∧ Below w.heap.size w w' := by
  obtain ⟨nm, m, md⟩ := n
  obtain ⟨a, b, c⟩ := u
  unfold neV usV
  simp only
  by_cases h1 : c = 0
  · subst h1
    by_cases h2 : md = 1
    · subst h2
      go_enter Try.func142, Try.ntmps142
      go_wp2
      go_ret
      exact ⟨retB (by simp [fitsB]), bel3 _ _ _ _⟩
    · have h2' : (md == 1) = false := by simpa using h2
      go_enter Try.func142, Try.ntmps142
      go_wp2
      go_ret
      exact ⟨retB (by simp [fitsB, h2]; try rfl), bel3 _ _ _ _⟩
  · have h1' : (c == 0) = false := by simpa using h1
    go_enter Try.func142, Try.ntmps142
    go_wp2
    go_ret
    exact ⟨retB (by simp [fitsB, h1]), bel3 _ _ _ _⟩
set_option maxHeartbeats 1000000 in
/-- (pool.quantity).share -/
theorem qshare_any (k : Int) (n : Ne) (w : World) : Calls Try.prog 140 #[.agg #[.int .i64 k], neV n] w fun e w' => e = .returned (shV (shareF (.units k) n)) ∧ Below w.heap.size w w' := by
  obtain ⟨nm, m, md⟩ := n
  unfold neV
  simp only
  go_enter Try.func140, Try.ntmps140
  go_wp2
  refine bodyPost_ret (v := .agg #[.int .i64 m, .int .i64 0]) (by simp [results, Try.results140, go_sem]) rfl ?_
  exact ⟨rfl, bel3 _ _ _ _⟩
set_option maxHeartbeats 1000000 in
/-- (pool.lock).share -/
theorem lshare_any (n : Ne) (w : World) : Calls Try.prog 143 #[.agg #[], neV n] w fun e w' => e = .returned (shV (shareF .lock n)) ∧ Below w.heap.size w w' := by
  obtain ⟨nm, m, md⟩ := n
  unfold neV
  simp only
  go_enter Try.func143, Try.ntmps143
  go_wp2
  refine bodyPost_ret (v := .agg #[.int .i64 0, .int .i64 md]) (by simp [results, Try.results143, go_sem]) rfl ?_
  exact ⟨rfl, bel3 _ _ _ _⟩
set_option maxHeartbeats 2000000 in
/-- (pool.use).with -/
theorem with_any (u : Us) (s : Sh) (w : World) (hu : 0 ≤ u.1 ∧ u.1 ≤ 1000000000000 ∧ 0 ≤ u.2.1 ∧ u.2.1 ≤ 1000000000000 ∧ 0 ≤ u.2.2 ∧ u.2.2 ≤ 1000000000000) (hs : 0 ≤ s.1 ∧ s.1 ≤ 1000) : Calls Try.prog 89 #[usV u, shV s] w fun e w' => e = .returned (usV (addU u s)) ∧ Below w.heap.size w w' := by
  obtain ⟨a, b, c⟩ := u
  obtain ⟨n, md⟩ := s
  unfold usV shV
  simp only at hu hs ⊢
  obtain ⟨h1, h2, h3, h4, h5, h6⟩ := hu
  obtain ⟨h7, h8⟩ := hs
  by_cases m1 : md = 1
  · subst m1
    go_enter Try.func89, Try.ntmps89
    go_wp2
    refine bodyPost_ret (v := .agg #[.int .i64 (a + n), .int .i64 (b + 1), .int .i64 c]) (by simp [results, Try.results89, go_sem]) rfl ?_
    exact ⟨by simp [addU], bel3 _ _ _ _⟩
  · by_cases m2 : md = 2
    · subst m2
      go_enter Try.func89, Try.ntmps89
      go_wp2
      refine bodyPost_ret (v := .agg #[.int .i64 (a + n), .int .i64 b, .int .i64 (c + 1)]) (by simp [results, Try.results89, go_sem]) rfl ?_
      exact ⟨by simp [addU], bel3 _ _ _ _⟩
    · have m1' : (md == 1) = false := by simpa using m1
      have m2' : (md == 2) = false := by simpa using m2
      go_enter Try.func89, Try.ntmps89
      go_wp2
      refine bodyPost_ret (v := .agg #[.int .i64 (a + n), .int .i64 b, .int .i64 c]) (by simp [results, Try.results89, go_sem]) rfl ?_
      exact ⟨by simp [addU, m1, m2], bel3 _ _ _ _⟩
end Go.Proofs.Ytkpambipgcjaiaa
