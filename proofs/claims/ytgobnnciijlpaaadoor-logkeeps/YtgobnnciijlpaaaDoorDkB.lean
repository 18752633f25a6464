/- A disk of package disk in memory: its block, its files' rows. The walks of call and start. -/
import Derived.Test.YtgobnnciijlpaaaDoorDkA
namespace Go.Proofs.YtgobnnciijlpaaaDoor
open Go.ChangeShapes Go.WideShapes Go.ChangeAt Go.RowKit Go.DsMem Go.DsDk
set_option linter.unusedVariables false

/-- the cells of a disk -/
def dcells (v : Nat → Value) (s : Nat → Nat) (left : Nat) (dead : Bool) : List Value :=
  [v 0, .int .i64 (s 0), v 1, .int .i64 (s 1), v 2, .int .i64 (s 2), v 3, .int .i64 (s 3), v 4, .int .i64 (s 4), v 5, .int .i64 (s 5), v 6, .int .i64 (s 6), v 7, .int .i64 (s 7), .int .i64 left, .bool dead]
def DB (w : World) (p : Nat) (v : Nat → Value) (s : Nat → Nat) (left : Nat) (dead : Bool) : Prop := w.heap[p]? = some (.cells (dcells v s left dead).toArray 71 (0, 0))

theorem nat8 {f : Nat} (h : f < 8) : f = 0 ∨ f = 1 ∨ f = 2 ∨ f = 3 ∨ f = 4 ∨ f = 5 ∨ f = 6 ∨ f = 7 := by omega
section
variable {w : World} {p : Nat} {v : Nat → Value} {s : Nat → Nat} {left : Nat} {dead : Bool}
theorem DB.bytes (h : DB w p v s left dead) {f : Nat} (hf : f < 8) : w.cell? ⟨p, f * 2, none⟩ = some (v f) := by
  rw [cell_of h]; rcases nat8 hf with rfl | rfl | rfl | rfl | rfl | rfl | rfl | rfl <;> rfl
theorem DB.safe (h : DB w p v s left dead) {f : Nat} (hf : f < 8) : w.cell? ⟨p, f * 2 + 1, none⟩ = some (.int .i64 (s f)) := by
  rw [cell_of h]; rcases nat8 hf with rfl | rfl | rfl | rfl | rfl | rfl | rfl | rfl <;> rfl
theorem DB.leftC (h : DB w p v s left dead) : w.cell? ⟨p, 16, none⟩ = some (.int .i64 left) := by rw [cell_of h]; rfl
theorem DB.deadC (h : DB w p v s left dead) : w.cell? ⟨p, 17, none⟩ = some (.bool dead) := by rw [cell_of h]; rfl
theorem DB.free (h : DB w p v s left dead) (k : Nat) : w.frozen? ⟨p, k, none⟩ = false := frozen_of h
theorem DB.setBytes (h : DB w p v s left dead) {f : Nat} (hf : f < 8) (x : Value) : DB (w.setCell ⟨p, f * 2, none⟩ x) p (upd v f x) s left dead := by
  unfold DB; rw [hset_same h]; rcases nat8 hf with rfl | rfl | rfl | rfl | rfl | rfl | rfl | rfl <;> rfl
theorem DB.setSafe (h : DB w p v s left dead) {f : Nat} (hf : f < 8) (n : Nat) : DB (w.setCell ⟨p, f * 2 + 1, none⟩ (.int .i64 n)) p v (upd s f n) left dead := by
  unfold DB; rw [hset_same h]; rcases nat8 hf with rfl | rfl | rfl | rfl | rfl | rfl | rfl | rfl <;> rfl
theorem DB.setLeft (h : DB w p v s left dead) (n : Nat) : DB (w.setCell ⟨p, 16, none⟩ (.int .i64 n)) p v s n dead := by
  unfold DB; rw [hset_same h]; rfl
theorem DB.setDead (h : DB w p v s left dead) (n : Bool) : DB (w.setCell ⟨p, 17, none⟩ (.bool n)) p v s left n := by
  unfold DB; rw [hset_same h]; rfl
theorem DB.drew (h : DB w p v s left dead) : DB w.drew p v s left dead := h
theorem DB.only {w' : World} {S : Nat → Prop} (h : DB w p v s left dead) (ho : Only S w w') (hn : ¬ S p) : DB w' p v s left dead := by
  unfold DB; rw [ho.block p (block_lt h) hn]; exact h
end

theorem db_called {w : World} {p : Nat} {v : Nat → Value} {D : Dk} (h : DB w p v D.s (D.left - 1) (D.dead || decide (D.left = 1))) : DB w p v D.called.s D.called.left D.called.dead := by
  unfold Dk.called
  by_cases h0 : D.left = 0
  · rw [if_pos h0]; simpa [h0] using h
  · rw [if_neg h0]; exact h

/-- (*Disk).call -/
theorem call_any (p : Nat) (v : Nat → Value) (D : Dk) (w : World) (h : DB w p v D.s D.left D.dead) (hm : D.Few) :
    Calls Tryd.prog 55 #[.pointer (some ⟨p, 0, none⟩)] w fun e w' => e = .returned (.int .i64 D.err) ∧
      DB w' p v D.called.s D.called.left D.called.dead ∧ Only (· = p) w w' := by
  have hm' : D.left ≤ 9223372036854775807 := hm
  have hl := h.leftC
  have hd := h.deadC
  have hf1 := h.free 16
  have hf2 := h.free 17
  have H := hide h
  clear h hm
  generalize hle : D.left = left at *
  have HL := hide hle
  clear hle
  rcases (show left = 0 ∨ left = 1 ∨ 2 ≤ left by omega) with rfl | rfl | h2
  · go_enter Tryd.func55, Tryd.ntmps55
    go_wp2
    go_ret
    exact ⟨ret_int (err_no (by rw [HL.out]; omega)).symm, db_called (by rw [HL.out]; simpa using H.out), Only.refl _ _⟩
  · go_enter Tryd.func55, Tryd.ntmps55
    go_wp2
    go_ret
    exact ⟨ret_int (err_one HL.out).symm, db_called (by rw [HL.out]; simpa using (H.out.setLeft 0).setDead true), (Only.set _ _ _ _).trans (Only.set _ _ _ _) (fun _ _ h => h)⟩
  · go_enter Tryd.func55, Tryd.ntmps55
    go_wp2
    go_ret
    refine ⟨ret_int (err_no (by rw [HL.out]; omega)).symm, db_called ?_, Only.set _ _ _ _⟩
    have := H.out.setLeft (left - 1)
    rw [show ((left - 1 : Nat) : Int) = (left : Int) - 1 by omega] at this
    have e : decide (left = 1) = false := by simp; omega
    rw [HL.out, e, Bool.or_false]
    exact this

theorem err_cases (D : Dk) : D.err = 13 ∨ D.err = 0 := by unfold Dk.err; split; exact .inl rfl; exact .inr rfl

/-- (*Disk).start -/
theorem start_any (p : Nat) (v : Nat → Value) (D : Dk) (ns : List Int) (sl : Value) (w : World) (h : DB w p v D.s D.left D.dead) (hm : D.Few) (hr : RdI w sl ns) (hl : ns.length ≤ 2) :
    Calls Tryd.prog 74 #[.pointer (some ⟨p, 0, none⟩), sl] w fun e w' => e = .returned (.int .i64 (D.start (ns.all okf)).2) ∧
      DB w' p v (D.start (ns.all okf)).1.s (D.start (ns.all okf)).1.left (D.start (ns.all okf)).1.dead ∧ Only (· = p) w w' := by
  have hd := h.deadC
  have H := hide h
  clear h
  cases hok : ns.all okf <;> cases hdd : D.dead
  all_goals
    rw [hdd] at hd
    have HO := hide hok
    have HD := hide hdd
    clear hok hdd
    go_enter Tryd.func74, Tryd.ntmps74
    go_wp2_with (first
      | (go_at_call 54; refine (refuse_any p _ ns _ _ hr hl hd).mono ?_; rintro e w' ⟨rfl, rfl⟩; rw [HO.out]; simp only [refuses])
      | (go_at_call 55; refine (call_any p v D _ H.out hm).mono ?_; rintro e w' ⟨rfl, hdb, hon⟩))
    go_ret
    simp only [Dk.start, HD.out]
    first | exact ⟨rfl, by simpa [HD.out] using H.out, Only.refl _ _⟩ | exact ⟨rfl, hdb, hon⟩
end Go.Proofs.YtgobnnciijlpaaaDoor
