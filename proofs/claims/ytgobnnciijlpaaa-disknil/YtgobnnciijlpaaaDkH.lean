/- A disk of one's own, call by call; a disk that is not there. -/
import Derived.Test.YtgobnnciijlpaaaDkF
namespace Go.Proofs.Ytgobnnciijlpaaa
open Go.ChangeShapes Go.WideShapes Go.ChangeAt Go.RowKit Go.DsMem Go.DsDk
set_option linter.unusedVariables false

/-- all blocks of the disk are from B on -/
def Mine (B p : Nat) (v : Nat → Value) : Prop := ∀ k, foot p v k → B ≤ k
theorem Mine.new {B p : Nat} (h : B ≤ p) : Mine B p (fun _ => .slice none 0 0) := fun k hk => by
  rcases hk with rfl | ⟨f, _, hf⟩
  · exact h
  · simp [Value.ownBlock] at hf
theorem Mine.moved {B p : Nat} {v v' : Nat → Value} {w w' : World} {D : Dk} (h : Mine B p v) (hB : B ≤ w.heap.size) (hm : Moved w p v w' v' D) : Mine B p v' := fun k hk => by
  rcases hm.grow k hk with h1 | h1
  · exact h k h1
  · omega
theorem Mine.below {B p : Nat} {v v' : Nat → Value} {w w' : World} {D : Dk} (h : Mine B p v) (hB : B ≤ w.heap.size) (hm : Moved w p v w' v' D) : Below B w w' := hm.only.toBelow hB h

/-- a disk of one's own: it lies from B on, and below B nothing has turned since W -/
structure Own (B : Nat) (W w : World) (p : Nat) (v : Nat → Value) (D : Dk) : Prop where
  dk : DiskAt w p v D
  mine : Mine B p v
  below : Below B W w
  size : B ≤ w.heap.size
theorem Own.moved {B : Nat} {W w w' : World} {p : Nat} {v v' : Nat → Value} {D D' : Dk} (h : Own B W w p v D) (hm : Moved w p v w' v' D') : Own B W w' p v' D' :=
  ⟨hm.dk, h.mine.moved h.size hm, h.below.trans (h.mine.below h.size hm), Nat.le_trans h.size hm.only.size⟩
theorem Own.grew {B : Nat} {W w w' : World} {p : Nat} {v : Nat → Value} {D : Dk} (h : Own B W w p v D) (hb : Below w.heap.size w w') : Own B W w' p v D :=
  ⟨h.dk.below hb, h.mine, h.below.trans (hb.mono h.size), Nat.le_trans h.size hb.size⟩
theorem Own.alloc {B : Nat} {W w : World} {p : Nat} {v : Nat → Value} {D : Dk} (h : Own B W w p v D) (o : Obj) : Own B W (w.alloc o) p v D := h.grew ((Below.refl _ _).alloc (Nat.le_refl _) o)
theorem Own.new {B : Nat} {W w w' : World} (hb : Below B W w) (hB : B ≤ w.heap.size) (h : DiskAt w' w.heap.size (fun _ => .slice none 0 0) Dk.new) (hb2 : Below w.heap.size w w') : Own B W w' w.heap.size (fun _ => .slice none 0 0) Dk.new :=
  ⟨h, Mine.new hB, hb.trans (hb2.mono hB), Nat.le_trans hB hb2.size⟩

/-- []byte("..") of a constant: the row is laid, and marked behind its end -/
theorem run_lit {P : Program} {t e : TypeId} (ht : P.underlying t = some (.slice e)) (he : P.underlying e = some (.int .u8)) (W : World) (cs : Array Value) (n c : Nat) :
    (convert t t (.slice (some ⟨W.heap.size, 0, none⟩) n c)).run P (W.alloc (.cells cs e)) = .ok (.slice (some ⟨W.heap.size, 0, none⟩) n c) (W.alloc (.cells cs e (cs.size, cs.size + 1))) := by
  have hsh : (W.alloc (.cells cs e)).shape? W.heap.size = some (e, cs.size) := by
    unfold World.shape?; rw [heap_alloc_new W]
  have hfr : (W.alloc (.cells cs e)).freeze ⟨W.heap.size, cs.size, none⟩ 1 = W.alloc (.cells cs e (cs.size, cs.size + 1)) := by
    unfold World.freeze
    simp only [World.alloc]
    rw [if_neg (by omega)]
    congr 1
    apply Array.ext_getElem?
    intro i
    rw [Array.getElem?_modify]
    by_cases h : W.heap.size = i
    · subst h; simp
    · have h' : ¬ i = W.heap.size := fun e => h e.symm
      simp [h, h', Array.getElem?_push]
  simp [convert, run_underlying ht, run_underlying he, markStringish, hsh, hfr]
theorem Rd.two (w : World) (a b : UInt8) (x y : Int) (hx : x = a.toNat) (hy : y = b.toNat) (t : TypeId) (fr : Nat × Nat) : Rd (w.alloc (.cells #[.int .u8 x, .int .u8 y] t fr)) (.slice (some ⟨w.heap.size, 0, none⟩) 2 2) [a, b] := by
  subst hx; subst hy
  refine ⟨_, 2, rfl, Nat.le_refl _, fun h => (by cases h), fun c hc j u hu => ?_⟩
  obtain rfl : (⟨w.heap.size, 0, none⟩ : Addr) = c := Option.some.inj hc
  rw [add_mk]
  unfold World.cell?
  rw [heap_alloc_new w]
  match j, hu with
  | 0, hu => simp at hu; subst hu; rfl
  | 1, hu => simp at hu; subst hu; rfl
theorem Rd.one (w : World) (a : UInt8) (x : Int) (hx : x = a.toNat) (t : TypeId) (fr : Nat × Nat) : Rd (w.alloc (.cells #[.int .u8 x] t fr)) (.slice (some ⟨w.heap.size, 0, none⟩) 1 1) [a] := by
  subst hx
  refine ⟨_, 1, rfl, Nat.le_refl _, fun h => (by cases h), fun c hc j u hu => ?_⟩
  obtain rfl : (⟨w.heap.size, 0, none⟩ : Addr) = c := Option.some.inj hc
  rw [add_mk]
  unfold World.cell?
  rw [heap_alloc_new w]
  match j, hu with
  | 0, hu => simp at hu; subst hu; rfl

/-! a disk that is not there -/
theorem read_nil (f : Value) (w : World) : Calls Try.prog 14 #[.pointer none, f] w fun e w' => e = .returned (.tuple #[.slice none 0 0, .int .i64 2]) ∧ w' = w := by
  go_enter Try.func14, Try.ntmps14
  go_wp2
  go_ret2
  exact ⟨rfl, rfl⟩
theorem fail_nil (f : Value) (w : World) : Calls Try.prog 22 #[.pointer none, f] w fun e w' => e = .returned (.tuple #[]) ∧ w' = w := by
  go_enter Try.func22, Try.ntmps22
  go_wp2
  go_end0
  exact ⟨rfl, rfl⟩
theorem crash_nil (f : Value) (w : World) : Calls Try.prog 12 #[.pointer none, f] w fun e w' => e = .returned (.tuple #[]) ∧ w' = w := by
  go_enter Try.func12, Try.ntmps12
  go_wp2
  go_returns
  exact ⟨rfl, rfl⟩
theorem append_nil (f : Int) (b : Value) (w : World) : Calls Try.prog 11 #[.pointer none, .int .i64 f, b] w fun e w' => e = .returned (.int .i64 2) ∧ Below w.heap.size w w' := by
  go_enter Try.func11, Try.ntmps11
  go_wp2_with (go_at_call 27; refine (refuse_nil [] _ _).mono ?_; rintro e w' ⟨rfl, rfl⟩)
  go_ret
  exact ⟨rfl, (Below.refl _ _).alloc (Nat.le_refl _) _⟩
theorem start_nil (b : Value) (w : World) : Calls Try.prog 40 #[.pointer none, b] w fun e w' => e = .returned (.int .i64 2) ∧ w' = w := by
  go_enter Try.func40, Try.ntmps40
  go_wp2_with (go_at_call 27; refine (refuse_nil [] _ _).mono ?_; rintro e w' ⟨rfl, rfl⟩)
  go_ret
  exact ⟨rfl, rfl⟩
theorem sync_nil (f : Int) (w : World) : Calls Try.prog 21 #[.pointer none, .int .i64 f] w fun e w' => e = .returned (.int .i64 2) ∧ Below w.heap.size w w' := by
  go_enter Try.func21, Try.ntmps21
  go_wp2_with (go_at_call 40; refine (start_nil _ _).mono ?_; rintro e w' ⟨rfl, rfl⟩)
  go_ret
  exact ⟨rfl, (Below.refl _ _).alloc (Nat.le_refl _) _⟩
theorem rename_nil (f g : Int) (w : World) : Calls Try.prog 23 #[.pointer none, .int .i64 f, .int .i64 g] w fun e w' => e = .returned (.int .i64 2) ∧ Below w.heap.size w w' := by
  go_enter Try.func23, Try.ntmps23
  go_wp2_with (go_at_call 40; refine (start_nil _ _).mono ?_; rintro e w' ⟨rfl, rfl⟩)
  go_ret
  exact ⟨rfl, (Below.refl _ _).alloc (Nat.le_refl _) _⟩
theorem clear_nil (f : Int) (w : World) : Calls Try.prog 24 #[.pointer none, .int .i64 f] w fun e w' => e = .returned (.int .i64 2) ∧ Below w.heap.size w w' := by
  go_enter Try.func24, Try.ntmps24
  go_wp2_with (go_at_call 40; refine (start_nil _ _).mono ?_; rintro e w' ⟨rfl, rfl⟩)
  go_ret
  exact ⟨rfl, (Below.refl _ _).alloc (Nat.le_refl _) _⟩
theorem safe_nil (f : Int) (w : World) : Calls Try.prog 16 #[.pointer none, .int .i64 f] w fun e w' => e = .returned (.int .i64 0) ∧ w' = w := by
  go_enter Try.func16, Try.ntmps16
  go_wp2_with fail
  go_ret
  exact ⟨rfl, rfl⟩
theorem dead_nil (w : World) : Calls Try.prog 19 #[.pointer none] w fun e w' => e = .returned (.bool false) ∧ w' = w := by
  go_enter Try.func19, Try.ntmps19
  go_wp2
  go_ret
  exact ⟨rfl, rfl⟩
end Go.Proofs.Ytgobnnciijlpaaa
