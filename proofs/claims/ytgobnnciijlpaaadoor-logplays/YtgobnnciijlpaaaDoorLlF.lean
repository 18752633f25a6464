/- A log of the program and one of the reference, side by side. -/
import Derived.Test.YtgobnnciijlpaaaDoorRlG
import Derived.Test.YtgobnnciijlpaaaDoorLgL
import Derived.Test.YtgobnnciijlpaaaDoorAct4
namespace Go.Proofs.YtgobnnciijlpaaaDoor
open Go.ChangeShapes Go.WideShapes Go.ChangeAt Go.RowKit Go.DsMem Go.DsDk Go.DsLg
set_option linter.unusedVariables false

/-- a log on each disk -/
structure Duo (W w : World) (p : Nat) (v : Nat → Value) (D : Dk) (l : Nat) (L : Lg) (S : Nat → Prop) (r g : Nat) (u : Nat → Value) (E : Dk) (m : Nat) (M : Lg) : Prop where
  both : Both W w p v D S r g u E
  log : LogAt w l p L.next L.size L.broken
  rlog : RLog w m r M.next M.size M.broken
  lw : W.heap.size ≤ l
  lf : ¬ foot p v l
  ls : ¬ S l
  mw : W.heap.size ≤ m
  mf : ¬ foot p v m
  ms : ¬ S m
  lm : l ≠ m
section
variable {W w w' : World} {p r g l m : Nat} {v v' u u' : Nat → Value} {D D' E E' : Dk} {S T : Nat → Prop} {L L' M M' : Lg}
theorem Duo.left (h : Duo W w p v D l L S r g u E m M) (hm : LMoved w p v l w' v' D' L') : Duo W w' p v' D' l L' S r g u E m M := by
  have hl := block_lt h.log
  have hml := block_lt h.rlog
  have off : ∀ {n : Nat}, ¬ foot p v n → n < w.heap.size → ¬ foot p v' n := fun hn hlt hf => by
    rcases hm.grow _ hf with h1 | h1
    · exact hn h1
    · omega
  have hB : Below W.heap.size w w' := hm.only.toBelow h.both.own.size (fun i hi => by rcases hi with hi | rfl; exact h.both.own.mine i hi; exact h.lw)
  refine ⟨⟨⟨hm.dk, fun k hk => ?_, h.both.own.below.trans hB, Nat.le_trans h.both.own.size hm.only.size⟩, h.both.ref.stays hm.only (fun k hk e => ?_), h.both.mine, fun k hk hs => ?_⟩, hm.log, h.rlog.only hm.only (fun e => ?_), h.lw, off h.lf hl, h.ls, h.mw, off h.mf hml, h.ms, h.lm⟩
  · rcases hm.grow k hk with h1 | h1
    · exact h.both.own.mine k h1
    · have := h.both.own.size; omega
  · rcases e with e | rfl
    · exact h.both.apart k e hk
    · exact h.ls hk
  · rcases hm.grow k hk with h1 | h1
    · exact h.both.apart k h1 hs
    · have := h.both.ref.lt k hs; omega
  · rcases e with e | e
    · exact h.mf e
    · exact h.lm e.symm
theorem Duo.right (h : Duo W w p v D l L S r g u E m M) (hm : RLMoved w S r g m w' u' E' M') : Duo W w' p v D l L (fun k => S k ∨ w.heap.size ≤ k ∧ k < w'.heap.size) r g u' E' m M' := by
  have hl := block_lt h.log
  have hml := block_lt h.rlog
  have hn : ∀ k, foot p v k → ¬ (k = r ∨ k = g ∨ k = m) := fun k hk e => by
    rcases e with rfl | rfl | rfl
    · exact h.both.apart _ hk h.both.ref.sr
    · exact h.both.apart _ hk h.both.ref.sg
    · exact h.mf hk
  have hB : Below W.heap.size w w' := hm.only.toBelow h.both.own.size (fun i hi => by rcases hi with rfl | rfl | rfl; exact h.both.mine.1; exact h.both.mine.2; exact h.mw)
  refine ⟨⟨⟨h.both.own.dk.stays hm.only hn, h.both.own.mine, h.both.own.below.trans hB, Nat.le_trans h.both.own.size hm.only.size⟩, hm.dk, h.both.mine, fun k hk hs => ?_⟩, h.log.only hm.only (fun e => ?_), hm.log, h.lw, h.lf, fun hs => ?_, h.mw, h.mf, fun hs => ?_, h.lm⟩
  · rcases hs with hs | hs
    · exact h.both.apart k hk hs
    · have := h.both.own.dk.foot_lt hk; omega
  · rcases e with e | e | e
    · exact h.ls (by rw [e]; exact h.both.ref.sr)
    · exact h.ls (by rw [e]; exact h.both.ref.sg)
    · exact h.lm e
  · rcases hs with hs | hs
    · exact h.ls hs
    · omega
  · rcases hs with hs | hs
    · exact h.ms hs
    · omega
theorem Duo.dleft (h : Duo W w p v D l L S r g u E m M) (hm : Moved w p v w' v' D') : Duo W w' p v' D' l L S r g u E m M := by
  have hl := block_lt h.log
  have hml := block_lt h.rlog
  have off : ∀ {n : Nat}, ¬ foot p v n → n < w.heap.size → ¬ foot p v' n := fun hn hlt hf => by
    rcases hm.grow _ hf with h1 | h1
    · exact hn h1
    · omega
  exact ⟨h.both.left hm, h.log.only hm.only h.lf, h.rlog.only hm.only h.mf, h.lw, off h.lf hl, h.ls, h.mw, off h.mf hml, h.ms, h.lm⟩
theorem Duo.dright (h : Duo W w p v D l L S r g u E m M) (hm : RMoved w S r g w' u' E') : Duo W w' p v D l L (fun k => S k ∨ w.heap.size ≤ k ∧ k < w'.heap.size) r g u' E' m M := by
  have hl := block_lt h.log
  have hml := block_lt h.rlog
  refine ⟨h.both.right hm, h.log.only hm.only (fun e => ?_), h.rlog.moved hm h.both.ref h.ms, h.lw, h.lf, fun hs => ?_, h.mw, h.mf, fun hs => ?_, h.lm⟩
  · rcases e with e | e
    · exact h.ls (by rw [e]; exact h.both.ref.sr)
    · exact h.ls (by rw [e]; exact h.both.ref.sg)
  · rcases hs with hs | hs
    · exact h.ls hs
    · omega
  · rcases hs with hs | hs
    · exact h.ms hs
    · omega
theorem Duo.grew (h : Duo W w p v D l L S r g u E m M) (hb : Below w.heap.size w w') : Duo W w' p v D l L S r g u E m M :=
  ⟨h.both.grew hb, h.log.only (S := fun _ => False) (Only.below hb) (fun h => h), h.rlog.only (S := fun _ => False) (Only.below hb) (fun h => h), h.lw, h.lf, h.ls, h.mw, h.mf, h.ms, h.lm⟩
theorem Duo.only (h : Duo W w p v D l L S r g u E m M) (ho : Only T w w') (hT : ∀ k, T k → W.heap.size ≤ k ∧ ¬ foot p v k ∧ ¬ S k ∧ k ≠ l ∧ k ≠ m) : Duo W w' p v D l L S r g u E m M :=
  ⟨h.both.only ho (fun k hk => ⟨(hT k hk).1, (hT k hk).2.1, (hT k hk).2.2.1⟩), h.log.only ho (fun e => (hT _ e).2.2.2.1 rfl), h.rlog.only ho (fun e => (hT _ e).2.2.2.2 rfl), h.lw, h.lf, h.ls, h.mw, h.mf, h.ms, h.lm⟩
/-- a block that is of neither -/
structure Duo.Off (W : World) (p : Nat) (v : Nat → Value) (l : Nat) (S : Nat → Prop) (m n : Nat) : Prop where
  w : W.heap.size ≤ n
  f : ¬ foot p v n
  s : ¬ S n
  l : n ≠ l
  m : n ≠ m
end

/-- both logs are there, or neither is; the two disks are alike -/
inductive State (W w : World) (p : Nat) (r g : Nat) (k : Nat) : Value → Value → Prop where
  | none (v : Nat → Value) (D : Dk) (S : Nat → Prop) (u : Nat → Value) (h : Both W w p v D S r g u D) : State W w p r g k (.pointer .none) (.pointer .none)
  | some (v : Nat → Value) (D : Dk) (l : Nat) (L : Lg) (S : Nat → Prop) (u : Nat → Value) (m : Nat) (h : Duo W w p v D l L S r g u D m L) (hn : L.next < 18446744073709551616) (hz : L.size ≤ 65536 + k) :
      State W w p r g k (.pointer (.some ⟨l, 0, .none⟩)) (.pointer (.some ⟨m, 0, .none⟩))
theorem appB_next {D : Dk} {L : Lg} {rec : List UInt8} (h : L.next < 18446744073709551616) : (appB D L rec).2.1.next < 18446744073709551616 ∧ (appB D L rec).2.1.size ≤ L.size + 1 := by
  unfold appB
  split
  · exact ⟨h, by simp⟩
  · split
    · exact ⟨h, by simp⟩
    · split
      · exact ⟨Nat.mod_lt _ (by decide), Nat.le_refl _⟩
      · exact ⟨h, by simp⟩
theorem insB_next {D : Dk} {L : Lg} {rec : List UInt8} (h : L.next < 18446744073709551616) : (insB D L rec).2.1.next < 18446744073709551616 ∧ (insB D L rec).2.1.size ≤ L.size := by
  unfold insB
  split
  · exact ⟨h, Nat.le_refl _⟩
  · split
    · exact ⟨h, Nat.le_refl _⟩
    · split
      · exact ⟨h, Nat.zero_le _⟩
      · exact ⟨h, Nat.le_refl _⟩
end Go.Proofs.YtgobnnciijlpaaaDoor
