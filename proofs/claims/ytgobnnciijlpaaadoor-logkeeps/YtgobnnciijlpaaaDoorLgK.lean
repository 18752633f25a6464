/- A log of one's own, call by call; dayshiftlaw04.known. -/
import Derived.Test.YtgobnnciijlpaaaDoorLgJ
namespace Go.Proofs.YtgobnnciijlpaaaDoor
open Go.ChangeShapes Go.WideShapes Go.ChangeAt Go.RowKit Go.DsMem Go.DsDk Go.DsLg
set_option linter.unusedVariables false

theorem Tab.below {B : Nat} {W w : World} (h : Tab W) (hb : Below B W w) (hB : W.heap.size ≤ B) : Tab w := fun i h16 => Below.keeps hb hB (h i h16)

/-- a log of one's own on a disk of one's own -/
structure OwnG (W w : World) (p : Nat) (v : Nat → Value) (D : Dk) (l : Nat) (L : Lg) : Prop where
  own : Own W.heap.size W w p v D
  log : LogAt w l p L.next L.size L.broken
  new : W.heap.size ≤ l
  lof : ¬ foot p v l
section
variable {W w w' : World} {p l : Nat} {v v' : Nat → Value} {D D' : Dk} {L L' : Lg}
theorem OwnG.moved (h : OwnG W w p v D l L) (hm : LMoved w p v l w' v' D' L') : OwnG W w' p v' D' l L' := by
  have hlt := block_lt h.log
  have hB : Below W.heap.size w w' := hm.only.toBelow h.own.size (fun i hi => by rcases hi with hi | rfl; exact h.own.mine i hi; exact h.new)
  refine ⟨⟨hm.dk, fun k hk => ?_, h.own.below.trans hB, Nat.le_trans h.own.size hm.only.size⟩, hm.log, h.new, fun hf => ?_⟩
  · rcases hm.grow k hk with h1 | h1
    · exact h.own.mine k h1
    · have := h.own.size; omega
  · rcases hm.grow l hf with h1 | h1
    · exact h.lof h1
    · omega
theorem OwnG.dmoved (h : OwnG W w p v D l L) (hm : Moved w p v w' v' D') : OwnG W w' p v' D' l L := by
  have hlt := block_lt h.log
  refine ⟨h.own.moved hm, h.log.only hm.only h.lof, h.new, fun hf => ?_⟩
  rcases hm.grow l hf with h1 | h1
  · exact h.lof h1
  · omega
theorem OwnG.grew (h : OwnG W w p v D l L) (hb : Below w.heap.size w w') : OwnG W w' p v D l L :=
  ⟨h.own.grew hb, h.log.only (S := fun _ => False) (Only.below hb) (fun h => h), h.new, h.lof⟩
theorem OwnG.alloc (h : OwnG W w p v D l L) (o : Obj) : OwnG W (w.alloc o) p v D l L := h.grew ((Below.refl _ _).alloc (Nat.le_refl _) o)
theorem OwnG.tab (h : OwnG W w p v D l L) (ht : Tab W) : Tab w := ht.below h.own.below (Nat.le_refl _)

/-- what Open told, while the log l on the disk p is played with -/
structure Told (B E : Nat) (w : World) (p : Nat) (v : Nat → Value) (l : Nat) (x : Value) (snap : List UInt8) (rs : Value) (recs : List (List UInt8)) : Prop where
  fof : ∀ k, foot p v k → k < B ∨ E ≤ k
  le : E ≤ l
  size : E ≤ w.heap.size
  snap : w.ownsRow B 5 1 x snap.length (bvs snap)
  sin : ∀ k, x.ownBlock = some k → k < E
  recs : RdL B E w rs recs
theorem IsOpen.told {E : Nat} {O : Opened} {x rs : Value} (h : IsOpen W E w p v O l x rs) : Told W.heap.size E w p v l x O.snap rs O.recs :=
  ⟨h.fof, h.le, Nat.le_trans h.le (Nat.le_of_lt (block_lt h.log)), h.snap, h.sin, h.recs⟩
variable {B E : Nat} {x rs : Value} {snap : List UInt8} {recs : List (List UInt8)}
theorem Told.same (h : Told B E w p v l x snap rs recs) (hs : ∀ k, B ≤ k → k < E → w'.heap[k]? = w.heap[k]?) (hz : w.heap.size ≤ w'.heap.size) (hf : ∀ k, foot p v' k → foot p v k ∨ E ≤ k) : Told B E w' p v' l x snap rs recs :=
  ⟨fun k hk => by rcases hf k hk with h1 | h1; exact h.fof k h1; exact .inr h1, h.le, Nat.le_trans h.size hz, own_same h.snap fun k hk => hs k (h.snap.lt k hk).1 (h.sin k hk), h.sin, h.recs.same fun k h1 h2 _ => hs k h1 h2⟩
theorem Told.moved (h : Told B E w p v l x snap rs recs) (hm : LMoved w p v l w' v' D' L') : Told B E w' p v' l x snap rs recs := by
  have hz := h.size
  refine h.same (fun k h1 h2 => hm.only.block k (by omega) ?_) hm.only.size (fun k hk => ?_)
  · rintro (h3 | rfl)
    · rcases h.fof k h3 with h4 | h4 <;> omega
    · have := h.le; omega
  · rcases hm.grow k hk with h3 | h3
    · exact .inl h3
    · exact .inr (by omega)
theorem Told.dmoved (h : Told B E w p v l x snap rs recs) (hm : Moved w p v w' v' D') : Told B E w' p v' l x snap rs recs := by
  have hz := h.size
  refine h.same (fun k h1 h2 => hm.only.block k (by omega) ?_) hm.only.size (fun k hk => ?_)
  · intro h3
    rcases h.fof k h3 with h4 | h4 <;> omega
  · rcases hm.grow k hk with h3 | h3
    · exact .inl h3
    · exact .inr (by omega)
theorem Told.grew (h : Told B E w p v l x snap rs recs) (hb : Below w.heap.size w w') : Told B E w' p v l x snap rs recs := by
  have hz := h.size
  exact h.same (fun k h1 h2 => hb.block k (by omega)) hb.size (fun k hk => .inl hk)
theorem Told.alloc (h : Told B E w p v l x snap rs recs) (o : Obj) : Told B E (w.alloc o) p v l x snap rs recs := h.grew ((Below.refl _ _).alloc (Nat.le_refl _) o)
end

deriving instance DecidableEq for Opened
deriving instance DecidableEq for Lg
def KO1 : Dk × Opened := openB Dk.new
def KA1 : Dk × Lg × Int := appB KO1.1 ⟨1, 0, false⟩ [97]
def KA2 : Dk × Lg × Int := appB KA1.1 ⟨2, 1, false⟩ [98]
def KC : Dk := KA2.1.crash []
def KO2 : Dk × Opened := openB KC
def KI : Dk × Lg × Int := insB KO2.1 ⟨3, 2, false⟩ [115]
def KO3 : Dk × Opened := openB KI.1
theorem kO1 : KO1.2 = ⟨0, 1, [], []⟩ := by decide +kernel
theorem kA1 : KA1.2 = (⟨2, 1, false⟩, 0) := by decide +kernel
theorem kA2 : KA2.2 = (⟨3, 2, false⟩, 0) := by decide +kernel
theorem kO2 : KO2.2 = ⟨0, 3, [], [[97], [98]]⟩ := by decide +kernel
theorem kI : KI.2 = (⟨3, 0, false⟩, 0) := by decide +kernel
theorem kO3 : KO3.2 = ⟨0, 3, [115], []⟩ := by decide +kernel
theorem kSum : sum32 [49, 50, 51, 52, 53, 54, 55, 56, 57] = 3421780262 := by decide +kernel
end Go.Proofs.YtgobnnciijlpaaaDoor
