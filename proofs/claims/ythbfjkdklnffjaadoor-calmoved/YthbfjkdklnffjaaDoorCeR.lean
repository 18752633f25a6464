/- Layer 6's law: known. -/
import Derived.Test.YthbfjkdklnffjaaDoorCeQ
namespace Go.Proofs.YthbfjkdklnffjaaDoor
open Go.ChangeShapes Go.WideShapes Go.ChangeAt Go.RowKit Go.DsMem Go.DsMk
set_option linter.unusedVariables false

/-- a node with numbers alone -/
theorem NdAt.leaf {w : World} (op : Int) (ns : List Int) (nm : ByteArray) (no : Option Addr) (nc : Nat) (h : RdI w (.slice no ns.length nc) ns) (hl : ns.length ≤ 17592186043904) : NdAt w ⟨op, no, ns.length, nc, none, 0, 0, nm⟩ (.mk op ns [] nm) :=
  .mk op ns [] nm no nc none 0 0 0 (fun _ => ⟨0, none, 0, 0, none, 0, 0, ⟨#[]⟩⟩) h hl (by simp) (by simp) (fun h => absurd h (by simp)) (fun j hj => absurd hj (by simp)) (fun j hj => absurd hj (by simp))
/-- what known has made: the node in p + 1, the list of calendars in p + 2 -/
structure Kn (w : World) (p : Nat) : Prop where
  n0 : w.cell? ⟨p + 1, 0, none⟩ = some (.int .i64 1)
  n1 : w.cell? ⟨p + 1, 1, none⟩ = some (.slice (some ⟨p, 0, none⟩) 1 1)
  n2 : w.cell? ⟨p + 1, 2, none⟩ = some (.slice none 0 0)
  n3 : w.cell? ⟨p + 1, 3, none⟩ = some (.string ⟨#[]⟩)
  node : NdAt w ⟨1, some ⟨p, 0, none⟩, 1, 1, none, 0, 0, ⟨#[]⟩⟩ wkN
  cals : CalsAt w (some ⟨p + 2, 0, none⟩) 1 wkC (p + 2) 0 (fun _ => ⟨1, some ⟨p, 0, none⟩, 1, 1, none, 0, 0, ⟨#[]⟩⟩)
theorem Kn.below {w w' : World} {p : Nat} (h : Kn w p) (hb : Below w.heap.size w w') : Kn w' p :=
  ⟨Below.keeps hb (Nat.le_refl _) h.n0, Below.keeps hb (Nat.le_refl _) h.n1, Below.keeps hb (Nat.le_refl _) h.n2, Below.keeps hb (Nat.le_refl _) h.n3, h.node.grew hb, h.cals.grew hb⟩
theorem Kn.new (w : World) : Kn (((w.alloc (.cells #[.int .i64 31] 2)).alloc (.cells #[.int .i64 1, .slice (some ⟨w.heap.size, 0, none⟩) 1 1, .slice none 0 0, .string ⟨#[]⟩] 31)).alloc (.cells #[.string ⟨#[119, 111, 114, 107]⟩, .int .i64 1, .slice (some ⟨w.heap.size, 0, none⟩) 1 1, .slice none 0 0, .string ⟨#[]⟩] 48)) w.heap.size := by
  have r1 := RdI.new1 w 31 2
  obtain ⟨w1, h1⟩ : ∃ w1, w1 = w.alloc (.cells #[.int .i64 31] 2) := ⟨_, rfl⟩
  have z1 : w1.heap.size = w.heap.size + 1 := by rw [h1]; simp
  rw [← h1] at r1 ⊢
  obtain ⟨w2, h2⟩ : ∃ w2, w2 = w1.alloc (.cells #[.int .i64 1, .slice (some ⟨w.heap.size, 0, none⟩) 1 1, .slice none 0 0, .string ⟨#[]⟩] 31) := ⟨_, rfl⟩
  have z2 : w2.heap.size = w.heap.size + 2 := by rw [h2]; simp [z1]
  have e2 : w2.heap[w.heap.size + 1]? = some (.cells #[.int .i64 1, .slice (some ⟨w.heap.size, 0, none⟩) 1 1, .slice none 0 0, .string ⟨#[]⟩] 31 (0, 0)) := by rw [← z1, h2]; exact heap_alloc_new w1 _
  have r2 := r1.below (w' := w2) (by rw [h2]; exact (Below.refl _ _).alloc (Nat.le_refl _) _)
  rw [← h2]
  have e3 := heap_alloc_new w2 (.cells #[.string ⟨#[119, 111, 114, 107]⟩, .int .i64 1, .slice (some ⟨w.heap.size, 0, none⟩) 1 1, .slice none 0 0, .string ⟨#[]⟩] 48)
  rw [z2] at e3
  have r3 := r2.below ((Below.refl w2.heap.size w2).alloc (Nat.le_refl _) (.cells #[.string ⟨#[119, 111, 114, 107]⟩, .int .i64 1, .slice (some ⟨w.heap.size, 0, none⟩) 1 1, .slice none 0 0, .string ⟨#[]⟩] 48))
  have f2 := heap_keep (o := .cells #[.string ⟨#[119, 111, 114, 107]⟩, .int .i64 1, .slice (some ⟨w.heap.size, 0, none⟩) 1 1, .slice none 0 0, .string ⟨#[]⟩] 48) e2
  have hn := NdAt.leaf 1 [31] ⟨#[]⟩ (some ⟨w.heap.size, 0, none⟩) 1 r3 (by simp)
  refine ⟨by rw [cell_of f2]; rfl, by rw [cell_of f2]; rfl, by rw [cell_of f2]; rfl, by rw [cell_of f2]; rfl, hn, by simp [wkC], by simp [wkC], fun _ => rfl, fun j hj => ?_, fun j hj => ?_, fun j hj => ?_⟩
  · obtain rfl : j = 0 := by simp [wkC] at hj; exact hj
    rw [cell_of e3]; rfl
  · obtain rfl : j = 0 := by simp [wkC] at hj; exact hj
    exact ⟨by rw [cell_of e3]; rfl, by rw [cell_of e3]; rfl, by rw [cell_of e3]; rfl, by rw [cell_of e3]; rfl⟩
  · obtain rfl : j = 0 := by simp [wkC] at hj; exact hj
    exact hn
theorem in_known {w : World} {p : Nat} (h : Kn w p) (g : Gc w w) (op : Int) (ns : List Int) (nm : ByteArray) (no : Option Addr) (nc : Nat) (hr : RdI w (.slice no ns.length nc) ns) (hl : ns.length ≤ 17592186043904) (day : Int) (b : Bool) (hi : inF wkC (.mk op ns [] nm) day = (b, 0)) :
    Calls Tryd.prog 9 #[.slice (some ⟨p + 2, 0, none⟩) 1 1, .agg #[.int .i64 op, .slice no ns.length nc, .slice none 0 0, .string nm], .int .i64 day] w fun e w' => e = .returned (.tuple #[.bool b, .int .i64 0]) ∧ Gc w w' := by
  have := g.inAny _ 1 wkC _ _ _ h.cals _ _ (NdAt.leaf op ns nm no nc hr hl) day
  rw [hi] at this
  exact this
theorem shift_known {w : World} {p : Nat} (h : Kn w p) (g : Gc w w) :
    Calls Tryd.prog 18 #[.slice (some ⟨p + 2, 0, none⟩) 1 1, .agg #[.int .i64 1, .slice (some ⟨p, 0, none⟩) 1 1, .slice none 0 0, .string ⟨#[]⟩], .int .i64 1, .int .i64 738975] w fun e w' => e = .returned (.tuple #[.int .i64 738977, .int .i64 0]) ∧ Gc w w' := by
  have := g.shift _ 1 wkC _ _ _ h.cals _ _ h.node 1 738975 (by decide) (by decide)
  rw [known_c] at this
  exact this
theorem day_known (y m d n : Int) (w : World) (hv : DsCal.vld y m d) (hm1 : 1 ≤ m) (hm2 : m ≤ 12) (hn : DsCal.num y m d = n) :
    Calls Tryd.prog 17 #[.int .i64 y, .int .i64 m, .int .i64 d] w fun e w' => e = .returned (.int .i64 n) ∧ w' = w := by
  rw [← hn]; exact day_any y m d w hv hm1 hm2
end Go.Proofs.YthbfjkdklnffjaaDoor
