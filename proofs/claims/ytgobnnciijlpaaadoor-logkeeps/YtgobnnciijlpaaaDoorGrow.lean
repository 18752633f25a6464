/- A region that draws its order, whose operations read what stays and whose calls only make new memory: one walk in the order of the text. -/
import Derived.Test.YtgobnnciijlpaaaDoorMem
import Derived.BigQuiet
namespace Go.DsMem
open Go.RowKit

/-- a world that has grown out of w, nothing of it turned -/
def Grow (w : World) : Type := { u : World // Below w.heap.size w u }
theorem grow_ne (w : World) : Nonempty (Grow w) := ⟨⟨w, Below.refl _ _⟩⟩
theorem wp_region_grow {P : Program} {id : Nat} {Q : Exit → Act → World → Prop} {a : Act} {w : World} {l : List Oper} (hm : P.follows .mixedOrders = true) (hB : Region.lexB .any l.toArray = true)
    (h : wpQuiet P l.toArray (fun w' => ∃ X : Grow w, w' = X.1) (fun a' => ∀ w', (∃ X : Grow w, w' = X.1) → Q .normal a' w') l a) : (Code.region id l.toArray true).wp P Q a w :=
  wp_region_quiet (C := fun w' => ∃ X : Grow w, w' = X.1) hm hB ⟨⟨w.drew, (Below.refl _ _).drew⟩, rfl⟩ (by simpa using h)
theorem grow_below {w : World} (X : Grow w) : Below w.heap.size w X.1 := X.2
theorem grow_of {P : Program} {f : FuncId} {args : Array Value} {w : World} {X : Grow w} {v : Value}
    (h : Calls P f args X.1 fun e w' => e = .returned v ∧ Below X.1.heap.size X.1 w') : Calls P f args X.1 fun e w'' => e = .returned v ∧ ∃ Y : Grow w, w'' = Y.1 :=
  h.mono fun _ w' ⟨he, hb⟩ => ⟨he, ⟨w', X.2.trans (hb.mono X.2.size)⟩, rfl⟩
end Go.DsMem
