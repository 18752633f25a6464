/- Package cal: what is met of a node, as a plain function; the walk of follow. -/
import Derived.Test.YthbfjkdklnffjaaDoorCdB
namespace Go.Proofs.YthbfjkdklnffjaaDoor
open Go.ChangeShapes Go.WideShapes Go.ChangeAt Go.RowKit Go.DsMem Go.DsMk
set_option linter.unusedVariables false

/-- the calendar with a name, if there is one -/
def calOf (cs : List (ByteArray × Nd)) (nm : ByteArray) : Option Nd := (cs[fiC cs nm]?).map Prod.snd
/-- the first error that is met, and how many nodes are met -/
def meetF (cs : List (ByteArray × Nd)) : Nat → Nd → Nat → Bool → Nat → Int × Nat
  | 0, _, _, _, met => (23, met + 1)
  | f + 1, .mk op ns kids nm, refs, inw, met =>
    if 256 < met + 1 ∨ (op = 5 ∧ inw = true) then (23, met + 1)
    else if op = 10 ∨ op = 5 then
      match calOf cs nm with
      | none => (21, met + 1)
      | some t => if refs = 24 then (23, met + 1) else meetF cs f t (refs + 1) (inw || op == 5) (met + 1)
    else kids.foldl (fun st k => if st.1 ≠ 0 then st else meetF cs f k refs inw st.2) (0, met + 1)

theorem foldl_keep {α : Type} (P : α → α → Prop) (hr : ∀ a, P a a) (ht : ∀ a b c, P a b → P b c → P a c) (g : α → Nd → α) (l : List Nd) (hs : ∀ a k, k ∈ l → P a (g a k)) (a : α) : P a (l.foldl g a) := by
  induction l generalizing a with
  | nil => exact hr a
  | cons k l ih => exact ht _ _ _ (hs a k (by simp)) (ih (fun a k hk => hs a k (by simp [hk])) _)
theorem meetF_up (cs : List (ByteArray × Nd)) : ∀ (f : Nat) (t : Nd) (refs : Nat) (inw : Bool) (met : Nat), met < (meetF cs f t refs inw met).2
  | 0, _, _, _, met => by simp [meetF]
  | f + 1, .mk op ns kids nm, refs, inw, met => by
    unfold meetF
    split
    · simp
    · split
      · split
        · simp
        · split
          · simp
          · have := meetF_up cs f (by assumption) (refs + 1) (inw || op == 5) (met + 1); omega
      · have := foldl_keep (fun a b : Int × Nat => a.2 ≤ b.2) (fun _ => Nat.le_refl _) (fun _ _ _ => Nat.le_trans) (fun st k => if st.1 ≠ 0 then st else meetF cs f k refs inw st.2) kids (fun a k _ => by
          show a.2 ≤ (if a.1 ≠ 0 then a else meetF cs f k refs inw a.2).2
          split
          · exact Nat.le_refl _
          · exact Nat.le_of_lt (meetF_up cs f k refs inw a.2)) (0, met + 1)
        exact this
theorem meetF_small (cs : List (ByteArray × Nd)) : ∀ (f : Nat) (t : Nd) (refs : Nat) (inw : Bool) (met : Nat), (meetF cs f t refs inw met).1 = 0 → (meetF cs f t refs inw met).2 ≤ 256
  | 0, _, _, _, met => by simp [meetF]
  | f + 1, .mk op ns kids nm, refs, inw, met => by
    unfold meetF
    split
    · simp
    · rename_i hno
      split
      · split
        · simp
        · split
          · simp
          · exact meetF_small cs f _ _ _ _
      · have := foldl_keep (fun a b : Int × Nat => (a.1 = 0 → a.2 ≤ 256) → (b.1 = 0 → b.2 ≤ 256)) (fun _ h => h) (fun _ _ _ h1 h2 h => h2 (h1 h)) (fun st k => if st.1 ≠ 0 then st else meetF cs f k refs inw st.2) kids (fun a k _ => by
          show (a.1 = 0 → a.2 ≤ 256) → ((if a.1 ≠ 0 then a else meetF cs f k refs inw a.2).1 = 0 → (if a.1 ≠ 0 then a else meetF cs f k refs inw a.2).2 ≤ 256)
          intro ha
          split
          · exact ha
          · exact meetF_small cs f k refs inw a.2) (0, met + 1)
        exact this (fun _ => by show met + 1 ≤ 256; omega)

def spV (refs : Nat) (inw : Bool) : Value := .agg #[.int .i64 refs, .bool inw]
/-- the walk's object -/
def WkAt (w : World) (pw : Nat) (co : Option Addr) (cl cc met : Nat) : Prop := w.heap[pw]? = some (.cells #[.slice co cl cc, .int .i64 met] 62 (0, 0))
theorem WkAt.c0 {w : World} {pw : Nat} {co : Option Addr} {cl cc met : Nat} (h : WkAt w pw co cl cc met) : w.cell? ⟨pw, 0, none⟩ = some (.slice co cl cc) := by rw [cell_of h]; rfl
theorem WkAt.c1 {w : World} {pw : Nat} {co : Option Addr} {cl cc met : Nat} (h : WkAt w pw co cl cc met) : w.cell? ⟨pw, 1, none⟩ = some (.int .i64 met) ∧ w.frozen? ⟨pw, 1, none⟩ = false := ⟨by rw [cell_of h]; rfl, frozen_of h⟩
theorem WkAt.set {w : World} {pw : Nat} {co : Option Addr} {cl cc met : Nat} (h : WkAt w pw co cl cc met) (m : Nat) : WkAt (w.setCell ⟨pw, 1, none⟩ (.int .i64 m)) pw co cl cc m := by unfold WkAt; rw [hset_same h]; rfl
theorem WkAt.below {w w' : World} {pw : Nat} {co : Option Addr} {cl cc met : Nat} (h : WkAt w pw co cl cc met) (hb : Below w.heap.size w w') : WkAt w' pw co cl cc met := by unfold WkAt; rw [hb.block _ (block_lt h)]; exact h

/-- what a call of meet or follow does -/
def Met (w : World) (pw : Nat) (co : Option Addr) (cl cc : Nat) (r : Int × Nat) (e : Ending) (w' : World) : Prop := e = .returned (.int .i64 r.1) ∧ WkAt w' pw co cl cc r.2 ∧ Only (· = pw) w w'
theorem Only.gc {W w w' : World} {pw : Nat} (h : Gc W w) (ho : Only (· = pw) w w') (hp : W.heap.size ≤ pw) : Gc W w' :=
  ⟨h.bits, h.len, h.shp, h.below.trans (ho.toBelow h.below.size (fun i hi => by rw [hi]; exact hp))⟩
end Go.Proofs.YthbfjkdklnffjaaDoor
