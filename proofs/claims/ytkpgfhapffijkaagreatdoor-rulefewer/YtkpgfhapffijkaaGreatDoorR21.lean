/- Package jdl: a job. -/
import Derived.Test.YtkpgfhapffijkaaGreatDoorR20
import Derived.Deep.LoopGhost
namespace Go.Proofs.YtkpgfhapffijkaaGreatDoor
open Go.ChangeShapes Go.WideShapes Go.ChangeAt Go.RowKit Go.DsMem Go.DsLx Go.DsJd Go.DsMk
set_option linter.unusedVariables false
/-- words that can be keys -/
def FitW (ws : List Tk) : Prop := ∀ t ∈ ws, t.text.size ≤ 140737488355000
theorem FitW.suf {ws r : List Tk} (h : FitW ws) (hs : r <:+ ws) : FitW r := fun t ht => h t (hs.subset ht)
theorem FitW.fit {ws : List Tk} (h : FitW ws) {k : Int} (h0 : 0 ≤ k) (h1 : k ≤ 1000) : fitS (k, textF ws) := by
  refine ⟨?_, by simp only; omega, by simp only; omega⟩
  cases ws with
  | nil => exact (by decide : (⟨#[]⟩ : ByteArray).size ≤ 140737488355000)
  | cons t r => exact h t (by simp)
def zNd : Nd := .mk 0 [] [] ⟨#[]⟩
def zEx : Ex := .mk 0 ⟨#[]⟩ 0 []
def zN : NVal := ⟨0, none, 0, 0, none, 0, 0, ⟨#[]⟩⟩
/-- the job that begins -/
def jb0 (n : ByteArray) : Jb := ⟨n, zNd, false, 0, zNd, 0, 1439, zEx, [], [], 0, 0, 0, 1, 0⟩
def js0 : JSl := ⟨zN, zN, ⟨0, ⟨#[]⟩, 0, none, 0, 0⟩, none, 0, none, 0⟩
theorem zNd_on (B : Nat → Prop) (w : World) : NdOn B w zN zNd :=
  .mk 0 [] [] ⟨#[]⟩ none 0 none 0 0 (fun _ => zN) (RdI.nil _) (fun a e => by cases e) (by simp) (by simp) (by simp) (fun h => by simp at h) (fun h => by simp at h) (fun j hj => by simp at hj) (fun j hj => by simp at hj)
theorem zEx_on (B : Nat → Prop) (w : World) : ExOn B w ⟨0, ⟨#[]⟩, 0, none, 0, 0⟩ zEx :=
  .mk 0 ⟨#[]⟩ 0 [] none 0 0 (fun _ => ⟨0, ⟨#[]⟩, 0, none, 0, 0⟩) (by simp) (by simp) (fun h => by simp at h) (fun h => by simp at h) (fun j hj => by simp at hj) (fun j hj => by simp at hj)
theorem jb0_at {b0 J : Nat} {w : World} (n : ByteArray) (hb : w.heap[J]? = some (.cells (jC (jb0 n) js0) 56 (0, 0))) (h1 : J < b0) (h2 : b0 ≤ w.heap.size) : JbAt b0 w J (jb0 n) js0 :=
  ⟨hb, h1, h2, zNd_on _ _, zNd_on _ _, zEx_on _ _, World.ownsRow_nil _ _ _ _, World.ownsRow_nil _ _ _ _, fun k hk => by cases hk⟩
/-- the parts of a job -/
noncomputable def partsP (E : Int) (k : Int) : Nat → List (Int × ByteArray) → Jb → List Tk → Except Fl ((Jb × List (Int × ByteArray)) × List Tk)
  | 0, _, _, _ => .error (0, 0)
  | g + 1, S, x, ws => if textF ws = ⟨#[125]⟩ then .ok ((x, S), ws.tail) else match partP E k S x ws with | .error f => .error f | .ok (p, r) => partsP E k g p.2 p.1 r
/-- a job -/
noncomputable def jobP (E : Int) (k : Int) (S : List (Int × ByteArray)) (ws : List Tk) : Except Fl ((Jb × List (Int × ByteArray)) × List Tk) :=
  match nameP E ws.tail with
  | .error f => .error f
  | .ok (n, r) => match mustP E ⟨#[123]⟩ r with
    | .error f => .error f
    | .ok r1 => partsP E k (r1.length + 1) S (jb0 n) r1
/-- a job of one's own -/
def VJ (w : World) (x : Jb) (v : Value) (w' : World) : Prop := ∃ s : JSl, v = .agg (jC x s) ∧
  NdOn (fun b => w.heap.size ≤ b ∧ b < w'.heap.size) w' s.dv x.days ∧ NdOn (fun b => w.heap.size ≤ b ∧ b < w'.heap.size) w' s.wv x.work ∧ ExOn (fun b => w.heap.size ≤ b ∧ b < w'.heap.size) w' s.iv x.inn ∧
  w'.ownsRow w.heap.size 88 3 (jOuts x s) x.outs.length (ocRow x.outs) ∧ w'.ownsRow w.heap.size 58 3 (jNeeds x s) x.needs.length (nvRow x.needs) ∧ x.outs.length ≤ 8 ∧ x.needs.length ≤ 6
end Go.Proofs.YtkpgfhapffijkaaGreatDoor
