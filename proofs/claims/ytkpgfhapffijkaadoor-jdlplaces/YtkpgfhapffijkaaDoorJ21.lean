/- Some parts of the proof, one behind the other. -/
import Derived.Test.YtkpgfhapffijkaaDoorJfM
import Derived.Test.YtkpgfhapffijkaaDoorJfN
import Derived.Deep.LoopGhost
/- Package jdl: a part of a job, whole. -/
namespace Go.Proofs.YtkpgfhapffijkaaDoor
open Go.ChangeShapes Go.WideShapes Go.ChangeAt Go.RowKit Go.DsMem Go.DsLx Go.DsJd Go.DsMk
set_option linter.unusedVariables false
theorem twoP_suf {α β : Type} {p1 : List Tk → Except Fl (α × List Tk)} {p2 : List Tk → Except Fl (β × List Tk)} (h1 : ∀ ws a r, p1 ws = .ok (a, r) → r <:+ ws) (h2 : ∀ ws a r, p2 ws = .ok (a, r) → r <:+ ws) {ws : List Tk} {a : α × β} {r : List Tk} (h : twoP p1 p2 ws = .ok (a, r)) : r <:+ ws := by
  unfold twoP at h
  cases e1 : p1 ws with
  | error f => rw [e1] at h; cases h
  | ok q =>
    obtain ⟨b, r1⟩ := q
    rw [e1] at h
    simp only at h
    cases e2 : p2 r1 with
    | error f => rw [e2] at h; cases h
    | ok q2 =>
      obtain ⟨c, r2⟩ := q2
      rw [e2] at h
      cases h
      exact (h2 _ _ _ e2).trans (h1 _ _ _ e1)
theorem daysW_suf {E : Int} {ws : List Tk} {a : Nd} {r : List Tk} (h : daysP E (oneP E 16) ws = .ok (a, r)) : r <:+ ws := by
  unfold daysP at h
  exact manyP_suf (fun ws a r h => manyP_suf (oneP_suf 16) ws a r h) ws a r h
theorem condW_suf {E : Int} {ws : List Tk} {a : Ex} {r : List Tk} (h : condP E (eachP E 16) ws = .ok (a, r)) : r <:+ ws := by
  unfold condP at h
  exact manyE_suf (fun ws a r h => manyE_suf (eachP_suf 16) ws a r h) ws a r h
theorem updP_suf {α : Type} {f : α → Jb} {q : Except Fl (α × List Tk)} {x : Jb} {r ws : List Tk} (hq : ∀ a r, q = .ok (a, r) → r <:+ ws) (h : updP f q = .ok (x, r)) : r <:+ ws ∧ ∃ a, x = f a := by
  unfold updP at h
  cases q with
  | error f => cases h
  | ok p =>
    obtain ⟨a, r'⟩ := p
    cases h
    exact ⟨hq a _ rfl, a, rfl⟩
theorem singleP_suf {E : Int} {x x' : Jb} {ws r : List Tk} (h : singleP E x ws = .ok (x', r)) : r <:+ ws.tail ∧ ws ≠ [] ∧ x'.outs = x.outs ∧ x'.needs = x.needs := by
  have hn : ws ≠ [] := by
    rintro rfl
    unfold singleP at h
    rw [if_neg (by decide), if_neg (by decide), if_neg (by decide), if_neg (by decide), if_neg (by decide), if_neg (by decide), if_neg (by decide), if_neg (by decide), if_neg (by decide)] at h
    cases h
  have hnum : ∀ a r, thenP E ⟨#[59]⟩ (numP E ws.tail) = .ok (a, r) → r <:+ ws.tail := fun a r h => thenP_suf (fun a r h => numP_suf h) h
  refine ⟨?_, hn, ?_⟩ <;> (
    unfold singleP at h
    split at h
    · obtain ⟨h1, a, rfl⟩ := updP_suf (fun a r h => thenP_suf (fun a r h => daysW_suf h) h) h
      first | exact h1 | exact ⟨rfl, rfl⟩
    split at h
    · obtain ⟨h1, a, rfl⟩ := updP_suf (fun a r h => thenP_suf (fun a r h => twoP_suf (fun ws a r h => (choiceP_suf h).1) (fun ws a r h => daysW_suf h) h) h) h
      first | exact h1 | exact ⟨rfl, rfl⟩
    split at h
    · obtain ⟨h1, a, rfl⟩ := updP_suf (fun a r h => thenP_suf (fun a r h => twoP_suf (fun ws a r h => timeP_suf h) (fun ws a r h => timeP_suf h) h) h) h
      first | exact h1 | exact ⟨rfl, rfl⟩
    split at h
    · obtain ⟨h1, a, rfl⟩ := updP_suf (fun a r h => thenP_suf (fun a r h => condW_suf h) h) h
      first | exact h1 | exact ⟨rfl, rfl⟩
    split at h
    · obtain ⟨h1, a, rfl⟩ := updP_suf hnum h
      first | exact h1 | exact ⟨rfl, rfl⟩
    split at h
    · obtain ⟨h1, a, rfl⟩ := updP_suf hnum h
      first | exact h1 | exact ⟨rfl, rfl⟩
    split at h
    · obtain ⟨h1, a, rfl⟩ := updP_suf hnum h
      first | exact h1 | exact ⟨rfl, rfl⟩
    split at h
    · obtain ⟨h1, a, rfl⟩ := updP_suf hnum h
      first | exact h1 | exact ⟨rfl, rfl⟩
    split at h
    · obtain ⟨h1, a, rfl⟩ := updP_suf hnum h
      first | exact h1 | exact ⟨rfl, rfl⟩
    cases h)
/-- what part reads -/
noncomputable def partP (E : Int) (k : Int) (S : List (Int × ByteArray)) (x : Jb) (ws : List Tk) : Except Fl ((Jb × List (Int × ByteArray)) × List Tk) :=
  if textF ws = wOut then outPP S x (thenP E ⟨#[59]⟩ (outsP E (8 - x.outs.length) ws.tail))
  else if textF ws = wNeed then moreP E S x (fun p => (p.1, (p.2, 0))) ws (thenP E ⟨#[59]⟩ (twoP (nameP E) (numP E) ws.tail))
  else if textF ws = wUse then moreP E S x (fun p => (p.1, (0, p.2 + 1))) ws (thenP E ⟨#[59]⟩ (twoP (nameP E) (choiceP E modeL) ws.tail))
  else restP E k S x ws
/-- (*jdl.reader).part -/
theorem part_any {w : World} {R J b0 : Nat} {E : Int} {B N : Nat} {ws : List Tk} (h : Rdr w R E 0 B N ws) (hG : Few9 ws) {x : Jb} {s : JSl} (hj : JbAt b0 w J x s) (hNJ : N ≤ J) (hBJ : B < J) (k : Int) (S : List (Int × ByteArray)) (hs : StM w B S) (hf : fitS (k, textF ws)) (hS : S.length ≤ 100000)
    (hn8 : x.outs.length ≤ 8) (hn6 : x.needs.length ≤ 6) :
    Calls Tryd.prog 48 #[.pointer (some ⟨R, 0, none⟩), .pointer (some ⟨J, 0, none⟩), .int .i64 k] w (PT R E B N J b0 (partP E k S x ws) w) := by
  unfold partP
  by_cases c1 : textF ws = wOut
  · rw [if_pos c1]
    cases ws with
    | nil => exact absurd c1 (by decide)
    | cons t r => exact part_out h c1 hj hNJ hBJ k S hs hn8
  rw [if_neg c1]
  by_cases c2 : textF ws = wNeed
  · rw [if_pos c2]
    cases ws with
    | nil => exact absurd c2 (by decide)
    | cons t r => exact part_need h c2 hj hNJ hBJ k S hs hn6
  rw [if_neg c2]
  by_cases c3 : textF ws = wUse
  · rw [if_pos c3]
    cases ws with
    | nil => exact absurd c3 (by decide)
    | cons t r => exact part_use h c3 hj hNJ hBJ k S hs hn6
  rw [if_neg c3]
  exact part_rest h hG hj hNJ hBJ k S hs hf hS c1 c2 c3
theorem moreP_suf {α : Type} {E : Int} {S S' : List (Int × ByteArray)} {x x' : Jb} {f : α → Nv} {ws r ws' : List Tk} {q : Except Fl (α × List Tk)} (hq : ∀ a r, q = .ok (a, r) → r <:+ ws') (h : moreP E S x f ws q = .ok ((x', S'), r)) (hn : x.needs.length ≤ 6) : r <:+ ws' ∧ x'.outs = x.outs ∧ x'.needs.length ≤ 6 ∧ S' = S := by
  unfold moreP at h
  by_cases hr : (6 : Int) ≤ x.needs.length
  · have e : roomP E ws x.needs.length 6 = .error (atF E ws, 4) := by unfold roomP; rw [if_pos hr]
    rw [e] at h; cases h
  · have e : roomP E ws x.needs.length 6 = .ok () := by unfold roomP; rw [if_neg hr]
    rw [e] at h
    cases q with
    | error f => cases h
    | ok p =>
      obtain ⟨a, r'⟩ := p
      cases h
      exact ⟨hq a _ rfl, rfl, by simp; omega, rfl⟩
/-- what a part leaves behind -/
theorem partP_suf {E k : Int} {S S' : List (Int × ByteArray)} {x x' : Jb} {ws r : List Tk} (h : partP E k S x ws = .ok ((x', S'), r)) (hn8 : x.outs.length ≤ 8) (hn6 : x.needs.length ≤ 6) :
    r <:+ ws.tail ∧ ws ≠ [] ∧ x'.outs.length ≤ 8 ∧ x'.needs.length ≤ 6 ∧ S'.length ≤ S.length + 1 := by
  unfold partP at h
  split at h
  · next c =>
    have hn : ws ≠ [] := by rintro rfl; exact absurd c (by decide)
    unfold outPP at h
    cases hq : thenP E ⟨#[59]⟩ (outsP E (8 - x.outs.length) ws.tail) with
    | error f => rw [hq] at h; cases h
    | ok p =>
      obtain ⟨l, r'⟩ := p
      rw [hq] at h
      cases h
      obtain ⟨r2, h2⟩ := thenP_ok hq
      have hl := listP_len _ _ _ _ _ _ _ h2
      have hsf : r <:+ ws.tail := thenP_suf (fun a r h => listP_suf (fun ws a r h => twoP_suf (fun ws a r h => (choiceP_suf h).1) (fun ws a r h => refWP_suf h) h) _ _ _ _ h) hq
      exact ⟨hsf, hn, by simp; omega, hn6, by simp⟩
  split at h
  · next c =>
    have hn : ws ≠ [] := by rintro rfl; exact absurd c (by decide)
    obtain ⟨a, b, c, d⟩ := moreP_suf (fun a r h => thenP_suf (fun a r h => twoP_suf (fun ws a r h => nameP_suf h) (fun ws a r h => numP_suf h) h) h) h hn6
    exact ⟨a, hn, by rw [b]; exact hn8, c, by rw [d]; simp⟩
  split at h
  · next c =>
    have hn : ws ≠ [] := by rintro rfl; exact absurd c (by decide)
    obtain ⟨a, b, c, d⟩ := moreP_suf (fun a r h => thenP_suf (fun a r h => twoP_suf (fun ws a r h => nameP_suf h) (fun ws a r h => (choiceP_suf h).1) h) h) h hn6
    exact ⟨a, hn, by rw [b]; exact hn8, c, by rw [d]; simp⟩
  unfold restP at h
  split at h
  · cases h
  · cases hq : singleP E x ws with
    | error f => rw [hq] at h; cases h
    | ok p =>
      obtain ⟨x2, r2⟩ := p
      rw [hq] at h
      cases h
      obtain ⟨a, b, c, d⟩ := singleP_suf hq
      exact ⟨a, b, by rw [c]; exact hn8, by rw [d]; exact hn6, by simp⟩
end Go.Proofs.YtkpgfhapffijkaaDoor

/- Package jdl: a job. -/
namespace Go.Proofs.YtkpgfhapffijkaaDoor
open Go.ChangeShapes Go.WideShapes Go.ChangeAt Go.RowKit Go.DsMem Go.DsLx Go.DsJd Go.DsMk
set_option linter.unusedVariables false
/-- words that can be keys -/
def FitW (ws : List Tk) : Prop := ∀ t ∈ ws, t.text.size ≤ 140737488355000
theorem FitW.suf {ws r : List Tk} (h : FitW ws) (hs : r <:+ ws) : FitW r := fun t ht => h t (hs.subset ht)
theorem FitW.fit {ws : List Tk} (h : FitW ws) {k : Int} (h0 : 0 ≤ k) (h1 : k ≤ 1000) : fitS (k, textF ws) := by
  refine ⟨?_, by simp only; omega, by simp only; omega⟩
  cases ws with
  | nil => exact (by decide : (⟨#[]⟩ : ByteArray).size ≤ 140737488355000)
  | cons t r => exact h t (by simp)
def zNd : Nd := .mk 0 [] [] ⟨#[]⟩
def zEx : Ex := .mk 0 ⟨#[]⟩ 0 []
def zN : NVal := ⟨0, none, 0, 0, none, 0, 0, ⟨#[]⟩⟩
/-- the job that begins -/
def jb0 (n : ByteArray) : Jb := ⟨n, zNd, false, 0, zNd, 0, 1439, zEx, [], [], 0, 0, 0, 1, 0⟩
def js0 : JSl := ⟨zN, zN, ⟨0, ⟨#[]⟩, 0, none, 0, 0⟩, none, 0, none, 0⟩
theorem zNd_on (B : Nat → Prop) (w : World) : NdOn B w zN zNd :=
  .mk 0 [] [] ⟨#[]⟩ none 0 none 0 0 (fun _ => zN) (RdI.nil _) (fun a e => by cases e) (by simp) (by simp) (by simp) (fun h => by simp at h) (fun h => by simp at h) (fun j hj => by simp at hj) (fun j hj => by simp at hj)
theorem zEx_on (B : Nat → Prop) (w : World) : ExOn B w ⟨0, ⟨#[]⟩, 0, none, 0, 0⟩ zEx :=
  .mk 0 ⟨#[]⟩ 0 [] none 0 0 (fun _ => ⟨0, ⟨#[]⟩, 0, none, 0, 0⟩) (by simp) (by simp) (fun h => by simp at h) (fun h => by simp at h) (fun j hj => by simp at hj) (fun j hj => by simp at hj)
theorem jb0_at {b0 J : Nat} {w : World} (n : ByteArray) (hb : w.heap[J]? = some (.cells (jC (jb0 n) js0) 48 (0, 0))) (h1 : J < b0) (h2 : b0 ≤ w.heap.size) : JbAt b0 w J (jb0 n) js0 :=
  ⟨hb, h1, h2, zNd_on _ _, zNd_on _ _, zEx_on _ _, World.ownsRow_nil _ _ _ _, World.ownsRow_nil _ _ _ _, fun k hk => by cases hk⟩
/-- the parts of a job -/
noncomputable def partsP (E : Int) (k : Int) : Nat → List (Int × ByteArray) → Jb → List Tk → Except Fl ((Jb × List (Int × ByteArray)) × List Tk)
  | 0, _, _, _ => .error (0, 0)
  | g + 1, S, x, ws => if textF ws = ⟨#[125]⟩ then .ok ((x, S), ws.tail) else match partP E k S x ws with | .error f => .error f | .ok (p, r) => partsP E k g p.2 p.1 r
/-- a job -/
noncomputable def jobP (E : Int) (k : Int) (S : List (Int × ByteArray)) (ws : List Tk) : Except Fl ((Jb × List (Int × ByteArray)) × List Tk) :=
  match nameP E ws.tail with
  | .error f => .error f
  | .ok (n, r) => match mustP E ⟨#[123]⟩ r with
    | .error f => .error f
    | .ok r1 => partsP E k (r1.length + 1) S (jb0 n) r1
/-- a job of one's own -/
def VJ (w : World) (x : Jb) (v : Value) (w' : World) : Prop := ∃ s : JSl, v = .agg (jC x s) ∧
  NdOn (fun b => w.heap.size ≤ b ∧ b < w'.heap.size) w' s.dv x.days ∧ NdOn (fun b => w.heap.size ≤ b ∧ b < w'.heap.size) w' s.wv x.work ∧ ExOn (fun b => w.heap.size ≤ b ∧ b < w'.heap.size) w' s.iv x.inn ∧
  w'.ownsRow w.heap.size 50 3 (jOuts x s) x.outs.length (ocRow x.outs) ∧ w'.ownsRow w.heap.size 111 3 (jNeeds x s) x.needs.length (nvRow x.needs) ∧ x.outs.length ≤ 8 ∧ x.needs.length ≤ 6
abbrev zJ : Array Value := jC (jb0 ⟨#[]⟩) js0
end Go.Proofs.YtkpgfhapffijkaaDoor

