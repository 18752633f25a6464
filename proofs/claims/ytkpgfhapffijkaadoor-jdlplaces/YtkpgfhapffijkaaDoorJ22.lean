/- Some parts of the proof, one behind the other. -/
import Derived.Test.YtkpgfhapffijkaaDoorJfQ
/- Package jdl: what a job leaves behind. -/
namespace Go.Proofs.YtkpgfhapffijkaaDoor
open Go.ChangeShapes Go.WideShapes Go.ChangeAt Go.RowKit Go.DsMem Go.DsLx Go.DsJd Go.DsMk
set_option linter.unusedVariables false
theorem partsP_suf {E k : Int} : ∀ (g : Nat) (S S' : List (Int × ByteArray)) (x x' : Jb) (ws r : List Tk), partsP E k g S x ws = .ok ((x', S'), r) → x.outs.length ≤ 8 → x.needs.length ≤ 6 → r <:+ ws ∧ S'.length + r.length ≤ S.length + ws.length ∧ x'.outs.length ≤ 8 ∧ x'.needs.length ≤ 6
  | 0, S, S', x, x', ws, r, h, _, _ => by simp [partsP] at h
  | g + 1, S, S', x, x', ws, r, h, h8, h6 => by
    rw [partsP] at h
    by_cases hend : textF ws = ⟨#[125]⟩
    · rw [if_pos hend] at h
      cases h
      exact ⟨List.tail_suffix _, by simp, h8, h6⟩
    · rw [if_neg hend] at h
      cases hp : partP E k S x ws with
      | error f => rw [hp] at h; cases h
      | ok p =>
        obtain ⟨⟨x1, S1⟩, r1⟩ := p
        rw [hp] at h
        simp only at h
        obtain ⟨a, b, c, d, e⟩ := partP_suf hp h8 h6
        obtain ⟨a2, b2, c2, d2⟩ := partsP_suf g S1 S' x1 x' r1 r h c d
        have hl := a.length_le
        have : r1.length + 1 ≤ ws.length := by
          cases ws with
          | nil => exact absurd rfl b
          | cons u v => simp at hl ⊢; exact hl
        exact ⟨a2.trans (a.trans (List.tail_suffix _)), by omega, c2, d2⟩
theorem jobP_suf {E k : Int} {S S' : List (Int × ByteArray)} {x' : Jb} {t : Tk} {ws r : List Tk} (h : jobP E k S (t :: ws) = .ok ((x', S'), r)) : r <:+ ws ∧ S'.length + r.length ≤ S.length + ws.length ∧ x'.outs.length ≤ 8 ∧ x'.needs.length ≤ 6 := by
  unfold jobP at h
  simp only [List.tail_cons] at h
  cases hn : nameP E ws with
  | error f => rw [hn] at h; cases h
  | ok p =>
    obtain ⟨n, r1⟩ := p
    rw [hn] at h
    simp only at h
    cases hm : mustP E ⟨#[123]⟩ r1 with
    | error f => rw [hm] at h; cases h
    | ok r2 =>
      rw [hm] at h
      simp only at h
      have s1 := nameP_suf hn
      have s2 := mustP_suf hm
      obtain ⟨a, b, c, d⟩ := partsP_suf _ _ _ _ _ _ _ h (Nat.zero_le _) (Nat.zero_le _)
      have l1 := s1.length_le
      have l2 := s2.length_le
      exact ⟨a.trans (s2.trans s1), by omega, c, d⟩
end Go.Proofs.YtkpgfhapffijkaaDoor

/- Package jdl: a new reader. -/
namespace Go.Proofs.YtkpgfhapffijkaaDoor
open Go.ChangeShapes Go.WideShapes Go.ChangeAt Go.RowKit Go.DsMem Go.DsLx Go.DsJd Go.DsMk
set_option linter.unusedVariables false
set_option maxHeartbeats 2000000 in
set_option maxRecDepth 20000 in
/-- jdl.newReader -/
theorem newReader_any {w : World} {E : Int} {ws : List Tk} {uo : Option Addr} {uc o : Nat} (h : TkAt w uo uc o ws) (hu : ∀ a, uo = some a → a.block < w.heap.size) (hl : ws.length ≤ 8192) (ht : Dt.Tab w) (htl : 1 < w.heap.size) :
    Calls Tryd.prog 7 #[.slice uo ws.length uc, .int .i64 E] w fun e w' => e = .returned (.pointer (some ⟨w.heap.size + 1, 0, none⟩)) ∧ Rdr w' (w.heap.size + 1) E 0 w.heap.size (w.heap.size + 2) ws ∧ StM w' w.heap.size [] ∧ Below w.heap.size w w' := by
  have HT := hide h
  have HTB := hide ht
  have HU := hide hu
  clear h ht hu
  have hmm := @run_makeMap Tryd.prog
  go_enter Tryd.func7, Tryd.ntmps7
  go_wp2
  go_ret
  have hB : Below w.heap.size w ((w.alloc (.map #[] 0)).alloc (.cells #[.slice uo ws.length uc, .int .i64 E, .int .i64 0, .map (some w.heap.size)] 63)) := ((Below.refl _ _).alloc (Nat.le_refl _) _).alloc (by simp) _
  refine ⟨rfl, ⟨uo, uc, o, ?_, HT.out.keep hB.size (fun a u _ hc => Below.keeps hB (Nat.le_refl _) hc), fun a e => ?_, hl, by omega, by simp, ⟨⟨Nat.lt_of_lt_of_le HTB.out.1 hB.size, fun m m1 m2 => Below.keeps hB (Nat.le_refl _) (HTB.out.2 m m1 m2)⟩, by omega, by omega⟩⟩, ?_, hB⟩
  · have := heap_alloc_new (w.alloc (.map #[] 0)) (.cells #[.slice uo ws.length uc, .int .i64 E, .int .i64 0, .map (some w.heap.size)] 63)
    simpa using this
  · have := HU.out a e
    exact ⟨by omega, by omega⟩
  · exact (StM.made w).below ((Below.refl _ _).alloc (Nat.le_refl _) _)
end Go.Proofs.YtkpgfhapffijkaaDoor

/- Package jdl: jobs that lie in a list: their trees and rows are only read. -/
namespace Go.Proofs.YtkpgfhapffijkaaDoor
open Go.ChangeShapes Go.WideShapes Go.ChangeAt Go.RowKit Go.DsMem Go.DsLx Go.DsJd Go.DsMk
set_option linter.unusedVariables false
/-- a row of cells that is only read, in blocks of B -/
def RowRd (B : Nat → Prop) (w : World) (uo : Option Addr) (xs : List Value) : Prop := xs ≠ [] → ∃ g, uo = some ⟨g, 0, none⟩ ∧ B g ∧ ∀ j u, xs[j]? = some u → w.cell? ⟨g, j, none⟩ = some u
theorem RowRd.mono {B B' : Nat → Prop} {w w' : World} {uo : Option Addr} {xs : List Value} (h : RowRd B w uo xs) (hB : ∀ b, B b → B' b) (hc : ∀ a u, B a.block → w.cell? a = some u → w'.cell? a = some u) : RowRd B' w' uo xs := fun hx => by
  obtain ⟨g, e, hg, hr⟩ := h hx
  exact ⟨g, e, hB g hg, fun j u hu => hc ⟨g, j, none⟩ u hg (hr j u hu)⟩
theorem RowRd.own {w : World} {b0 : Nat} {e : TypeId} {k : Nat} {uo : Option Addr} {n uc : Nat} {xs : List Value} (h : w.ownsRow b0 e k (.slice uo n uc) n xs) (hk : 0 < k) : RowRd (fun b => b0 ≤ b ∧ b < w.heap.size) w uo xs := fun hx => by
  rcases h.2 with ⟨_, h0⟩ | ⟨g, cap, cur, hv, hb, hg, _⟩
  · have : xs.length = 0 := by rw [h.1, h0]; simp
    exact absurd (List.eq_nil_of_length_eq_zero this) hx
  · simp only [Value.slice.injEq] at hv
    obtain ⟨rfl, -, -⟩ := hv
    refine ⟨g, rfl, ⟨hb, block_lt hg⟩, fun j u hu => ?_⟩
    have := h.cells (g := g) rfl j u hu
    have hadd : (⟨g, 0, none⟩ : Addr).add j = ⟨g, j, none⟩ := by unfold Addr.add; split <;> simp_all
    rw [hadd] at this
    exact this
/-- a job whose parts lie in blocks of B -/
structure JIn (B : Nat → Prop) (w : World) (s : JSl) (x : Jb) : Prop where
  days : NdOn B w s.dv x.days
  work : NdOn B w s.wv x.work
  inn : ExOn B w s.iv x.inn
  outs : RowRd B w s.oo (ocRow x.outs)
  needs : RowRd B w s.no (nvRow x.needs)
  o8 : x.outs.length ≤ 8
  n6 : x.needs.length ≤ 6
theorem JIn.mono {B B' : Nat → Prop} {w w' : World} {s : JSl} {x : Jb} (h : JIn B w s x) (hB : ∀ b, B b → B' b) (hc : ∀ a u, B a.block → w.cell? a = some u → w'.cell? a = some u) : JIn B' w' s x :=
  ⟨h.days.mono hB hc, h.work.mono hB hc, h.inn.mono hB hc, h.outs.mono hB hc, h.needs.mono hB hc, h.o8, h.n6⟩
theorem VJ.inn {w w' : World} {x : Jb} {v : Value} (h : VJ w x v w') : ∃ s, v = .agg (jC x s) ∧ JIn (fun b => w.heap.size ≤ b ∧ b < w'.heap.size) w' s x := by
  obtain ⟨s, rfl, h1, h2, h3, h4, h5, h6, h7⟩ := h
  exact ⟨s, rfl, h1, h2, h3, RowRd.own h4 (by decide), RowRd.own h5 (by decide), h6, h7⟩
/-- the cells of jobs, one behind the other -/
def rowJ (K : Nat → JSl) : Nat → List Jb → List Value
  | _, [] => []
  | i, x :: l => (jC x (K i)).toList ++ rowJ K (i + 1) l
/-- the cells of calendars -/
def calC (p : ByteArray × Nd) (v : NVal) : List Value := [.string p.1, .int .i64 v.op, .slice v.no v.nl v.nc, .slice v.ko v.kl v.kc, .string v.nm]
def rowCal (K : Nat → NVal) : Nat → List (ByteArray × Nd) → List Value
  | _, [] => []
  | i, p :: l => calC p (K i) ++ rowCal K (i + 1) l
/-- a source's resources: their names, units, whether they are locks -/
abbrev Rs := ByteArray × (Int × Bool)
def rsC (p : Rs) : List Value := [.string p.1, .int .i64 p.2.1, .bool p.2.2]
def rsRow (l : List Rs) : List Value := l.flatMap rsC
/-- a source -/
structure Srcp where
  start : Int
  keep : Int
  cals : List (ByteArray × Nd)
  res : List Rs
  jobs : List Jb
theorem rowJ_snoc (K : Nat → JSl) (x : Jb) : ∀ (i : Nat) (l : List Jb), rowJ K i (l ++ [x]) = rowJ K i l ++ (jC x (K (i + l.length))).toList
  | i, [] => by simp [rowJ]
  | i, y :: l => by
    have e : i + 1 + l.length = i + (l.length + 1) := by omega
    simp only [List.cons_append, rowJ, rowJ_snoc K x (i + 1) l, List.length_cons, List.append_assoc, e]
theorem rowCal_snoc (K : Nat → NVal) (p : ByteArray × Nd) : ∀ (i : Nat) (l : List (ByteArray × Nd)), rowCal K i (l ++ [p]) = rowCal K i l ++ calC p (K (i + l.length))
  | i, [] => by simp [rowCal]
  | i, y :: l => by
    have e : i + 1 + l.length = i + (l.length + 1) := by omega
    simp only [List.cons_append, rowCal, rowCal_snoc K p (i + 1) l, List.length_cons, List.append_assoc, e]
end Go.Proofs.YtkpgfhapffijkaaDoor

/- Package jdl: a source while it is read. -/
namespace Go.Proofs.YtkpgfhapffijkaaDoor
open Go.ChangeShapes Go.WideShapes Go.ChangeAt Go.RowKit Go.DsMem Go.DsLx Go.DsJd Go.DsMk
set_option linter.unusedVariables false
/-- where a source's parts lie -/
structure SSl where
  co : Option Addr
  cc : Nat
  ro : Option Addr
  rc : Nat
  jo : Option Addr
  jc : Nat
  KC : Nat → NVal
  KJ : Nat → JSl
def sCals (x : Srcp) (s : SSl) : Value := .slice s.co x.cals.length s.cc
def sRes (x : Srcp) (s : SSl) : Value := .slice s.ro x.res.length s.rc
def sJobs (x : Srcp) (s : SSl) : Value := .slice s.jo x.jobs.length s.jc
def sC (x : Srcp) (s : SSl) : Array Value := #[.int .i64 x.start, .int .i64 x.keep, .slice s.co x.cals.length s.cc, .slice s.ro x.res.length s.rc, .slice s.jo x.jobs.length s.jc]
/-- blocks that hold a source's trees -/
def SR (b0 : Nat) (w : World) (x : Srcp) (s : SSl) (b : Nat) : Prop := b0 ≤ b ∧ b < w.heap.size ∧ (sCals x s).ownBlock ≠ some b ∧ (sRes x s).ownBlock ≠ some b ∧ (sJobs x s).ownBlock ≠ some b
/-- a source in block X, with all that it has behind b0 -/
structure SrcAt (b0 : Nat) (w : World) (X : Nat) (x : Srcp) (s : SSl) : Prop where
  blk : w.heap[X]? = some (.cells (sC x s) 26 (0, 0))
  lt : X < b0
  le : b0 ≤ w.heap.size
  cals : w.ownsRow b0 83 5 (sCals x s) x.cals.length (rowCal s.KC 0 x.cals)
  res : w.ownsRow b0 87 3 (sRes x s) x.res.length (rsRow x.res)
  jobs : w.ownsRow b0 48 24 (sJobs x s) x.jobs.length (rowJ s.KJ 0 x.jobs)
  ins : ∀ i (h : i < x.cals.length), NdOn (SR b0 w x s) w (s.KC i) (x.cals[i]).2
  inj : ∀ i (h : i < x.jobs.length), JIn (SR b0 w x s) w (s.KJ i) x.jobs[i]
  ap1 : ∀ k, (sCals x s).ownBlock = some k → (sRes x s).ownBlock ≠ some k ∧ (sJobs x s).ownBlock ≠ some k
  ap2 : ∀ k, (sRes x s).ownBlock = some k → (sJobs x s).ownBlock ≠ some k
/-- while nothing of the source turns -/
theorem SrcAt.moved {b0 X : Nat} {w w' : World} {x : Srcp} {s : SSl} {T : Nat → Prop} (h : SrcAt b0 w X x s) (ho : Only T w w') (hT : ∀ b, T b → b < b0 ∧ b ≠ X) : SrcAt b0 w' X x s := by
  have hl := h.lt
  have h1 : ∀ b, SR b0 w x s b → SR b0 w' x s b := fun b hb => ⟨hb.1, Nat.lt_of_lt_of_le hb.2.1 ho.size, hb.2.2⟩
  have h2 : ∀ a u, SR b0 w x s a.block → w.cell? a = some u → w'.cell? a = some u := fun a u hB hc => ho.cell hc (fun e => by have := (hT _ e).1; have := hB.1; omega)
  have h3 : ∀ {k : Nat}, b0 ≤ k → k < w.heap.size → w'.heap[k]? = w.heap[k]? := fun {k} a b => ho.block k b (fun e => by have := (hT _ e).1; omega)
  refine ⟨?_, hl, Nat.le_trans h.le ho.size, own_sameK h.cals (fun k hk => h3 (h.cals.lt k hk).1 (h.cals.lt k hk).2), own_sameK h.res (fun k hk => h3 (h.res.lt k hk).1 (h.res.lt k hk).2), own_sameK h.jobs (fun k hk => h3 (h.jobs.lt k hk).1 (h.jobs.lt k hk).2), fun i hi => (h.ins i hi).mono h1 h2, fun i hi => (h.inj i hi).mono h1 h2, h.ap1, h.ap2⟩
  rw [ho.block X (block_lt h.blk) (fun e => (hT _ e).2 rfl)]; exact h.blk
theorem SrcAt.drew {b0 X : Nat} {w : World} {x : Srcp} {s : SSl} (h : SrcAt b0 w X x s) : SrcAt b0 w.drew X x s := h.moved (T := fun _ => False) (Only.refl _ w).drew (fun b e => e.elim)
theorem SrcAt.cell {b0 X : Nat} {w : World} {x : Srcp} {s : SSl} (h : SrcAt b0 w X x s) (k : Nat) : w.cell? ⟨X, k, none⟩ = (sC x s)[k]? := by rw [cell_of h.blk]
theorem SrcAt.frozen {b0 X : Nat} {w : World} {x : Srcp} {s : SSl} (h : SrcAt b0 w X x s) (k : Nat) : w.frozen? ⟨X, k, none⟩ = false := frozen_of h.blk
/-- begin and keep turn -/
theorem SrcAt.put {b0 X : Nat} {w w' : World} {x : Srcp} {s : SSl} (h : SrcAt b0 w X x s) (a b : Int) (hh : w'.heap[X]? = some (.cells (sC { x with start := a, keep := b } s) 26 (0, 0))) (ho : Only (· = X) w w') : SrcAt b0 w' X { x with start := a, keep := b } s := by
  have hl := h.lt
  have h1 : ∀ b, SR b0 w x s b → SR b0 w' x s b := fun b hb => ⟨hb.1, Nat.lt_of_lt_of_le hb.2.1 ho.size, hb.2.2⟩
  have h2 : ∀ a u, SR b0 w x s a.block → w.cell? a = some u → w'.cell? a = some u := fun a u hB hc => ho.cell hc (fun e => by have := hB.1; omega)
  have h3 : ∀ {k : Nat}, b0 ≤ k → k < w.heap.size → w'.heap[k]? = w.heap[k]? := fun {k} a b => ho.block k b (fun e => by omega)
  exact ⟨hh, hl, Nat.le_trans h.le ho.size, own_sameK h.cals (fun k hk => h3 (h.cals.lt k hk).1 (h.cals.lt k hk).2), own_sameK h.res (fun k hk => h3 (h.res.lt k hk).1 (h.res.lt k hk).2), own_sameK h.jobs (fun k hk => h3 (h.jobs.lt k hk).1 (h.jobs.lt k hk).2), fun i hi => (h.ins i hi).mono h1 h2, fun i hi => (h.inj i hi).mono h1 h2, h.ap1, h.ap2⟩
/-- what was just read lies apart -/
theorem SrcAt.fresh {b0 X : Nat} {w w1 : World} {x : Srcp} {s : SSl} (h : SrcAt b0 w X x s) {b : Nat} (hb : w.heap.size ≤ b ∧ b < w1.heap.size) : SR b0 w1 x s b := by
  refine ⟨Nat.le_trans h.le hb.1, hb.2, fun e => ?_, fun e => ?_, fun e => ?_⟩
  · have := (h.cals.lt b e).2; omega
  · have := (h.res.lt b e).2; omega
  · have := (h.jobs.lt b e).2; omega
end Go.Proofs.YtkpgfhapffijkaaDoor

