/- Some parts of the proof, one behind the other. -/
import Derived.Test.YtkpgfhapffijkaaDoorJfF
/- Package jdl: a job while it is read; what is said of it. -/
namespace Go.DsJd
open Go.DsLx Go.DsMk
/-- a need: its name, its units, its mode -/
abbrev Nv := ByteArray × (Int × Int)
end Go.DsJd
namespace Go.Proofs.YtkpgfhapffijkaaDoor
open Go.ChangeShapes Go.WideShapes Go.ChangeAt Go.RowKit Go.DsMem Go.DsLx Go.DsJd Go.DsMk
set_option linter.unusedVariables false
/-- a job -/
structure Jb where
  name : ByteArray
  days : Nd
  shift : Bool
  dir : Int
  work : Nd
  fr : Int
  till : Int
  inn : Ex
  outs : List Oc
  needs : List Nv
  prio : Int
  wait : Int
  every : Int
  runs : Int
  retry : Int
/-- where a job's parts lie -/
structure JSl where
  dv : NVal
  wv : NVal
  iv : EVal
  oo : Option Addr
  oc : Nat
  no : Option Addr
  nc : Nat
def nvC3 (p : Nv) : List Value := [.string p.1, .int .i64 p.2.1, .int .i64 p.2.2]
def nvRow (l : List Nv) : List Value := l.flatMap nvC3
def jOuts (x : Jb) (s : JSl) : Value := .slice s.oo x.outs.length s.oc
def jNeeds (x : Jb) (s : JSl) : Value := .slice s.no x.needs.length s.nc
def jC (x : Jb) (s : JSl) : Array Value := #[.string x.name,
  .int .i64 s.dv.op, .slice s.dv.no s.dv.nl s.dv.nc, .slice s.dv.ko s.dv.kl s.dv.kc, .string s.dv.nm,
  .bool x.shift, .int .i64 x.dir,
  .int .i64 s.wv.op, .slice s.wv.no s.wv.nl s.wv.nc, .slice s.wv.ko s.wv.kl s.wv.kc, .string s.wv.nm,
  .int .i64 x.fr, .int .i64 x.till,
  .int .i64 s.iv.op, .string s.iv.nm, .int .i64 s.iv.wh, .slice s.iv.ko s.iv.kl s.iv.kc,
  .slice s.oo x.outs.length s.oc, .slice s.no x.needs.length s.nc,
  .int .i64 x.prio, .int .i64 x.wait, .int .i64 x.every, .int .i64 x.runs, .int .i64 x.retry]
/-- blocks that hold a job's trees -/
def JR (b0 : Nat) (w : World) (x : Jb) (s : JSl) (b : Nat) : Prop := b0 ≤ b ∧ b < w.heap.size ∧ (jOuts x s).ownBlock ≠ some b ∧ (jNeeds x s).ownBlock ≠ some b
/-- a job in block J, with all that it has behind b0 -/
structure JbAt (b0 : Nat) (w : World) (J : Nat) (x : Jb) (s : JSl) : Prop where
  blk : w.heap[J]? = some (.cells (jC x s) 48 (0, 0))
  lt : J < b0
  le : b0 ≤ w.heap.size
  days : NdOn (JR b0 w x s) w s.dv x.days
  work : NdOn (JR b0 w x s) w s.wv x.work
  inn : ExOn (JR b0 w x s) w s.iv x.inn
  outs : w.ownsRow b0 50 3 (jOuts x s) x.outs.length (ocRow x.outs)
  needs : w.ownsRow b0 111 3 (jNeeds x s) x.needs.length (nvRow x.needs)
  apart : ∀ k, (jOuts x s).ownBlock = some k → (jNeeds x s).ownBlock ≠ some k
/-- while nothing of the job turns -/
theorem JbAt.moved {b0 J : Nat} {w w' : World} {x : Jb} {s : JSl} {T : Nat → Prop} (h : JbAt b0 w J x s) (ho : Only T w w') (hT : ∀ b, T b → b < b0 ∧ b ≠ J) : JbAt b0 w' J x s := by
  have hl := h.lt
  have h1 : ∀ b, JR b0 w x s b → JR b0 w' x s b := fun b hb => ⟨hb.1, Nat.lt_of_lt_of_le hb.2.1 ho.size, hb.2.2⟩
  have h2 : ∀ a u, JR b0 w x s a.block → w.cell? a = some u → w'.cell? a = some u := fun a u hB hc => ho.cell hc (fun e => by have := (hT _ e).1; have := hB.1; omega)
  refine ⟨?_, hl, Nat.le_trans h.le ho.size, h.days.mono h1 h2, h.work.mono h1 h2, h.inn.mono h1 h2, own_sameK h.outs (fun k hk => ?_), own_sameK h.needs (fun k hk => ?_), h.apart⟩
  · rw [ho.block J (block_lt h.blk) (fun e => (hT _ e).2 rfl)]; exact h.blk
  · have := h.outs.lt k hk
    exact ho.block k this.2 (fun e => by have := (hT _ e).1; omega)
  · have := h.needs.lt k hk
    exact ho.block k this.2 (fun e => by have := (hT _ e).1; omega)
/-- what was just read lies apart -/
theorem JbAt.fresh {b0 J : Nat} {w w1 : World} {x : Jb} {s : JSl} (h : JbAt b0 w J x s) {b : Nat} (hb : w.heap.size ≤ b ∧ b < w1.heap.size) : JR b0 w1 x s b := by
  refine ⟨Nat.le_trans h.le hb.1, hb.2, fun e => ?_, fun e => ?_⟩
  · have := (h.outs.lt b e).2; omega
  · have := (h.needs.lt b e).2; omega
/-- the job's own cells turn -/
theorem JbAt.put {b0 J : Nat} {w w' : World} {x x' : Jb} {s s' : JSl} (h : JbAt b0 w J x s) (hh : w'.heap[J]? = some (.cells (jC x' s') 48 (0, 0))) (ho : Only (· = J) w w')
    (e1 : x'.outs = x.outs) (e2 : x'.needs = x.needs) (e3 : s'.oo = s.oo) (e4 : s'.oc = s.oc) (e5 : s'.no = s.no) (e6 : s'.nc = s.nc)
    (hd : NdOn (JR b0 w x s) w s'.dv x'.days) (hw : NdOn (JR b0 w x s) w s'.wv x'.work) (hi : ExOn (JR b0 w x s) w s'.iv x'.inn) : JbAt b0 w' J x' s' := by
  have hl := h.lt
  have f1 : jOuts x' s' = jOuts x s := by unfold jOuts; rw [e1, e3, e4]
  have f2 : jNeeds x' s' = jNeeds x s := by unfold jNeeds; rw [e2, e5, e6]
  have h1 : ∀ b, JR b0 w x s b → JR b0 w' x' s' b := fun b hb => ⟨hb.1, Nat.lt_of_lt_of_le hb.2.1 ho.size, by rw [f1]; exact hb.2.2.1, by rw [f2]; exact hb.2.2.2⟩
  have h2 : ∀ a u, JR b0 w x s a.block → w.cell? a = some u → w'.cell? a = some u := fun a u hB hc => ho.cell hc (fun e => by have := hB.1; omega)
  refine ⟨hh, hl, Nat.le_trans h.le ho.size, hd.mono h1 h2, hw.mono h1 h2, hi.mono h1 h2, ?_, ?_, ?_⟩
  · rw [f1, e1]
    exact own_sameK h.outs (fun k hk => by have := h.outs.lt k hk; exact ho.block k this.2 (fun e => by omega))
  · rw [f2, e2]
    exact own_sameK h.needs (fun k hk => by have := h.needs.lt k hk; exact ho.block k this.2 (fun e => by omega))
  · rw [f1, f2]; exact h.apart
theorem JbAt.drew {b0 J : Nat} {w : World} {x : Jb} {s : JSl} (h : JbAt b0 w J x s) : JbAt b0 w.drew J x s := h.moved (T := fun _ => False) (Only.refl _ w).drew (fun b e => e.elim)
theorem JbAt.cell {b0 J : Nat} {w : World} {x : Jb} {s : JSl} (h : JbAt b0 w J x s) (k : Nat) : w.cell? ⟨J, k, none⟩ = (jC x s)[k]? := by rw [cell_of h.blk]
theorem JbAt.frozen {b0 J : Nat} {w : World} {x : Jb} {s : JSl} (h : JbAt b0 w J x s) (k : Nat) : w.frozen? ⟨J, k, none⟩ = false := frozen_of h.blk
/-- a job's days, work, conditions as values -/
theorem saidDays {w : World} {R : Nat} {E : Int} {B N : Nat} {t : Tk} {r : List Tk} (h : Rdr w R E 0 B N (t :: r)) (hG : Few9 r) :
    Calls Tryd.prog 64 #[.pointer (some ⟨R, 0, none⟩), .func (.func 46) #[.pointer (some ⟨R, 0, none⟩)] #[]] w (PE R E 0 B N (thenP E ⟨#[59]⟩ (daysP E (oneP E 16) r)) VN w) := by
  have hR := h.lt
  refine saidNode h 46 #[.pointer (some ⟨R, 0, none⟩)] #[] (daysP E (oneP E 16)) VN (cf_of Tryd.func46 (by decide +kernel) (by kernel_rfl)) ?_ ?_ ?_ (fun w h => days_all hG h)
  · rintro wA a v w1 ⟨nv, rfl, _⟩
    exact ⟨_, _, _, _, _, _, _, _, rfl⟩
  · rintro wA a v w1 w2 hs ⟨nv, rfl, hn⟩ ho
    exact ⟨nv, rfl, hn.mono (fun b hb => ⟨by omega, Nat.lt_of_lt_of_le hb.2 ho.size⟩) (fun ad u hB hc => ho.cell hc (by omega))⟩
  · intro wA wB a v w1 hs h
    exact h.since hs
theorem saidWork {w : World} {R : Nat} {E : Int} {B N : Nat} {t : Tk} {r : List Tk} (h : Rdr w R E 0 B N (t :: r)) (hG : Few9 r) :
    Calls Tryd.prog 65 #[.pointer (some ⟨R, 0, none⟩), .func (.func 66) #[.pointer (some ⟨R, 0, none⟩)] #[]] w (PE R E 0 B N (thenP E ⟨#[59]⟩ (twoP (choiceP E dirL) (daysP E (oneP E 16)) r)) VSh w) := by
  have hR := h.lt
  refine saidShift h 66 #[.pointer (some ⟨R, 0, none⟩)] #[] (twoP (choiceP E dirL) (daysP E (oneP E 16))) VSh (cf_of Tryd.func66 (by decide +kernel) (by kernel_rfl)) ?_ ?_ ?_ (fun w h => shift_any h hG)
  · rintro wA a v w1 ⟨nv, rfl, _⟩
    exact ⟨_, _, _, _, _, _, _, _, _, rfl⟩
  · rintro wA a v w1 w2 hs ⟨nv, rfl, hn⟩ ho
    exact ⟨nv, rfl, hn.mono (fun b hb => ⟨by omega, Nat.lt_of_lt_of_le hb.2 ho.size⟩) (fun ad u hB hc => ho.cell hc (by omega))⟩
  · rintro wA wB a v w1 hs ⟨nv, rfl, hn⟩
    exact ⟨nv, rfl, hn.mono (fun b hb => ⟨by omega, hb.2⟩) (fun _ _ _ hc => hc)⟩
theorem saidTimes {w : World} {R : Nat} {E : Int} {B N : Nat} {t : Tk} {r : List Tk} (h : Rdr w R E 0 B N (t :: r)) :
    Calls Tryd.prog 67 #[.pointer (some ⟨R, 0, none⟩), .func (.func 68) #[.pointer (some ⟨R, 0, none⟩)] #[]] w (PE R E 0 B N (thenP E ⟨#[59]⟩ (twoP (timeP E) (timeP E) r)) VWin w) := by
  refine saidWin h 68 #[.pointer (some ⟨R, 0, none⟩)] #[] (twoP (timeP E) (timeP E)) VWin (cf_of Tryd.func68 (by decide +kernel) (by kernel_rfl)) ?_ ?_ ?_ (fun w h => window_any h)
  · rintro wA a v w1 rfl
    exact ⟨_, _, rfl⟩
  · rintro wA a v w1 w2 hs rfl ho
    rfl
  · rintro wA wB a v w1 hs rfl
    rfl
theorem saidCond {w : World} {R : Nat} {E : Int} {B N : Nat} {t : Tk} {r : List Tk} (h : Rdr w R E 0 B N (t :: r)) (hG : Few9 r) :
    Calls Tryd.prog 69 #[.pointer (some ⟨R, 0, none⟩), .func (.func 70) #[.pointer (some ⟨R, 0, none⟩)] #[]] w (PE R E 0 B N (thenP E ⟨#[59]⟩ (condP E (eachP E 16) r)) VE w) := by
  have hR := h.lt
  refine saidExpr h 70 #[.pointer (some ⟨R, 0, none⟩)] #[] (condP E (eachP E 16)) VE (cf_of Tryd.func70 (by decide +kernel) (by kernel_rfl)) ?_ ?_ ?_ (fun w h => cond_all hG h)
  · rintro wA a v w1 ⟨nv, rfl, _⟩
    exact ⟨_, _, _, _, _, _, rfl⟩
  · rintro wA a v w1 w2 hs ⟨nv, rfl, hn⟩ ho
    exact ⟨nv, rfl, hn.mono (fun b hb => ⟨by omega, Nat.lt_of_lt_of_le hb.2 ho.size⟩) (fun ad u hB hc => ho.cell hc (by omega))⟩
  · intro wA wB a v w1 hs h
    exact h.since hs
theorem saidNum {w : World} {R : Nat} {E : Int} {B N : Nat} {t : Tk} {r : List Tk} (h : Rdr w R E 0 B N (t :: r)) :
    Calls Tryd.prog 29 #[.pointer (some ⟨R, 0, none⟩), .func (.func 31) #[.pointer (some ⟨R, 0, none⟩)] #[]] w (PE R E 0 B N (thenP E ⟨#[59]⟩ (numP E r)) VI w) :=
  saidI h 31 #[.pointer (some ⟨R, 0, none⟩)] #[] (numP E) (cf_of Tryd.func31 (by decide +kernel) (by kernel_rfl)) (fun w h => number_any h)
/-- what single reads -/
def updP {α : Type} (f : α → Jb) (x : Except Fl (α × List Tk)) : Except Fl (Jb × List Tk) := match x with | .error f => .error f | .ok (a, r) => .ok (f a, r)
abbrev wDays : ByteArray := ⟨#[100, 97, 121, 115]⟩
abbrev wShift : ByteArray := ⟨#[115, 104, 105, 102, 116]⟩
abbrev wWindow : ByteArray := ⟨#[119, 105, 110, 100, 111, 119]⟩
abbrev wIn : ByteArray := ⟨#[105, 110]⟩
abbrev wPrio : ByteArray := ⟨#[112, 114, 105, 111]⟩
abbrev wWait : ByteArray := ⟨#[119, 97, 105, 116]⟩
abbrev wEvery : ByteArray := ⟨#[101, 118, 101, 114, 121]⟩
abbrev wRuns : ByteArray := ⟨#[114, 117, 110, 115]⟩
abbrev wRetry : ByteArray := ⟨#[114, 101, 116, 114, 121]⟩
def singleP (E : Int) (x : Jb) (ws : List Tk) : Except Fl (Jb × List Tk) :=
  if textF ws = wDays then updP (fun d => { x with days := d }) (thenP E ⟨#[59]⟩ (daysP E (oneP E 16) ws.tail))
  else if textF ws = wShift then updP (fun p => { x with shift := true, dir := p.1 - 1, work := p.2 }) (thenP E ⟨#[59]⟩ (twoP (choiceP E dirL) (daysP E (oneP E 16)) ws.tail))
  else if textF ws = wWindow then updP (fun p => { x with fr := p.1, till := p.2 }) (thenP E ⟨#[59]⟩ (twoP (timeP E) (timeP E) ws.tail))
  else if textF ws = wIn then updP (fun e => { x with inn := e }) (thenP E ⟨#[59]⟩ (condP E (eachP E 16) ws.tail))
  else if textF ws = wPrio then updP (fun n => { x with prio := n }) (thenP E ⟨#[59]⟩ (numP E ws.tail))
  else if textF ws = wWait then updP (fun n => { x with wait := n }) (thenP E ⟨#[59]⟩ (numP E ws.tail))
  else if textF ws = wEvery then updP (fun n => { x with every := n }) (thenP E ⟨#[59]⟩ (numP E ws.tail))
  else if textF ws = wRuns then updP (fun n => { x with runs := n }) (thenP E ⟨#[59]⟩ (numP E ws.tail))
  else if textF ws = wRetry then updP (fun n => { x with retry := n }) (thenP E ⟨#[59]⟩ (numP E ws.tail))
  else .error (atF E ws, 20)
/-- how single ends -/
def SG (R : Nat) (E : Int) (B N J b0 : Nat) (q : Except Fl (Jb × List Tk)) (w : World) : Ending → World → Prop :=
  Ends q (fun w' => Only (fun i => i = R ∨ i = J) w w') fun p e w' => e = .returned (.tuple #[]) ∧ (∃ s', JbAt b0 w' J p.1 s') ∧ Rdr w' R E 0 B N p.2 ∧ Only (fun i => i = R ∨ i = J) w w'
end Go.Proofs.YtkpgfhapffijkaaDoor

/- Package jdl: a part of a job that stands once. Written by gen_single.py. -/
namespace Go.Proofs.YtkpgfhapffijkaaDoor
open Go.ChangeShapes Go.WideShapes Go.ChangeAt Go.RowKit Go.DsMem Go.DsLx Go.DsJd Go.DsMk
set_option linter.unusedVariables false
set_option maxHeartbeats 8000000 in
set_option maxRecDepth 20000 in
theorem singleDays {w : World} {R J b0 : Nat} {E : Int} {B N : Nat} {t : Tk} {r : List Tk} (h : Rdr w R E 0 B N (t :: r)) (hG : Few9 r) (hc : t.text = wDays) {x : Jb} {s : JSl} (hj : JbAt b0 w J x s) (hNJ : N ≤ J) :
    Calls Tryd.prog 59 #[.pointer (some ⟨R, 0, none⟩), .pointer (some ⟨J, 0, none⟩)] w (SG R E B N J b0 (updP (fun d => { x with days := d }) (thenP E ⟨#[59]⟩ (daysP E (oneP E 16) r))) w) := by
  obtain ⟨hN1, hN2⟩ := h.n
  have hmf : ∀ (fn : Fn) (first cap : Array Value) (w : World), (Instr.makeFunc fn first cap).run Tryd.prog w = .ok (.func fn first cap) w := fun _ _ _ _ => rfl
  have HT := hide (text_any h)
  simp only [textF] at HT
  rw [hc] at HT
  unfold wDays at HT
  have HS := hide (saidDays h hG)
  have HJ := hide hj
  have hlt := hj.lt
  have hle := hj.le
  have hJs : J < w.heap.size := by omega
  have hRs : R < w.heap.size := by omega
  clear h hG hc hj
  generalize thenP E ⟨#[59]⟩ (daysP E (oneP E 16) r) = q at *
  cases q with
  | error f =>
    unfold PE Ends at HS
    unfold updP SG Ends
    simp only at HS ⊢
    go_enter Tryd.func59, Tryd.ntmps59
    go_wp2_with fail
    refine HT.out.mono ?_
    rintro e w1 ⟨rfl, rfl⟩
    go_wp2_with fail
    refine HS.out.mono ?_
    rintro e w2 ⟨rfl, ho⟩
    have HO := hide (ho.mono (T := fun i => i = R ∨ i = J) (fun _ _ e => .inl e))
    clear ho
    go_wp2
    exact ⟨rfl, rfl, HO.out⟩
  | ok pr =>
    obtain ⟨p, r'⟩ := pr
    unfold PE Ends at HS
    unfold updP SG Ends
    simp only at HS ⊢
    go_enter Tryd.func59, Tryd.ntmps59
    go_wp2_with fail
    refine HT.out.mono ?_
    rintro e w1 ⟨rfl, rfl⟩
    go_wp2_with fail
    refine HS.out.mono ?_
    rintro e w2 ⟨v, rfl, ⟨nv, rfl, hon⟩, hr, ho⟩
    have hsz := ho.size
    have HJ2 := hide (HJ.out.moved ho (fun b e => ⟨by omega, by omega⟩))
    have HO := hide (ho.mono (T := fun i => i = R ∨ i = J) (fun _ _ e => .inl e))
    have HR := hide hr
    have HON := hide hon
    clear hon
    clear hr ho
    unfold NVal.val ndV
    have c1 : w2.cell? ⟨J, 1, none⟩ = some (.int .i64 s.dv.op) := (HJ2.out.cell 1).trans rfl
    have f1 : w2.frozen? ⟨J, 1, none⟩ = false := HJ2.out.frozen 1
    have c2 : w2.cell? ⟨J, 2, none⟩ = some (.slice s.dv.no s.dv.nl s.dv.nc) := (HJ2.out.cell 2).trans rfl
    have f2 : w2.frozen? ⟨J, 2, none⟩ = false := HJ2.out.frozen 2
    have c3 : w2.cell? ⟨J, 3, none⟩ = some (.slice s.dv.ko s.dv.kl s.dv.kc) := (HJ2.out.cell 3).trans rfl
    have f3 : w2.frozen? ⟨J, 3, none⟩ = false := HJ2.out.frozen 3
    have c4 : w2.cell? ⟨J, 4, none⟩ = some (.string s.dv.nm) := (HJ2.out.cell 4).trans rfl
    have f4 : w2.frozen? ⟨J, 4, none⟩ = false := HJ2.out.frozen 4
    go_wp2
    go_end0
    have g0 := hset_same (k := 1) HJ2.out.blk (.int .i64 nv.op)
    have g1 := hset_same (k := 2) g0 (.slice nv.no nv.nl nv.nc)
    have g2 := hset_same (k := 3) g1 (.slice nv.ko nv.kl nv.kc)
    have g3 := hset_same (k := 4) g2 (.string nv.nm)
    have hO : Only (· = J) w2 _ := ((((Only.refl _ _).trans (Only.set _ J 1 (.int .i64 nv.op)) (fun _ _ e => e)).trans (Only.set _ J 2 (.slice nv.no nv.nl nv.nc)) (fun _ _ e => e)).trans (Only.set _ J 3 (.slice nv.ko nv.kl nv.kc)) (fun _ _ e => e)).trans (Only.set _ J 4 (.string nv.nm)) (fun _ _ e => e)
    have hh : _ = some (Obj.cells (jC { x with days := p } { s with dv := nv }) 48 (0, 0)) := g3.trans (by kernel_rfl)
    have hput := HJ2.out.put (x' := { x with days := p }) (s' := { s with dv := nv }) hh hO rfl rfl rfl rfl rfl rfl (HON.out.mono (fun b hb => HJ.out.fresh hb) (fun _ _ _ h => h)) HJ2.out.work HJ2.out.inn
    exact ⟨rfl, ⟨_, hput⟩, HR.out.only (((((Below.refl N _).setCell hNJ _).setCell hNJ _).setCell hNJ _).setCell hNJ _), HO.out.trans (hO.mono (fun _ _ e => .inr e)) (fun _ _ h => h)⟩
set_option maxHeartbeats 8000000 in
set_option maxRecDepth 20000 in
theorem singleShift {w : World} {R J b0 : Nat} {E : Int} {B N : Nat} {t : Tk} {r : List Tk} (h : Rdr w R E 0 B N (t :: r)) (hG : Few9 r) (hc : t.text = wShift) {x : Jb} {s : JSl} (hj : JbAt b0 w J x s) (hNJ : N ≤ J) :
    Calls Tryd.prog 59 #[.pointer (some ⟨R, 0, none⟩), .pointer (some ⟨J, 0, none⟩)] w (SG R E B N J b0 (updP (fun p => { x with shift := true, dir := p.1 - 1, work := p.2 }) (thenP E ⟨#[59]⟩ (twoP (choiceP E dirL) (daysP E (oneP E 16)) r))) w) := by
  obtain ⟨hN1, hN2⟩ := h.n
  have hmf : ∀ (fn : Fn) (first cap : Array Value) (w : World), (Instr.makeFunc fn first cap).run Tryd.prog w = .ok (.func fn first cap) w := fun _ _ _ _ => rfl
  have HT := hide (text_any h)
  simp only [textF] at HT
  rw [hc] at HT
  unfold wShift at HT
  have HS := hide (saidWork h hG)
  have HJ := hide hj
  have hlt := hj.lt
  have hle := hj.le
  have hJs : J < w.heap.size := by omega
  have hRs : R < w.heap.size := by omega
  clear h hG hc hj
  generalize thenP E ⟨#[59]⟩ (twoP (choiceP E dirL) (daysP E (oneP E 16)) r) = q at *
  cases q with
  | error f =>
    unfold PE Ends at HS
    unfold updP SG Ends
    simp only at HS ⊢
    go_enter Tryd.func59, Tryd.ntmps59
    go_wp2_with fail
    refine HT.out.mono ?_
    rintro e w1 ⟨rfl, rfl⟩
    go_wp2_with fail
    refine HS.out.mono ?_
    rintro e w2 ⟨rfl, ho⟩
    have HO := hide (ho.mono (T := fun i => i = R ∨ i = J) (fun _ _ e => .inl e))
    clear ho
    go_wp2
    exact ⟨rfl, rfl, HO.out⟩
  | ok pr =>
    obtain ⟨p, r'⟩ := pr
    unfold PE Ends at HS
    unfold updP SG Ends
    simp only at HS ⊢
    go_enter Tryd.func59, Tryd.ntmps59
    go_wp2_with fail
    refine HT.out.mono ?_
    rintro e w1 ⟨rfl, rfl⟩
    go_wp2_with fail
    refine HS.out.mono ?_
    rintro e w2 ⟨v, rfl, ⟨nv, rfl, hon⟩, hr, ho⟩
    have hsz := ho.size
    have HJ2 := hide (HJ.out.moved ho (fun b e => ⟨by omega, by omega⟩))
    have HO := hide (ho.mono (T := fun i => i = R ∨ i = J) (fun _ _ e => .inl e))
    have HR := hide hr
    have HON := hide hon
    clear hon
    clear hr ho
    obtain ⟨w3, hw3⟩ : ∃ w3, w3 = w2.alloc (.cells #[.int .i64 (p.1 - 1), .int .i64 nv.op, .slice nv.no nv.nl nv.nc, .slice nv.ko nv.kl nv.kc, .string nv.nm] 122) := ⟨_, rfl⟩
    have ho3 : Only (fun _ => False) w2 w3 := by rw [hw3]; exact Only.alloc _ _ _
    have hs3 := ho3.size
    have HJ3 := hide (HJ2.out.moved ho3 (fun b e => e.elim))
    have HR3 : Hid (Rdr w3 R E 0 B N r') := by rw [hw3]; exact HR.out.below (below_new4 _)
    have HO3 := hide (HO.out.trans (ho3.mono (T := fun i => i = R ∨ i = J) (fun _ _ e => e.elim)) (fun _ _ h => h))
    clear ho3
    have m0 : w3.cell? ⟨w2.heap.size, 0, none⟩ = some (.int .i64 (p.1 - 1)) := by rw [hw3, World.cell?_alloc_mark]; rfl
    have m1 : w3.cell? ⟨w2.heap.size, 1, none⟩ = some (.int .i64 nv.op) := by rw [hw3, World.cell?_alloc_mark]; rfl
    have m2 : w3.cell? ⟨w2.heap.size, 2, none⟩ = some (.slice nv.no nv.nl nv.nc) := by rw [hw3, World.cell?_alloc_mark]; rfl
    have m3 : w3.cell? ⟨w2.heap.size, 3, none⟩ = some (.slice nv.ko nv.kl nv.kc) := by rw [hw3, World.cell?_alloc_mark]; rfl
    have m4 : w3.cell? ⟨w2.heap.size, 4, none⟩ = some (.string nv.nm) := by rw [hw3, World.cell?_alloc_mark]; rfl
    have c5 : w3.cell? ⟨J, 5, none⟩ = some (.bool x.shift) := (HJ3.out.cell 5).trans rfl
    have f5 : w3.frozen? ⟨J, 5, none⟩ = false := HJ3.out.frozen 5
    have c6 : w3.cell? ⟨J, 6, none⟩ = some (.int .i64 x.dir) := (HJ3.out.cell 6).trans rfl
    have f6 : w3.frozen? ⟨J, 6, none⟩ = false := HJ3.out.frozen 6
    have c7 : w3.cell? ⟨J, 7, none⟩ = some (.int .i64 s.wv.op) := (HJ3.out.cell 7).trans rfl
    have f7 : w3.frozen? ⟨J, 7, none⟩ = false := HJ3.out.frozen 7
    have c8 : w3.cell? ⟨J, 8, none⟩ = some (.slice s.wv.no s.wv.nl s.wv.nc) := (HJ3.out.cell 8).trans rfl
    have f8 : w3.frozen? ⟨J, 8, none⟩ = false := HJ3.out.frozen 8
    have c9 : w3.cell? ⟨J, 9, none⟩ = some (.slice s.wv.ko s.wv.kl s.wv.kc) := (HJ3.out.cell 9).trans rfl
    have f9 : w3.frozen? ⟨J, 9, none⟩ = false := HJ3.out.frozen 9
    have c10 : w3.cell? ⟨J, 10, none⟩ = some (.string s.wv.nm) := (HJ3.out.cell 10).trans rfl
    have f10 : w3.frozen? ⟨J, 10, none⟩ = false := HJ3.out.frozen 10
    have HW : NdOn (JR b0 w3 x s) w3 nv p.2 := HON.out.mono (fun b hb => HJ.out.fresh ⟨hb.1, Nat.lt_of_lt_of_le hb.2 hs3⟩) (fun ad u hB hc => by rw [hw3]; exact (Only.alloc (fun _ => False) w2 _).cell hc (fun e => e))
    go_wp2_with fail
    rw [← hw3]
    clear hw3
    have hJ2 : J < w2.heap.size := by omega
    have hJ2n : ¬ J = w2.heap.size := by omega
    first
    | (go_region_held3 (fun w' => w'.cell? ⟨w2.heap.size, 0, none⟩ = some (.int .i64 (p.1 - 1)) ∧ w'.cell? ⟨w2.heap.size, 1, none⟩ = some (.int .i64 nv.op) ∧ w'.cell? ⟨w2.heap.size, 2, none⟩ = some (.slice nv.no nv.nl nv.nc) ∧ w'.cell? ⟨w2.heap.size, 3, none⟩ = some (.slice nv.ko nv.kl nv.kc) ∧ w'.cell? ⟨w2.heap.size, 4, none⟩ = some (.string nv.nm))
        (go_keep)
        (fail))
    | fail
    all_goals
      go_wp2
      go_end0
      have g0 := hset_same (k := 5) HJ3.out.blk (.bool true)
      have g1 := hset_same (k := 6) g0 (.int .i64 (p.1 - 1))
      have g2 := hset_same (k := 7) g1 (.int .i64 nv.op)
      have g3 := hset_same (k := 8) g2 (.slice nv.no nv.nl nv.nc)
      have g4 := hset_same (k := 9) g3 (.slice nv.ko nv.kl nv.kc)
      have g5 := hset_same (k := 10) g4 (.string nv.nm)
      have hO : Only (· = J) w3 _ := ((((((Only.refl _ _).trans (Only.set _ J 5 (.bool true)) (fun _ _ e => e)).trans (Only.set _ J 6 (.int .i64 (p.1 - 1))) (fun _ _ e => e)).trans (Only.set _ J 7 (.int .i64 nv.op)) (fun _ _ e => e)).trans (Only.set _ J 8 (.slice nv.no nv.nl nv.nc)) (fun _ _ e => e)).trans (Only.set _ J 9 (.slice nv.ko nv.kl nv.kc)) (fun _ _ e => e)).trans (Only.set _ J 10 (.string nv.nm)) (fun _ _ e => e)
      have hh : _ = some (Obj.cells (jC { x with shift := true, dir := p.1 - 1, work := p.2 } { s with wv := nv }) 48 (0, 0)) := g5.trans (by kernel_rfl)
      have hput := HJ3.out.put (x' := { x with shift := true, dir := p.1 - 1, work := p.2 }) (s' := { s with wv := nv }) hh hO rfl rfl rfl rfl rfl rfl HJ3.out.days HW HJ3.out.inn
      exact ⟨rfl, ⟨_, hput.drew⟩, Rdr.drew (HR3.out.only (((((((Below.refl N _).setCell hNJ _).setCell hNJ _).setCell hNJ _).setCell hNJ _).setCell hNJ _).setCell hNJ _)), Only.drew (HO3.out.trans (hO.mono (fun _ _ e => .inr e)) (fun _ _ h => h))⟩
set_option maxHeartbeats 8000000 in
set_option maxRecDepth 20000 in
theorem singleWindow {w : World} {R J b0 : Nat} {E : Int} {B N : Nat} {t : Tk} {r : List Tk} (h : Rdr w R E 0 B N (t :: r)) (hG : Few9 r) (hc : t.text = wWindow) {x : Jb} {s : JSl} (hj : JbAt b0 w J x s) (hNJ : N ≤ J) :
    Calls Tryd.prog 59 #[.pointer (some ⟨R, 0, none⟩), .pointer (some ⟨J, 0, none⟩)] w (SG R E B N J b0 (updP (fun p => { x with fr := p.1, till := p.2 }) (thenP E ⟨#[59]⟩ (twoP (timeP E) (timeP E) r))) w) := by
  obtain ⟨hN1, hN2⟩ := h.n
  have hmf : ∀ (fn : Fn) (first cap : Array Value) (w : World), (Instr.makeFunc fn first cap).run Tryd.prog w = .ok (.func fn first cap) w := fun _ _ _ _ => rfl
  have HT := hide (text_any h)
  simp only [textF] at HT
  rw [hc] at HT
  unfold wWindow at HT
  have HS := hide (saidTimes h)
  have HJ := hide hj
  have hlt := hj.lt
  have hle := hj.le
  have hJs : J < w.heap.size := by omega
  have hRs : R < w.heap.size := by omega
  clear h hG hc hj
  generalize thenP E ⟨#[59]⟩ (twoP (timeP E) (timeP E) r) = q at *
  cases q with
  | error f =>
    unfold PE Ends at HS
    unfold updP SG Ends
    simp only at HS ⊢
    go_enter Tryd.func59, Tryd.ntmps59
    go_wp2_with fail
    refine HT.out.mono ?_
    rintro e w1 ⟨rfl, rfl⟩
    go_wp2_with fail
    refine HS.out.mono ?_
    rintro e w2 ⟨rfl, ho⟩
    have HO := hide (ho.mono (T := fun i => i = R ∨ i = J) (fun _ _ e => .inl e))
    clear ho
    go_wp2
    exact ⟨rfl, rfl, HO.out⟩
  | ok pr =>
    obtain ⟨p, r'⟩ := pr
    unfold PE Ends at HS
    unfold updP SG Ends
    simp only at HS ⊢
    go_enter Tryd.func59, Tryd.ntmps59
    go_wp2_with fail
    refine HT.out.mono ?_
    rintro e w1 ⟨rfl, rfl⟩
    go_wp2_with fail
    refine HS.out.mono ?_
    rintro e w2 ⟨v, rfl, rfl, hr, ho⟩
    have hsz := ho.size
    have HJ2 := hide (HJ.out.moved ho (fun b e => ⟨by omega, by omega⟩))
    have HO := hide (ho.mono (T := fun i => i = R ∨ i = J) (fun _ _ e => .inl e))
    have HR := hide hr
    clear hr ho
    obtain ⟨w3, hw3⟩ : ∃ w3, w3 = w2.alloc (.cells #[.int .i64 p.1, .int .i64 p.2] 125) := ⟨_, rfl⟩
    have ho3 : Only (fun _ => False) w2 w3 := by rw [hw3]; exact Only.alloc _ _ _
    have hs3 := ho3.size
    have HJ3 := hide (HJ2.out.moved ho3 (fun b e => e.elim))
    have HR3 : Hid (Rdr w3 R E 0 B N r') := by rw [hw3]; exact HR.out.below (below_new4 _)
    have HO3 := hide (HO.out.trans (ho3.mono (T := fun i => i = R ∨ i = J) (fun _ _ e => e.elim)) (fun _ _ h => h))
    clear ho3
    have m0 : w3.cell? ⟨w2.heap.size, 0, none⟩ = some (.int .i64 p.1) := by rw [hw3, World.cell?_alloc_mark]; rfl
    have m1 : w3.cell? ⟨w2.heap.size, 1, none⟩ = some (.int .i64 p.2) := by rw [hw3, World.cell?_alloc_mark]; rfl
    have c11 : w3.cell? ⟨J, 11, none⟩ = some (.int .i64 x.fr) := (HJ3.out.cell 11).trans rfl
    have f11 : w3.frozen? ⟨J, 11, none⟩ = false := HJ3.out.frozen 11
    have c12 : w3.cell? ⟨J, 12, none⟩ = some (.int .i64 x.till) := (HJ3.out.cell 12).trans rfl
    have f12 : w3.frozen? ⟨J, 12, none⟩ = false := HJ3.out.frozen 12
    go_wp2_with fail
    rw [← hw3]
    clear hw3
    go_region
    all_goals
      go_wp2
      go_end0
      have g0 := hset_same (k := 11) HJ3.out.blk (.int .i64 p.1)
      have g1 := hset_same (k := 12) g0 (.int .i64 p.2)
      have hO : Only (· = J) w3 _ := ((Only.refl _ _).trans (Only.set _ J 11 (.int .i64 p.1)) (fun _ _ e => e)).trans (Only.set _ J 12 (.int .i64 p.2)) (fun _ _ e => e)
      have hh : _ = some (Obj.cells (jC { x with fr := p.1, till := p.2 } s) 48 (0, 0)) := g1.trans (by kernel_rfl)
      have hput := HJ3.out.put (x' := { x with fr := p.1, till := p.2 }) (s' := s) hh hO rfl rfl rfl rfl rfl rfl HJ3.out.days HJ3.out.work HJ3.out.inn
      exact ⟨rfl, ⟨_, hput.drew⟩, Rdr.drew (HR3.out.only (((Below.refl N _).setCell hNJ _).setCell hNJ _)), Only.drew (HO3.out.trans (hO.mono (fun _ _ e => .inr e)) (fun _ _ h => h))⟩
set_option maxHeartbeats 8000000 in
set_option maxRecDepth 20000 in
theorem singleIn {w : World} {R J b0 : Nat} {E : Int} {B N : Nat} {t : Tk} {r : List Tk} (h : Rdr w R E 0 B N (t :: r)) (hG : Few9 r) (hc : t.text = wIn) {x : Jb} {s : JSl} (hj : JbAt b0 w J x s) (hNJ : N ≤ J) :
    Calls Tryd.prog 59 #[.pointer (some ⟨R, 0, none⟩), .pointer (some ⟨J, 0, none⟩)] w (SG R E B N J b0 (updP (fun e => { x with inn := e }) (thenP E ⟨#[59]⟩ (condP E (eachP E 16) r))) w) := by
  obtain ⟨hN1, hN2⟩ := h.n
  have hmf : ∀ (fn : Fn) (first cap : Array Value) (w : World), (Instr.makeFunc fn first cap).run Tryd.prog w = .ok (.func fn first cap) w := fun _ _ _ _ => rfl
  have HT := hide (text_any h)
  simp only [textF] at HT
  rw [hc] at HT
  unfold wIn at HT
  have HS := hide (saidCond h hG)
  have HJ := hide hj
  have hlt := hj.lt
  have hle := hj.le
  have hJs : J < w.heap.size := by omega
  have hRs : R < w.heap.size := by omega
  clear h hG hc hj
  generalize thenP E ⟨#[59]⟩ (condP E (eachP E 16) r) = q at *
  cases q with
  | error f =>
    unfold PE Ends at HS
    unfold updP SG Ends
    simp only at HS ⊢
    go_enter Tryd.func59, Tryd.ntmps59
    go_wp2_with fail
    refine HT.out.mono ?_
    rintro e w1 ⟨rfl, rfl⟩
    go_wp2_with fail
    refine HS.out.mono ?_
    rintro e w2 ⟨rfl, ho⟩
    have HO := hide (ho.mono (T := fun i => i = R ∨ i = J) (fun _ _ e => .inl e))
    clear ho
    go_wp2
    exact ⟨rfl, rfl, HO.out⟩
  | ok pr =>
    obtain ⟨p, r'⟩ := pr
    unfold PE Ends at HS
    unfold updP SG Ends
    simp only at HS ⊢
    go_enter Tryd.func59, Tryd.ntmps59
    go_wp2_with fail
    refine HT.out.mono ?_
    rintro e w1 ⟨rfl, rfl⟩
    go_wp2_with fail
    refine HS.out.mono ?_
    rintro e w2 ⟨v, rfl, ⟨ev, rfl, hon⟩, hr, ho⟩
    have hsz := ho.size
    have HJ2 := hide (HJ.out.moved ho (fun b e => ⟨by omega, by omega⟩))
    have HO := hide (ho.mono (T := fun i => i = R ∨ i = J) (fun _ _ e => .inl e))
    have HR := hide hr
    have HON := hide hon
    clear hon
    clear hr ho
    unfold EVal.val exV
    have c13 : w2.cell? ⟨J, 13, none⟩ = some (.int .i64 s.iv.op) := (HJ2.out.cell 13).trans rfl
    have f13 : w2.frozen? ⟨J, 13, none⟩ = false := HJ2.out.frozen 13
    have c14 : w2.cell? ⟨J, 14, none⟩ = some (.string s.iv.nm) := (HJ2.out.cell 14).trans rfl
    have f14 : w2.frozen? ⟨J, 14, none⟩ = false := HJ2.out.frozen 14
    have c15 : w2.cell? ⟨J, 15, none⟩ = some (.int .i64 s.iv.wh) := (HJ2.out.cell 15).trans rfl
    have f15 : w2.frozen? ⟨J, 15, none⟩ = false := HJ2.out.frozen 15
    have c16 : w2.cell? ⟨J, 16, none⟩ = some (.slice s.iv.ko s.iv.kl s.iv.kc) := (HJ2.out.cell 16).trans rfl
    have f16 : w2.frozen? ⟨J, 16, none⟩ = false := HJ2.out.frozen 16
    go_wp2
    go_end0
    have g0 := hset_same (k := 13) HJ2.out.blk (.int .i64 ev.op)
    have g1 := hset_same (k := 14) g0 (.string ev.nm)
    have g2 := hset_same (k := 15) g1 (.int .i64 ev.wh)
    have g3 := hset_same (k := 16) g2 (.slice ev.ko ev.kl ev.kc)
    have hO : Only (· = J) w2 _ := ((((Only.refl _ _).trans (Only.set _ J 13 (.int .i64 ev.op)) (fun _ _ e => e)).trans (Only.set _ J 14 (.string ev.nm)) (fun _ _ e => e)).trans (Only.set _ J 15 (.int .i64 ev.wh)) (fun _ _ e => e)).trans (Only.set _ J 16 (.slice ev.ko ev.kl ev.kc)) (fun _ _ e => e)
    have hh : _ = some (Obj.cells (jC { x with inn := p } { s with iv := ev }) 48 (0, 0)) := g3.trans (by kernel_rfl)
    have hput := HJ2.out.put (x' := { x with inn := p }) (s' := { s with iv := ev }) hh hO rfl rfl rfl rfl rfl rfl HJ2.out.days HJ2.out.work (HON.out.mono (fun b hb => HJ.out.fresh hb) (fun _ _ _ h => h))
    exact ⟨rfl, ⟨_, hput⟩, HR.out.only (((((Below.refl N _).setCell hNJ _).setCell hNJ _).setCell hNJ _).setCell hNJ _), HO.out.trans (hO.mono (fun _ _ e => .inr e)) (fun _ _ h => h)⟩
set_option maxHeartbeats 8000000 in
set_option maxRecDepth 20000 in
theorem singlePrio {w : World} {R J b0 : Nat} {E : Int} {B N : Nat} {t : Tk} {r : List Tk} (h : Rdr w R E 0 B N (t :: r)) (hG : Few9 r) (hc : t.text = wPrio) {x : Jb} {s : JSl} (hj : JbAt b0 w J x s) (hNJ : N ≤ J) :
    Calls Tryd.prog 59 #[.pointer (some ⟨R, 0, none⟩), .pointer (some ⟨J, 0, none⟩)] w (SG R E B N J b0 (updP (fun n => { x with prio := n }) (thenP E ⟨#[59]⟩ (numP E r))) w) := by
  obtain ⟨hN1, hN2⟩ := h.n
  have hmf : ∀ (fn : Fn) (first cap : Array Value) (w : World), (Instr.makeFunc fn first cap).run Tryd.prog w = .ok (.func fn first cap) w := fun _ _ _ _ => rfl
  have HT := hide (text_any h)
  simp only [textF] at HT
  rw [hc] at HT
  unfold wPrio at HT
  have HS := hide (saidNum h)
  have HJ := hide hj
  have hlt := hj.lt
  have hle := hj.le
  have hJs : J < w.heap.size := by omega
  have hRs : R < w.heap.size := by omega
  clear h hG hc hj
  generalize thenP E ⟨#[59]⟩ (numP E r) = q at *
  cases q with
  | error f =>
    unfold PE Ends at HS
    unfold updP SG Ends
    simp only at HS ⊢
    go_enter Tryd.func59, Tryd.ntmps59
    go_wp2_with fail
    refine HT.out.mono ?_
    rintro e w1 ⟨rfl, rfl⟩
    go_wp2_with fail
    refine HS.out.mono ?_
    rintro e w2 ⟨rfl, ho⟩
    have HO := hide (ho.mono (T := fun i => i = R ∨ i = J) (fun _ _ e => .inl e))
    clear ho
    go_wp2
    exact ⟨rfl, rfl, HO.out⟩
  | ok pr =>
    obtain ⟨p, r'⟩ := pr
    unfold PE Ends at HS
    unfold updP SG Ends
    simp only at HS ⊢
    go_enter Tryd.func59, Tryd.ntmps59
    go_wp2_with fail
    refine HT.out.mono ?_
    rintro e w1 ⟨rfl, rfl⟩
    go_wp2_with fail
    refine HS.out.mono ?_
    rintro e w2 ⟨v, rfl, rfl, hr, ho⟩
    have hsz := ho.size
    have HJ2 := hide (HJ.out.moved ho (fun b e => ⟨by omega, by omega⟩))
    have HO := hide (ho.mono (T := fun i => i = R ∨ i = J) (fun _ _ e => .inl e))
    have HR := hide hr
    clear hr ho
    have c19 : w2.cell? ⟨J, 19, none⟩ = some (.int .i64 x.prio) := (HJ2.out.cell 19).trans rfl
    have f19 : w2.frozen? ⟨J, 19, none⟩ = false := HJ2.out.frozen 19
    go_wp2
    go_end0
    have g0 := hset_same (k := 19) HJ2.out.blk (.int .i64 p)
    have hO : Only (· = J) w2 _ := (Only.refl _ _).trans (Only.set _ J 19 (.int .i64 p)) (fun _ _ e => e)
    have hh : _ = some (Obj.cells (jC { x with prio := p } s) 48 (0, 0)) := g0.trans (by kernel_rfl)
    have hput := HJ2.out.put (x' := { x with prio := p }) (s' := s) hh hO rfl rfl rfl rfl rfl rfl HJ2.out.days HJ2.out.work HJ2.out.inn
    exact ⟨rfl, ⟨_, hput⟩, HR.out.only ((Below.refl N _).setCell hNJ _), HO.out.trans (hO.mono (fun _ _ e => .inr e)) (fun _ _ h => h)⟩
set_option maxHeartbeats 8000000 in
set_option maxRecDepth 20000 in
theorem singleWait {w : World} {R J b0 : Nat} {E : Int} {B N : Nat} {t : Tk} {r : List Tk} (h : Rdr w R E 0 B N (t :: r)) (hG : Few9 r) (hc : t.text = wWait) {x : Jb} {s : JSl} (hj : JbAt b0 w J x s) (hNJ : N ≤ J) :
    Calls Tryd.prog 59 #[.pointer (some ⟨R, 0, none⟩), .pointer (some ⟨J, 0, none⟩)] w (SG R E B N J b0 (updP (fun n => { x with wait := n }) (thenP E ⟨#[59]⟩ (numP E r))) w) := by
  obtain ⟨hN1, hN2⟩ := h.n
  have hmf : ∀ (fn : Fn) (first cap : Array Value) (w : World), (Instr.makeFunc fn first cap).run Tryd.prog w = .ok (.func fn first cap) w := fun _ _ _ _ => rfl
  have HT := hide (text_any h)
  simp only [textF] at HT
  rw [hc] at HT
  unfold wWait at HT
  have HS := hide (saidNum h)
  have HJ := hide hj
  have hlt := hj.lt
  have hle := hj.le
  have hJs : J < w.heap.size := by omega
  have hRs : R < w.heap.size := by omega
  clear h hG hc hj
  generalize thenP E ⟨#[59]⟩ (numP E r) = q at *
  cases q with
  | error f =>
    unfold PE Ends at HS
    unfold updP SG Ends
    simp only at HS ⊢
    go_enter Tryd.func59, Tryd.ntmps59
    go_wp2_with fail
    refine HT.out.mono ?_
    rintro e w1 ⟨rfl, rfl⟩
    go_wp2_with fail
    refine HS.out.mono ?_
    rintro e w2 ⟨rfl, ho⟩
    have HO := hide (ho.mono (T := fun i => i = R ∨ i = J) (fun _ _ e => .inl e))
    clear ho
    go_wp2
    exact ⟨rfl, rfl, HO.out⟩
  | ok pr =>
    obtain ⟨p, r'⟩ := pr
    unfold PE Ends at HS
    unfold updP SG Ends
    simp only at HS ⊢
    go_enter Tryd.func59, Tryd.ntmps59
    go_wp2_with fail
    refine HT.out.mono ?_
    rintro e w1 ⟨rfl, rfl⟩
    go_wp2_with fail
    refine HS.out.mono ?_
    rintro e w2 ⟨v, rfl, rfl, hr, ho⟩
    have hsz := ho.size
    have HJ2 := hide (HJ.out.moved ho (fun b e => ⟨by omega, by omega⟩))
    have HO := hide (ho.mono (T := fun i => i = R ∨ i = J) (fun _ _ e => .inl e))
    have HR := hide hr
    clear hr ho
    have c20 : w2.cell? ⟨J, 20, none⟩ = some (.int .i64 x.wait) := (HJ2.out.cell 20).trans rfl
    have f20 : w2.frozen? ⟨J, 20, none⟩ = false := HJ2.out.frozen 20
    go_wp2
    go_end0
    have g0 := hset_same (k := 20) HJ2.out.blk (.int .i64 p)
    have hO : Only (· = J) w2 _ := (Only.refl _ _).trans (Only.set _ J 20 (.int .i64 p)) (fun _ _ e => e)
    have hh : _ = some (Obj.cells (jC { x with wait := p } s) 48 (0, 0)) := g0.trans (by kernel_rfl)
    have hput := HJ2.out.put (x' := { x with wait := p }) (s' := s) hh hO rfl rfl rfl rfl rfl rfl HJ2.out.days HJ2.out.work HJ2.out.inn
    exact ⟨rfl, ⟨_, hput⟩, HR.out.only ((Below.refl N _).setCell hNJ _), HO.out.trans (hO.mono (fun _ _ e => .inr e)) (fun _ _ h => h)⟩
set_option maxHeartbeats 8000000 in
set_option maxRecDepth 20000 in
theorem singleEvery {w : World} {R J b0 : Nat} {E : Int} {B N : Nat} {t : Tk} {r : List Tk} (h : Rdr w R E 0 B N (t :: r)) (hG : Few9 r) (hc : t.text = wEvery) {x : Jb} {s : JSl} (hj : JbAt b0 w J x s) (hNJ : N ≤ J) :
    Calls Tryd.prog 59 #[.pointer (some ⟨R, 0, none⟩), .pointer (some ⟨J, 0, none⟩)] w (SG R E B N J b0 (updP (fun n => { x with every := n }) (thenP E ⟨#[59]⟩ (numP E r))) w) := by
  obtain ⟨hN1, hN2⟩ := h.n
  have hmf : ∀ (fn : Fn) (first cap : Array Value) (w : World), (Instr.makeFunc fn first cap).run Tryd.prog w = .ok (.func fn first cap) w := fun _ _ _ _ => rfl
  have HT := hide (text_any h)
  simp only [textF] at HT
  rw [hc] at HT
  unfold wEvery at HT
  have HS := hide (saidNum h)
  have HJ := hide hj
  have hlt := hj.lt
  have hle := hj.le
  have hJs : J < w.heap.size := by omega
  have hRs : R < w.heap.size := by omega
  clear h hG hc hj
  generalize thenP E ⟨#[59]⟩ (numP E r) = q at *
  cases q with
  | error f =>
    unfold PE Ends at HS
    unfold updP SG Ends
    simp only at HS ⊢
    go_enter Tryd.func59, Tryd.ntmps59
    go_wp2_with fail
    refine HT.out.mono ?_
    rintro e w1 ⟨rfl, rfl⟩
    go_wp2_with fail
    refine HS.out.mono ?_
    rintro e w2 ⟨rfl, ho⟩
    have HO := hide (ho.mono (T := fun i => i = R ∨ i = J) (fun _ _ e => .inl e))
    clear ho
    go_wp2
    exact ⟨rfl, rfl, HO.out⟩
  | ok pr =>
    obtain ⟨p, r'⟩ := pr
    unfold PE Ends at HS
    unfold updP SG Ends
    simp only at HS ⊢
    go_enter Tryd.func59, Tryd.ntmps59
    go_wp2_with fail
    refine HT.out.mono ?_
    rintro e w1 ⟨rfl, rfl⟩
    go_wp2_with fail
    refine HS.out.mono ?_
    rintro e w2 ⟨v, rfl, rfl, hr, ho⟩
    have hsz := ho.size
    have HJ2 := hide (HJ.out.moved ho (fun b e => ⟨by omega, by omega⟩))
    have HO := hide (ho.mono (T := fun i => i = R ∨ i = J) (fun _ _ e => .inl e))
    have HR := hide hr
    clear hr ho
    have c21 : w2.cell? ⟨J, 21, none⟩ = some (.int .i64 x.every) := (HJ2.out.cell 21).trans rfl
    have f21 : w2.frozen? ⟨J, 21, none⟩ = false := HJ2.out.frozen 21
    go_wp2
    go_end0
    have g0 := hset_same (k := 21) HJ2.out.blk (.int .i64 p)
    have hO : Only (· = J) w2 _ := (Only.refl _ _).trans (Only.set _ J 21 (.int .i64 p)) (fun _ _ e => e)
    have hh : _ = some (Obj.cells (jC { x with every := p } s) 48 (0, 0)) := g0.trans (by kernel_rfl)
    have hput := HJ2.out.put (x' := { x with every := p }) (s' := s) hh hO rfl rfl rfl rfl rfl rfl HJ2.out.days HJ2.out.work HJ2.out.inn
    exact ⟨rfl, ⟨_, hput⟩, HR.out.only ((Below.refl N _).setCell hNJ _), HO.out.trans (hO.mono (fun _ _ e => .inr e)) (fun _ _ h => h)⟩
set_option maxHeartbeats 8000000 in
set_option maxRecDepth 20000 in
theorem singleRuns {w : World} {R J b0 : Nat} {E : Int} {B N : Nat} {t : Tk} {r : List Tk} (h : Rdr w R E 0 B N (t :: r)) (hG : Few9 r) (hc : t.text = wRuns) {x : Jb} {s : JSl} (hj : JbAt b0 w J x s) (hNJ : N ≤ J) :
    Calls Tryd.prog 59 #[.pointer (some ⟨R, 0, none⟩), .pointer (some ⟨J, 0, none⟩)] w (SG R E B N J b0 (updP (fun n => { x with runs := n }) (thenP E ⟨#[59]⟩ (numP E r))) w) := by
  obtain ⟨hN1, hN2⟩ := h.n
  have hmf : ∀ (fn : Fn) (first cap : Array Value) (w : World), (Instr.makeFunc fn first cap).run Tryd.prog w = .ok (.func fn first cap) w := fun _ _ _ _ => rfl
  have HT := hide (text_any h)
  simp only [textF] at HT
  rw [hc] at HT
  unfold wRuns at HT
  have HS := hide (saidNum h)
  have HJ := hide hj
  have hlt := hj.lt
  have hle := hj.le
  have hJs : J < w.heap.size := by omega
  have hRs : R < w.heap.size := by omega
  clear h hG hc hj
  generalize thenP E ⟨#[59]⟩ (numP E r) = q at *
  cases q with
  | error f =>
    unfold PE Ends at HS
    unfold updP SG Ends
    simp only at HS ⊢
    go_enter Tryd.func59, Tryd.ntmps59
    go_wp2_with fail
    refine HT.out.mono ?_
    rintro e w1 ⟨rfl, rfl⟩
    go_wp2_with fail
    refine HS.out.mono ?_
    rintro e w2 ⟨rfl, ho⟩
    have HO := hide (ho.mono (T := fun i => i = R ∨ i = J) (fun _ _ e => .inl e))
    clear ho
    go_wp2
    exact ⟨rfl, rfl, HO.out⟩
  | ok pr =>
    obtain ⟨p, r'⟩ := pr
    unfold PE Ends at HS
    unfold updP SG Ends
    simp only at HS ⊢
    go_enter Tryd.func59, Tryd.ntmps59
    go_wp2_with fail
    refine HT.out.mono ?_
    rintro e w1 ⟨rfl, rfl⟩
    go_wp2_with fail
    refine HS.out.mono ?_
    rintro e w2 ⟨v, rfl, rfl, hr, ho⟩
    have hsz := ho.size
    have HJ2 := hide (HJ.out.moved ho (fun b e => ⟨by omega, by omega⟩))
    have HO := hide (ho.mono (T := fun i => i = R ∨ i = J) (fun _ _ e => .inl e))
    have HR := hide hr
    clear hr ho
    have c22 : w2.cell? ⟨J, 22, none⟩ = some (.int .i64 x.runs) := (HJ2.out.cell 22).trans rfl
    have f22 : w2.frozen? ⟨J, 22, none⟩ = false := HJ2.out.frozen 22
    go_wp2
    go_end0
    have g0 := hset_same (k := 22) HJ2.out.blk (.int .i64 p)
    have hO : Only (· = J) w2 _ := (Only.refl _ _).trans (Only.set _ J 22 (.int .i64 p)) (fun _ _ e => e)
    have hh : _ = some (Obj.cells (jC { x with runs := p } s) 48 (0, 0)) := g0.trans (by kernel_rfl)
    have hput := HJ2.out.put (x' := { x with runs := p }) (s' := s) hh hO rfl rfl rfl rfl rfl rfl HJ2.out.days HJ2.out.work HJ2.out.inn
    exact ⟨rfl, ⟨_, hput⟩, HR.out.only ((Below.refl N _).setCell hNJ _), HO.out.trans (hO.mono (fun _ _ e => .inr e)) (fun _ _ h => h)⟩
set_option maxHeartbeats 8000000 in
set_option maxRecDepth 20000 in
theorem singleRetry {w : World} {R J b0 : Nat} {E : Int} {B N : Nat} {t : Tk} {r : List Tk} (h : Rdr w R E 0 B N (t :: r)) (hG : Few9 r) (hc : t.text = wRetry) {x : Jb} {s : JSl} (hj : JbAt b0 w J x s) (hNJ : N ≤ J) :
    Calls Tryd.prog 59 #[.pointer (some ⟨R, 0, none⟩), .pointer (some ⟨J, 0, none⟩)] w (SG R E B N J b0 (updP (fun n => { x with retry := n }) (thenP E ⟨#[59]⟩ (numP E r))) w) := by
  obtain ⟨hN1, hN2⟩ := h.n
  have hmf : ∀ (fn : Fn) (first cap : Array Value) (w : World), (Instr.makeFunc fn first cap).run Tryd.prog w = .ok (.func fn first cap) w := fun _ _ _ _ => rfl
  have HT := hide (text_any h)
  simp only [textF] at HT
  rw [hc] at HT
  unfold wRetry at HT
  have HS := hide (saidNum h)
  have HJ := hide hj
  have hlt := hj.lt
  have hle := hj.le
  have hJs : J < w.heap.size := by omega
  have hRs : R < w.heap.size := by omega
  clear h hG hc hj
  generalize thenP E ⟨#[59]⟩ (numP E r) = q at *
  cases q with
  | error f =>
    unfold PE Ends at HS
    unfold updP SG Ends
    simp only at HS ⊢
    go_enter Tryd.func59, Tryd.ntmps59
    go_wp2_with fail
    refine HT.out.mono ?_
    rintro e w1 ⟨rfl, rfl⟩
    go_wp2_with fail
    refine HS.out.mono ?_
    rintro e w2 ⟨rfl, ho⟩
    have HO := hide (ho.mono (T := fun i => i = R ∨ i = J) (fun _ _ e => .inl e))
    clear ho
    go_wp2
    exact ⟨rfl, rfl, HO.out⟩
  | ok pr =>
    obtain ⟨p, r'⟩ := pr
    unfold PE Ends at HS
    unfold updP SG Ends
    simp only at HS ⊢
    go_enter Tryd.func59, Tryd.ntmps59
    go_wp2_with fail
    refine HT.out.mono ?_
    rintro e w1 ⟨rfl, rfl⟩
    go_wp2_with fail
    refine HS.out.mono ?_
    rintro e w2 ⟨v, rfl, rfl, hr, ho⟩
    have hsz := ho.size
    have HJ2 := hide (HJ.out.moved ho (fun b e => ⟨by omega, by omega⟩))
    have HO := hide (ho.mono (T := fun i => i = R ∨ i = J) (fun _ _ e => .inl e))
    have HR := hide hr
    clear hr ho
    have c23 : w2.cell? ⟨J, 23, none⟩ = some (.int .i64 x.retry) := (HJ2.out.cell 23).trans rfl
    have f23 : w2.frozen? ⟨J, 23, none⟩ = false := HJ2.out.frozen 23
    go_wp2
    go_end0
    have g0 := hset_same (k := 23) HJ2.out.blk (.int .i64 p)
    have hO : Only (· = J) w2 _ := (Only.refl _ _).trans (Only.set _ J 23 (.int .i64 p)) (fun _ _ e => e)
    have hh : _ = some (Obj.cells (jC { x with retry := p } s) 48 (0, 0)) := g0.trans (by kernel_rfl)
    have hput := HJ2.out.put (x' := { x with retry := p }) (s' := s) hh hO rfl rfl rfl rfl rfl rfl HJ2.out.days HJ2.out.work HJ2.out.inn
    exact ⟨rfl, ⟨_, hput⟩, HR.out.only ((Below.refl N _).setCell hNJ _), HO.out.trans (hO.mono (fun _ _ e => .inr e)) (fun _ _ h => h)⟩
end Go.Proofs.YtkpgfhapffijkaaDoor

