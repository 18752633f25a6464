/- Some parts of the proof, one behind the other. -/
import Derived.Test.YtkpgfhapffijkaaDoorJfV
import Derived.Deep.AppendLies
/- Package jdl: an item of a source: begin, keep. Written by gen_item.py. -/
namespace Go.Proofs.YtkpgfhapffijkaaDoor
open Go.ChangeShapes Go.WideShapes Go.ChangeAt Go.RowKit Go.DsMem Go.DsLx Go.DsJd Go.DsMk
set_option linter.unusedVariables false
abbrev wBegin : ByteArray := ⟨#[98, 101, 103, 105, 110]⟩
abbrev wKeep : ByteArray := ⟨#[107, 101, 101, 112]⟩
abbrev wCal : ByteArray := ⟨#[99, 97, 108, 101, 110, 100, 97, 114]⟩
abbrev wRes : ByteArray := ⟨#[114, 101, 115, 111, 117, 114, 99, 101]⟩
abbrev wLock : ByteArray := ⟨#[108, 111, 99, 107]⟩
abbrev wJob : ByteArray := ⟨#[106, 111, 98]⟩
/-- how item ends -/
def PI (R : Nat) (E : Int) (B N X b0 : Nat) (q : Except Fl ((Srcp × List (Int × ByteArray)) × List Tk)) (w : World) : Ending → World → Prop :=
  Ends q (fun w' => Only (TJ R B X b0) w w') fun p e w' => e = .returned (.tuple #[]) ∧ (∃ s', SrcAt b0 w' X p.1.1 s') ∧ StM w' B p.1.2 ∧ Rdr w' R E 0 B N p.2 ∧ Only (TJ R B X b0) w w'
theorem PI.bad {w w' : World} {R X b0 : Nat} {E : Int} {B N : Nat} {q : Except Fl ((Srcp × List (Int × ByteArray)) × List Tk)} {f : Fl} (hq : q = .error f) (ho : Only (TJ R B X b0) w w') : PI R E B N X b0 q w (.panicked [{ v := flV f, recovered := false }]) w' := by
  subst hq
  exact ⟨rfl, ho⟩
theorem PI.good {w w' : World} {R X b0 : Nat} {E : Int} {B N : Nat} {q : Except Fl ((Srcp × List (Int × ByteArray)) × List Tk)} {x : Srcp} {S : List (Int × ByteArray)} {r : List Tk} (hq : q = .ok ((x, S), r)) (hj : ∃ s', SrcAt b0 w' X x s') (hs : StM w' B S) (hr : Rdr w' R E 0 B N r) (ho : Only (TJ R B X b0) w w') : PI R E B N X b0 q w (.returned (.tuple #[])) w' := by
  subst hq
  exact ⟨rfl, hj, hs, hr, ho⟩
theorem saidTime {w : World} {R : Nat} {E : Int} {B N : Nat} {t : Tk} {r : List Tk} (h : Rdr w R E 0 B N (t :: r)) :
    Calls Tryd.prog 29 #[.pointer (some ⟨R, 0, none⟩), .func (.func 30) #[.pointer (some ⟨R, 0, none⟩)] #[]] w (PE R E 0 B N (thenP E ⟨#[59]⟩ (timeP E r)) VI w) :=
  saidI h 30 #[.pointer (some ⟨R, 0, none⟩)] #[] (timeP E) (cf_of Tryd.func30 (by decide +kernel) (by kernel_rfl)) (fun w h => time_any h)
open Classical in
/-- what begin and keep read -/
noncomputable def onceP (E : Int) (S : List (Int × ByteArray)) (ws : List Tk) (f : Int → Srcp) (q : Except Fl (Int × List Tk)) : Except Fl ((Srcp × List (Int × ByteArray)) × List Tk) :=
  if (0, textF ws) ∈ S then .error (atF E ws, 22) else match q with | .error e => .error e | .ok (a, r) => .ok ((f a, (0, textF ws) :: S), r)
set_option maxHeartbeats 8000000 in
set_option maxRecDepth 20000 in
theorem itemBegin {w : World} {R X b0 : Nat} {E : Int} {B N : Nat} {t : Tk} {r : List Tk} (h : Rdr w R E 0 B N (t :: r)) (hc : t.text = wBegin) {x : Srcp} {s : SSl} (hj : SrcAt b0 w X x s) (hNX : N ≤ X) (hBX : B < X) (S : List (Int × ByteArray)) (hs : StM w B S) (hS : S.length ≤ 100000) :
    Calls Tryd.prog 22 #[.pointer (some ⟨R, 0, none⟩), .pointer (some ⟨X, 0, none⟩)] w (PI R E B N X b0 (onceP E S (t :: r) (fun a => { x with start := a }) (thenP E ⟨#[59]⟩ (timeP E r))) w) := by
  obtain ⟨hN1, hN2⟩ := h.n
  have hlt := hj.lt
  have hle := hj.le
  have hmf : ∀ (fn : Fn) (first cap : Array Value) (w : World), (Instr.makeFunc fn first cap).run Tryd.prog w = .ok (.func fn first cap) w := fun _ _ _ _ => rfl
  have HT := hide (text_any h)
  simp only [textF] at HT
  rw [hc] at HT
  unfold wBegin at HT
  have HO := hide (once_any h S hs 0 ⟨by simp only [textF]; rw [hc]; decide, by simp only; omega, by simp only; omega⟩ hS)
  have HSD : Hid (∀ w', Rdr w' R E 0 B N (t :: r) → Calls Tryd.prog 29 #[.pointer (some ⟨R, 0, none⟩), .func (.func 30) #[.pointer (some ⟨R, 0, none⟩)] #[]] w' (PE R E 0 B N (thenP E ⟨#[59]⟩ (timeP E r)) VI w')) := fun w' h => saidTime h
  have HBR : Hid (¬ B = R) := hide (fun e => by obtain ⟨es, clock, hm⟩ := hs.map; obtain ⟨uo, uc, o, h1, _⟩ := h; rw [e, h1] at hm; cases hm)
  have HX := hide hj
  have hXs : X < w.heap.size := by omega
  obtain ⟨Q, hQ⟩ : ∃ Q, onceP E S (t :: r) (fun a => { x with start := a }) (thenP E ⟨#[59]⟩ (timeP E r)) = Q := ⟨_, rfl⟩
  rw [hQ]
  unfold onceP at hQ
  have HQ := hide hQ
  clear h hc hj hs hS hQ
  unfold Onced at HO
  generalize ((0 : Int), textF (t :: r)) = y at *
  generalize thenP E ⟨#[59]⟩ (timeP E r) = q at *
  by_cases hin : y ∈ S
  · rw [if_pos hin] at HQ
    have HIN := hide hin
    clear HSD hin
    go_enter Tryd.func22, Tryd.ntmps22
    go_wp2_with fail
    refine HT.out.mono ?_
    rintro e w1 ⟨rfl, rfl⟩
    go_wp2_with fail
    refine HO.out.mono ?_
    intro e w2 hz
    rcases hz with ⟨_, rfl, ho⟩ | ⟨hn, _⟩
    · have HO2 := hide (ho.mono (T := TJ R B X b0) (fun i _ e => by rcases e with e | e; exact .inl e; exact .inr (.inl e)))
      clear ho
      go_wp2
      exact ⟨rfl, PI.bad HQ.out.symm HO2.out⟩
    · exact absurd HIN.out hn
  · rw [if_neg hin] at HQ
    have HIN := hide hin
    clear hin
    unfold PE Ends VI at HSD
    go_enter Tryd.func22, Tryd.ntmps22
    go_wp2_with fail
    refine HT.out.mono ?_
    rintro e w1 ⟨rfl, rfl⟩
    go_wp2_with fail
    refine HO.out.mono ?_
    intro e w2 hz
    rcases hz with ⟨hn, _⟩ | ⟨_, rfl, hsm, hr, ho⟩
    · exact absurd hn HIN.out
    · have hsz2 := ho.size
      have HSM := hide hsm
      have HR := hide hr
      have HX2 := hide (HX.out.moved ho (fun b e => by rcases e with e | e <;> omega))
      have HO2 := hide (ho.mono (T := TJ R B X b0) (fun i _ e => by rcases e with e | e; exact .inl e; exact .inr (.inl e)))
      clear hsm hr ho HO
      go_wp2_with fail
      refine (HSD.out _ HR.out).mono ?_
      intro e w3 hz
      cases q with
      | error f =>
        obtain ⟨rfl, ho3⟩ := hz
        have HO3 := hide (HO2.out.trans (ho3.mono (T := TJ R B X b0) (fun i _ e => .inl e)) (fun _ _ h => h))
        clear ho3
        go_wp2
        exact ⟨rfl, PI.bad HQ.out.symm HO3.out⟩
      | ok p =>
        obtain ⟨a, r'⟩ := p
        obtain ⟨v, rfl, rfl, hr3, ho3⟩ := hz
        have HX3 := hide (HX2.out.moved ho3 (fun b e => ⟨by omega, by omega⟩))
        have HSM3 := hide (HSM.out.only ho3 HBR.out)
        have HR3 := hide hr3
        have HO3 := hide (HO2.out.trans (ho3.mono (T := TJ R B X b0) (fun i _ e => .inl e)) (fun _ _ h => h))
        have c0 : w3.cell? ⟨X, 0, none⟩ = some (.int .i64 x.start) := (HX3.out.cell 0).trans rfl
        have f0 : w3.frozen? ⟨X, 0, none⟩ = false := HX3.out.frozen 0
        have hsz3 := ho3.size
        clear hr3 ho3
        go_wp2
        go_end0
        have g0 := hset_same (k := 0) HX3.out.blk (.int .i64 a)
        have hO : Only (· = X) w3 _ := Only.set w3 X 0 (.int .i64 a)
        exact PI.good HQ.out.symm ⟨_, HX3.out.put a x.keep (g0.trans (by kernel_rfl)) hO⟩ (HSM3.out.only hO (fun e => by omega)) (HR3.out.only (hO.toBelow (by omega) (fun i e => by omega))) (HO3.out.trans (hO.mono (fun _ _ e => .inr (.inr (.inl e)))) (fun _ _ h => h))
set_option maxHeartbeats 8000000 in
set_option maxRecDepth 20000 in
theorem itemKeep {w : World} {R X b0 : Nat} {E : Int} {B N : Nat} {t : Tk} {r : List Tk} (h : Rdr w R E 0 B N (t :: r)) (hc : t.text = wKeep) {x : Srcp} {s : SSl} (hj : SrcAt b0 w X x s) (hNX : N ≤ X) (hBX : B < X) (S : List (Int × ByteArray)) (hs : StM w B S) (hS : S.length ≤ 100000) :
    Calls Tryd.prog 22 #[.pointer (some ⟨R, 0, none⟩), .pointer (some ⟨X, 0, none⟩)] w (PI R E B N X b0 (onceP E S (t :: r) (fun a => { x with keep := a }) (thenP E ⟨#[59]⟩ (numP E r))) w) := by
  obtain ⟨hN1, hN2⟩ := h.n
  have hlt := hj.lt
  have hle := hj.le
  have hmf : ∀ (fn : Fn) (first cap : Array Value) (w : World), (Instr.makeFunc fn first cap).run Tryd.prog w = .ok (.func fn first cap) w := fun _ _ _ _ => rfl
  have HT := hide (text_any h)
  simp only [textF] at HT
  rw [hc] at HT
  unfold wKeep at HT
  have HO := hide (once_any h S hs 0 ⟨by simp only [textF]; rw [hc]; decide, by simp only; omega, by simp only; omega⟩ hS)
  have HSD : Hid (∀ w', Rdr w' R E 0 B N (t :: r) → Calls Tryd.prog 29 #[.pointer (some ⟨R, 0, none⟩), .func (.func 31) #[.pointer (some ⟨R, 0, none⟩)] #[]] w' (PE R E 0 B N (thenP E ⟨#[59]⟩ (numP E r)) VI w')) := fun w' h => saidNum h
  have HBR : Hid (¬ B = R) := hide (fun e => by obtain ⟨es, clock, hm⟩ := hs.map; obtain ⟨uo, uc, o, h1, _⟩ := h; rw [e, h1] at hm; cases hm)
  have HX := hide hj
  have hXs : X < w.heap.size := by omega
  obtain ⟨Q, hQ⟩ : ∃ Q, onceP E S (t :: r) (fun a => { x with keep := a }) (thenP E ⟨#[59]⟩ (numP E r)) = Q := ⟨_, rfl⟩
  rw [hQ]
  unfold onceP at hQ
  have HQ := hide hQ
  clear h hc hj hs hS hQ
  unfold Onced at HO
  generalize ((0 : Int), textF (t :: r)) = y at *
  generalize thenP E ⟨#[59]⟩ (numP E r) = q at *
  by_cases hin : y ∈ S
  · rw [if_pos hin] at HQ
    have HIN := hide hin
    clear HSD hin
    go_enter Tryd.func22, Tryd.ntmps22
    go_wp2_with fail
    refine HT.out.mono ?_
    rintro e w1 ⟨rfl, rfl⟩
    go_wp2_with fail
    refine HO.out.mono ?_
    intro e w2 hz
    rcases hz with ⟨_, rfl, ho⟩ | ⟨hn, _⟩
    · have HO2 := hide (ho.mono (T := TJ R B X b0) (fun i _ e => by rcases e with e | e; exact .inl e; exact .inr (.inl e)))
      clear ho
      go_wp2
      exact ⟨rfl, PI.bad HQ.out.symm HO2.out⟩
    · exact absurd HIN.out hn
  · rw [if_neg hin] at HQ
    have HIN := hide hin
    clear hin
    unfold PE Ends VI at HSD
    go_enter Tryd.func22, Tryd.ntmps22
    go_wp2_with fail
    refine HT.out.mono ?_
    rintro e w1 ⟨rfl, rfl⟩
    go_wp2_with fail
    refine HO.out.mono ?_
    intro e w2 hz
    rcases hz with ⟨hn, _⟩ | ⟨_, rfl, hsm, hr, ho⟩
    · exact absurd hn HIN.out
    · have hsz2 := ho.size
      have HSM := hide hsm
      have HR := hide hr
      have HX2 := hide (HX.out.moved ho (fun b e => by rcases e with e | e <;> omega))
      have HO2 := hide (ho.mono (T := TJ R B X b0) (fun i _ e => by rcases e with e | e; exact .inl e; exact .inr (.inl e)))
      clear hsm hr ho HO
      go_wp2_with fail
      refine (HSD.out _ HR.out).mono ?_
      intro e w3 hz
      cases q with
      | error f =>
        obtain ⟨rfl, ho3⟩ := hz
        have HO3 := hide (HO2.out.trans (ho3.mono (T := TJ R B X b0) (fun i _ e => .inl e)) (fun _ _ h => h))
        clear ho3
        go_wp2
        exact ⟨rfl, PI.bad HQ.out.symm HO3.out⟩
      | ok p =>
        obtain ⟨a, r'⟩ := p
        obtain ⟨v, rfl, rfl, hr3, ho3⟩ := hz
        have HX3 := hide (HX2.out.moved ho3 (fun b e => ⟨by omega, by omega⟩))
        have HSM3 := hide (HSM.out.only ho3 HBR.out)
        have HR3 := hide hr3
        have HO3 := hide (HO2.out.trans (ho3.mono (T := TJ R B X b0) (fun i _ e => .inl e)) (fun _ _ h => h))
        have c0 : w3.cell? ⟨X, 1, none⟩ = some (.int .i64 x.keep) := (HX3.out.cell 1).trans rfl
        have f0 : w3.frozen? ⟨X, 1, none⟩ = false := HX3.out.frozen 1
        have hsz3 := ho3.size
        clear hr3 ho3
        go_wp2
        go_end0
        have g0 := hset_same (k := 1) HX3.out.blk (.int .i64 a)
        have hO : Only (· = X) w3 _ := Only.set w3 X 1 (.int .i64 a)
        exact PI.good HQ.out.symm ⟨_, HX3.out.put x.start a (g0.trans (by kernel_rfl)) hO⟩ (HSM3.out.only hO (fun e => by omega)) (HR3.out.only (hO.toBelow (by omega) (fun i e => by omega))) (HO3.out.trans (hO.mono (fun _ _ e => .inr (.inr (.inl e)))) (fun _ _ h => h))
end Go.Proofs.YtkpgfhapffijkaaDoor

/- Package jdl: an item of a source: calendar. Written by gen_item2.py. -/
namespace Go.Proofs.YtkpgfhapffijkaaDoor
open Go.ChangeShapes Go.WideShapes Go.ChangeAt Go.RowKit Go.DsMem Go.DsLx Go.DsJd Go.DsMk
set_option linter.unusedVariables false
/-- what an item reads that is appended -/
def moreS {α : Type} (E : Int) (S : List (Int × ByteArray)) (ws : List Tk) (have_ most : Int) (f : α → Srcp) (q : Except Fl (α × List Tk)) : Except Fl ((Srcp × List (Int × ByteArray)) × List Tk) :=
  match roomP E ws have_ most with
  | .error f => .error f
  | .ok _ => match q with | .error f => .error f | .ok (a, r) => .ok ((f a, S), r)
theorem infoCal : (Tryd.prog.info? 83).map (fun i => (i.zero, i.size, i.bytes)) = some (some (.agg #[.string ⟨#[]⟩, .int .i64 0, .slice none 0 0, .slice none 0 0, .string ⟨#[]⟩]), 5, 88) := by kernel_rfl
theorem calC_one (p : ByteArray × Nd) (v : NVal) : ∀ u ∈ calC p v, u.oneCell' = true := by
  intro u hu
  simp only [calC, List.mem_cons, List.not_mem_nil, or_false] at hu
  rcases hu with rfl | rfl | rfl | rfl | rfl <;> rfl
theorem saidCal1 {w : World} {R : Nat} {E : Int} {B N : Nat} {t : Tk} {r : List Tk} (h : Rdr w R E 0 B N (t :: r)) (hG : Few9 r) :
    Calls Tryd.prog 33 #[.pointer (some ⟨R, 0, none⟩), .func (.func 34) #[.pointer (some ⟨R, 0, none⟩)] #[]] w (PE R E 0 B N (thenP E ⟨#[59]⟩ (calP E r)) VC w) := by
  have hR := h.lt
  refine saidCal h 34 #[.pointer (some ⟨R, 0, none⟩)] #[] (calP E) VC (cf_of Tryd.func34 (by decide +kernel) (by kernel_rfl)) ?_ ?_ ?_ (fun w h => calendar_any h hG)
  · rintro wA a v w1 ⟨nv, rfl, _⟩
    exact ⟨_, _, _, _, _, _, _, _, _, rfl⟩
  · rintro wA a v w1 w2 hs ⟨nv, rfl, hn⟩ ho
    exact ⟨nv, rfl, hn.mono (fun b hb => ⟨by omega, Nat.lt_of_lt_of_le hb.2 ho.size⟩) (fun ad u hB hc => ho.cell hc (by omega))⟩
  · rintro wA wB a v w1 hs ⟨nv, rfl, hn⟩
    exact ⟨nv, rfl, hn.mono (fun b hb => ⟨by omega, hb.2⟩) (fun _ _ _ hc => hc)⟩
set_option maxHeartbeats 8000000 in
set_option maxRecDepth 20000 in
theorem itemCal {w : World} {R X b0 : Nat} {E : Int} {B N : Nat} {t : Tk} {r : List Tk} (h : Rdr w R E 0 B N (t :: r)) (hG : Few9 r) (hc : t.text = wCal) {x : Srcp} {s : SSl} (hj : SrcAt b0 w X x s) (hNX : N ≤ X) (hBX : B < X) (S : List (Int × ByteArray)) (hs : StM w B S) :
    Calls Tryd.prog 22 #[.pointer (some ⟨R, 0, none⟩), .pointer (some ⟨X, 0, none⟩)] w (PI R E B N X b0 (moreS E S (t :: r) x.cals.length 24 (fun a => { x with cals := x.cals ++ [a] }) (thenP E ⟨#[59]⟩ (calP E r))) w) := by
  obtain ⟨hN1, hN2⟩ := h.n
  have hlt := hj.lt
  have hle := hj.le
  have hmf : ∀ (fn : Fn) (first cap : Array Value) (w : World), (Instr.makeFunc fn first cap).run Tryd.prog w = .ok (.func fn first cap) w := fun _ _ _ _ => rfl
  obtain ⟨i0, hi0, hz0, hz1, hz2⟩ := info_parts infoCal
  have HBR : Hid (¬ B = R) := hide (fun e => by obtain ⟨es, clock, hm⟩ := hs.map; obtain ⟨uo, uc, o, h1, _⟩ := h; rw [e, h1] at hm; cases hm)
  have HT := hide (text_any h)
  simp only [textF] at HT
  rw [hc] at HT
  unfold wCal at HT
  have HRM := hide (room_any h x.cals.length 24)
  have HS : Hid _ := hide (saidCal1 h.drew hG)
  have jc : w.cell? ⟨X, 2, none⟩ = some (.slice s.co x.cals.length s.cc) := (hj.cell 2).trans rfl
  have HX := hide hj
  have HSM := hide hs
  have hXs : X < w.heap.size := by omega
  obtain ⟨Q, hQ⟩ : ∃ Q, moreS E S (t :: r) x.cals.length 24 (fun a => { x with cals := x.cals ++ [a] }) (thenP E ⟨#[59]⟩ (calP E r)) = Q := ⟨_, rfl⟩
  rw [hQ]
  unfold moreS at hQ
  have HQ := hide hQ
  clear h hj hs hc hQ hG
  generalize (thenP E ⟨#[59]⟩ (calP E r)) = q at *
  have HRM2 : Hid (Calls Tryd.prog 32 #[.pointer (some ⟨R, 0, none⟩), .int .i64 x.cals.length, .int .i64 24] w fun e w' => ((∃ f, roomP E (t :: r) x.cals.length 24 = .error f ∧ e = .panicked [{ v := flV f, recovered := false }] ∧ Only (· = R) w w') ∨ (roomP E (t :: r) x.cals.length 24 = .ok () ∧ x.cals.length < 24 ∧ e = .returned (.tuple #[]) ∧ w' = w))) := by
    refine hide (HRM.out.mono ?_)
    intro e w' hz
    cases hroom : roomP E (t :: r) x.cals.length 24 with
    | error f => rw [hroom] at hz; exact .inl ⟨f, rfl, hz.1, hz.2⟩
    | ok u => rw [hroom] at hz; exact .inr ⟨rfl, by unfold roomP at hroom; split at hroom; cases hroom; omega, hz.1, hz.2⟩
  have HS2 : Hid (Calls Tryd.prog 33 #[.pointer (some ⟨R, 0, none⟩), .func (.func 34) #[.pointer (some ⟨R, 0, none⟩)] #[]] w.drew fun e w' => ((∃ f, q = .error f ∧ e = .panicked [{ v := flV f, recovered := false }] ∧ Only (· = R) w.drew w') ∨ (∃ (p : ByteArray × Nd) (r' : List Tk) (nv : NVal), q = .ok (p, r') ∧ e = .returned (.agg #[.string p.1, .int .i64 nv.op, .slice nv.no nv.nl nv.nc, .slice nv.ko nv.kl nv.kc, .string nv.nm]) ∧ NdOn (fun b => w.heap.size ≤ b ∧ b < w'.heap.size) w' nv p.2 ∧ Rdr w' R E 0 B N r' ∧ Only (· = R) w.drew w'))) := by
    refine hide (HS.out.mono ?_)
    intro e w' hz
    cases q with
    | error f => exact .inl ⟨f, rfl, hz.1, hz.2⟩
    | ok pr =>
      obtain ⟨p, r'⟩ := pr
      obtain ⟨v, rfl, ⟨nv, rfl, hon⟩, hr, ho⟩ := hz
      exact .inr ⟨p, r', nv, rfl, rfl, hon, hr, ho⟩
  clear HRM HS
  have KP : Hid (∀ w', Only ((· = R)) w.drew w' → w'.cell? ⟨X, 2, none⟩ = some (.slice s.co x.cals.length s.cc)) := fun w' ho => ho.cell (w := w.drew) jc (fun e => by (try simp only at e); omega)
  have KX : Hid (∀ w', Only ((· = R)) w.drew w' → SrcAt b0 w' X x s) := fun w' ho => HX.out.drew.moved ho (fun b e => by (try simp only at e); omega)
  have KZ : Hid (∀ w', Only ((· = R)) w.drew w' → w.heap.size ≤ w'.heap.size) := fun w' ho => ho.size
  have KROW : Hid (∀ w', Only ((· = R)) w.drew w' → ∀ ob, (w'.alloc ob).ownsRow b0 83 5 (.slice s.co x.cals.length s.cc) x.cals.length (rowCal s.KC 0 x.cals)) := fun w' ho ob => own_sameK (KX.out _ ho).cals (fun k hk => by have := (KX.out _ ho).cals.lt k hk; rw [((Below.refl w'.heap.size w').alloc (Nat.le_refl _) ob).block k (by omega)])
  have KY : Hid (∀ w', Only ((· = R)) w.drew w' → ∀ w3 ob, (w'.alloc ob).grownBy w3 (sCals x s).ownBlock → w3.cell? ⟨X, 2, none⟩ = some (.slice s.co x.cals.length s.cc) ∧ w3.frozen? ⟨X, 2, none⟩ = false ∧ X < w3.heap.size) := fun w' ho w3 ob hg => by
    have hA : Only (fun k => (sCals x s).ownBlock = some k) w' w3 := (Only.alloc _ w' _).trans (Only.grown hg) (fun i _ hi => hi)
    have hn : ¬ (sCals x s).ownBlock = some X := fun e => by have := ((KX.out _ ho).cals.lt X e).1; omega
    have hXw := block_lt (KX.out _ ho).blk
    have hbX := (hA.block X hXw hn).trans (KX.out _ ho).blk
    exact ⟨by rw [cell_of hbX]; rfl, frozen_of hbX, block_lt hbX⟩
  go_enter Tryd.func22, Tryd.ntmps22
  go_wp2_with fail
  refine HT.out.mono ?_
  rintro e w1 ⟨rfl, hw⟩
  obtain rfl := hw.symm
  clear hw
  go_wp2_with fail
  refine HRM2.out.mono ?_
  intro e w2 hz
  rcases hz with ⟨f, hq, rfl, ho⟩ | ⟨hq1, hn48, rfl, hw⟩
  · have HO := hide (ho.mono (T := TJ R B X b0) (fun _ _ e => .inl e))
    rw [hq] at HQ
    clear ho
    go_wp2
    exact ⟨rfl, PI.bad HQ.out.symm HO.out⟩
  obtain rfl := hw.symm
  rw [hq1] at HQ
  clear hq1 hw
  go_wp2_with fail
  go_region_law
    (first
      | (refine step_append_lies _ (by rfl) _ _ _ (by rfl) b0 83 i0 _ 5 88 Tryd.underlying22 hi0 hz0 hz1 hz2 rfl (by omega) (.slice s.co x.cals.length s.cc) x.cals.length (rowCal s.KC 0 x.cals) (by rfl) (HROW.out _)
              ⟨w2.heap.size, 0, none⟩ 1 1 (calC p nv) (by rfl) (by rfl) (World.news_of_block (cs := (calC p nv).toArray) (t := 83) (fr := (0, 0)) (heap_alloc_new w2 _)) (calC_one p nv)
              (by omega) (by unfold maxLen; omega) (by omega) (by simp; omega) (w2.heap.size + 1) (by simp) ?_; intro gg cap w3 hown3 hgrow hat hlt3; have hy3 := HY.out w3 _ hgrow; obtain ⟨y1, y2, y3⟩ := hy3)
      | (go_simp; go_wp2_with (go_at_call 33; refine HS2.out.mono ?_; intro e w2 hz; rcases hz with ⟨f, hq, rfl, ho⟩ | ⟨p, r', nv, hq2, rfl, hon, hr2, ho2⟩; (exact ⟨rfl, PI.bad (f := f) (by rw [← HQ.out, hq]) ((((Only.refl _ _).drew.trans ho (fun _ _ h => h)).mono (T := TJ R B X b0) (fun _ _ e => .inl e)))⟩); have HQ2 := hide hq2; clear hq2; have HR2 := hide hr2; have HO2 := hide ho2; have hs2 := ho2.size; have HON := hide hon; clear hon; have k0 := KP.out _ ho2; have HX2 := hide (KX.out _ ho2); have hs22 := KZ.out _ ho2; have HROW := hide (KROW.out _ ho2); have hle2 := (KX.out _ ho2).le; have hX2 : X < w2.heap.size := (by omega); have hX2n : ¬ X = w2.heap.size := (by omega); have HY := hide (KY.out _ ho2); clear hr2 ho2)))
  all_goals
    have HAD := hide (HX2.out.addCal p nv (HON.out.mono (fun b hb => HX.out.fresh hb) (fun _ _ _ h => h)) _ hown3 hgrow hat hlt3)
    have hA : Only (fun k => b0 ≤ k) w2 w3 := (Only.alloc _ w2 _).trans ((Only.grown hgrow).mono (fun i _ hi => (HX2.out.cals.lt i hi).1)) (fun i _ hi => hi)
    have hB : Only (TJ R B X b0) w2 (w3.setCell ⟨X, 2, none⟩ (.slice (some ⟨gg, 0, none⟩) (x.cals.length + 1) cap)) := (hA.mono (fun _ _ e => .inr (.inr (.inr e)))).trans (Only.set w3 X 2 _) (fun _ _ e => .inr (.inr (.inl e)))
    have HB := hide hB
    have HR3 : Hid (Rdr (w3.setCell ⟨X, 2, none⟩ (.slice (some ⟨gg, 0, none⟩) (x.cals.length + 1) cap)) R E 0 B N r') := hide (HR2.out.only (((hA.mono (T := fun k => b0 ≤ k ∨ k = X) (fun _ _ e => .inl e)).trans (Only.set w3 X 2 _) (fun _ _ e => .inr e)).toBelow (by omega) (fun i e => by rcases e with e | e <;> omega)))
    have HS3 : Hid (StM (w3.setCell ⟨X, 2, none⟩ (.slice (some ⟨gg, 0, none⟩) (x.cals.length + 1) cap)) B S) := hide (((show StM w.drew B S from HSM.out).only HO2.out HBR.out).only ((hA.mono (T := fun k => b0 ≤ k ∨ k = X) (fun _ _ e => .inl e)).trans (Only.set w3 X 2 _) (fun _ _ e => .inr e)) (fun e => by rcases e with e | e <;> omega))
    have HO3 := hide ((((Only.refl _ _).drew.trans HO2.out (fun _ _ h => h)).mono (T := TJ R B X b0) (fun _ _ e => .inl e)).trans HB.out (fun _ _ h => h))
    clear hown3 hgrow hat hA hB
    go_wp2
    go_end0
    exact PI.good (by rw [← HQ.out, HQ2.out]) ⟨_, HAD.out⟩ HS3.out HR3.out HO3.out
end Go.Proofs.YtkpgfhapffijkaaDoor

