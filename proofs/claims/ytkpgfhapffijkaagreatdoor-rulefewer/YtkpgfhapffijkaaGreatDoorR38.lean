/- Package jdl: an item of a source: begin, keep. Written by gen_item.py. -/
import Derived.Test.YtkpgfhapffijkaaGreatDoorR22
import Derived.Deep.AppendLies
import Derived.Deep.LoopGhost
namespace Go.Proofs.YtkpgfhapffijkaaGreatDoor
open Go.ChangeShapes Go.WideShapes Go.ChangeAt Go.RowKit Go.DsMem Go.DsLx Go.DsJd Go.DsMk
set_option linter.unusedVariables false
abbrev wBegin : ByteArray := ⟨#[98, 101, 103, 105, 110]⟩
abbrev wKeep : ByteArray := ⟨#[107, 101, 101, 112]⟩
abbrev wCal : ByteArray := ⟨#[99, 97, 108, 101, 110, 100, 97, 114]⟩
abbrev wRes : ByteArray := ⟨#[114, 101, 115, 111, 117, 114, 99, 101]⟩
abbrev wLock : ByteArray := ⟨#[108, 111, 99, 107]⟩
abbrev wJob : ByteArray := ⟨#[106, 111, 98]⟩
/-- how item ends -/
def PI (R : Nat) (E : Int) (B N X b0 : Nat) (q : Except Fl ((Srcp × List (Int × ByteArray)) × List Tk)) (w : World) : Ending → World → Prop :=
  Ends q (fun w' => Only (TJ R B X b0) w w') fun p e w' => e = .returned (.tuple #[]) ∧ (∃ s', SrcAt b0 w' X p.1.1 s') ∧ StM w' B p.1.2 ∧ Rdr w' R E 0 B N p.2 ∧ Only (TJ R B X b0) w w'
theorem PI.bad {w w' : World} {R X b0 : Nat} {E : Int} {B N : Nat} {q : Except Fl ((Srcp × List (Int × ByteArray)) × List Tk)} {f : Fl} (hq : q = .error f) (ho : Only (TJ R B X b0) w w') : PI R E B N X b0 q w (.panicked [{ v := flV f, recovered := false }]) w' := by
  subst hq
  exact ⟨rfl, ho⟩
theorem PI.good {w w' : World} {R X b0 : Nat} {E : Int} {B N : Nat} {q : Except Fl ((Srcp × List (Int × ByteArray)) × List Tk)} {x : Srcp} {S : List (Int × ByteArray)} {r : List Tk} (hq : q = .ok ((x, S), r)) (hj : ∃ s', SrcAt b0 w' X x s') (hs : StM w' B S) (hr : Rdr w' R E 0 B N r) (ho : Only (TJ R B X b0) w w') : PI R E B N X b0 q w (.returned (.tuple #[])) w' := by
  subst hq
  exact ⟨rfl, hj, hs, hr, ho⟩
theorem saidTime {w : World} {R : Nat} {E : Int} {B N : Nat} {t : Tk} {r : List Tk} (h : Rdr w R E 0 B N (t :: r)) :
    Calls Tryz.prog 97 #[.pointer (some ⟨R, 0, none⟩), .func (.func 98) #[.pointer (some ⟨R, 0, none⟩)] #[]] w (PE R E 0 B N (thenP E ⟨#[59]⟩ (timeP E r)) VI w) :=
  saidI h 98 #[.pointer (some ⟨R, 0, none⟩)] #[] (timeP E) (cf_of Tryz.func98 (by decide +kernel) (by kernel_rfl)) (fun w h => time_any h)
open Classical in
/-- what begin and keep read -/
noncomputable def onceP (E : Int) (S : List (Int × ByteArray)) (ws : List Tk) (f : Int → Srcp) (q : Except Fl (Int × List Tk)) : Except Fl ((Srcp × List (Int × ByteArray)) × List Tk) :=
  if (0, textF ws) ∈ S then .error (atF E ws, 22) else match q with | .error e => .error e | .ok (a, r) => .ok ((f a, (0, textF ws) :: S), r)
set_option maxHeartbeats 8000000 in
set_option maxRecDepth 20000 in
theorem itemBegin {w : World} {R X b0 : Nat} {E : Int} {B N : Nat} {t : Tk} {r : List Tk} (h : Rdr w R E 0 B N (t :: r)) (hc : t.text = wBegin) {x : Srcp} {s : SSl} (hj : SrcAt b0 w X x s) (hNX : N ≤ X) (hBX : B < X) (S : List (Int × ByteArray)) (hs : StM w B S) (hS : S.length ≤ 100000) :
    Calls Tryz.prog 75 #[.pointer (some ⟨R, 0, none⟩), .pointer (some ⟨X, 0, none⟩)] w (PI R E B N X b0 (onceP E S (t :: r) (fun a => { x with start := a }) (thenP E ⟨#[59]⟩ (timeP E r))) w) := by
  obtain ⟨hN1, hN2⟩ := h.n
  have hlt := hj.lt
  have hle := hj.le
  have hmf : ∀ (fn : Fn) (first cap : Array Value) (w : World), (Instr.makeFunc fn first cap).run Tryz.prog w = .ok (.func fn first cap) w := fun _ _ _ _ => rfl
  have HT := hide (text_any h)
  simp only [textF] at HT
  rw [hc] at HT
  unfold wBegin at HT
  have HO := hide (once_any h S hs 0 ⟨by simp only [textF]; rw [hc]; decide, by simp only; omega, by simp only; omega⟩ hS)
  have HSD : Hid (∀ w', Rdr w' R E 0 B N (t :: r) → Calls Tryz.prog 97 #[.pointer (some ⟨R, 0, none⟩), .func (.func 98) #[.pointer (some ⟨R, 0, none⟩)] #[]] w' (PE R E 0 B N (thenP E ⟨#[59]⟩ (timeP E r)) VI w')) := fun w' h => saidTime h
  have HBR : Hid (¬ B = R) := hide (fun e => by obtain ⟨es, clock, hm⟩ := hs.map; obtain ⟨uo, uc, o, h1, _⟩ := h; rw [e, h1] at hm; cases hm)
  have HX := hide hj
  have hXs : X < w.heap.size := by omega
  obtain ⟨Q, hQ⟩ : ∃ Q, onceP E S (t :: r) (fun a => { x with start := a }) (thenP E ⟨#[59]⟩ (timeP E r)) = Q := ⟨_, rfl⟩
  rw [hQ]
  unfold onceP at hQ
  have HQ := hide hQ
  clear h hc hj hs hS hQ
  unfold Onced at HO
  generalize ((0 : Int), textF (t :: r)) = y at *
  generalize thenP E ⟨#[59]⟩ (timeP E r) = q at *
  by_cases hin : y ∈ S
  · rw [if_pos hin] at HQ
    have HIN := hide hin
    clear HSD hin
    go_enter Tryz.func75, Tryz.ntmps75
    go_wp2_with fail
    refine HT.out.mono ?_
    rintro e w1 ⟨rfl, rfl⟩
    go_wp2_with fail
    refine HO.out.mono ?_
    intro e w2 hz
    rcases hz with ⟨_, rfl, ho⟩ | ⟨hn, _⟩
    · have HO2 := hide (ho.mono (T := TJ R B X b0) (fun i _ e => by rcases e with e | e; exact .inl e; exact .inr (.inl e)))
      clear ho
      go_wp2
      exact ⟨rfl, PI.bad HQ.out.symm HO2.out⟩
    · exact absurd HIN.out hn
  · rw [if_neg hin] at HQ
    have HIN := hide hin
    clear hin
    unfold PE Ends VI at HSD
    go_enter Tryz.func75, Tryz.ntmps75
    go_wp2_with fail
    refine HT.out.mono ?_
    rintro e w1 ⟨rfl, rfl⟩
    go_wp2_with fail
    refine HO.out.mono ?_
    intro e w2 hz
    rcases hz with ⟨hn, _⟩ | ⟨_, rfl, hsm, hr, ho⟩
    · exact absurd hn HIN.out
    · have hsz2 := ho.size
      have HSM := hide hsm
      have HR := hide hr
      have HX2 := hide (HX.out.moved ho (fun b e => by rcases e with e | e <;> omega))
      have HO2 := hide (ho.mono (T := TJ R B X b0) (fun i _ e => by rcases e with e | e; exact .inl e; exact .inr (.inl e)))
      clear hsm hr ho HO
      go_wp2_with fail
      refine (HSD.out _ HR.out).mono ?_
      intro e w3 hz
      cases q with
      | error f =>
        obtain ⟨rfl, ho3⟩ := hz
        have HO3 := hide (HO2.out.trans (ho3.mono (T := TJ R B X b0) (fun i _ e => .inl e)) (fun _ _ h => h))
        clear ho3
        go_wp2
        exact ⟨rfl, PI.bad HQ.out.symm HO3.out⟩
      | ok p =>
        obtain ⟨a, r'⟩ := p
        obtain ⟨v, rfl, rfl, hr3, ho3⟩ := hz
        have HX3 := hide (HX2.out.moved ho3 (fun b e => ⟨by omega, by omega⟩))
        have HSM3 := hide (HSM.out.only ho3 HBR.out)
        have HR3 := hide hr3
        have HO3 := hide (HO2.out.trans (ho3.mono (T := TJ R B X b0) (fun i _ e => .inl e)) (fun _ _ h => h))
        have c0 : w3.cell? ⟨X, 0, none⟩ = some (.int .i64 x.start) := (HX3.out.cell 0).trans rfl
        have f0 : w3.frozen? ⟨X, 0, none⟩ = false := HX3.out.frozen 0
        have hsz3 := ho3.size
        clear hr3 ho3
        go_wp2
        go_end0
        have g0 := hset_same (k := 0) HX3.out.blk (.int .i64 a)
        have hO : Only (· = X) w3 _ := Only.set w3 X 0 (.int .i64 a)
        exact PI.good HQ.out.symm ⟨_, HX3.out.put a x.keep (g0.trans (by kernel_rfl)) hO⟩ (HSM3.out.only hO (fun e => by omega)) (HR3.out.only (hO.toBelow (by omega) (fun i e => by omega))) (HO3.out.trans (hO.mono (fun _ _ e => .inr (.inr (.inl e)))) (fun _ _ h => h))
set_option maxHeartbeats 8000000 in
set_option maxRecDepth 20000 in
theorem itemKeep {w : World} {R X b0 : Nat} {E : Int} {B N : Nat} {t : Tk} {r : List Tk} (h : Rdr w R E 0 B N (t :: r)) (hc : t.text = wKeep) {x : Srcp} {s : SSl} (hj : SrcAt b0 w X x s) (hNX : N ≤ X) (hBX : B < X) (S : List (Int × ByteArray)) (hs : StM w B S) (hS : S.length ≤ 100000) :
    Calls Tryz.prog 75 #[.pointer (some ⟨R, 0, none⟩), .pointer (some ⟨X, 0, none⟩)] w (PI R E B N X b0 (onceP E S (t :: r) (fun a => { x with keep := a }) (thenP E ⟨#[59]⟩ (numP E r))) w) := by
  obtain ⟨hN1, hN2⟩ := h.n
  have hlt := hj.lt
  have hle := hj.le
  have hmf : ∀ (fn : Fn) (first cap : Array Value) (w : World), (Instr.makeFunc fn first cap).run Tryz.prog w = .ok (.func fn first cap) w := fun _ _ _ _ => rfl
  have HT := hide (text_any h)
  simp only [textF] at HT
  rw [hc] at HT
  unfold wKeep at HT
  have HO := hide (once_any h S hs 0 ⟨by simp only [textF]; rw [hc]; decide, by simp only; omega, by simp only; omega⟩ hS)
  have HSD : Hid (∀ w', Rdr w' R E 0 B N (t :: r) → Calls Tryz.prog 97 #[.pointer (some ⟨R, 0, none⟩), .func (.func 99) #[.pointer (some ⟨R, 0, none⟩)] #[]] w' (PE R E 0 B N (thenP E ⟨#[59]⟩ (numP E r)) VI w')) := fun w' h => saidNum h
  have HBR : Hid (¬ B = R) := hide (fun e => by obtain ⟨es, clock, hm⟩ := hs.map; obtain ⟨uo, uc, o, h1, _⟩ := h; rw [e, h1] at hm; cases hm)
  have HX := hide hj
  have hXs : X < w.heap.size := by omega
  obtain ⟨Q, hQ⟩ : ∃ Q, onceP E S (t :: r) (fun a => { x with keep := a }) (thenP E ⟨#[59]⟩ (numP E r)) = Q := ⟨_, rfl⟩
  rw [hQ]
  unfold onceP at hQ
  have HQ := hide hQ
  clear h hc hj hs hS hQ
  unfold Onced at HO
  generalize ((0 : Int), textF (t :: r)) = y at *
  generalize thenP E ⟨#[59]⟩ (numP E r) = q at *
  by_cases hin : y ∈ S
  · rw [if_pos hin] at HQ
    have HIN := hide hin
    clear HSD hin
    go_enter Tryz.func75, Tryz.ntmps75
    go_wp2_with fail
    refine HT.out.mono ?_
    rintro e w1 ⟨rfl, rfl⟩
    go_wp2_with fail
    refine HO.out.mono ?_
    intro e w2 hz
    rcases hz with ⟨_, rfl, ho⟩ | ⟨hn, _⟩
    · have HO2 := hide (ho.mono (T := TJ R B X b0) (fun i _ e => by rcases e with e | e; exact .inl e; exact .inr (.inl e)))
      clear ho
      go_wp2
      exact ⟨rfl, PI.bad HQ.out.symm HO2.out⟩
    · exact absurd HIN.out hn
  · rw [if_neg hin] at HQ
    have HIN := hide hin
    clear hin
    unfold PE Ends VI at HSD
    go_enter Tryz.func75, Tryz.ntmps75
    go_wp2_with fail
    refine HT.out.mono ?_
    rintro e w1 ⟨rfl, rfl⟩
    go_wp2_with fail
    refine HO.out.mono ?_
    intro e w2 hz
    rcases hz with ⟨hn, _⟩ | ⟨_, rfl, hsm, hr, ho⟩
    · exact absurd hn HIN.out
    · have hsz2 := ho.size
      have HSM := hide hsm
      have HR := hide hr
      have HX2 := hide (HX.out.moved ho (fun b e => by rcases e with e | e <;> omega))
      have HO2 := hide (ho.mono (T := TJ R B X b0) (fun i _ e => by rcases e with e | e; exact .inl e; exact .inr (.inl e)))
      clear hsm hr ho HO
      go_wp2_with fail
      refine (HSD.out _ HR.out).mono ?_
      intro e w3 hz
      cases q with
      | error f =>
        obtain ⟨rfl, ho3⟩ := hz
        have HO3 := hide (HO2.out.trans (ho3.mono (T := TJ R B X b0) (fun i _ e => .inl e)) (fun _ _ h => h))
        clear ho3
        go_wp2
        exact ⟨rfl, PI.bad HQ.out.symm HO3.out⟩
      | ok p =>
        obtain ⟨a, r'⟩ := p
        obtain ⟨v, rfl, rfl, hr3, ho3⟩ := hz
        have HX3 := hide (HX2.out.moved ho3 (fun b e => ⟨by omega, by omega⟩))
        have HSM3 := hide (HSM.out.only ho3 HBR.out)
        have HR3 := hide hr3
        have HO3 := hide (HO2.out.trans (ho3.mono (T := TJ R B X b0) (fun i _ e => .inl e)) (fun _ _ h => h))
        have c0 : w3.cell? ⟨X, 1, none⟩ = some (.int .i64 x.keep) := (HX3.out.cell 1).trans rfl
        have f0 : w3.frozen? ⟨X, 1, none⟩ = false := HX3.out.frozen 1
        have hsz3 := ho3.size
        clear hr3 ho3
        go_wp2
        go_end0
        have g0 := hset_same (k := 1) HX3.out.blk (.int .i64 a)
        have hO : Only (· = X) w3 _ := Only.set w3 X 1 (.int .i64 a)
        exact PI.good HQ.out.symm ⟨_, HX3.out.put x.start a (g0.trans (by kernel_rfl)) hO⟩ (HSM3.out.only hO (fun e => by omega)) (HR3.out.only (hO.toBelow (by omega) (fun i e => by omega))) (HO3.out.trans (hO.mono (fun _ _ e => .inr (.inr (.inl e)))) (fun _ _ h => h))
end Go.Proofs.YtkpgfhapffijkaaGreatDoor

/- Package jdl: an item of a source: calendar. Written by gen_item2.py. -/
namespace Go.Proofs.YtkpgfhapffijkaaGreatDoor
open Go.ChangeShapes Go.WideShapes Go.ChangeAt Go.RowKit Go.DsMem Go.DsLx Go.DsJd Go.DsMk
set_option linter.unusedVariables false
/-- what an item reads that is appended -/
def moreS {α : Type} (E : Int) (S : List (Int × ByteArray)) (ws : List Tk) (have_ most : Int) (f : α → Srcp) (q : Except Fl (α × List Tk)) : Except Fl ((Srcp × List (Int × ByteArray)) × List Tk) :=
  match roomP E ws have_ most with
  | .error f => .error f
  | .ok _ => match q with | .error f => .error f | .ok (a, r) => .ok ((f a, S), r)
theorem infoCal : (Tryz.prog.info? 105).map (fun i => (i.zero, i.size, i.bytes)) = some (some (.agg #[.string ⟨#[]⟩, .int .i64 0, .slice none 0 0, .slice none 0 0, .string ⟨#[]⟩]), 5, 88) := by kernel_rfl
theorem calC_one (p : ByteArray × Nd) (v : NVal) : ∀ u ∈ calC p v, u.oneCell' = true := by
  intro u hu
  simp only [calC, List.mem_cons, List.not_mem_nil, or_false] at hu
  rcases hu with rfl | rfl | rfl | rfl | rfl <;> rfl
theorem saidCal1 {w : World} {R : Nat} {E : Int} {B N : Nat} {t : Tk} {r : List Tk} (h : Rdr w R E 0 B N (t :: r)) (hG : Few9 r) :
    Calls Tryz.prog 101 #[.pointer (some ⟨R, 0, none⟩), .func (.func 102) #[.pointer (some ⟨R, 0, none⟩)] #[]] w (PE R E 0 B N (thenP E ⟨#[59]⟩ (calP E r)) VC w) := by
  have hR := h.lt
  refine saidCal h 102 #[.pointer (some ⟨R, 0, none⟩)] #[] (calP E) VC (cf_of Tryz.func102 (by decide +kernel) (by kernel_rfl)) ?_ ?_ ?_ (fun w h => calendar_any h hG)
  · rintro wA a v w1 ⟨nv, rfl, _⟩
    exact ⟨_, _, _, _, _, _, _, _, _, rfl⟩
  · rintro wA a v w1 w2 hs ⟨nv, rfl, hn⟩ ho
    exact ⟨nv, rfl, hn.mono (fun b hb => ⟨by omega, Nat.lt_of_lt_of_le hb.2 ho.size⟩) (fun ad u hB hc => ho.cell hc (by omega))⟩
  · rintro wA wB a v w1 hs ⟨nv, rfl, hn⟩
    exact ⟨nv, rfl, hn.mono (fun b hb => ⟨by omega, hb.2⟩) (fun _ _ _ hc => hc)⟩
set_option maxHeartbeats 8000000 in
set_option maxRecDepth 20000 in
theorem itemCal {w : World} {R X b0 : Nat} {E : Int} {B N : Nat} {t : Tk} {r : List Tk} (h : Rdr w R E 0 B N (t :: r)) (hG : Few9 r) (hc : t.text = wCal) {x : Srcp} {s : SSl} (hj : SrcAt b0 w X x s) (hNX : N ≤ X) (hBX : B < X) (S : List (Int × ByteArray)) (hs : StM w B S) :
    Calls Tryz.prog 75 #[.pointer (some ⟨R, 0, none⟩), .pointer (some ⟨X, 0, none⟩)] w (PI R E B N X b0 (moreS E S (t :: r) x.cals.length 24 (fun a => { x with cals := x.cals ++ [a] }) (thenP E ⟨#[59]⟩ (calP E r))) w) := by
  obtain ⟨hN1, hN2⟩ := h.n
  have hlt := hj.lt
  have hle := hj.le
  have hmf : ∀ (fn : Fn) (first cap : Array Value) (w : World), (Instr.makeFunc fn first cap).run Tryz.prog w = .ok (.func fn first cap) w := fun _ _ _ _ => rfl
  obtain ⟨i0, hi0, hz0, hz1, hz2⟩ := info_parts infoCal
  have HBR : Hid (¬ B = R) := hide (fun e => by obtain ⟨es, clock, hm⟩ := hs.map; obtain ⟨uo, uc, o, h1, _⟩ := h; rw [e, h1] at hm; cases hm)
  have HT := hide (text_any h)
  simp only [textF] at HT
  rw [hc] at HT
  unfold wCal at HT
  have HRM := hide (room_any h x.cals.length 24)
  have HS : Hid _ := hide (saidCal1 h.drew hG)
  have jc : w.cell? ⟨X, 2, none⟩ = some (.slice s.co x.cals.length s.cc) := (hj.cell 2).trans rfl
  have HX := hide hj
  have HSM := hide hs
  have hXs : X < w.heap.size := by omega
  obtain ⟨Q, hQ⟩ : ∃ Q, moreS E S (t :: r) x.cals.length 24 (fun a => { x with cals := x.cals ++ [a] }) (thenP E ⟨#[59]⟩ (calP E r)) = Q := ⟨_, rfl⟩
  rw [hQ]
  unfold moreS at hQ
  have HQ := hide hQ
  clear h hj hs hc hQ hG
  generalize (thenP E ⟨#[59]⟩ (calP E r)) = q at *
  have HRM2 : Hid (Calls Tryz.prog 100 #[.pointer (some ⟨R, 0, none⟩), .int .i64 x.cals.length, .int .i64 24] w fun e w' => ((∃ f, roomP E (t :: r) x.cals.length 24 = .error f ∧ e = .panicked [{ v := flV f, recovered := false }] ∧ Only (· = R) w w') ∨ (roomP E (t :: r) x.cals.length 24 = .ok () ∧ x.cals.length < 24 ∧ e = .returned (.tuple #[]) ∧ w' = w))) := by
    refine hide (HRM.out.mono ?_)
    intro e w' hz
    cases hroom : roomP E (t :: r) x.cals.length 24 with
    | error f => rw [hroom] at hz; exact .inl ⟨f, rfl, hz.1, hz.2⟩
    | ok u => rw [hroom] at hz; exact .inr ⟨rfl, by unfold roomP at hroom; split at hroom; cases hroom; omega, hz.1, hz.2⟩
  have HS2 : Hid (Calls Tryz.prog 101 #[.pointer (some ⟨R, 0, none⟩), .func (.func 102) #[.pointer (some ⟨R, 0, none⟩)] #[]] w.drew fun e w' => ((∃ f, q = .error f ∧ e = .panicked [{ v := flV f, recovered := false }] ∧ Only (· = R) w.drew w') ∨ (∃ (p : ByteArray × Nd) (r' : List Tk) (nv : NVal), q = .ok (p, r') ∧ e = .returned (.agg #[.string p.1, .int .i64 nv.op, .slice nv.no nv.nl nv.nc, .slice nv.ko nv.kl nv.kc, .string nv.nm]) ∧ NdOn (fun b => w.heap.size ≤ b ∧ b < w'.heap.size) w' nv p.2 ∧ Rdr w' R E 0 B N r' ∧ Only (· = R) w.drew w'))) := by
    refine hide (HS.out.mono ?_)
    intro e w' hz
    cases q with
    | error f => exact .inl ⟨f, rfl, hz.1, hz.2⟩
    | ok pr =>
      obtain ⟨p, r'⟩ := pr
      obtain ⟨v, rfl, ⟨nv, rfl, hon⟩, hr, ho⟩ := hz
      exact .inr ⟨p, r', nv, rfl, rfl, hon, hr, ho⟩
  clear HRM HS
  have KP : Hid (∀ w', Only ((· = R)) w.drew w' → w'.cell? ⟨X, 2, none⟩ = some (.slice s.co x.cals.length s.cc)) := fun w' ho => ho.cell (w := w.drew) jc (fun e => by (try simp only at e); omega)
  have KX : Hid (∀ w', Only ((· = R)) w.drew w' → SrcAt b0 w' X x s) := fun w' ho => HX.out.drew.moved ho (fun b e => by (try simp only at e); omega)
  have KZ : Hid (∀ w', Only ((· = R)) w.drew w' → w.heap.size ≤ w'.heap.size) := fun w' ho => ho.size
  have KROW : Hid (∀ w', Only ((· = R)) w.drew w' → ∀ ob, (w'.alloc ob).ownsRow b0 105 5 (.slice s.co x.cals.length s.cc) x.cals.length (rowCal s.KC 0 x.cals)) := fun w' ho ob => own_sameK (KX.out _ ho).cals (fun k hk => by have := (KX.out _ ho).cals.lt k hk; rw [((Below.refl w'.heap.size w').alloc (Nat.le_refl _) ob).block k (by omega)])
  have KY : Hid (∀ w', Only ((· = R)) w.drew w' → ∀ w3 ob, (w'.alloc ob).grownBy w3 (sCals x s).ownBlock → w3.cell? ⟨X, 2, none⟩ = some (.slice s.co x.cals.length s.cc) ∧ w3.frozen? ⟨X, 2, none⟩ = false ∧ X < w3.heap.size) := fun w' ho w3 ob hg => by
    have hA : Only (fun k => (sCals x s).ownBlock = some k) w' w3 := (Only.alloc _ w' _).trans (Only.grown hg) (fun i _ hi => hi)
    have hn : ¬ (sCals x s).ownBlock = some X := fun e => by have := ((KX.out _ ho).cals.lt X e).1; omega
    have hXw := block_lt (KX.out _ ho).blk
    have hbX := (hA.block X hXw hn).trans (KX.out _ ho).blk
    exact ⟨by rw [cell_of hbX]; rfl, frozen_of hbX, block_lt hbX⟩
  go_enter Tryz.func75, Tryz.ntmps75
  go_wp2_with fail
  refine HT.out.mono ?_
  rintro e w1 ⟨rfl, hw⟩
  obtain rfl := hw.symm
  clear hw
  go_wp2_with fail
  refine HRM2.out.mono ?_
  intro e w2 hz
  rcases hz with ⟨f, hq, rfl, ho⟩ | ⟨hq1, hn48, rfl, hw⟩
  · have HO := hide (ho.mono (T := TJ R B X b0) (fun _ _ e => .inl e))
    rw [hq] at HQ
    clear ho
    go_wp2
    exact ⟨rfl, PI.bad HQ.out.symm HO.out⟩
  obtain rfl := hw.symm
  rw [hq1] at HQ
  clear hq1 hw
  go_wp2_with fail
  go_region_law
    (first
      | (refine step_append_lies _ (by rfl) _ _ _ (by rfl) b0 105 i0 _ 5 88 Tryz.underlying22 hi0 hz0 hz1 hz2 rfl (by omega) (.slice s.co x.cals.length s.cc) x.cals.length (rowCal s.KC 0 x.cals) (by rfl) (HROW.out _)
              ⟨w2.heap.size, 0, none⟩ 1 1 (calC p nv) (by rfl) (by rfl) (World.news_of_block (cs := (calC p nv).toArray) (t := 105) (fr := (0, 0)) (heap_alloc_new w2 _)) (calC_one p nv)
              (by omega) (by unfold maxLen; omega) (by omega) (by simp; omega) (w2.heap.size + 1) (by simp) ?_; intro gg cap w3 hown3 hgrow hat hlt3; have hy3 := HY.out w3 _ hgrow; obtain ⟨y1, y2, y3⟩ := hy3)
      | (go_simp; go_wp2_with (go_at_call 101; refine HS2.out.mono ?_; intro e w2 hz; rcases hz with ⟨f, hq, rfl, ho⟩ | ⟨p, r', nv, hq2, rfl, hon, hr2, ho2⟩; (exact ⟨rfl, PI.bad (f := f) (by rw [← HQ.out, hq]) ((((Only.refl _ _).drew.trans ho (fun _ _ h => h)).mono (T := TJ R B X b0) (fun _ _ e => .inl e)))⟩); have HQ2 := hide hq2; clear hq2; have HR2 := hide hr2; have HO2 := hide ho2; have hs2 := ho2.size; have HON := hide hon; clear hon; have k0 := KP.out _ ho2; have HX2 := hide (KX.out _ ho2); have hs22 := KZ.out _ ho2; have HROW := hide (KROW.out _ ho2); have hle2 := (KX.out _ ho2).le; have hX2 : X < w2.heap.size := (by omega); have hX2n : ¬ X = w2.heap.size := (by omega); have HY := hide (KY.out _ ho2); clear hr2 ho2)))
  all_goals
    have HAD := hide (HX2.out.addCal p nv (HON.out.mono (fun b hb => HX.out.fresh hb) (fun _ _ _ h => h)) _ hown3 hgrow hat hlt3)
    have hA : Only (fun k => b0 ≤ k) w2 w3 := (Only.alloc _ w2 _).trans ((Only.grown hgrow).mono (fun i _ hi => (HX2.out.cals.lt i hi).1)) (fun i _ hi => hi)
    have hB : Only (TJ R B X b0) w2 (w3.setCell ⟨X, 2, none⟩ (.slice (some ⟨gg, 0, none⟩) (x.cals.length + 1) cap)) := (hA.mono (fun _ _ e => .inr (.inr (.inr e)))).trans (Only.set w3 X 2 _) (fun _ _ e => .inr (.inr (.inl e)))
    have HB := hide hB
    have HR3 : Hid (Rdr (w3.setCell ⟨X, 2, none⟩ (.slice (some ⟨gg, 0, none⟩) (x.cals.length + 1) cap)) R E 0 B N r') := hide (HR2.out.only (((hA.mono (T := fun k => b0 ≤ k ∨ k = X) (fun _ _ e => .inl e)).trans (Only.set w3 X 2 _) (fun _ _ e => .inr e)).toBelow (by omega) (fun i e => by rcases e with e | e <;> omega)))
    have HS3 : Hid (StM (w3.setCell ⟨X, 2, none⟩ (.slice (some ⟨gg, 0, none⟩) (x.cals.length + 1) cap)) B S) := hide (((show StM w.drew B S from HSM.out).only HO2.out HBR.out).only ((hA.mono (T := fun k => b0 ≤ k ∨ k = X) (fun _ _ e => .inl e)).trans (Only.set w3 X 2 _) (fun _ _ e => .inr e)) (fun e => by rcases e with e | e <;> omega))
    have HO3 := hide ((((Only.refl _ _).drew.trans HO2.out (fun _ _ h => h)).mono (T := TJ R B X b0) (fun _ _ e => .inl e)).trans HB.out (fun _ _ h => h))
    clear hown3 hgrow hat hA hB
    go_wp2
    go_end0
    exact PI.good (by rw [← HQ.out, HQ2.out]) ⟨_, HAD.out⟩ HS3.out HR3.out HO3.out
end Go.Proofs.YtkpgfhapffijkaaGreatDoor

/- Package jdl: an item of a source: resource, lock. Written by gen_item2.py. -/
namespace Go.Proofs.YtkpgfhapffijkaaGreatDoor
open Go.ChangeShapes Go.WideShapes Go.ChangeAt Go.RowKit Go.DsMem Go.DsLx Go.DsJd Go.DsMk
set_option linter.unusedVariables false
theorem infoRes : (Tryz.prog.info? 32).map (fun i => (i.zero, i.size, i.bytes)) = some (some (.agg #[.string ⟨#[]⟩, .int .i64 0, .bool false]), 3, 32) := by kernel_rfl
theorem rsC_one (p : Rs) : ∀ u ∈ rsC p, u.oneCell' = true := by
  intro u hu
  simp only [rsC, List.mem_cons, List.not_mem_nil, or_false] at hu
  rcases hu with rfl | rfl | rfl <;> rfl
theorem saidRes1 {w : World} {R : Nat} {E : Int} {B N : Nat} {t : Tk} {r : List Tk} (h : Rdr w R E 0 B N (t :: r)) :
    Calls Tryz.prog 103 #[.pointer (some ⟨R, 0, none⟩), .func (.func 104) #[.pointer (some ⟨R, 0, none⟩)] #[]] w (PE R E 0 B N (thenP E ⟨#[59]⟩ (twoP (nameP E) (numP E) r)) VRes w) := by
  refine saidRes h 104 #[.pointer (some ⟨R, 0, none⟩)] #[] (twoP (nameP E) (numP E)) VRes (cf_of Tryz.func104 (by decide +kernel) (by kernel_rfl)) ?_ ?_ ?_ (fun w h => resource_any h)
  · rintro wA a v w1 rfl
    exact ⟨_, _, _, rfl⟩
  · rintro wA a v w1 w2 hs rfl ho
    rfl
  · rintro wA wB a v w1 hs rfl
    rfl
theorem saidLock1 {w : World} {R : Nat} {E : Int} {B N : Nat} {t : Tk} {r : List Tk} (h : Rdr w R E 0 B N (t :: r)) :
    Calls Tryz.prog 103 #[.pointer (some ⟨R, 0, none⟩), .func (.func 105) #[.pointer (some ⟨R, 0, none⟩)] #[]] w (PE R E 0 B N (thenP E ⟨#[59]⟩ (nameP E r)) VLock w) := by
  refine saidRes h 105 #[.pointer (some ⟨R, 0, none⟩)] #[] (nameP E) VLock (cf_of Tryz.func105 (by decide +kernel) (by kernel_rfl)) ?_ ?_ ?_ (fun w h => lock_any h)
  · rintro wA a v w1 rfl
    exact ⟨_, _, _, rfl⟩
  · rintro wA a v w1 w2 hs rfl ho
    rfl
  · rintro wA wB a v w1 hs rfl
    rfl
set_option maxHeartbeats 8000000 in
set_option maxRecDepth 20000 in
theorem itemRes {w : World} {R X b0 : Nat} {E : Int} {B N : Nat} {t : Tk} {r : List Tk} (h : Rdr w R E 0 B N (t :: r)) (hc : t.text = wRes) {x : Srcp} {s : SSl} (hj : SrcAt b0 w X x s) (hNX : N ≤ X) (hBX : B < X) (S : List (Int × ByteArray)) (hs : StM w B S) :
    Calls Tryz.prog 75 #[.pointer (some ⟨R, 0, none⟩), .pointer (some ⟨X, 0, none⟩)] w (PI R E B N X b0 (moreS E S (t :: r) x.res.length 12 (fun p => { x with res := x.res ++ [(p.1, (p.2, false))] }) (thenP E ⟨#[59]⟩ (twoP (nameP E) (numP E) r))) w) := by
  obtain ⟨hN1, hN2⟩ := h.n
  have hlt := hj.lt
  have hle := hj.le
  have hmf : ∀ (fn : Fn) (first cap : Array Value) (w : World), (Instr.makeFunc fn first cap).run Tryz.prog w = .ok (.func fn first cap) w := fun _ _ _ _ => rfl
  obtain ⟨i0, hi0, hz0, hz1, hz2⟩ := info_parts infoRes
  have HBR : Hid (¬ B = R) := hide (fun e => by obtain ⟨es, clock, hm⟩ := hs.map; obtain ⟨uo, uc, o, h1, _⟩ := h; rw [e, h1] at hm; cases hm)
  have HT := hide (text_any h)
  simp only [textF] at HT
  rw [hc] at HT
  unfold wRes at HT
  have HRM := hide (room_any h x.res.length 12)
  have HS : Hid _ := hide (saidRes1 h.drew)
  have jc : w.cell? ⟨X, 3, none⟩ = some (.slice s.ro x.res.length s.rc) := (hj.cell 3).trans rfl
  have HX := hide hj
  have HSM := hide hs
  have hXs : X < w.heap.size := by omega
  obtain ⟨Q, hQ⟩ : ∃ Q, moreS E S (t :: r) x.res.length 12 (fun p => { x with res := x.res ++ [(p.1, (p.2, false))] }) (thenP E ⟨#[59]⟩ (twoP (nameP E) (numP E) r)) = Q := ⟨_, rfl⟩
  rw [hQ]
  unfold moreS at hQ
  have HQ := hide hQ
  clear h hj hs hc hQ
  generalize (thenP E ⟨#[59]⟩ (twoP (nameP E) (numP E) r)) = q at *
  have HRM2 : Hid (Calls Tryz.prog 100 #[.pointer (some ⟨R, 0, none⟩), .int .i64 x.res.length, .int .i64 12] w fun e w' => ((∃ f, roomP E (t :: r) x.res.length 12 = .error f ∧ e = .panicked [{ v := flV f, recovered := false }] ∧ Only (· = R) w w') ∨ (roomP E (t :: r) x.res.length 12 = .ok () ∧ x.res.length < 12 ∧ e = .returned (.tuple #[]) ∧ w' = w))) := by
    refine hide (HRM.out.mono ?_)
    intro e w' hz
    cases hroom : roomP E (t :: r) x.res.length 12 with
    | error f => rw [hroom] at hz; exact .inl ⟨f, rfl, hz.1, hz.2⟩
    | ok u => rw [hroom] at hz; exact .inr ⟨rfl, by unfold roomP at hroom; split at hroom; cases hroom; omega, hz.1, hz.2⟩
  have HS2 : Hid (Calls Tryz.prog 103 #[.pointer (some ⟨R, 0, none⟩), .func (.func 104) #[.pointer (some ⟨R, 0, none⟩)] #[]] w.drew fun e w' => ((∃ f, q = .error f ∧ e = .panicked [{ v := flV f, recovered := false }] ∧ Only (· = R) w.drew w') ∨ (∃ (p : ByteArray × Int) (r' : List Tk), q = .ok (p, r') ∧ e = .returned (.agg #[.string p.1, .int .i64 p.2, .bool false]) ∧ Rdr w' R E 0 B N r' ∧ Only (· = R) w.drew w'))) := by
    refine hide (HS.out.mono ?_)
    intro e w' hz
    cases q with
    | error f => exact .inl ⟨f, rfl, hz.1, hz.2⟩
    | ok pr =>
      obtain ⟨p, r'⟩ := pr
      obtain ⟨v, rfl, rfl, hr, ho⟩ := hz
      exact .inr ⟨p, r', rfl, rfl, hr, ho⟩
  clear HRM HS
  have KP : Hid (∀ w', Only ((· = R)) w.drew w' → w'.cell? ⟨X, 3, none⟩ = some (.slice s.ro x.res.length s.rc)) := fun w' ho => ho.cell (w := w.drew) jc (fun e => by (try simp only at e); omega)
  have KX : Hid (∀ w', Only ((· = R)) w.drew w' → SrcAt b0 w' X x s) := fun w' ho => HX.out.drew.moved ho (fun b e => by (try simp only at e); omega)
  have KZ : Hid (∀ w', Only ((· = R)) w.drew w' → w.heap.size ≤ w'.heap.size) := fun w' ho => ho.size
  have KROW : Hid (∀ w', Only ((· = R)) w.drew w' → ∀ ob, (w'.alloc ob).ownsRow b0 32 3 (.slice s.ro x.res.length s.rc) x.res.length (rsRow x.res)) := fun w' ho ob => own_sameK (KX.out _ ho).res (fun k hk => by have := (KX.out _ ho).res.lt k hk; rw [((Below.refl w'.heap.size w').alloc (Nat.le_refl _) ob).block k (by omega)])
  have KY : Hid (∀ w', Only ((· = R)) w.drew w' → ∀ w3 ob, (w'.alloc ob).grownBy w3 (sRes x s).ownBlock → w3.cell? ⟨X, 3, none⟩ = some (.slice s.ro x.res.length s.rc) ∧ w3.frozen? ⟨X, 3, none⟩ = false ∧ X < w3.heap.size) := fun w' ho w3 ob hg => by
    have hA : Only (fun k => (sRes x s).ownBlock = some k) w' w3 := (Only.alloc _ w' _).trans (Only.grown hg) (fun i _ hi => hi)
    have hn : ¬ (sRes x s).ownBlock = some X := fun e => by have := ((KX.out _ ho).res.lt X e).1; omega
    have hXw := block_lt (KX.out _ ho).blk
    have hbX := (hA.block X hXw hn).trans (KX.out _ ho).blk
    exact ⟨by rw [cell_of hbX]; rfl, frozen_of hbX, block_lt hbX⟩
  go_enter Tryz.func75, Tryz.ntmps75
  go_wp2_with fail
  refine HT.out.mono ?_
  rintro e w1 ⟨rfl, hw⟩
  obtain rfl := hw.symm
  clear hw
  go_wp2_with fail
  refine HRM2.out.mono ?_
  intro e w2 hz
  rcases hz with ⟨f, hq, rfl, ho⟩ | ⟨hq1, hn48, rfl, hw⟩
  · have HO := hide (ho.mono (T := TJ R B X b0) (fun _ _ e => .inl e))
    rw [hq] at HQ
    clear ho
    go_wp2
    exact ⟨rfl, PI.bad HQ.out.symm HO.out⟩
  obtain rfl := hw.symm
  rw [hq1] at HQ
  clear hq1 hw
  go_wp2_with fail
  go_region_law
    (first
      | (refine step_append_lies _ (by rfl) _ _ _ (by rfl) b0 32 i0 _ 3 32 Tryz.underlying23 hi0 hz0 hz1 hz2 rfl (by omega) (.slice s.ro x.res.length s.rc) x.res.length (rsRow x.res) (by rfl) (HROW.out _)
              ⟨w2.heap.size, 0, none⟩ 1 1 (rsC (p.1, (p.2, false))) (by rfl) (by rfl) (World.news_of_block (cs := (rsC (p.1, (p.2, false))).toArray) (t := 32) (fr := (0, 0)) (heap_alloc_new w2 _)) (rsC_one (p.1, (p.2, false)))
              (by omega) (by unfold maxLen; omega) (by omega) (by simp; omega) (w2.heap.size + 1) (by simp) ?_; intro gg cap w3 hown3 hgrow hat hlt3; have hy3 := HY.out w3 _ hgrow; obtain ⟨y1, y2, y3⟩ := hy3)
      | (go_simp; go_wp2_with (go_at_call 103; refine HS2.out.mono ?_; intro e w2 hz; rcases hz with ⟨f, hq, rfl, ho⟩ | ⟨p, r', hq2, rfl, hr2, ho2⟩; (exact ⟨rfl, PI.bad (f := f) (by rw [← HQ.out, hq]) ((((Only.refl _ _).drew.trans ho (fun _ _ h => h)).mono (T := TJ R B X b0) (fun _ _ e => .inl e)))⟩); have HQ2 := hide hq2; clear hq2; have HR2 := hide hr2; have HO2 := hide ho2; have hs2 := ho2.size; have k0 := KP.out _ ho2; have HX2 := hide (KX.out _ ho2); have hs22 := KZ.out _ ho2; have HROW := hide (KROW.out _ ho2); have hle2 := (KX.out _ ho2).le; have hX2 : X < w2.heap.size := (by omega); have hX2n : ¬ X = w2.heap.size := (by omega); have HY := hide (KY.out _ ho2); clear hr2 ho2)))
  all_goals
    have HAD := hide (HX2.out.addRes (p.1, (p.2, false)) _ hown3 hgrow hat hlt3)
    have hA : Only (fun k => b0 ≤ k) w2 w3 := (Only.alloc _ w2 _).trans ((Only.grown hgrow).mono (fun i _ hi => (HX2.out.res.lt i hi).1)) (fun i _ hi => hi)
    have hB : Only (TJ R B X b0) w2 (w3.setCell ⟨X, 3, none⟩ (.slice (some ⟨gg, 0, none⟩) (x.res.length + 1) cap)) := (hA.mono (fun _ _ e => .inr (.inr (.inr e)))).trans (Only.set w3 X 3 _) (fun _ _ e => .inr (.inr (.inl e)))
    have HB := hide hB
    have HR3 : Hid (Rdr (w3.setCell ⟨X, 3, none⟩ (.slice (some ⟨gg, 0, none⟩) (x.res.length + 1) cap)) R E 0 B N r') := hide (HR2.out.only (((hA.mono (T := fun k => b0 ≤ k ∨ k = X) (fun _ _ e => .inl e)).trans (Only.set w3 X 3 _) (fun _ _ e => .inr e)).toBelow (by omega) (fun i e => by rcases e with e | e <;> omega)))
    have HS3 : Hid (StM (w3.setCell ⟨X, 3, none⟩ (.slice (some ⟨gg, 0, none⟩) (x.res.length + 1) cap)) B S) := hide (((show StM w.drew B S from HSM.out).only HO2.out HBR.out).only ((hA.mono (T := fun k => b0 ≤ k ∨ k = X) (fun _ _ e => .inl e)).trans (Only.set w3 X 3 _) (fun _ _ e => .inr e)) (fun e => by rcases e with e | e <;> omega))
    have HO3 := hide ((((Only.refl _ _).drew.trans HO2.out (fun _ _ h => h)).mono (T := TJ R B X b0) (fun _ _ e => .inl e)).trans HB.out (fun _ _ h => h))
    clear hown3 hgrow hat hA hB
    go_wp2
    go_end0
    exact PI.good (by rw [← HQ.out, HQ2.out]) ⟨_, HAD.out⟩ HS3.out HR3.out HO3.out
set_option maxHeartbeats 8000000 in
set_option maxRecDepth 20000 in
theorem itemLock {w : World} {R X b0 : Nat} {E : Int} {B N : Nat} {t : Tk} {r : List Tk} (h : Rdr w R E 0 B N (t :: r)) (hc : t.text = wLock) {x : Srcp} {s : SSl} (hj : SrcAt b0 w X x s) (hNX : N ≤ X) (hBX : B < X) (S : List (Int × ByteArray)) (hs : StM w B S) :
    Calls Tryz.prog 75 #[.pointer (some ⟨R, 0, none⟩), .pointer (some ⟨X, 0, none⟩)] w (PI R E B N X b0 (moreS E S (t :: r) x.res.length 12 (fun p => { x with res := x.res ++ [(p, (0, true))] }) (thenP E ⟨#[59]⟩ (nameP E r))) w) := by
  obtain ⟨hN1, hN2⟩ := h.n
  have hlt := hj.lt
  have hle := hj.le
  have hmf : ∀ (fn : Fn) (first cap : Array Value) (w : World), (Instr.makeFunc fn first cap).run Tryz.prog w = .ok (.func fn first cap) w := fun _ _ _ _ => rfl
  obtain ⟨i0, hi0, hz0, hz1, hz2⟩ := info_parts infoRes
  have HBR : Hid (¬ B = R) := hide (fun e => by obtain ⟨es, clock, hm⟩ := hs.map; obtain ⟨uo, uc, o, h1, _⟩ := h; rw [e, h1] at hm; cases hm)
  have HT := hide (text_any h)
  simp only [textF] at HT
  rw [hc] at HT
  unfold wLock at HT
  have HRM := hide (room_any h x.res.length 12)
  have HS : Hid _ := hide (saidLock1 h.drew)
  have jc : w.cell? ⟨X, 3, none⟩ = some (.slice s.ro x.res.length s.rc) := (hj.cell 3).trans rfl
  have HX := hide hj
  have HSM := hide hs
  have hXs : X < w.heap.size := by omega
  obtain ⟨Q, hQ⟩ : ∃ Q, moreS E S (t :: r) x.res.length 12 (fun p => { x with res := x.res ++ [(p, (0, true))] }) (thenP E ⟨#[59]⟩ (nameP E r)) = Q := ⟨_, rfl⟩
  rw [hQ]
  unfold moreS at hQ
  have HQ := hide hQ
  clear h hj hs hc hQ
  generalize (thenP E ⟨#[59]⟩ (nameP E r)) = q at *
  have HRM2 : Hid (Calls Tryz.prog 100 #[.pointer (some ⟨R, 0, none⟩), .int .i64 x.res.length, .int .i64 12] w fun e w' => ((∃ f, roomP E (t :: r) x.res.length 12 = .error f ∧ e = .panicked [{ v := flV f, recovered := false }] ∧ Only (· = R) w w') ∨ (roomP E (t :: r) x.res.length 12 = .ok () ∧ x.res.length < 12 ∧ e = .returned (.tuple #[]) ∧ w' = w))) := by
    refine hide (HRM.out.mono ?_)
    intro e w' hz
    cases hroom : roomP E (t :: r) x.res.length 12 with
    | error f => rw [hroom] at hz; exact .inl ⟨f, rfl, hz.1, hz.2⟩
    | ok u => rw [hroom] at hz; exact .inr ⟨rfl, by unfold roomP at hroom; split at hroom; cases hroom; omega, hz.1, hz.2⟩
  have HS2 : Hid (Calls Tryz.prog 103 #[.pointer (some ⟨R, 0, none⟩), .func (.func 105) #[.pointer (some ⟨R, 0, none⟩)] #[]] w.drew fun e w' => ((∃ f, q = .error f ∧ e = .panicked [{ v := flV f, recovered := false }] ∧ Only (· = R) w.drew w') ∨ (∃ (p : ByteArray) (r' : List Tk), q = .ok (p, r') ∧ e = .returned (.agg #[.string p, .int .i64 0, .bool true]) ∧ Rdr w' R E 0 B N r' ∧ Only (· = R) w.drew w'))) := by
    refine hide (HS.out.mono ?_)
    intro e w' hz
    cases q with
    | error f => exact .inl ⟨f, rfl, hz.1, hz.2⟩
    | ok pr =>
      obtain ⟨p, r'⟩ := pr
      obtain ⟨v, rfl, rfl, hr, ho⟩ := hz
      exact .inr ⟨p, r', rfl, rfl, hr, ho⟩
  clear HRM HS
  have KP : Hid (∀ w', Only ((· = R)) w.drew w' → w'.cell? ⟨X, 3, none⟩ = some (.slice s.ro x.res.length s.rc)) := fun w' ho => ho.cell (w := w.drew) jc (fun e => by (try simp only at e); omega)
  have KX : Hid (∀ w', Only ((· = R)) w.drew w' → SrcAt b0 w' X x s) := fun w' ho => HX.out.drew.moved ho (fun b e => by (try simp only at e); omega)
  have KZ : Hid (∀ w', Only ((· = R)) w.drew w' → w.heap.size ≤ w'.heap.size) := fun w' ho => ho.size
  have KROW : Hid (∀ w', Only ((· = R)) w.drew w' → ∀ ob, (w'.alloc ob).ownsRow b0 32 3 (.slice s.ro x.res.length s.rc) x.res.length (rsRow x.res)) := fun w' ho ob => own_sameK (KX.out _ ho).res (fun k hk => by have := (KX.out _ ho).res.lt k hk; rw [((Below.refl w'.heap.size w').alloc (Nat.le_refl _) ob).block k (by omega)])
  have KY : Hid (∀ w', Only ((· = R)) w.drew w' → ∀ w3 ob, (w'.alloc ob).grownBy w3 (sRes x s).ownBlock → w3.cell? ⟨X, 3, none⟩ = some (.slice s.ro x.res.length s.rc) ∧ w3.frozen? ⟨X, 3, none⟩ = false ∧ X < w3.heap.size) := fun w' ho w3 ob hg => by
    have hA : Only (fun k => (sRes x s).ownBlock = some k) w' w3 := (Only.alloc _ w' _).trans (Only.grown hg) (fun i _ hi => hi)
    have hn : ¬ (sRes x s).ownBlock = some X := fun e => by have := ((KX.out _ ho).res.lt X e).1; omega
    have hXw := block_lt (KX.out _ ho).blk
    have hbX := (hA.block X hXw hn).trans (KX.out _ ho).blk
    exact ⟨by rw [cell_of hbX]; rfl, frozen_of hbX, block_lt hbX⟩
  go_enter Tryz.func75, Tryz.ntmps75
  go_wp2_with fail
  refine HT.out.mono ?_
  rintro e w1 ⟨rfl, hw⟩
  obtain rfl := hw.symm
  clear hw
  go_wp2_with fail
  refine HRM2.out.mono ?_
  intro e w2 hz
  rcases hz with ⟨f, hq, rfl, ho⟩ | ⟨hq1, hn48, rfl, hw⟩
  · have HO := hide (ho.mono (T := TJ R B X b0) (fun _ _ e => .inl e))
    rw [hq] at HQ
    clear ho
    go_wp2
    exact ⟨rfl, PI.bad HQ.out.symm HO.out⟩
  obtain rfl := hw.symm
  rw [hq1] at HQ
  clear hq1 hw
  go_wp2_with fail
  go_region_law
    (first
      | (refine step_append_lies _ (by rfl) _ _ _ (by rfl) b0 32 i0 _ 3 32 Tryz.underlying23 hi0 hz0 hz1 hz2 rfl (by omega) (.slice s.ro x.res.length s.rc) x.res.length (rsRow x.res) (by rfl) (HROW.out _)
              ⟨w2.heap.size, 0, none⟩ 1 1 (rsC (p, (0, true))) (by rfl) (by rfl) (World.news_of_block (cs := (rsC (p, (0, true))).toArray) (t := 32) (fr := (0, 0)) (heap_alloc_new w2 _)) (rsC_one (p, (0, true)))
              (by omega) (by unfold maxLen; omega) (by omega) (by simp; omega) (w2.heap.size + 1) (by simp) ?_; intro gg cap w3 hown3 hgrow hat hlt3; have hy3 := HY.out w3 _ hgrow; obtain ⟨y1, y2, y3⟩ := hy3)
      | (go_simp; go_wp2_with (go_at_call 103; refine HS2.out.mono ?_; intro e w2 hz; rcases hz with ⟨f, hq, rfl, ho⟩ | ⟨p, r', hq2, rfl, hr2, ho2⟩; (exact ⟨rfl, PI.bad (f := f) (by rw [← HQ.out, hq]) ((((Only.refl _ _).drew.trans ho (fun _ _ h => h)).mono (T := TJ R B X b0) (fun _ _ e => .inl e)))⟩); have HQ2 := hide hq2; clear hq2; have HR2 := hide hr2; have HO2 := hide ho2; have hs2 := ho2.size; have k0 := KP.out _ ho2; have HX2 := hide (KX.out _ ho2); have hs22 := KZ.out _ ho2; have HROW := hide (KROW.out _ ho2); have hle2 := (KX.out _ ho2).le; have hX2 : X < w2.heap.size := (by omega); have hX2n : ¬ X = w2.heap.size := (by omega); have HY := hide (KY.out _ ho2); clear hr2 ho2)))
  all_goals
    have HAD := hide (HX2.out.addRes (p, (0, true)) _ hown3 hgrow hat hlt3)
    have hA : Only (fun k => b0 ≤ k) w2 w3 := (Only.alloc _ w2 _).trans ((Only.grown hgrow).mono (fun i _ hi => (HX2.out.res.lt i hi).1)) (fun i _ hi => hi)
    have hB : Only (TJ R B X b0) w2 (w3.setCell ⟨X, 3, none⟩ (.slice (some ⟨gg, 0, none⟩) (x.res.length + 1) cap)) := (hA.mono (fun _ _ e => .inr (.inr (.inr e)))).trans (Only.set w3 X 3 _) (fun _ _ e => .inr (.inr (.inl e)))
    have HB := hide hB
    have HR3 : Hid (Rdr (w3.setCell ⟨X, 3, none⟩ (.slice (some ⟨gg, 0, none⟩) (x.res.length + 1) cap)) R E 0 B N r') := hide (HR2.out.only (((hA.mono (T := fun k => b0 ≤ k ∨ k = X) (fun _ _ e => .inl e)).trans (Only.set w3 X 3 _) (fun _ _ e => .inr e)).toBelow (by omega) (fun i e => by rcases e with e | e <;> omega)))
    have HS3 : Hid (StM (w3.setCell ⟨X, 3, none⟩ (.slice (some ⟨gg, 0, none⟩) (x.res.length + 1) cap)) B S) := hide (((show StM w.drew B S from HSM.out).only HO2.out HBR.out).only ((hA.mono (T := fun k => b0 ≤ k ∨ k = X) (fun _ _ e => .inl e)).trans (Only.set w3 X 3 _) (fun _ _ e => .inr e)) (fun e => by rcases e with e | e <;> omega))
    have HO3 := hide ((((Only.refl _ _).drew.trans HO2.out (fun _ _ h => h)).mono (T := TJ R B X b0) (fun _ _ e => .inl e)).trans HB.out (fun _ _ h => h))
    clear hown3 hgrow hat hA hB
    go_wp2
    go_end0
    exact PI.good (by rw [← HQ.out, HQ2.out]) ⟨_, HAD.out⟩ HS3.out HR3.out HO3.out
end Go.Proofs.YtkpgfhapffijkaaGreatDoor

/- Package jdl: an item of a source: job. Written by gen_item2.py. -/
namespace Go.Proofs.YtkpgfhapffijkaaGreatDoor
open Go.ChangeShapes Go.WideShapes Go.ChangeAt Go.RowKit Go.DsMem Go.DsLx Go.DsJd Go.DsMk
set_option linter.unusedVariables false
theorem infoJob : (Tryz.prog.info? 56).map (fun i => (i.size, i.bytes)) = some (24, 336) := by kernel_rfl
theorem infoJobZ : (Tryz.prog.info? 56).bind (fun i => i.zero) = some (.agg #[.string ⟨#[]⟩, .int .i64 0, .slice none 0 0, .slice none 0 0, .string ⟨#[]⟩, .bool false, .int .i64 0, .int .i64 0, .slice none 0 0, .slice none 0 0, .string ⟨#[]⟩, .int .i64 0, .int .i64 0, .int .i64 0, .string ⟨#[]⟩, .int .i64 0, .slice none 0 0, .slice none 0 0, .slice none 0 0, .int .i64 0, .int .i64 0, .int .i64 0, .int .i64 0, .int .i64 0]) := by kernel_rfl
theorem jC_one (x : Jb) (s : JSl) : ∀ u ∈ (jC x s).toList, u.oneCell' = true := by
  intro u hu
  simp only [jC, List.mem_cons, List.not_mem_nil, or_false] at hu
  rcases hu with rfl | rfl | rfl | rfl | rfl | rfl | rfl | rfl | rfl | rfl | rfl | rfl | rfl | rfl | rfl | rfl | rfl | rfl | rfl | rfl | rfl | rfl | rfl | rfl <;> rfl
theorem zipGo (l : List Value) : ∀ (k : Nat) (pre z : List Value), pre.length = k → z.length = l.length → List.foldl (fun (cs : Array Value) (x : Value × Nat) => cs.setIfInBounds x.snd x.fst) (pre ++ z).toArray (l.zipIdx k) = (pre ++ l).toArray := by
  induction l with
  | nil => intro k pre z hk hz; simp at hz; subst hz; rfl
  | cons a l ih =>
    intro k pre z hk hz
    cases z with
    | nil => simp at hz
    | cons b z =>
      simp only [List.zipIdx_cons, List.foldl_cons]
      have e : (pre ++ b :: z).toArray.setIfInBounds k a = ((pre ++ [a]) ++ z).toArray := by
        subst hk
        simp [List.setIfInBounds_toArray]
      rw [e, ih (k + 1) (pre ++ [a]) z (by simp [hk]) (by simpa using hz)]
      simp
theorem fold24 (cs z : Array Value) (h : cs.size = 24) (hz : z.size = 24) : Array.foldl (fun (cs : Array Value) (x : Value × Nat) => cs.setIfInBounds x.snd x.fst) z cs.zipIdx 0 24 = cs := by
  obtain ⟨l, rfl⟩ : ∃ l : List Value, cs = l.toArray := ⟨cs.toList, rfl⟩
  obtain ⟨y, rfl⟩ : ∃ l : List Value, z = l.toArray := ⟨z.toList, rfl⟩
  have h : l.length = 24 := by simpa using h
  have hz : y.length = 24 := by simpa using hz
  have e : (24 : Nat) = l.toArray.zipIdx.size := by simp [h]
  rw [e]
  rw [← Array.foldl_toList]
  have := zipGo l 0 [] y rfl (by omega)
  simpa using this
/-- what an item reads that is a job -/
noncomputable def jobS (E : Int) (S : List (Int × ByteArray)) (x : Srcp) (ws : List Tk) (q : Except Fl ((Jb × List (Int × ByteArray)) × List Tk)) : Except Fl ((Srcp × List (Int × ByteArray)) × List Tk) :=
  match roomP E ws x.jobs.length 48 with
  | .error f => .error f
  | .ok _ => match q with | .error f => .error f | .ok (p, r) => .ok (({ x with jobs := x.jobs ++ [p.1] }, p.2), r)
set_option maxHeartbeats 8000000 in
set_option maxRecDepth 20000 in
theorem itemJob {w : World} {R X b0 : Nat} {E : Int} {B N : Nat} {t : Tk} {r : List Tk} (h : Rdr w R E 0 B N (t :: r)) (hG : Few9 r) (hW : FitW r) (hc : t.text = wJob) {x : Srcp} {s : SSl} (hj : SrcAt b0 w X x s) (hNX : N ≤ X) (hBX : B < X) (S : List (Int × ByteArray)) (hs : StM w B S) (hS : S.length + r.length ≤ 100000) :
    Calls Tryz.prog 75 #[.pointer (some ⟨R, 0, none⟩), .pointer (some ⟨X, 0, none⟩)] w (PI R E B N X b0 (jobS E S x (t :: r) (jobP E (x.jobs.length + 1) S (t :: r))) w) := by
  obtain ⟨hN1, hN2⟩ := h.n
  have hlt := hj.lt
  have hle := hj.le
  have hmf : ∀ (fn : Fn) (first cap : Array Value) (w : World), (Instr.makeFunc fn first cap).run Tryz.prog w = .ok (.func fn first cap) w := fun _ _ _ _ => rfl
  obtain ⟨i0, hi0, hz1, hz2⟩ : ∃ i0, Tryz.prog.info? 56 = some i0 ∧ i0.size = 24 ∧ i0.bytes = 336 := by
    have := infoJob
    cases hh : Tryz.prog.info? 56 with
    | none => rw [hh] at this; cases this
    | some i => rw [hh] at this; simp at this; exact ⟨i, rfl, this.1, this.2⟩
  obtain ⟨z0, hzc, hz0⟩ : ∃ z0 : Value, z0.cells.size = 24 ∧ i0.zero = some z0 := ⟨.agg #[.string ⟨#[]⟩, .int .i64 0, .slice none 0 0, .slice none 0 0, .string ⟨#[]⟩, .bool false, .int .i64 0, .int .i64 0, .slice none 0 0, .slice none 0 0, .string ⟨#[]⟩, .int .i64 0, .int .i64 0, .int .i64 0, .string ⟨#[]⟩, .int .i64 0, .slice none 0 0, .slice none 0 0, .slice none 0 0, .int .i64 0, .int .i64 0, .int .i64 0, .int .i64 0, .int .i64 0], by rfl, by have := infoJobZ; rw [hi0] at this; exact this⟩
  have HBR : Hid (¬ B = R) := hide (fun e => by obtain ⟨es, clock, hm⟩ := hs.map; obtain ⟨uo, uc, o, h1, _⟩ := h; rw [e, h1] at hm; cases hm)
  have HT := hide (text_any h)
  simp only [textF] at HT
  rw [hc] at HT
  unfold wJob at HT
  have HRM := hide (room_any h x.jobs.length 48)
  have HS0 : Hid (x.jobs.length < 48 → Calls Tryz.prog 106 #[.pointer (some ⟨R, 0, none⟩), .int .i64 (x.jobs.length + 1)] w.drew (PJ R E B N (jobP E (x.jobs.length + 1) S (t :: r)) w.drew)) := hide (fun h48 => job_any h.drew hG hW (x.jobs.length + 1) (by omega) (by omega) S hs hS)
  have jc : w.cell? ⟨X, 4, none⟩ = some (.slice s.jo x.jobs.length s.jc) := (hj.cell 4).trans rfl
  have HX := hide hj
  have HSM := hide hs
  have hXs : X < w.heap.size := by omega
  obtain ⟨Q, hQ⟩ : ∃ Q, jobS E S x (t :: r) (jobP E (x.jobs.length + 1) S (t :: r)) = Q := ⟨_, rfl⟩
  rw [hQ]
  unfold jobS at hQ
  have HQ := hide hQ
  clear h hj hs hc hQ hG hW hS
  generalize (jobP E (x.jobs.length + 1) S (t :: r)) = q at *
  have HRM2 : Hid (Calls Tryz.prog 100 #[.pointer (some ⟨R, 0, none⟩), .int .i64 x.jobs.length, .int .i64 48] w fun e w' => ((∃ f, roomP E (t :: r) x.jobs.length 48 = .error f ∧ e = .panicked [{ v := flV f, recovered := false }] ∧ Only (· = R) w w') ∨ (roomP E (t :: r) x.jobs.length 48 = .ok () ∧ x.jobs.length < 48 ∧ e = .returned (.tuple #[]) ∧ w' = w))) := by
    refine hide (HRM.out.mono ?_)
    intro e w' hz
    cases hroom : roomP E (t :: r) x.jobs.length 48 with
    | error f => rw [hroom] at hz; exact .inl ⟨f, rfl, hz.1, hz.2⟩
    | ok u => rw [hroom] at hz; exact .inr ⟨rfl, by unfold roomP at hroom; split at hroom; cases hroom; omega, hz.1, hz.2⟩
  have HS2 : Hid (x.jobs.length < 48 → Calls Tryz.prog 106 #[.pointer (some ⟨R, 0, none⟩), .int .i64 (x.jobs.length + 1)] w.drew fun e w' => ((∃ f, q = .error f ∧ e = .panicked [{ v := flV f, recovered := false }] ∧ Only (fun i => i = R ∨ i = B) w.drew w') ∨ (∃ (p : Jb) (S' : List (Int × ByteArray)) (r' : List Tk) (js : JSl), q = .ok ((p, S'), r') ∧ (∃ cs : Array Value, cs = jC p js ∧ cs.size = 24 ∧ e = .returned (.agg cs)) ∧ JIn (fun b => w.heap.size ≤ b ∧ b < w'.heap.size) w' js p ∧ StM w' B S' ∧ Rdr w' R E 0 B N r' ∧ Only (fun i => i = R ∨ i = B) w.drew w'))) := by
    refine hide (fun h48 => (HS0.out h48).mono ?_)
    intro e w' hz
    cases q with
    | error f => exact .inl ⟨f, rfl, hz.1, hz.2⟩
    | ok pr =>
      obtain ⟨⟨p, S'⟩, r'⟩ := pr
      obtain ⟨v, rfl, hv, hsm, hr, ho⟩ := hz
      obtain ⟨js, rfl, hin⟩ := hv.inn
      exact .inr ⟨p, S', r', js, rfl, ⟨_, rfl, rfl, rfl⟩, hin, hsm, hr, ho⟩
  clear HRM HS0
  have KP : Hid (∀ w', Only (fun i => i = R ∨ i = B) w.drew w' → w'.cell? ⟨X, 4, none⟩ = some (.slice s.jo x.jobs.length s.jc)) := fun w' ho => ho.cell (w := w.drew) jc (fun e => by (try simp only at e); rcases e with e | e <;> omega)
  have KX : Hid (∀ w', Only (fun i => i = R ∨ i = B) w.drew w' → SrcAt b0 w' X x s) := fun w' ho => HX.out.drew.moved ho (fun b e => by (try simp only at e); rcases e with e | e <;> (constructor <;> omega))
  have KZ : Hid (∀ w', Only (fun i => i = R ∨ i = B) w.drew w' → w.heap.size ≤ w'.heap.size) := fun w' ho => ho.size
  have KROW : Hid (∀ w', Only (fun i => i = R ∨ i = B) w.drew w' → ∀ ob, (w'.alloc ob).ownsRow b0 56 24 (.slice s.jo x.jobs.length s.jc) x.jobs.length (rowJ s.KJ 0 x.jobs)) := fun w' ho ob => own_sameK (KX.out _ ho).jobs (fun k hk => by have := (KX.out _ ho).jobs.lt k hk; rw [((Below.refl w'.heap.size w').alloc (Nat.le_refl _) ob).block k (by omega)])
  have KY : Hid (∀ w', Only (fun i => i = R ∨ i = B) w.drew w' → ∀ w3 ob, (w'.alloc ob).grownBy w3 (sJobs x s).ownBlock → w3.cell? ⟨X, 4, none⟩ = some (.slice s.jo x.jobs.length s.jc) ∧ w3.frozen? ⟨X, 4, none⟩ = false ∧ X < w3.heap.size) := fun w' ho w3 ob hg => by
    have hA : Only (fun k => (sJobs x s).ownBlock = some k) w' w3 := (Only.alloc _ w' _).trans (Only.grown hg) (fun i _ hi => hi)
    have hn : ¬ (sJobs x s).ownBlock = some X := fun e => by have := ((KX.out _ ho).jobs.lt X e).1; omega
    have hXw := block_lt (KX.out _ ho).blk
    have hbX := (hA.block X hXw hn).trans (KX.out _ ho).blk
    exact ⟨by rw [cell_of hbX]; rfl, frozen_of hbX, block_lt hbX⟩
  go_enter Tryz.func75, Tryz.ntmps75
  go_wp2_with fail
  refine HT.out.mono ?_
  rintro e w1 ⟨rfl, hw⟩
  obtain rfl := hw.symm
  clear hw
  go_wp2_with fail
  refine HRM2.out.mono ?_
  intro e w2 hz
  rcases hz with ⟨f, hq, rfl, ho⟩ | ⟨hq1, hn48, rfl, hw⟩
  · have HO := hide (ho.mono (T := TJ R B X b0) (fun _ _ e => .inl e))
    rw [hq] at HQ
    clear ho
    go_wp2
    exact ⟨rfl, PI.bad HQ.out.symm HO.out⟩
  obtain rfl := hw.symm
  rw [hq1] at HQ
  clear hq1 hw
  have hwr : IntKind.i64.wrap ((x.jobs.length : Int) + 1) = (x.jobs.length : Int) + 1 := by rw [IntKind.wrap_i64]; omega
  go_wp2_with fail
  go_region_law
    (first
      | (refine step_append_lies _ (by rfl) _ _ _ (by rfl) b0 56 i0 _ 24 336 Tryz.underlying24 hi0 hz0 hz1 hz2 hzc (by omega) (.slice s.jo x.jobs.length s.jc) x.jobs.length (rowJ s.KJ 0 x.jobs) (by rfl) (HROW.out _)
              ⟨w2.heap.size, 0, none⟩ 1 1 cs.toList (by rfl) (by simpa using hcz) (World.news_of_block (cs := cs) (t := 56) (fr := (0, 0)) (heap_alloc_new w2 _)) HONE.out
              (by omega) (by unfold maxLen; omega) (by omega) (by simp; omega) (w2.heap.size + 1) (by simp) ?_; intro gg cap w3 hown3 hgrow hat hlt3; have hy3 := HY.out w3 _ hgrow; obtain ⟨y1, y2, y3⟩ := hy3)
      | (go_simp; go_wp2_with (go_at_call 106; refine (HS2.out hn48).mono ?_; intro e w2 hz; rcases hz with ⟨f, hq, rfl, ho⟩ | ⟨p, S', r', js, hq2, ⟨cs, hcs, hcz, rfl⟩, hon, hsm2, hr2, ho2⟩; (exact ⟨rfl, PI.bad (f := f) (by rw [← HQ.out, hq]) ((((Only.refl _ _).drew.trans ho (fun _ _ h => h)).mono (T := TJ R B X b0) (fun _ _ e => by rcases e with e | e; exact .inl e; exact .inr (.inl e))))⟩); have HQ2 := hide hq2; clear hq2; have HR2 := hide hr2; have HO2 := hide ho2; have hs2 := ho2.size; have HON := hide hon; clear hon; have hfold := fold24 cs #[.string ⟨#[]⟩, .int .i64 0, .slice none 0 0, .slice none 0 0, .string ⟨#[]⟩, .bool false, .int .i64 0, .int .i64 0, .slice none 0 0, .slice none 0 0, .string ⟨#[]⟩, .int .i64 0, .int .i64 0, .int .i64 0, .string ⟨#[]⟩, .int .i64 0, .slice none 0 0, .slice none 0 0, .slice none 0 0, .int .i64 0, .int .i64 0, .int .i64 0, .int .i64 0, .int .i64 0] hcz rfl; have HONE : Hid (∀ u ∈ cs.toList, u.oneCell' = true) := hide (by rw [hcs]; exact jC_one p js); have HCS := hide hcs; clear hcs; have HSM2 := hide hsm2; clear hsm2; have k0 := KP.out _ ho2; have HX2 := hide (KX.out _ ho2); have hs22 := KZ.out _ ho2; have HROW := hide (KROW.out _ ho2); have hle2 := (KX.out _ ho2).le; have hX2 : X < w2.heap.size := (by omega); have hX2n : ¬ X = w2.heap.size := (by omega); have HY := hide (KY.out _ ho2); clear hr2 ho2)))
  all_goals
    rw [HCS.out] at hown3
    have HAD := hide (HX2.out.addJob p js (HON.out.mono (fun b hb => HX.out.fresh hb) (fun _ _ _ h => h)) _ hown3 hgrow hat hlt3)
    have hA : Only (fun k => b0 ≤ k) w2 w3 := (Only.alloc _ w2 _).trans ((Only.grown hgrow).mono (fun i _ hi => (HX2.out.jobs.lt i hi).1)) (fun i _ hi => hi)
    have hB : Only (TJ R B X b0) w2 (w3.setCell ⟨X, 4, none⟩ (.slice (some ⟨gg, 0, none⟩) (x.jobs.length + 1) cap)) := (hA.mono (fun _ _ e => .inr (.inr (.inr e)))).trans (Only.set w3 X 4 _) (fun _ _ e => .inr (.inr (.inl e)))
    have HB := hide hB
    have HR3 : Hid (Rdr (w3.setCell ⟨X, 4, none⟩ (.slice (some ⟨gg, 0, none⟩) (x.jobs.length + 1) cap)) R E 0 B N r') := hide (HR2.out.only (((hA.mono (T := fun k => b0 ≤ k ∨ k = X) (fun _ _ e => .inl e)).trans (Only.set w3 X 4 _) (fun _ _ e => .inr e)).toBelow (by omega) (fun i e => by rcases e with e | e <;> omega)))
    have HS3 : Hid (StM (w3.setCell ⟨X, 4, none⟩ (.slice (some ⟨gg, 0, none⟩) (x.jobs.length + 1) cap)) B S') := hide (HSM2.out.only ((hA.mono (T := fun k => b0 ≤ k ∨ k = X) (fun _ _ e => .inl e)).trans (Only.set w3 X 4 _) (fun _ _ e => .inr e)) (fun e => by rcases e with e | e <;> omega))
    have HO3 := hide ((((Only.refl _ _).drew.trans HO2.out (fun _ _ h => h)).mono (T := TJ R B X b0) (fun _ _ e => by rcases e with e | e; exact .inl e; exact .inr (.inl e))).trans HB.out (fun _ _ h => h))
    clear hown3 hgrow hat hA hB
    go_wp2
    go_end0
    exact PI.good (by rw [← HQ.out, HQ2.out]) ⟨_, HAD.out⟩ HS3.out HR3.out HO3.out
end Go.Proofs.YtkpgfhapffijkaaGreatDoor

/- Package jdl: an item of a source, whole. -/
namespace Go.Proofs.YtkpgfhapffijkaaGreatDoor
open Go.ChangeShapes Go.WideShapes Go.ChangeAt Go.RowKit Go.DsMem Go.DsLx Go.DsJd Go.DsMk
set_option linter.unusedVariables false
set_option maxHeartbeats 8000000 in
set_option maxRecDepth 20000 in
theorem itemBad {w : World} {R X b0 : Nat} {E : Int} {B N : Nat} {ws : List Tk} (h : Rdr w R E 0 B N ws)
    (m1 : ¬ textF ws = wBegin) (m2 : ¬ textF ws = wKeep) (m3 : ¬ textF ws = wCal) (m4 : ¬ textF ws = wRes) (m5 : ¬ textF ws = wLock) (m6 : ¬ textF ws = wJob) :
    Calls Tryz.prog 75 #[.pointer (some ⟨R, 0, none⟩), .pointer (some ⟨X, 0, none⟩)] w (PI R E B N X b0 (.error (atF E ws, 20)) w) := by
  have HT := hide (text_any h)
  have HF := hide (fault_any h 20)
  have n1 := str_ne2 [98, 101, 103, 105, 110] m1
  have n2 := str_ne2 [107, 101, 101, 112] m2
  have n3 := str_ne2 [99, 97, 108, 101, 110, 100, 97, 114] m3
  have n4 := str_ne2 [114, 101, 115, 111, 117, 114, 99, 101] m4
  have n5 := str_ne2 [108, 111, 99, 107] m5
  have n6 := str_ne2 [106, 111, 98] m6
  clear h m1 m2 m3 m4 m5 m6
  unfold PI Ends
  simp only
  generalize textF ws = y at *
  go_enter Tryz.func75, Tryz.ntmps75
  go_wp2_with fail
  refine HT.out.mono ?_
  rintro e w1 ⟨rfl, rfl⟩
  go_wp2_with fail
  refine HF.out.mono ?_
  rintro e w2 ⟨rfl, hb⟩
  have HB := hide hb
  clear hb
  go_wp2
  exact ⟨rfl, rfl, Only.below HB.out⟩
/-- what item reads -/
noncomputable def itemP (E : Int) (S : List (Int × ByteArray)) (x : Srcp) (ws : List Tk) : Except Fl ((Srcp × List (Int × ByteArray)) × List Tk) :=
  if textF ws = wBegin then onceP E S ws (fun a => { x with start := a }) (thenP E ⟨#[59]⟩ (timeP E ws.tail))
  else if textF ws = wKeep then onceP E S ws (fun a => { x with keep := a }) (thenP E ⟨#[59]⟩ (numP E ws.tail))
  else if textF ws = wCal then moreS E S ws x.cals.length 24 (fun a => { x with cals := x.cals ++ [a] }) (thenP E ⟨#[59]⟩ (calP E ws.tail))
  else if textF ws = wRes then moreS E S ws x.res.length 12 (fun p => { x with res := x.res ++ [(p.1, (p.2, false))] }) (thenP E ⟨#[59]⟩ (twoP (nameP E) (numP E) ws.tail))
  else if textF ws = wLock then moreS E S ws x.res.length 12 (fun p => { x with res := x.res ++ [(p, (0, true))] }) (thenP E ⟨#[59]⟩ (nameP E ws.tail))
  else if textF ws = wJob then jobS E S x ws (jobP E (x.jobs.length + 1) S ws)
  else .error (atF E ws, 20)
/-- (*jdl.reader).item -/
theorem item_any {w : World} {R X b0 : Nat} {E : Int} {B N : Nat} {ws : List Tk} (h : Rdr w R E 0 B N ws) (hG : Few9 ws) (hW : FitW ws) {x : Srcp} {s : SSl} (hj : SrcAt b0 w X x s) (hNX : N ≤ X) (hBX : B < X) (S : List (Int × ByteArray)) (hs : StM w B S) (hS : S.length + ws.length ≤ 100000) :
    Calls Tryz.prog 75 #[.pointer (some ⟨R, 0, none⟩), .pointer (some ⟨X, 0, none⟩)] w (PI R E B N X b0 (itemP E S x ws) w) := by
  unfold itemP
  cases ws with
  | nil =>
    rw [if_neg (by decide), if_neg (by decide), if_neg (by decide), if_neg (by decide), if_neg (by decide), if_neg (by decide)]
    exact itemBad h (by decide) (by decide) (by decide) (by decide) (by decide) (by decide)
  | cons t r =>
    have hGr : Few9 r := hG.suf (List.suffix_cons t r)
    have hWr : FitW r := hW.suf (List.suffix_cons t r)
    simp only [List.length_cons] at hS
    simp only [List.tail_cons]
    by_cases c1 : textF (t :: r) = wBegin
    · rw [if_pos c1]; exact itemBegin h c1 hj hNX hBX S hs (by omega)
    rw [if_neg c1]
    by_cases c2 : textF (t :: r) = wKeep
    · rw [if_pos c2]; exact itemKeep h c2 hj hNX hBX S hs (by omega)
    rw [if_neg c2]
    by_cases c3 : textF (t :: r) = wCal
    · rw [if_pos c3]; exact itemCal h hGr c3 hj hNX hBX S hs
    rw [if_neg c3]
    by_cases c4 : textF (t :: r) = wRes
    · rw [if_pos c4]; exact itemRes h c4 hj hNX hBX S hs
    rw [if_neg c4]
    by_cases c5 : textF (t :: r) = wLock
    · rw [if_pos c5]; exact itemLock h c5 hj hNX hBX S hs
    rw [if_neg c5]
    by_cases c6 : textF (t :: r) = wJob
    · rw [if_pos c6]; exact itemJob h hGr hWr c6 hj hNX hBX S hs (by omega)
    rw [if_neg c6]
    exact itemBad h c1 c2 c3 c4 c5 c6
theorem onceP_suf {E : Int} {S S' : List (Int × ByteArray)} {ws r ws' : List Tk} {f : Int → Srcp} {q : Except Fl (Int × List Tk)} {x : Srcp} (hq : ∀ a r, q = .ok (a, r) → r <:+ ws') (h : onceP E S ws f q = .ok ((x, S'), r)) : r <:+ ws' ∧ S'.length = S.length + 1 := by
  unfold onceP at h
  split at h
  · cases h
  · cases q with
    | error f => cases h
    | ok p =>
      obtain ⟨a, r'⟩ := p
      cases h
      exact ⟨hq a _ rfl, by simp⟩
theorem moreS_suf {α : Type} {E : Int} {S S' : List (Int × ByteArray)} {ws r ws' : List Tk} {k m : Int} {f : α → Srcp} {q : Except Fl (α × List Tk)} {x : Srcp} (hq : ∀ a r, q = .ok (a, r) → r <:+ ws') (h : moreS E S ws k m f q = .ok ((x, S'), r)) : r <:+ ws' ∧ S' = S := by
  unfold moreS at h
  cases hr : roomP E ws k m with
  | error f => rw [hr] at h; cases h
  | ok u =>
    rw [hr] at h
    cases q with
    | error f => cases h
    | ok p =>
      obtain ⟨a, r'⟩ := p
      cases h
      exact ⟨hq a _ rfl, rfl⟩
theorem calP_suf {E : Int} {ws r : List Tk} {a : ByteArray × Nd} (h : calP E ws = .ok (a, r)) : r <:+ ws := by
  unfold calP at h
  cases e1 : thenP E ⟨#[61]⟩ (nameP E ws) with
  | error f => rw [e1] at h; cases h
  | ok p =>
    obtain ⟨n, r1⟩ := p
    rw [e1] at h
    simp only at h
    cases e2 : daysP E (oneP E 16) r1 with
    | error f => rw [e2] at h; cases h
    | ok p2 =>
      obtain ⟨t, r2⟩ := p2
      rw [e2] at h
      cases h
      exact (daysW_suf e2).trans (thenP_suf (fun a r h => nameP_suf h) e1)
/-- what an item leaves behind -/
theorem itemP_suf {E : Int} {S S' : List (Int × ByteArray)} {x x' : Srcp} {ws r : List Tk} (h : itemP E S x ws = .ok ((x', S'), r)) : r <:+ ws.tail ∧ ws ≠ [] ∧ S'.length + r.length ≤ S.length + ws.length := by
  have hn : ws ≠ [] := by
    rintro rfl
    unfold itemP at h
    rw [if_neg (by decide), if_neg (by decide), if_neg (by decide), if_neg (by decide), if_neg (by decide), if_neg (by decide)] at h
    cases h
  obtain ⟨t, l, rfl⟩ : ∃ t l, ws = t :: l := by
    cases ws with
    | nil => exact absurd rfl hn
    | cons t l => exact ⟨t, l, rfl⟩
  simp only [List.tail_cons, List.length_cons]
  unfold itemP at h
  simp only [List.tail_cons] at h
  split at h
  · obtain ⟨a, b⟩ := onceP_suf (fun a r h => thenP_suf (fun a r h => timeP_suf h) h) h
    have := a.length_le
    exact ⟨a, hn, by omega⟩
  split at h
  · obtain ⟨a, b⟩ := onceP_suf (fun a r h => thenP_suf (fun a r h => numP_suf h) h) h
    have := a.length_le
    exact ⟨a, hn, by omega⟩
  split at h
  · obtain ⟨a, b⟩ := moreS_suf (fun a r h => thenP_suf (fun a r h => calP_suf h) h) h
    have := a.length_le
    exact ⟨a, hn, by rw [b]; omega⟩
  split at h
  · obtain ⟨a, b⟩ := moreS_suf (fun a r h => thenP_suf (fun a r h => twoP_suf (fun ws a r h => nameP_suf h) (fun ws a r h => numP_suf h) h) h) h
    have := a.length_le
    exact ⟨a, hn, by rw [b]; omega⟩
  split at h
  · obtain ⟨a, b⟩ := moreS_suf (fun a r h => thenP_suf (fun a r h => nameP_suf h) h) h
    have := a.length_le
    exact ⟨a, hn, by rw [b]; omega⟩
  split at h
  · unfold jobS at h
    cases hr : roomP E (t :: l) x.jobs.length 48 with
    | error f => rw [hr] at h; cases h
    | ok u =>
      rw [hr] at h
      simp only at h
      cases hq : jobP E (x.jobs.length + 1) S (t :: l) with
      | error f => rw [hq] at h; cases h
      | ok p =>
        obtain ⟨⟨j, S1⟩, r1⟩ := p
        rw [hq] at h
        cases h
        obtain ⟨a, b, _, _⟩ := jobP_suf hq
        exact ⟨a, hn, by simp only; omega⟩
  · cases h
end Go.Proofs.YtkpgfhapffijkaaGreatDoor

/- Package jdl: all items of a source. -/
namespace Go.Proofs.YtkpgfhapffijkaaGreatDoor
open Go.ChangeShapes Go.WideShapes Go.ChangeAt Go.RowKit Go.DsMem Go.DsLx Go.DsJd Go.DsMk
set_option linter.unusedVariables false
/-- all items -/
noncomputable def itemsP (E : Int) : Nat → List (Int × ByteArray) → Srcp → List Tk → Except Fl (Srcp × List (Int × ByteArray))
  | 0, _, _, _ => .error (0, 0)
  | g + 1, S, x, ws => if ws = [] then .ok (x, S) else match itemP E S x ws with | .error f => .error f | .ok (p, r) => itemsP E g p.2 p.1 r
def src0 : Srcp := ⟨0, 7, [], [], []⟩
def ssl0 : SSl := ⟨none, 0, none, 0, none, 0, fun _ => zN, fun _ => js0⟩
/-- a source, from all its words -/
noncomputable def sourceP (E : Int) (ws : List Tk) : Except Fl Srcp := match itemsP E (ws.length + 1) [] src0 ws with | .error f => .error f | .ok (x, _) => .ok x
/-- a source of one's own -/
def VSrc (w : World) (x : Srcp) (v : Value) (w' : World) : Prop := ∃ s : SSl, v = .agg (sC x s) ∧
  w'.ownsRow w.heap.size 105 5 (sCals x s) x.cals.length (rowCal s.KC 0 x.cals) ∧ w'.ownsRow w.heap.size 32 3 (sRes x s) x.res.length (rsRow x.res) ∧ w'.ownsRow w.heap.size 56 24 (sJobs x s) x.jobs.length (rowJ s.KJ 0 x.jobs) ∧
  (∀ i (h : i < x.cals.length), NdOn (fun b => w.heap.size ≤ b ∧ b < w'.heap.size) w' (s.KC i) (x.cals[i]).2) ∧ (∀ i (h : i < x.jobs.length), JIn (fun b => w.heap.size ≤ b ∧ b < w'.heap.size) w' (s.KJ i) x.jobs[i])
theorem SrcAt.val {b0 X : Nat} {w w' : World} {x : Srcp} {s : SSl} (h : SrcAt b0 w' X x s) (hb : w.heap.size ≤ b0) : VSrc w x (.agg (sC x s)) w' := by
  have h1 : ∀ b, SR b0 w' x s b → (w.heap.size ≤ b ∧ b < w'.heap.size) := fun b hb' => ⟨Nat.le_trans hb hb'.1, hb'.2.1⟩
  exact ⟨s, rfl, own_baseK h.cals hb, own_baseK h.res hb, own_baseK h.jobs hb, fun i hi => (h.ins i hi).mono h1 (fun _ _ _ hc => hc), fun i hi => (h.inj i hi).mono h1 (fun _ _ _ hc => hc)⟩
theorem src0_at {b0 X : Nat} {w : World} (hb : w.heap[X]? = some (.cells (sC src0 ssl0) 26 (0, 0))) (h1 : X < b0) (h2 : b0 ≤ w.heap.size) : SrcAt b0 w X src0 ssl0 :=
  ⟨hb, h1, h2, World.ownsRow_nil _ _ _ _, World.ownsRow_nil _ _ _ _, World.ownsRow_nil _ _ _ _, fun i hi => by simp [src0] at hi, fun i hi => by simp [src0] at hi, (fun k hk => nomatch hk), (fun k hk => nomatch hk)⟩
/-- how source ends -/
def PS (R : Nat) (E : Int) (B : Nat) (q : Except Fl Srcp) (w : World) : Ending → World → Prop :=
  Ends q (fun w' => Only (fun i => i = R ∨ i = B) w w') fun x e w' => ∃ v, e = .returned v ∧ VSrc w x v w' ∧ Only (fun i => i = R ∨ i = B) w w'
theorem PS.bad {w w' : World} {R : Nat} {E : Int} {B : Nat} {q : Except Fl Srcp} {f : Fl} (hq : q = .error f) (ho : Only (fun i => i = R ∨ i = B) w w') : PS R E B q w (.panicked [{ v := flV f, recovered := false }]) w' := by
  subst hq
  exact ⟨rfl, ho⟩
theorem PS.good {w w' : World} {R : Nat} {E : Int} {B : Nat} {q : Except Fl Srcp} {x : Srcp} {v : Value} (hq : q = .ok x) (hv : VSrc w x v w') (ho : Only (fun i => i = R ∨ i = B) w w') : PS R E B q w (.returned v) w' := by
  subst hq
  exact ⟨v, rfl, hv, ho⟩
noncomputable def srcT (q : Except Fl (Srcp × List (Int × ByteArray))) : Except Fl Srcp := match q with | .error f => .error f | .ok (x, _) => .ok x
set_option maxHeartbeats 8000000 in
set_option maxRecDepth 20000 in
/-- (*jdl.reader).source -/
theorem source_any {w : World} {R : Nat} {E : Int} {B N : Nat} {ws : List Tk} (h : Rdr w R E 0 B N ws) (hG : Few9 ws) (hW : FitW ws) (hs : StM w B []) (hBN : B < N) :
    Calls Tryz.prog 50 #[.pointer (some ⟨R, 0, none⟩)] w (PS R E B (sourceP E ws) w) := by
  obtain ⟨hN1, hN2⟩ := h.n
  have hl8 : ws.length ≤ 8192 := by obtain ⟨_, _, _, _, _, _, h, _⟩ := h; exact h
  have hBw := hs.lt
  have HBR : Hid (¬ B = R) := hide (fun e => by obtain ⟨es, clock, hm⟩ := hs.map; obtain ⟨uo, uc, o, h1, _⟩ := h; rw [e, h1] at hm; cases hm)
  obtain ⟨wA, hwA⟩ : ∃ wA, wA = w.alloc (.cells #[.int .i64 0, .int .i64 0, .slice none 0 0, .slice none 0 0, .slice none 0 0] 26) := ⟨_, rfl⟩
  have hOA : Only (fun _ => False) w wA := by rw [hwA]; exact Only.alloc _ _ _
  have hresA : wA.heap[w.heap.size]? = some (.cells #[.int .i64 0, .int .i64 0, .slice none 0 0, .slice none 0 0, .slice none 0 0] 26 (0, 0)) := by rw [hwA]; exact heap_alloc_new w _
  have hsA : wA.heap.size = w.heap.size + 1 := by rw [hwA]; simp
  obtain ⟨w3, hw3⟩ : ∃ w3, w3 = wA.alloc (.cells (sC src0 ssl0) 26) := ⟨_, rfl⟩
  have hO3 : Only (fun _ => False) wA w3 := by rw [hw3]; exact Only.alloc _ _ _
  have hs3 : w3.heap.size = w.heap.size + 2 := by rw [hw3]; simp [hsA]
  have hX3 : w3.heap[w.heap.size + 1]? = some (.cells (sC src0 ssl0) 26 (0, 0)) := by rw [hw3, ← hsA]; exact heap_alloc_new wA _
  have hr3 : Rdr w3 R E 0 B N ws := by rw [hw3, hwA]; exact (h.below (below_new4 _)).below (below_new4 _)
  have hsm3 : StM w3 B [] := (hs.only hOA (fun e => e)).only hO3 (fun e => e)
  have HX := hide (src0_at (b0 := w.heap.size + 2) hX3 (by omega) (by omega))
  have HR := hide hr3
  have HSM := hide hsm3
  have HP := hide (heap_only (R := w.heap.size + 100) hresA (hO3.mono (fun _ _ e => e.elim)) (by omega))
  have HO := hide ((hOA.mono (T := fun i => i = R ∨ i = B) (fun _ _ e => e.elim)).trans (hO3.mono (T := fun i => i = R ∨ i = B) (fun _ _ e => e.elim)) (fun _ _ h => h))
  have HG := hide hG
  have HW := hide hW
  obtain ⟨Q, hQ⟩ : ∃ Q, sourceP E ws = Q := ⟨_, rfl⟩
  rw [hQ]
  have HQ : Hid (srcT (itemsP E (ws.length + 1) [] src0 ws) = Q) := hide (by rw [← hQ]; rfl)
  clear h hG hW hs hresA hOA hO3 hX3 hr3 hsm3 hQ
  unfold sC src0 ssl0 at hw3
  simp only [List.length_nil] at hw3
  go_enter Tryz.func50, Tryz.ntmps50
  go_wp2_with fail
  rw [← hwA, ← hw3]
  obtain ⟨X, hX⟩ : ∃ X, X = w.heap.size + 1 := ⟨_, rfl⟩
  have HXX : Hid (SrcAt (X + 1) w3 X src0 ssl0) := hide (by rw [hX]; exact HX.out)
  have hs3' : w3.heap.size = X + 1 := by omega
  have hz : wA.heap.size = X := by omega
  first
  | rw [hz]
  | rw [← hX]
  have hNX : N ≤ X := by omega
  have hBX : B < X := by omega
  clear hw3 hwA hX HX
  go_loopg [] (ws.length + 1) (fun g wr => ∃ (x : Srcp) (s : SSl) (S : List (Int × ByteArray)) (us : List Tk), us.length < g ∧ srcT (itemsP E g S x us) = Q ∧ S.length + us.length ≤ 100000 ∧ Few9 us ∧ FitW us ∧ SrcAt (X + 1) wr X x s ∧ StM wr B S ∧ Rdr wr R E 0 B N us ∧ Only (fun i => i = R ∨ i = B) w wr ∧ wr.heap[w.heap.size]? = some (.cells #[.int .i64 0, .int .i64 0, .slice none 0 0, .slice none 0 0, .slice none 0 0] 26 (0, 0)))
  case atStart => exact ⟨src0, ssl0, [], ws, by omega, HQ.out, by simp; omega, HG.out, HW.out, HXX.out, HSM.out, HR.out, HO.out, HP.out⟩
  case round =>
    obtain ⟨x, s, S, us, hg, hq, hL, hGu, hWu, hx, hsm, hrd, ho, hp⟩ := hrel
    obtain ⟨g', rfl⟩ : ∃ g', gk = g' + 1 := ⟨gk - 1, by omega⟩
    have HXR := hide hx
    have HSMR := hide hsm
    have HRR := hide hrd
    have HOR := hide ho
    have HPR := hide hp
    have HGU := hide hGu
    have HWU := hide hWu
    have hsw := ho.size
    have hXw : X < wr.heap.size := block_lt hx.blk
    obtain ⟨uo, uc, o, h1, _⟩ := hrd
    have x0 : wr.cell? ⟨R, 0, none⟩ = some (.slice uo us.length uc) := by rw [cell_of h1]; rfl
    have h8 : us.length ≤ 100000 := by omega
    clear hx hsm ho hp hGu hWu h1 HXX HSM HR HO HP HG HW HQ
    cases us with
    | nil =>
      have hQ2 : Q = .ok x := by rw [← hq]; unfold itemsP; rw [if_pos rfl]; rfl
      have HQ2 := hide hQ2
      clear hq hQ2
      simp only [List.length_nil] at x0
      go_upto_region 4 with fail
      have hres : Tryz.f50.results = #[.cell 2 26] := by kernel_rfl
      refine wp_region_list ?_
      refine wpList_load_row rfl 26 (.tmp 3) rfl X rfl 26 (sC x s) (0, 0) _ HXR.out.blk Tryz.underlying26 rfl (by kernel_rfl) ?_
      refine wpList_store_row rfl 26 (.tmp 2) (.tmp 13) rfl w.heap.size (sC x s) rfl rfl 26 _ HPR.out (by kernel_rfl) (by kernel_rfl) (by kernel_rfl) ?_
      go_wp2
      have hO6 := Only.setRow wr w.heap.size (sC x s)
      refine bodyPost_ret (v := .agg (sC x s)) (results_cell_row hres _ _ w.heap.size 26 (sC x s) (0, 0) _ rfl (heap_setRow HPR.out _) Tryz.underlying26 rfl (by kernel_rfl)) rfl ?_
      exact PS.good HQ2.out ((HXR.out.moved hO6 (fun b e => ⟨by omega, by omega⟩)).val (by omega)) (HOR.out.trans hO6 (fun i hi e => absurd e (by omega)))
    | cons t us' =>
      have hq2 : srcT (match itemP E S x (t :: us') with | .error f => .error f | .ok (p, r) => itemsP E g' p.2 p.1 r) = Q := by
        rw [← hq, itemsP, if_neg (by simp)]
      have HIT := hide (fun (h : StM wr B S) => item_any HRR.out HGU.out HWU.out HXR.out hNX hBX S h hL)
      have HIS : Hid (∀ x' S'' r', itemP E S x (t :: us') = .ok ((x', S''), r') → r' <:+ us' ∧ S''.length + r'.length ≤ S.length + (us'.length + 1)) := hide (fun x' S'' r' h => by obtain ⟨a, b, c⟩ := itemP_suf h; simp at a c; exact ⟨a, c⟩)
      unfold PI at HIT
      clear hq
      generalize itemP E S x (t :: us') = qp at *
      have HQ2 := hide hq2
      clear hq2
      simp only [List.length_cons] at x0 hg hL h8
      go_wp2_with fail
      refine (HIT.out HSMR.out).mono ?_
      intro e w6 hz
      cases qp with
      | error f =>
        obtain ⟨rfl, ho6⟩ := hz
        have HO6 := hide (HOR.out.trans ho6 (fun i hi e => by rcases e with e | e | e | e; exact .inl e; exact .inr e; omega; omega))
        clear ho6
        go_wp2
        exact ⟨rfl, PS.bad HQ2.out.symm HO6.out⟩
      | ok pp =>
        obtain ⟨⟨x', S''⟩, r'⟩ := pp
        obtain ⟨rfl, ⟨s', hx6⟩, hsm6, hr6, ho6⟩ := hz
        obtain ⟨hp1, hp2⟩ := HIS.out x' S'' r' rfl
        have hlt := hp1.length_le
        have hsu : r' <:+ (t :: us') := hp1.trans (List.suffix_cons t us')
        have HO6 := hide (HOR.out.trans ho6 (fun i hi e => by rcases e with e | e | e | e; exact .inl e; exact .inr e; omega; omega))
        have HP6 := hide ((ho6.block _ (block_lt HPR.out) (by rintro (e | e | e | e) <;> omega)).trans HPR.out)
        have HX6 := hide hx6
        have HSM6 := hide hsm6
        have HR6 := hide hr6
        have HGU6 := hide (HGU.out.suf hsu)
        have HWU6 := hide (HWU.out.suf hsu)
        clear hx6 hsm6 hr6 ho6 hp1 hsu HIS HIT
        go_wp2
        go_roundg g'
        case measure => omega
        case rel => exact ⟨x', s', S'', r', by omega, HQ2.out, by omega, HGU6.out, HWU6.out, HX6.out, HSM6.out, HR6.out, HO6.out, HP6.out⟩
end Go.Proofs.YtkpgfhapffijkaaGreatDoor
