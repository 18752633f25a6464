/- Some parts of the proof, one behind the other. -/
import Derived.Test.YtkpgfhapffijkaaDoorJ5
/- Package jdl: names, numbers, times; what stands between a first word and its end. -/
namespace Go.DsJd
open Go.DsLx
def intP (E : Int) (ws : List Tk) : Except Fl (Int × List Tk) := if textF ws = ⟨#[45]⟩ then (match numP E ws.tail with | .error f => .error f | .ok (n, r) => .ok (-n, r)) else numP E ws
theorem numP_in {E : Int} {ws : List Tk} {n : Int} {r : List Tk} (h : numP E ws = .ok (n, r)) : ∃ t ∈ ws, n = t.n := by
  cases ws with
  | nil => simp [numP, wordP] at h
  | cons u r' =>
    unfold numP wordP at h
    by_cases hk : u.kind = 2
    · simp [hk] at h
      exact ⟨u, by simp, h.1.symm⟩
    · simp [hk] at h
/-- behind a part a word must stand -/
def thenP {α : Type} (E : Int) (x : ByteArray) (p : Except Fl (α × List Tk)) : Except Fl (α × List Tk) := match p with | .error f => .error f | .ok (a, r) => (match mustP E x r with | .error f => .error f | .ok r' => .ok (a, r'))
end Go.DsJd
namespace Go.Proofs.YtkpgfhapffijkaaDoor
open Go.ChangeShapes Go.WideShapes Go.ChangeAt Go.RowKit Go.DsMem Go.DsLx Go.DsJd
set_option linter.unusedVariables false
/-- how the reading of a part ends -/
def PE (R : Nat) (E d : Int) (B N : Nat) {α : Type} (r : Except Fl (α × List Tk)) (V : World → α → Value → World → Prop) (w : World) : Ending → World → Prop :=
  Ends r (fun w' => Only (· = R) w w') fun p e w' => ∃ v, e = .returned v ∧ V w p.1 v w' ∧ Rdr w' R E d B N p.2 ∧ Only (· = R) w w'
def CF (K : Nat) : Prop := ∀ (args : Array Value) (w : World), (callFunc K args).run Tryd.prog w = .ok (.enter K args) w
theorem cf_of {K : Nat} {fn : Func} (hf : Tryd.prog.funcs[K]? = some fn) (hn : ¬ fn.name = "runtime.NumGoroutine") (hb : fn.body.isNone = false) : CF K := fun args w => by
  have hb' : ¬ fn.body = none := fun e => by rw [e] at hb; cases hb
  simp [callFunc, hf, hn, hb', go_sem]
theorem cf_number : CF 31 := cf_of Tryd.func31 (by decide +kernel) (by kernel_rfl)
theorem fld1 (a b c d : Value) (w : World) : (Instr.field 55 (.agg #[a, b, c, d]) 1).run Tryd.prog w = .ok b w := by kernel_rfl
theorem fld2 (a b c d : Value) (w : World) : (Instr.field 55 (.agg #[a, b, c, d]) 2).run Tryd.prog w = .ok c w := by kernel_rfl
/-- plain values -/
def VI (w : World) (n : Int) (v : Value) (w' : World) : Prop := v = .int .i64 n
def VS (w : World) (n : ByteArray) (v : Value) (w' : World) : Prop := v = .string n
set_option maxHeartbeats 1000000 in
set_option maxRecDepth 20000 in
/-- (*jdl.reader).name -/
theorem name_any {w : World} {R : Nat} {E d : Int} {B N : Nat} {ws : List Tk} (h : Rdr w R E d B N ws) : Calls Tryd.prog 45 #[.pointer (some ⟨R, 0, none⟩)] w (PE R E d B N (nameP E ws) VS w) := by
  have HW := hide (word_any h 1)
  clear h
  unfold nameP
  generalize wordP E 1 ws = q at *
  cases q with
  | error f =>
    unfold Ends at HW
    unfold PE Ends
    go_enter Tryd.func45, Tryd.ntmps45
    go_wp2_with fail
    refine HW.out.mono ?_
    rintro e w1 ⟨rfl, ho⟩
    have HO := hide ho
    clear ho
    go_wp2
    exact ⟨rfl, rfl, HO.out⟩
  | ok p =>
    obtain ⟨t, r⟩ := p
    unfold Ends tkV at HW
    unfold PE Ends VS
    simp only at HW ⊢
    have hfl := fld1
    go_enter Tryd.func45, Tryd.ntmps45
    go_wp2_with fail
    refine HW.out.mono ?_
    rintro e w1 ⟨rfl, hr, ho⟩
    have HR := hide hr
    have HO := hide ho
    clear hr ho
    go_wp2
    go_ret
    exact ⟨_, rfl, rfl, HR.out, HO.out⟩
set_option maxHeartbeats 1000000 in
set_option maxRecDepth 20000 in
/-- (*jdl.reader).number -/
theorem number_any {w : World} {R : Nat} {E d : Int} {B N : Nat} {ws : List Tk} (h : Rdr w R E d B N ws) : Calls Tryd.prog 31 #[.pointer (some ⟨R, 0, none⟩)] w (PE R E d B N (numP E ws) VI w) := by
  have HW := hide (word_any h 2)
  clear h
  unfold numP
  generalize wordP E 2 ws = q at *
  cases q with
  | error f =>
    unfold Ends at HW
    unfold PE Ends
    go_enter Tryd.func31, Tryd.ntmps31
    go_wp2_with fail
    refine HW.out.mono ?_
    rintro e w1 ⟨rfl, ho⟩
    have HO := hide ho
    clear ho
    go_wp2
    exact ⟨rfl, rfl, HO.out⟩
  | ok p =>
    obtain ⟨t, r⟩ := p
    unfold Ends tkV at HW
    unfold PE Ends VI
    simp only at HW ⊢
    have hfl := fld2
    go_enter Tryd.func31, Tryd.ntmps31
    go_wp2_with fail
    refine HW.out.mono ?_
    rintro e w1 ⟨rfl, hr, ho⟩
    have HR := hide hr
    have HO := hide ho
    clear hr ho
    go_wp2
    go_ret
    exact ⟨_, rfl, rfl, HR.out, HO.out⟩
set_option maxHeartbeats 1000000 in
set_option maxRecDepth 20000 in
/-- (*jdl.reader).time -/
theorem time_any {w : World} {R : Nat} {E d : Int} {B N : Nat} {ws : List Tk} (h : Rdr w R E d B N ws) : Calls Tryd.prog 30 #[.pointer (some ⟨R, 0, none⟩)] w (PE R E d B N (timeP E ws) VI w) := by
  have HW := hide (word_any h 3)
  clear h
  unfold timeP
  generalize wordP E 3 ws = q at *
  cases q with
  | error f =>
    unfold Ends at HW
    unfold PE Ends
    go_enter Tryd.func30, Tryd.ntmps30
    go_wp2_with fail
    refine HW.out.mono ?_
    rintro e w1 ⟨rfl, ho⟩
    have HO := hide ho
    clear ho
    go_wp2
    exact ⟨rfl, rfl, HO.out⟩
  | ok p =>
    obtain ⟨t, r⟩ := p
    unfold Ends tkV at HW
    unfold PE Ends VI
    simp only at HW ⊢
    have hfl := fld2
    go_enter Tryd.func30, Tryd.ntmps30
    go_wp2_with fail
    refine HW.out.mono ?_
    rintro e w1 ⟨rfl, hr, ho⟩
    have HR := hide hr
    have HO := hide ho
    clear hr ho
    go_wp2
    go_ret
    exact ⟨_, rfl, rfl, HR.out, HO.out⟩
set_option maxHeartbeats 1000000 in
set_option maxRecDepth 20000 in
/-- (*jdl.reader).integer -/
theorem integer_any {w : World} {R : Nat} {E d : Int} {B N : Nat} {ws : List Tk} (h : Rdr w R E d B N ws) (hn : ∀ t ∈ ws, 0 ≤ t.n ∧ t.n ≤ 999999999) : Calls Tryd.prog 83 #[.pointer (some ⟨R, 0, none⟩)] w (PE R E d B N (intP E ws) VI w) := by
  by_cases hc : textF ws = ⟨#[45]⟩
  · have e : intP E ws = (match numP E ws.tail with | .error f => .error f | .ok (n, r) => .ok (-n, r)) := by unfold intP; rw [if_pos hc]
    rw [e]
    cases ws with
    | nil => exact absurd hc (by decide)
    | cons t r =>
      simp only [textF] at hc
      have HT := hide (take_yes h)
      rw [hc] at HT
      have HN := hide (fun w (h : Rdr w R E d B N r) => number_any h)
      simp only [List.tail_cons]
      have hb : ∀ n r', numP E r = .ok (n, r') → 0 ≤ n ∧ n ≤ 999999999 := fun n r' hq => by
        obtain ⟨u, hu, e⟩ := numP_in hq
        have := hn u (by simp [hu])
        omega
      have HBN := hide hb
      clear h hb
      generalize numP E r = q at *
      cases q with
      | error f =>
        unfold PE Ends at HN
        unfold PE Ends
        simp only at HN ⊢
        go_enter Tryd.func83, Tryd.ntmps83
        go_wp2_with fail
        refine HT.out.mono ?_
        rintro e w1 ⟨rfl, hr, ho⟩
        have HR := hide hr
        have HO := hide ho
        clear hr ho
        go_wp2_with fail
        refine (HN.out w1 HR.out).mono ?_
        rintro e w2 ⟨rfl, ho2⟩
        have HO2 := hide (HO.out.trans ho2 (fun _ _ h => h))
        clear ho2
        go_wp2
        exact ⟨rfl, rfl, HO2.out⟩
      | ok p =>
        obtain ⟨n, r'⟩ := p
        obtain ⟨hn0, hn1⟩ := HBN.out n r' rfl
        unfold PE Ends VI at HN
        unfold PE Ends VI
        simp only at HN ⊢
        go_enter Tryd.func83, Tryd.ntmps83
        go_wp2_with fail
        refine HT.out.mono ?_
        rintro e w1 ⟨rfl, hr, ho⟩
        have HR := hide hr
        have HO := hide ho
        clear hr ho
        go_wp2_with fail
        refine (HN.out w1 HR.out).mono ?_
        rintro e w2 ⟨v, rfl, rfl, hr2, ho2⟩
        have HR2 := hide hr2
        have HO2 := hide (HO.out.trans ho2 (fun _ _ h => h))
        clear hr2 ho2
        go_wp2
        go_ret
        exact ⟨_, rfl, by first | rfl | (congr 1; omega), HR2.out, HO2.out⟩
  · have e : intP E ws = numP E ws := by unfold intP; rw [if_neg hc]
    rw [e]
    have HT := hide (take_no h hc)
    have HN := hide (number_any h)
    clear h
    generalize numP E ws = q at *
    cases q with
    | error f =>
      unfold PE Ends at HN
      unfold PE Ends
      go_enter Tryd.func83, Tryd.ntmps83
      go_wp2_with fail
      refine HT.out.mono ?_
      rintro e w1 ⟨rfl, rfl⟩
      go_wp2_with fail
      refine HN.out.mono ?_
      rintro e w2 ⟨rfl, ho2⟩
      have HO2 := hide ho2
      clear ho2
      go_wp2
      exact ⟨rfl, rfl, HO2.out⟩
    | ok p =>
      obtain ⟨n, r'⟩ := p
      unfold PE Ends VI at HN
      unfold PE Ends VI
      simp only at HN ⊢
      go_enter Tryd.func83, Tryd.ntmps83
      go_wp2_with fail
      refine HT.out.mono ?_
      rintro e w1 ⟨rfl, rfl⟩
      go_wp2_with fail
      refine HN.out.mono ?_
      rintro e w2 ⟨v, rfl, rfl, hr2, ho2⟩
      have HR2 := hide hr2
      have HO2 := hide ho2
      clear hr2 ho2
      go_wp2
      go_ret
      exact ⟨_, rfl, rfl, HR2.out, HO2.out⟩
set_option maxHeartbeats 1000000 in
set_option maxRecDepth 20000 in
/-- jdl.said[int64] -/
theorem saidI {w : World} {R : Nat} {E d : Int} {B N : Nat} {t : Tk} {r : List Tk} (h : Rdr w R E d B N (t :: r)) (K : Nat) (first cap : Array Value) (part : List Tk → Except Fl (Int × List Tk))
    (hcf : CF K) (hp : ∀ w, Rdr w R E d B N r → Calls Tryd.prog K (first ++ cap) w (PE R E d B N (part r) VI w)) :
    Calls Tryd.prog 29 #[.pointer (some ⟨R, 0, none⟩), .func (.func K) first cap] w (PE R E d B N (thenP E ⟨#[59]⟩ (part r)) VI w) := by
  have HS := hide (skip_any h)
  have HP := hide hp
  have hcf' := hcf (first ++ cap)
  have HM := hide (fun (w : World) (r : List Tk) (h : Rdr w R E d B N r) => must_any ⟨#[59]⟩ h (by decide))
  clear h hp hcf
  generalize part r = q at *
  cases q with
  | error f =>
    unfold PE Ends at HP
    unfold PE Ends thenP
    simp only at HP ⊢
    go_enter Tryd.func29, Tryd.ntmps29
    go_wp2_with fail
    refine HS.out.mono ?_
    rintro e w1 ⟨rfl, hr, ho⟩
    have HR := hide hr
    have HO := hide ho
    clear hr ho
    go_wp2_with fail
    refine (HP.out w1 HR.out).mono ?_
    rintro e w2 ⟨rfl, ho2⟩
    have HO2 := hide (HO.out.trans ho2 (fun _ _ h => h))
    clear ho2
    go_wp2
    exact ⟨rfl, rfl, HO2.out⟩
  | ok p =>
    obtain ⟨n, r'⟩ := p
    unfold PE Ends VI at HP
    unfold thenP
    simp only at HP ⊢
    have HM2 := hide (fun (w : World) h => HM.out w r' h)
    clear HM
    generalize mustP E ⟨#[59]⟩ r' = q2 at *
    cases q2 with
    | error f =>
      unfold Ends at HM2
      unfold PE Ends
      simp only at HM2 ⊢
      go_enter Tryd.func29, Tryd.ntmps29
      go_wp2_with fail
      refine HS.out.mono ?_
      rintro e w1 ⟨rfl, hr, ho⟩
      have HR := hide hr
      have HO := hide ho
      clear hr ho
      go_wp2_with fail
      refine (HP.out w1 HR.out).mono ?_
      rintro e w2 ⟨v, rfl, rfl, hr2, ho2⟩
      have HR2 := hide hr2
      have HO2 := hide (HO.out.trans ho2 (fun _ _ h => h))
      clear hr2 ho2
      go_wp2_with fail
      refine (HM2.out w2 HR2.out).mono ?_
      rintro e w3 ⟨rfl, ho3⟩
      have HO3 := hide (HO2.out.trans ho3 (fun _ _ h => h))
      clear ho3
      go_wp2
      exact ⟨rfl, rfl, HO3.out⟩
    | ok r2 =>
      unfold Ends at HM2
      unfold PE Ends VI
      simp only at HM2 ⊢
      go_enter Tryd.func29, Tryd.ntmps29
      go_wp2_with fail
      refine HS.out.mono ?_
      rintro e w1 ⟨rfl, hr, ho⟩
      have HR := hide hr
      have HO := hide ho
      clear hr ho
      go_wp2_with fail
      refine (HP.out w1 HR.out).mono ?_
      rintro e w2 ⟨v, rfl, rfl, hr2, ho2⟩
      have HR2 := hide hr2
      have HO2 := hide (HO.out.trans ho2 (fun _ _ h => h))
      clear hr2 ho2
      go_wp2_with fail
      refine (HM2.out w2 HR2.out).mono ?_
      rintro e w3 ⟨rfl, hr3, ho3⟩
      have HR3 := hide hr3
      have HO3 := hide (HO2.out.trans ho3 (fun _ _ h => h))
      clear hr3 ho3
      go_wp2
      go_ret
      exact ⟨_, rfl, rfl, HR3.out, HO3.out⟩
end Go.Proofs.YtkpgfhapffijkaaDoor

/- Package jdl: lists of numbers. -/
namespace Go.DsJd
open Go.DsLx
/-- parts with a word between any two, n at most -/
def listP {α : Type} (E : Int) (sep : ByteArray) (part : List Tk → Except Fl (α × List Tk)) : Nat → List Tk → Except Fl (List α × List Tk)
  | 0, ws => .error (atF E ws, 4)
  | n + 1, ws => match part ws with
    | .error f => .error f
    | .ok (a, r) => if textF r = sep then (match listP E sep part n r.tail with | .error f => .error f | .ok (l, r2) => .ok (a :: l, r2)) else .ok ([a], r)
def accP {α : Type} (acc : List α) (x : Except Fl (List α × List Tk)) : Except Fl (List α × List Tk) := match x with | .error f => .error f | .ok (l, r) => .ok (acc ++ l, r)
theorem acc_full {α : Type} (E : Int) (sep : ByteArray) (part : List Tk → Except Fl (α × List Tk)) (acc : List α) (ws : List Tk) : accP acc (listP E sep part 0 ws) = .error (atF E ws, 4) := rfl
theorem acc_bad {α : Type} {E : Int} {sep : ByteArray} {part : List Tk → Except Fl (α × List Tk)} {ws : List Tk} {f : Fl} (acc : List α) (n : Nat) (h : part ws = .error f) : accP acc (listP E sep part (n + 1) ws) = .error f := by
  unfold listP; rw [h]; rfl
theorem acc_end {α : Type} {E : Int} {sep : ByteArray} {part : List Tk → Except Fl (α × List Tk)} {ws r : List Tk} {a : α} (acc : List α) (n : Nat) (h : part ws = .ok (a, r)) (hs : ¬ textF r = sep) : accP acc (listP E sep part (n + 1) ws) = .ok (acc ++ [a], r) := by
  unfold listP; rw [h]; simp only [if_neg hs]; rfl
theorem acc_more {α : Type} {E : Int} {sep : ByteArray} {part : List Tk → Except Fl (α × List Tk)} {ws r : List Tk} {a : α} (acc : List α) (n : Nat) (h : part ws = .ok (a, r)) (hs : textF r = sep) : accP acc (listP E sep part (n + 1) ws) = accP (acc ++ [a]) (listP E sep part n r.tail) := by
  conv => lhs; unfold listP
  rw [h]
  simp only [if_pos hs]
  cases listP E sep part n r.tail with
  | error f => rfl
  | ok p => obtain ⟨l, r2⟩ := p; simp [accP]
end Go.DsJd
namespace Go.Proofs.YtkpgfhapffijkaaDoor
open Go.ChangeShapes Go.WideShapes Go.ChangeAt Go.RowKit Go.DsMem Go.DsLx Go.DsJd
set_option linter.unusedVariables false
theorem infoI64 : (Tryd.prog.info? 2).map (fun i => (i.zero, i.size, i.bytes)) = some (some (.int .i64 0), 1, 8) := by kernel_rfl
def slLen : Value → Nat
  | .slice _ n _ => n
  | _ => 0
/-- numbers of one's own -/
def VL (w : World) (l : List Int) (v : Value) (w' : World) : Prop := ∃ uo uc, v = .slice uo l.length uc ∧ w'.ownsRow w.heap.size 2 1 v l.length (l.map (.int .i64))
theorem own_step {w w' : World} {B R : Nat} {e : TypeId} {v : Value} {n : Nat} {xs : List Value} (h : w.ownsRow B e 1 v n xs) (ho : Only (· = R) w w') (hR : R < B) : w'.ownsRow B e 1 v n xs :=
  own_only h ho (fun k hk e => by have := (h.lt k hk).1; omega)
set_option maxHeartbeats 4000000 in
set_option maxRecDepth 20000 in
/-- jdl.list[int64] -/
theorem listI {w : World} {R : Nat} {E d : Int} {B N : Nat} {ws : List Tk} (h : Rdr w R E d B N ws) (K : Nat) (first cap : Array Value) (part : List Tk → Except Fl (Int × List Tk)) (sep : ByteArray) (hsep : sep ≠ ⟨#[]⟩) (M : Nat) (hM : M ≤ 100000) (P : List Tk → Prop) (hP0 : P ws) (hPn : ∀ ws a r, P ws → part ws = .ok (a, r) → P r ∧ P r.tail)
    (hcf : CF K) (hp : ∀ w ws, P ws → Rdr w R E d B N ws → Calls Tryd.prog K (first ++ cap) w (PE R E d B N (part ws) VI w)) :
    Calls Tryd.prog 80 #[.pointer (some ⟨R, 0, none⟩), .string sep, .int .i64 M, .func (.func K) first cap] w (PE R E d B N (listP E sep part M ws) VL w) := by
  have HP := hide hp
  have hcf' := hcf (first ++ cap)
  have HPN := hide hPn
  have HP0 := hide hP0
  obtain ⟨hN1, hN2⟩ := h.n
  have HR0 := hide h
  obtain ⟨Q, hQ⟩ : ∃ Q, listP E sep part M ws = Q := ⟨_, rfl⟩
  have HQ : Hid (accP [] (listP E sep part M ws) = Q) := by
    refine hide ?_
    rw [← hQ]
    cases listP E sep part M ws with
    | error f => rfl
    | ok p => rfl
  rw [hQ]
  clear h hp hcf hPn hP0 hQ
  obtain ⟨i0, hi0, hz0, hz1, hz2⟩ := info_parts infoI64
  go_enter Tryd.func80, Tryd.ntmps80
  go_wp2_with fail
  go_loopw [9] (fun tl wr => ∃ (acc : List Int) (uo : Option Addr) (uc : Nat) (us : List Tk), acc.length ≤ M ∧ tl = .slice uo acc.length uc ∧ P us ∧ wr.ownsRow w.heap.size 2 1 (.slice uo acc.length uc) acc.length (acc.map (.int .i64)) ∧ Rdr wr R E d B N us ∧ Only (· = R) w wr ∧ accP acc (listP E sep part (M - acc.length) us) = Q) (fun tl _ => M - slLen tl)
  case atStart => exact ⟨[], none, 0, ws, Nat.zero_le _, rfl, HP0.out, World.ownsRow_nil _ _ _ _, HR0.out, Only.refl _ _, HQ.out⟩
  case round =>
    obtain ⟨acc, uo, uc, us, hal, rfl, hPu, hown, hrd, ho, hq⟩ := hrel
    have HOWN := hide hown
    have HRD := hide hrd
    have HO := hide ho
    have HQ2 := hide hq
    have HPU := hide hPu
    have hws := ho.size
    clear hown hrd ho hq hPu
    have HRM := hide (room_any HRD.out acc.length M)
    by_cases hfull : M ≤ acc.length
    · have e : roomP E us acc.length M = .error (atF E us, 4) := by unfold roomP; rw [if_pos (by omega)]
      have hQe : Q = .error (atF E us, 4) := by
        rw [← HQ2.out, show M - acc.length = 0 by omega]; exact acc_full E sep part acc us
      have HQE := hide hQe
      rw [e] at HRM
      unfold Ends at HRM
      clear e hQe
      go_wp2_with fail
      refine HRM.out.mono ?_
      rintro e w1 ⟨rfl, ho1⟩
      have HO1 := hide (HO.out.trans ho1 (fun _ _ h => h))
      clear ho1
      go_wp2
      refine ⟨rfl, ?_⟩
      rw [HQE.out]
      exact ⟨rfl, HO1.out⟩
    · have e : roomP E us acc.length M = .ok () := by unfold roomP; rw [if_neg (by omega)]
      rw [e] at HRM
      unfold Ends at HRM
      clear e
      obtain ⟨n, hn⟩ : ∃ n, M - acc.length = n + 1 := ⟨M - acc.length - 1, by omega⟩
      rw [hn] at HQ2
      have HPP := hide (fun w h => HP.out w us HPU.out h)
      have HPX := hide (fun a r => HPN.out us a r HPU.out)
      obtain ⟨q, hq⟩ : ∃ q, part us = q := ⟨_, rfl⟩
      rw [hq] at HPP HPX
      cases q with
      | error f =>
        have HQE : Hid (Q = .error f) := by refine hide ?_; rw [← HQ2.out]; exact acc_bad acc n hq
        unfold PE Ends at HPP
        simp only at HPP
        clear hq
        go_wp2_with fail
        refine HRM.out.mono ?_
        rintro e w1 ⟨rfl, rfl⟩
        go_wp2_with fail
        refine (HPP.out w1 HRD.out).mono ?_
        rintro e w2 ⟨rfl, ho2⟩
        have HO2 := hide (HO.out.trans ho2 (fun _ _ h => h))
        clear ho2
        go_wp2
        refine ⟨rfl, ?_⟩
        rw [HQE.out]
        exact ⟨rfl, HO2.out⟩
      | ok p =>
        obtain ⟨a, r⟩ := p
        obtain ⟨hp1, hp2⟩ := HPX.out a r rfl
        have HP1 := hide hp1
        have HP2 := hide hp2
        unfold PE Ends VI at HPP
        simp only at HPP
        have HEND : Hid (¬ textF r = sep → Q = .ok (acc ++ [a], r)) := fun hs => by rw [← HQ2.out]; exact acc_end acc n hq hs
        have HMORE : Hid (textF r = sep → accP (acc ++ [a]) (listP E sep part n r.tail) = Q) := fun hs => by rw [← HQ2.out]; exact (acc_more acc n hq hs).symm
        clear hq hp1 hp2 HPX
        go_wp2_with fail
        refine HRM.out.mono ?_
        rintro e w1 ⟨rfl, rfl⟩
        go_wp2_with fail
        refine (HPP.out w1 HRD.out).mono ?_
        rintro e w2 ⟨v, rfl, rfl, hr2, ho2⟩
        have HR2 := hide hr2
        have HO2 := hide (HO.out.trans ho2 (fun _ _ h => h))
        have HOW2 := hide (own_step HOWN.out ho2 (by omega))
        have hs2 := ho2.size
        clear hr2 ho2
        go_wp2_with (at_builtin; refine Hid.out ?_)
        refine hide ?_
        have hrow : (w2.alloc (.cells #[.int .i64 a] 2)).ownsRow w.heap.size 2 1 (.slice uo acc.length uc) acc.length (acc.map (.int .i64)) := own_below HOW2.out ((Below.refl _ _).alloc (Nat.le_refl _) _)
        refine wpList_append_own _ rfl _ _ 38 rfl w.heap.size 2 i0 _ 1 8 Tryd.underlying38 hi0 hz0 hz1 hz2 rfl (by decide) _ acc.length _ rfl hrow ⟨w2.heap.size, 0, none⟩ 1 1 [.int .i64 a] rfl rfl (World.news_of_block (cs := #[.int .i64 a]) (t := 2) (fr := (0, 0)) (heap_alloc_new w2 _)) (by intro u hu; simp only [List.mem_cons, List.not_mem_nil, or_false] at hu; subst hu; rfl) (by unfold maxLen; omega) (by omega) (by simp; omega) ?_
        intro v' w3 hown3 hgr _
        obtain ⟨uo3, uc3, rfl⟩ : ∃ uo3 uc3, v' = .slice uo3 (acc ++ [a]).length uc3 := by
          rcases hown3.2 with ⟨rfl, h0⟩ | ⟨g, cap, cur, rfl, _⟩
          · omega
          · exact ⟨some ⟨g, 0, none⟩, cap, by simp⟩
        have hl1 : (acc ++ [a]).length = acc.length + 1 := by simp
        have hlt2 : ∀ k, (Value.slice uo acc.length uc).ownBlock = some k → w.heap.size ≤ k ∧ k < w2.heap.size := HOW2.out.lt
        have HO3 : Hid (Only (· = R) w w3) := by
          refine hide (((HO2.out.trans (Only.alloc _ _ _) (fun _ _ h => h)).trans (Only.grown hgr) (fun i hi e => ?_)))
          have := (hlt2 i e).1
          omega
        have HR3 : Hid (Rdr w3 R E d B N r) := by
          refine hide ((HR2.out.below ((Below.refl _ _).alloc (Nat.le_refl _) (.cells #[.int .i64 a] 2))).only ?_)
          exact (Only.grown hgr).toBelow (by simp; omega) (fun i e => by have := (hlt2 i e).1; omega)
        have HOW3 : Hid (w3.ownsRow w.heap.size 2 1 (.slice uo3 (acc ++ [a]).length uc3) (acc ++ [a]).length ((acc ++ [a]).map (.int .i64))) := by
          have h3 := hown3
          rw [← hl1] at h3
          refine hide ?_
          rw [List.map_append]
          exact h3
        clear hown3 hgr hlt2 hrow HR2 HOW2 HOWN
        by_cases hs : textF r = sep
        · have HM2 := hide (HMORE.out hs)
          cases r with
          | nil => exact absurd hs.symm hsep
          | cons t r' =>
            simp only [textF] at hs
            have HTK := hide (take_yes HR3.out)
            rw [hs] at HTK
            simp only [List.tail_cons] at HM2 HP2
            go_wp2_with fail
            refine HTK.out.mono ?_
            rintro e w4 ⟨rfl, hr4, ho4⟩
            have HR4 := hide hr4
            have HO4 := hide (HO3.out.trans ho4 (fun _ _ h => h))
            have HOW4 := hide (own_step HOW3.out ho4 (by omega))
            clear hr4 ho4
            go_wp2
            go_roundw
            case rel => exact ⟨acc ++ [a], uo3, uc3, r', by simp; omega, by rw [hl1], HP2.out, HOW4.out, HR4.out, HO4.out, by rw [show M - (acc ++ [a]).length = n by simp; omega]; exact HM2.out⟩
            case measure => simp [slLen]; omega
        · have HE2 := hide (HEND.out hs)
          have HTK := hide (take_no HR3.out hs)
          go_wp2_with fail
          refine HTK.out.mono ?_
          rintro e w4 ⟨rfl, rfl⟩
          go_wp2
          go_ret
          rw [HE2.out]
          have h5 := HOW3.out
          rw [hl1] at h5
          refine ⟨.slice uo3 (acc.length + 1) uc3, rfl, ⟨uo3, uc3, by rw [hl1], ?_⟩, HR3.out, HO3.out⟩
          rw [hl1]
          exact h5
end Go.Proofs.YtkpgfhapffijkaaDoor

/- Package jdl: one of some words. -/
namespace Go.DsJd
open Go.DsLx
def choiceP (E : Int) (lits : List ByteArray) (ws : List Tk) : Except Fl (Int × List Tk) :=
  match lits.findIdx? (fun x => decide (textF ws = x)) with
  | some i => .ok ((i : Int), ws.tail)
  | none => .error (atF E ws, 20)
theorem choice_hit {E : Int} {lits : List ByteArray} {ws : List Tk} {i : Nat} (hi : i < lits.length) (h1 : textF ws = lits[i]) (h2 : ∀ j (hj : j < lits.length), j < i → ¬ textF ws = lits[j]) : choiceP E lits ws = .ok ((i : Int), ws.tail) := by
  unfold choiceP
  have : lits.findIdx? (fun x => decide (textF ws = x)) = some i := by
    rw [List.findIdx?_eq_some_iff_getElem]
    exact ⟨hi, by simpa using h1, fun j hj => by simpa using h2 j (by omega) hj⟩
  rw [this]
theorem choice_none {E : Int} {lits : List ByteArray} {ws : List Tk} (h2 : ∀ j (hj : j < lits.length), ¬ textF ws = lits[j]) : choiceP E lits ws = .error (atF E ws, 20) := by
  unfold choiceP
  have : lits.findIdx? (fun x => decide (textF ws = x)) = none := by
    rw [List.findIdx?_eq_none_iff]
    intro x hx
    obtain ⟨j, hj, rfl⟩ := List.mem_iff_getElem.1 hx
    simpa using h2 j hj
  rw [this]
end Go.DsJd
namespace Go.Proofs.YtkpgfhapffijkaaDoor
open Go.ChangeShapes Go.WideShapes Go.ChangeAt Go.RowKit Go.DsMem Go.DsLx Go.DsJd
set_option linter.unusedVariables false
set_option maxHeartbeats 4000000 in
set_option maxRecDepth 20000 in
/-- (*jdl.reader).choice -/
theorem choice_any {w : World} {R : Nat} {E d : Int} {B N : Nat} {ws : List Tk} (h : Rdr w R E d B N ws) (lits : List ByteArray) (g uc : Nat) (hl : lits.length ≤ 1000) (hc : lits.length ≤ uc) (hne : ∀ x ∈ lits, x ≠ ⟨#[]⟩) (hcells : ∀ (j : Nat) x, lits[j]? = some x → w.cell? ⟨g, j, none⟩ = some (.string x)) :
    Calls Tryd.prog 61 #[.pointer (some ⟨R, 0, none⟩), .slice (some ⟨g, 0, none⟩) lits.length uc] w (PE R E d B N (choiceP E lits ws) VI w) := by
  have HR := hide h
  have HC := hide hcells
  have HNE := hide hne
  have HF := hide (fault_any h 20)
  obtain ⟨Q, hQ⟩ : ∃ Q, choiceP E lits ws = Q := ⟨_, rfl⟩
  have HQ := hide hQ
  rw [hQ]
  clear h hcells hne hQ
  go_enter Tryd.func61, Tryd.ntmps61
  go_wp2_with fail
  go_loopw [9] (fun ti wr => ∃ i : Nat, i ≤ lits.length ∧ ti = .int .i64 i ∧ wr = w ∧ ∀ j (hj : j < lits.length), j < i → ¬ textF ws = lits[j]) (fun ti _ => lits.length - (intOf ti).toNat)
  case atStart => exact ⟨0, Nat.zero_le _, rfl, rfl, fun j hj h => by omega⟩
  case round =>
    obtain ⟨i, hi, rfl, rfl, hbef⟩ := hrel
    have HBEF := hide hbef
    clear hbef
    by_cases hlt : i < lits.length
    · obtain ⟨x, hx⟩ : ∃ x, lits[i] = x := ⟨_, rfl⟩
      have hx' : lits[i]? = some x := by rw [List.getElem?_eq_getElem hlt, hx]
      have c0 := HC.out i x hx'
      have hxn : x ≠ ⟨#[]⟩ := HNE.out x (by rw [← hx]; exact List.getElem_mem hlt)
      by_cases hs : textF ws = x
      · have HQE : Hid (Q = .ok ((i : Int), ws.tail)) := by refine hide ?_; rw [← HQ.out]; exact choice_hit hlt (by rw [hx]; exact hs) HBEF.out
        cases ws with
        | nil => exact absurd hs.symm hxn
        | cons t r =>
          simp only [textF] at hs
          have HTK := hide (take_yes HR.out)
          rw [hs] at HTK
          clear hs hx hx'
          simp only [List.tail_cons] at HQE
          go_wp2_with fail
          refine HTK.out.mono ?_
          rintro e w4 ⟨rfl, hr4, ho4⟩
          have HR4 := hide hr4
          have HO4 := hide ho4
          clear hr4 ho4
          go_wp2
          go_ret
          rw [HQE.out]
          exact ⟨_, rfl, rfl, HR4.out, HO4.out⟩
      · have HTK := hide (take_no HR.out hs)
        have HB2 : Hid (∀ j (hj : j < lits.length), j < i + 1 → ¬ textF ws = lits[j]) := fun j hj hji => by
          by_cases e : j = i
          · subst e; rw [hx]; exact hs
          · exact HBEF.out j hj (by omega)
        clear hs hx hx'
        go_wp2_with fail
        refine HTK.out.mono ?_
        rintro e w4 ⟨rfl, rfl⟩
        go_wp2
        go_roundw
        case rel => exact ⟨i + 1, by omega, by go_num, trivial, HB2.out⟩
        case measure => simp [intOf]; omega
    · have HQE : Hid (Q = .error (atF E ws, 20)) := by refine hide ?_; rw [← HQ.out]; exact choice_none (fun j hj => HBEF.out j hj (by omega))
      go_wp2_with fail
      refine HF.out.mono ?_
      rintro e w2 ⟨rfl, hb⟩
      have HB := hide hb
      clear hb
      go_wp2
      refine ⟨rfl, ?_⟩
      rw [HQE.out]
      exact ⟨rfl, Only.below HB.out⟩
def weekL : List ByteArray := [⟨#[109, 111, 110]⟩, ⟨#[116, 117, 101]⟩, ⟨#[119, 101, 100]⟩, ⟨#[116, 104, 117]⟩, ⟨#[102, 114, 105]⟩, ⟨#[115, 97, 116]⟩, ⟨#[115, 117, 110]⟩]
def strs (l : List ByteArray) : Array Value := (l.map Value.string).toArray
theorem strs_cells (w : World) (l : List ByteArray) (t : TypeId) (j : Nat) (x : ByteArray) (h : l[j]? = some x) : (w.alloc (.cells (strs l) t)).cell? ⟨w.heap.size, j, none⟩ = some (.string x) := by
  rw [cell_of (heap_alloc_new w _)]
  simp [strs, h]
set_option maxHeartbeats 1000000 in
/-- jdl.weekdayWords -/
theorem weekWords (w : World) : Calls Tryd.prog 87 #[] w fun e w' => e = .returned (.slice (some ⟨w.heap.size, 0, none⟩) 7 7) ∧ w' = w.alloc (.cells (strs weekL) 9) := by
  go_enter Tryd.func87, Tryd.ntmps87
  go_wp2
  go_ret
  exact ⟨rfl, rfl⟩
set_option maxHeartbeats 1000000 in
set_option maxRecDepth 20000 in
/-- (*jdl.reader).weekday -/
theorem weekday_any {w : World} {R : Nat} {E d : Int} {B N : Nat} {ws : List Tk} (h : Rdr w R E d B N ws) : Calls Tryd.prog 81 #[.pointer (some ⟨R, 0, none⟩)] w (PE R E d B N (choiceP E weekL ws) VI w) := by
  have HW := hide (weekWords w)
  have HC : Hid (Calls Tryd.prog 61 #[.pointer (some ⟨R, 0, none⟩), .slice (some ⟨w.heap.size, 0, none⟩) 7 7] (w.alloc (.cells (strs weekL) 9)) (PE R E d B N (choiceP E weekL ws) VI (w.alloc (.cells (strs weekL) 9)))) :=
    choice_any (h.below ((Below.refl _ _).alloc (Nat.le_refl _) _)) weekL w.heap.size 7 (by decide) (by decide) (by decide) (fun j x hx => strs_cells w weekL _ j x hx)
  have HA : Hid (Only (· = R) w (w.alloc (.cells (strs weekL) 9))) := Only.alloc _ _ _
  clear h
  generalize w.alloc (.cells (strs weekL) 9) = wA at *
  generalize choiceP E weekL ws = q at *
  go_enter Tryd.func81, Tryd.ntmps81
  go_wp2_with fail
  refine HW.out.mono ?_
  rintro e w1 ⟨rfl, rfl⟩
  go_wp2_with fail
  refine HC.out.mono ?_
  intro e w2 hz
  cases q with
  | error f =>
    obtain ⟨rfl, ho⟩ := hz
    have HO := hide (HA.out.trans ho (fun _ _ h => h))
    clear ho
    go_wp2
    exact ⟨rfl, rfl, HO.out⟩
  | ok p =>
    obtain ⟨v, rfl, hv, hr, ho⟩ := hz
    unfold VI at hv
    subst hv
    have HO := hide (HA.out.trans ho (fun _ _ h => h))
    have HR := hide hr
    clear ho hr
    go_wp2
    go_ret
    exact ⟨_, rfl, rfl, HR.out, HO.out⟩
end Go.Proofs.YtkpgfhapffijkaaDoor

