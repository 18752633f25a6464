/- Some parts of the proof, one behind the other. -/
import Derived.Test.YtkpgfhapffijkaaDoorJ16
/- Package jdl: a calendar. -/
namespace Go.Proofs.YtkpgfhapffijkaaDoor
open Go.ChangeShapes Go.WideShapes Go.ChangeAt Go.RowKit Go.DsMem Go.DsLx Go.DsJd Go.DsMk
set_option linter.unusedVariables false
def calP (E : Int) (ws : List Tk) : Except Fl ((ByteArray × Nd) × List Tk) :=
  match thenP E ⟨#[61]⟩ (nameP E ws) with
  | .error f => .error f
  | .ok (n, r) => match daysP E (oneP E 16) r with
    | .error f => .error f
    | .ok (t, r2) => .ok ((n, t), r2)
/-- a calendar of one's own -/
def VC (w : World) (p : ByteArray × Nd) (v : Value) (w' : World) : Prop := ∃ nv : NVal, v = .agg #[.string p.1, .int .i64 nv.op, .slice nv.no nv.nl nv.nc, .slice nv.ko nv.kl nv.kc, .string nv.nm] ∧ NdOn (fun b => w.heap.size ≤ b ∧ b < w'.heap.size) w' nv p.2
set_option maxHeartbeats 4000000 in
set_option maxRecDepth 20000 in
/-- (*jdl.reader).calendar -/
theorem calendar_any {w : World} {R : Nat} {E : Int} {B N : Nat} {ws : List Tk} (h : Rdr w R E 0 B N ws) (hG : Few9 ws) : Calls Tryd.prog 34 #[.pointer (some ⟨R, 0, none⟩)] w (PE R E 0 B N (calP E ws) VC w) := by
  obtain ⟨hN1, hN2⟩ := h.n
  have HN : Hid (∀ o, _) := hide (fun o => name_any (h.below (below_new4 o)))
  have HM := hide (fun (w : World) (r : List Tk) (h : Rdr w R E 0 B N r) => must_any ⟨#[61]⟩ h (by decide))
  have HD : Hid (∀ (w : World) n r r2, nameP E ws = .ok (n, r) → mustP E ⟨#[61]⟩ r = .ok r2 → Rdr w R E 0 B N r2 → Calls Tryd.prog 46 #[.pointer (some ⟨R, 0, none⟩)] w (PE R E 0 B N (daysP E (oneP E 16) r2) VN w)) := fun w n r r2 e1 e2 h => days_all (hG.suf ((mustP_suf e2).trans (nameP_suf e1))) h
  have HRES : Hid ((w.alloc (.cells #[.string ⟨#[]⟩, .int .i64 0, .slice none 0 0, .slice none 0 0, .string ⟨#[]⟩] 83)).heap[w.heap.size]? = some (.cells #[.string ⟨#[]⟩, .int .i64 0, .slice none 0 0, .slice none 0 0, .string ⟨#[]⟩] 83 (0, 0))) := heap_alloc_new w _
  have HOA : Hid (Only (· = R) w (w.alloc (.cells #[.string ⟨#[]⟩, .int .i64 0, .slice none 0 0, .slice none 0 0, .string ⟨#[]⟩] 83))) := Only.alloc _ _ _
  have hzA : (w.alloc (.cells #[.string ⟨#[]⟩, .int .i64 0, .slice none 0 0, .slice none 0 0, .string ⟨#[]⟩] 83)).heap.size = w.heap.size + 1 := by simp
  clear h hG
  unfold calP
  generalize nameP E ws = q at *
  cases q with
  | error f =>
    have e : thenP E ⟨#[61]⟩ (.error f : Except Fl (ByteArray × List Tk)) = .error f := rfl
    rw [e]
    unfold PE Ends at HN
    unfold PE Ends
    simp only at HN ⊢
    clear HD
    go_enter Tryd.func34, Tryd.ntmps34
    go_wp2_with fail
    refine (HN.out _).mono ?_
    rintro e w1 ⟨rfl, ho⟩
    have HO := hide (HOA.out.trans ho (fun _ _ h => h))
    clear ho
    go_wp2
    exact ⟨rfl, rfl, HO.out⟩
  | ok p =>
    obtain ⟨n, r⟩ := p
    have e : thenP E ⟨#[61]⟩ (.ok (n, r)) = (match mustP E ⟨#[61]⟩ r with | .error f => .error f | .ok r2 => .ok (n, r2)) := rfl
    rw [e]
    have HM2 := hide (fun (w : World) h => HM.out w r h)
    have HD2 := hide (fun w r2 e h => HD.out w n r r2 rfl e h)
    clear HM e HD
    unfold PE Ends VS at HN
    simp only at HN
    generalize mustP E ⟨#[61]⟩ r = qm at *
    cases qm with
    | error f =>
      unfold Ends at HM2
      unfold PE Ends
      simp only at HM2 ⊢
      clear HD2
      go_enter Tryd.func34, Tryd.ntmps34
      go_wp2_with fail
      refine (HN.out _).mono ?_
      rintro e w1 ⟨v, rfl, rfl, hr, ho⟩
      have HO := hide (HOA.out.trans ho (fun _ _ h => h))
      have HR := hide hr
      clear ho hr
      go_wp2_with fail
      refine (HM2.out _ HR.out).mono ?_
      rintro e w2 ⟨rfl, ho2⟩
      have HO2 := hide (HO.out.trans ho2 (fun _ _ h => h))
      clear ho2
      go_wp2
      exact ⟨rfl, rfl, HO2.out⟩
    | ok r2 =>
      unfold Ends at HM2
      simp only at HM2 ⊢
      have HD3 := hide (fun w h => HD2.out w r2 rfl h)
      clear HD2
      generalize daysP E (oneP E 16) r2 = qd at *
      go_enter Tryd.func34, Tryd.ntmps34
      go_wp2_with fail
      refine (HN.out _).mono ?_
      rintro e w1 ⟨v, rfl, rfl, hr, ho⟩
      have HO := hide (HOA.out.trans ho (fun _ _ h => h))
      have hs1 := ho.size
      have HR := hide hr
      have HRES1 := hide (heap_only HRES.out ho (by omega))
      clear ho hr
      go_wp2_with fail
      refine (HM2.out _ HR.out).mono ?_
      rintro e w2 ⟨rfl, hr2, ho2⟩
      have HO2 := hide (HO.out.trans ho2 (fun _ _ h => h))
      have hs2 := ho2.size
      have HR2 := hide hr2
      have HRES2 := hide (heap_only HRES1.out ho2 (by omega))
      clear ho2 hr2
      go_wp2_with fail
      refine (HD3.out _ HR2.out).mono ?_
      intro e w3 hz
      cases qd with
      | error f =>
        obtain ⟨rfl, ho3⟩ := hz
        have HO3 := hide (HO2.out.trans ho3 (fun _ _ h => h))
        clear ho3
        go_wp2
        exact ⟨rfl, rfl, HO3.out⟩
      | ok p =>
        obtain ⟨t, r3⟩ := p
        obtain ⟨v, rfl, ⟨nv, rfl, hon⟩, hr3, ho3⟩ := hz
        have hres := heap_only HRES2.out ho3 (by omega)
        have q0 : w3.cell? ⟨w.heap.size, 0, none⟩ = some (.string ⟨#[]⟩) := by rw [cell_of hres]; rfl
        have f0 : w3.frozen? ⟨w.heap.size, 0, none⟩ = false := frozen_of hres
        have q1 : w3.cell? ⟨w.heap.size, 1, none⟩ = some (.int .i64 0) := by rw [cell_of hres]; rfl
        have f1 : w3.frozen? ⟨w.heap.size, 1, none⟩ = false := frozen_of hres
        have q2 : w3.cell? ⟨w.heap.size, 2, none⟩ = some (.slice none 0 0) := by rw [cell_of hres]; rfl
        have f2 : w3.frozen? ⟨w.heap.size, 2, none⟩ = false := frozen_of hres
        have q3 : w3.cell? ⟨w.heap.size, 3, none⟩ = some (.slice none 0 0) := by rw [cell_of hres]; rfl
        have f3 : w3.frozen? ⟨w.heap.size, 3, none⟩ = false := frozen_of hres
        have q4 : w3.cell? ⟨w.heap.size, 4, none⟩ = some (.string ⟨#[]⟩) := by rw [cell_of hres]; rfl
        have f4 : w3.frozen? ⟨w.heap.size, 4, none⟩ = false := frozen_of hres
        have HON := hide hon
        have hs3 := ho3.size
        have HR3 := hide hr3
        have HO3 := hide (HO2.out.trans ho3 (fun _ _ h => h))
        clear ho3 hr3 hon hres
        unfold NVal.val ndV
        go_wp2
        refine bodyPost_ret (v := .agg #[.string n, .int .i64 nv.op, .slice nv.no nv.nl nv.nc, .slice nv.ko nv.kl nv.kc, .string nv.nm]) (by simp [results, Tryd.results34, go_sem, q0, q1, q2, q3, q4]) rfl ?_
        have hW : Only (fun k => k = w.heap.size) w3 _ := ((((Only.set w3 w.heap.size 0 (.string n)).trans (Only.set _ w.heap.size 1 (.int .i64 nv.op)) (fun _ _ e => e)).trans (Only.set _ w.heap.size 2 (.slice nv.no nv.nl nv.nc)) (fun _ _ e => e)).trans (Only.set _ w.heap.size 3 (.slice nv.ko nv.kl nv.kc)) (fun _ _ e => e)).trans (Only.set _ w.heap.size 4 (.string nv.nm)) (fun _ _ e => e)
        refine ⟨_, rfl, ⟨nv, rfl, HON.out.mono (fun b hb => ⟨by omega, Nat.lt_of_lt_of_le hb.2 hW.size⟩) (fun ad u hB hc => hW.cell hc (by omega))⟩, ?_, ?_⟩
        · exact HR3.out.only ((((((Below.refl N _).setCell hN1 _).setCell hN1 _).setCell hN1 _).setCell hN1 _).setCell hN1 _)
        · exact HO3.out.trans hW (fun i hi e => absurd e (by omega))
end Go.Proofs.YtkpgfhapffijkaaDoor

/- Package jdl: locks that are held, outcomes. -/
namespace Go.DsJd
open Go.DsLx Go.DsMk
def modeL : List ByteArray := [⟨#[115, 104, 97, 114, 101, 100]⟩, ⟨#[101, 120, 99, 108, 117, 115, 105, 118, 101]⟩]
def signsL : List ByteArray := [⟨#[43]⟩, ⟨#[45]⟩]
end Go.DsJd
namespace Go.Proofs.YtkpgfhapffijkaaDoor
open Go.ChangeShapes Go.WideShapes Go.ChangeAt Go.RowKit Go.DsMem Go.DsLx Go.DsJd Go.DsMk
set_option linter.unusedVariables false
def VUse (w : World) (p : ByteArray × Int) (v : Value) (w' : World) : Prop := v = .agg #[.string p.1, .int .i64 0, .int .i64 (p.2 + 1)]
def VOut (w : World) (p : Int × (ByteArray × Int)) (v : Value) (w' : World) : Prop := v = .agg #[.bool (p.1 == 0), .string p.2.1, .int .i64 p.2.2]
set_option maxHeartbeats 1000000 in
/-- jdl.modeWords -/
theorem modeWords (w : World) : Calls Tryd.prog 63 #[] w fun e w' => e = .returned (.slice (some ⟨w.heap.size, 0, none⟩) 2 2) ∧ w' = w.alloc (.cells (strs modeL) 9) := by
  go_enter Tryd.func63, Tryd.ntmps63
  go_wp2
  go_ret
  exact ⟨rfl, rfl⟩
set_option maxHeartbeats 4000000 in
set_option maxRecDepth 20000 in
/-- (*jdl.reader).use -/
theorem use_any {w : World} {R : Nat} {E d : Int} {B N : Nat} {ws : List Tk} (h : Rdr w R E d B N ws) : Calls Tryd.prog 58 #[.pointer (some ⟨R, 0, none⟩)] w (PE R E d B N (twoP (nameP E) (choiceP E modeL) ws) VUse w) := by
  obtain ⟨hN1, hN2⟩ := h.n
  have HN : Hid (∀ o, _) := hide (fun o => name_any (h.below (below_new4 o)))
  have HC : Hid (∀ (w : World) (r : List Tk), Rdr w R E d B N r → Calls Tryd.prog 61 #[.pointer (some ⟨R, 0, none⟩), .slice (some ⟨w.heap.size, 0, none⟩) 2 2] (w.alloc (.cells (strs modeL) 9)) (PE R E d B N (choiceP E modeL r) VI (w.alloc (.cells (strs modeL) 9)))) := fun w r h =>
    choice_any (h.below (below_new4 _)) modeL w.heap.size 2 (by decide) (by decide) (by decide) (fun j x hx => strs_cells w modeL _ j x hx)
  have HRES : Hid ((w.alloc (.cells #[.string ⟨#[]⟩, .int .i64 0, .int .i64 0] 111)).heap[w.heap.size]? = some (.cells #[.string ⟨#[]⟩, .int .i64 0, .int .i64 0] 111 (0, 0))) := heap_alloc_new w _
  have HOA : Hid (Only (· = R) w (w.alloc (.cells #[.string ⟨#[]⟩, .int .i64 0, .int .i64 0] 111))) := Only.alloc _ _ _
  clear h
  unfold twoP
  generalize nameP E ws = q at *
  cases q with
  | error f =>
    unfold PE Ends at HN
    unfold PE Ends
    simp only at HN ⊢
    go_enter Tryd.func58, Tryd.ntmps58
    go_wp2_with fail
    refine (HN.out _).mono ?_
    rintro e w1 ⟨rfl, ho⟩
    have HO := hide (HOA.out.trans ho (fun _ _ h => h))
    clear ho
    go_wp2
    exact ⟨rfl, rfl, HO.out⟩
  | ok p =>
    obtain ⟨n, r⟩ := p
    unfold PE Ends VS at HN
    simp only at HN ⊢
    have HC2 := hide (fun (w : World) h => HC.out w r h)
    have HB2 := hide (fun i r2 => choiceP_suf (E := E) (lits := modeL) (ws := r) (a := i) (r := r2))
    clear HC
    generalize choiceP E modeL r = q2 at *
    go_enter Tryd.func58, Tryd.ntmps58
    go_wp2_with fail
    refine (HN.out _).mono ?_
    rintro e w1 ⟨v, rfl, rfl, hr, ho⟩
    have HO := hide (HOA.out.trans ho (fun _ _ h => h))
    have HR := hide hr
    have HRES1 := hide (heap_only HRES.out ho (by omega))
    clear ho hr
    go_wp2_with fail
    refine (modeWords w1).mono ?_
    rintro e w2 ⟨rfl, rfl⟩
    go_wp2_with fail
    refine (HC2.out w1 HR.out).mono ?_
    intro e w3 hz
    cases q2 with
    | error f =>
      obtain ⟨rfl, ho3⟩ := hz
      have HO3 := hide ((HO.out.trans (Only.alloc _ _ _) (fun _ _ h => h)).trans ho3 (fun _ _ h => h))
      clear ho3
      go_wp2
      exact ⟨rfl, rfl, HO3.out⟩
    | ok p =>
      obtain ⟨i, r3⟩ := p
      obtain ⟨v, rfl, hv, hr3, ho3⟩ := hz
      unfold VI at hv
      subst hv
      obtain ⟨-, hi0, hi1⟩ := HB2.out i r3 rfl
      have hml : modeL.length = 2 := rfl
      rw [hml] at hi1
      have hres := heap_only (heap_keep' HRES1.out) ho3 (by omega)
      have q0 : w3.cell? ⟨w.heap.size, 0, none⟩ = some (.string ⟨#[]⟩) := by rw [cell_of hres]; rfl
      have f0 : w3.frozen? ⟨w.heap.size, 0, none⟩ = false := frozen_of hres
      have q1 : w3.cell? ⟨w.heap.size, 1, none⟩ = some (.int .i64 0) := by rw [cell_of hres]; rfl
      have f1 : w3.frozen? ⟨w.heap.size, 1, none⟩ = false := frozen_of hres
      have q2 : w3.cell? ⟨w.heap.size, 2, none⟩ = some (.int .i64 0) := by rw [cell_of hres]; rfl
      have f2 : w3.frozen? ⟨w.heap.size, 2, none⟩ = false := frozen_of hres
      have HR3 := hide hr3
      have HO3 := hide ((HO.out.trans (Only.alloc _ _ _) (fun _ _ h => h)).trans ho3 (fun _ _ h => h))
      clear ho3 hr3 hres
      go_wp2
      refine bodyPost_ret (v := .agg #[.string n, .int .i64 0, .int .i64 (i + 1)]) (by simp [results, Tryd.results58, go_sem, q0, q1, q2]) rfl ?_
      exact ⟨_, rfl, rfl, HR3.out.only ((((Below.refl N _).setCell hN1 _).setCell hN1 _).setCell hN1 _), only_set3 HO3.out (Nat.le_refl _) _ _ _⟩
end Go.Proofs.YtkpgfhapffijkaaDoor

/- Package jdl: outcomes. -/
namespace Go.Proofs.YtkpgfhapffijkaaDoor
open Go.ChangeShapes Go.WideShapes Go.ChangeAt Go.RowKit Go.DsMem Go.DsLx Go.DsJd Go.DsMk
set_option linter.unusedVariables false
set_option maxHeartbeats 4000000 in
set_option maxRecDepth 20000 in
/-- (*jdl.reader).outcome -/
theorem outcome_any {w : World} {R : Nat} {E d : Int} {B N : Nat} {ws : List Tk} (h : Rdr w R E d B N ws) : Calls Tryd.prog 55 #[.pointer (some ⟨R, 0, none⟩)] w (PE R E d B N (twoP (choiceP E signsL) (refWP E) ws) VOut w) := by
  obtain ⟨hN1, hN2⟩ := h.n
  obtain ⟨wA, hwA⟩ : ∃ wA, wA = w.alloc (.cells #[.bool false, .string ⟨#[]⟩, .int .i64 0] 50) := ⟨_, rfl⟩
  have hRA : Rdr wA R E d B N ws := by rw [hwA]; exact h.below (below_new4 _)
  have hzA : wA.heap.size = w.heap.size + 1 := by rw [hwA]; simp
  have HC : Hid (Calls Tryd.prog 61 #[.pointer (some ⟨R, 0, none⟩), .slice (some ⟨w.heap.size + 1, 0, none⟩) 2 2] (wA.alloc (.cells #[.string ⟨#[43]⟩, .string ⟨#[45]⟩] 9)) (PE R E d B N (choiceP E signsL ws) VI (wA.alloc (.cells #[.string ⟨#[43]⟩, .string ⟨#[45]⟩] 9)))) := by
    refine hide ?_
    rw [← hzA]
    exact choice_any (hRA.below (below_new4 _)) signsL wA.heap.size 2 (by decide) (by decide) (by decide) (fun j x hx => strs_cells wA signsL _ j x hx)
  have HN2 := hide (fun (w : World) (r : List Tk) (h : Rdr w R E d B N r) => ref_any h)
  have HRES : Hid (wA.heap[w.heap.size]? = some (.cells #[.bool false, .string ⟨#[]⟩, .int .i64 0] 50 (0, 0))) := by rw [hwA]; exact hide (heap_alloc_new w _)
  have HOA : Hid (Only (· = R) w (wA.alloc (.cells #[.string ⟨#[43]⟩, .string ⟨#[45]⟩] 9))) := by rw [hwA]; exact hide ((Only.alloc _ _ _).trans (Only.alloc _ _ _) (fun _ _ h => h))
  clear h hRA hzA
  subst hwA
  unfold twoP
  generalize choiceP E signsL ws = q at *
  cases q with
  | error f =>
    unfold PE Ends at HC
    unfold PE Ends
    simp only at HC ⊢
    go_enter Tryd.func55, Tryd.ntmps55
    go_wp2_with fail
    refine HC.out.mono ?_
    rintro e w1 ⟨rfl, ho⟩
    have HO := hide (HOA.out.trans ho (fun _ _ h => h))
    clear ho
    go_wp2
    exact ⟨rfl, rfl, HO.out⟩
  | ok p =>
    obtain ⟨i, r⟩ := p
    unfold PE Ends VI at HC
    simp only at HC ⊢
    have HN3 := hide (fun (w : World) h => HN2.out w r h)
    clear HN2
    generalize refWP E r = q2 at *
    go_enter Tryd.func55, Tryd.ntmps55
    go_wp2_with fail
    refine HC.out.mono ?_
    rintro e w1 ⟨v, rfl, rfl, hr, ho⟩
    have HO := hide (HOA.out.trans ho (fun _ _ h => h))
    have HR := hide hr
    have HRES1 := hide (heap_only (heap_keep' HRES.out) ho (by omega))
    clear ho hr
    go_wp2_with fail
    refine (HN3.out _ HR.out).mono ?_
    intro e w2 hz
    cases q2 with
    | error f =>
      obtain ⟨rfl, ho2⟩ := hz
      have HO2 := hide (HO.out.trans ho2 (fun _ _ h => h))
      clear ho2
      go_wp2
      exact ⟨rfl, rfl, HO2.out⟩
    | ok p =>
      obtain ⟨⟨n, wh⟩, r2⟩ := p
      obtain ⟨v, rfl, hv, hr2, ho2⟩ := hz
      unfold VR at hv
      subst hv
      have hres := heap_only HRES1.out ho2 (by omega)
      have q0 : w2.cell? ⟨w.heap.size, 0, none⟩ = some (.bool false) := by rw [cell_of hres]; rfl
      have f0 : w2.frozen? ⟨w.heap.size, 0, none⟩ = false := frozen_of hres
      have q1 : w2.cell? ⟨w.heap.size, 1, none⟩ = some (.string ⟨#[]⟩) := by rw [cell_of hres]; rfl
      have f1 : w2.frozen? ⟨w.heap.size, 1, none⟩ = false := frozen_of hres
      have q2 : w2.cell? ⟨w.heap.size, 2, none⟩ = some (.int .i64 0) := by rw [cell_of hres]; rfl
      have f2 : w2.frozen? ⟨w.heap.size, 2, none⟩ = false := frozen_of hres
      have HR2 := hide hr2
      have HO2 := hide (HO.out.trans ho2 (fun _ _ h => h))
      clear ho2 hr2 hres
      go_wp2
      refine bodyPost_ret (v := .agg #[.bool (i == 0), .string n, .int .i64 wh]) (by simp [results, Tryd.results55, go_sem, q0, q1, q2]) rfl ?_
      exact ⟨_, rfl, rfl, HR2.out.only ((((Below.refl N _).setCell hN1 _).setCell hN1 _).setCell hN1 _), only_set3 HO2.out (Nat.le_refl _) _ _ _⟩
end Go.Proofs.YtkpgfhapffijkaaDoor

/- Package jdl: where days are moved. -/
namespace Go.DsJd
open Go.DsLx Go.DsMk
def dirL : List ByteArray := [⟨#[112, 114, 101, 118]⟩, ⟨#[115, 107, 105, 112]⟩, ⟨#[110, 101, 120, 116]⟩]
end Go.DsJd
namespace Go.Proofs.YtkpgfhapffijkaaDoor
open Go.ChangeShapes Go.WideShapes Go.ChangeAt Go.RowKit Go.DsMem Go.DsLx Go.DsJd Go.DsMk
set_option linter.unusedVariables false
def VSh (w : World) (p : Int × Nd) (v : Value) (w' : World) : Prop := ∃ nv : NVal, v = .agg #[.int .i64 (p.1 - 1), .int .i64 nv.op, .slice nv.no nv.nl nv.nc, .slice nv.ko nv.kl nv.kc, .string nv.nm] ∧ NdOn (fun b => w.heap.size ≤ b ∧ b < w'.heap.size) w' nv p.2
set_option maxHeartbeats 1000000 in
/-- jdl.dirWords -/
theorem dirWords (w : World) : Calls Tryd.prog 75 #[] w fun e w' => e = .returned (.slice (some ⟨w.heap.size, 0, none⟩) 3 3) ∧ w' = w.alloc (.cells (strs dirL) 9) := by
  go_enter Tryd.func75, Tryd.ntmps75
  go_wp2
  go_ret
  exact ⟨rfl, rfl⟩
set_option maxHeartbeats 4000000 in
set_option maxRecDepth 20000 in
/-- (*jdl.reader).shift -/
theorem shift_any {w : World} {R : Nat} {E : Int} {B N : Nat} {ws : List Tk} (h : Rdr w R E 0 B N ws) (hG : Few9 ws) : Calls Tryd.prog 66 #[.pointer (some ⟨R, 0, none⟩)] w (PE R E 0 B N (twoP (choiceP E dirL) (daysP E (oneP E 16)) ws) VSh w) := by
  obtain ⟨hN1, hN2⟩ := h.n
  obtain ⟨wA, hwA⟩ : ∃ wA, wA = w.alloc (.cells #[.int .i64 0, .int .i64 0, .slice none 0 0, .slice none 0 0, .string ⟨#[]⟩] 122) := ⟨_, rfl⟩
  have hRA : Rdr wA R E 0 B N ws := by rw [hwA]; exact h.below (below_new4 _)
  have hzA : wA.heap.size = w.heap.size + 1 := by rw [hwA]; simp
  have HWD := hide (dirWords wA)
  have HC : Hid (Calls Tryd.prog 61 #[.pointer (some ⟨R, 0, none⟩), .slice (some ⟨wA.heap.size, 0, none⟩) 3 3] (wA.alloc (.cells (strs dirL) 9)) (PE R E 0 B N (choiceP E dirL ws) VI (wA.alloc (.cells (strs dirL) 9)))) :=
    choice_any (hRA.below (below_new4 _)) dirL wA.heap.size 3 (by decide) (by decide) (by decide) (fun j x hx => strs_cells wA dirL _ j x hx)
  have HD : Hid (∀ (w : World) i r, choiceP E dirL ws = .ok (i, r) → Rdr w R E 0 B N r → Calls Tryd.prog 46 #[.pointer (some ⟨R, 0, none⟩)] w (PE R E 0 B N (daysP E (oneP E 16) r) VN w)) := fun w i r e h => days_all (hG.suf (choiceP_suf e).1) h
  have HB2 := hide (fun i r2 => choiceP_suf (E := E) (lits := dirL) (ws := ws) (a := i) (r := r2))
  have HRES : Hid (wA.heap[w.heap.size]? = some (.cells #[.int .i64 0, .int .i64 0, .slice none 0 0, .slice none 0 0, .string ⟨#[]⟩] 122 (0, 0))) := by rw [hwA]; exact hide (heap_alloc_new w _)
  have HOA : Hid (Only (· = R) w (wA.alloc (.cells (strs dirL) 9))) := by rw [hwA]; exact hide ((Only.alloc _ _ _).trans (Only.alloc _ _ _) (fun _ _ h => h))
  have hzB : (wA.alloc (.cells (strs dirL) 9)).heap.size = w.heap.size + 2 := by simp [hzA]
  rw [hzA] at HWD HC
  clear h hRA hG
  subst hwA
  unfold twoP
  generalize choiceP E dirL ws = q at *
  cases q with
  | error f =>
    unfold PE Ends at HC
    unfold PE Ends
    simp only at HC ⊢
    clear HD HB2
    go_enter Tryd.func66, Tryd.ntmps66
    go_wp2_with fail
    refine HWD.out.mono ?_
    rintro e w0 ⟨rfl, rfl⟩
    go_wp2_with fail
    refine HC.out.mono ?_
    rintro e w1 ⟨rfl, ho⟩
    have HO := hide (HOA.out.trans ho (fun _ _ h => h))
    clear ho
    go_wp2
    exact ⟨rfl, rfl, HO.out⟩
  | ok p =>
    obtain ⟨i, r⟩ := p
    obtain ⟨-, hi0, hi1⟩ := HB2.out i r rfl
    have hdl : dirL.length = 3 := rfl
    rw [hdl] at hi1
    unfold PE Ends VI at HC
    simp only at HC ⊢
    have HD3 := hide (fun w h => HD.out w i r rfl h)
    clear HD HB2
    generalize daysP E (oneP E 16) r = qd at *
    go_enter Tryd.func66, Tryd.ntmps66
    go_wp2_with fail
    refine HWD.out.mono ?_
    rintro e w0 ⟨rfl, rfl⟩
    go_wp2_with fail
    refine HC.out.mono ?_
    rintro e w1 ⟨v, rfl, rfl, hr, ho⟩
    have HO := hide (HOA.out.trans ho (fun _ _ h => h))
    have hs1 := ho.size
    have HR := hide hr
    have HRES1 := hide (heap_only (heap_keep' HRES.out) ho (by omega))
    clear ho hr
    go_wp2_with fail
    refine (HD3.out _ HR.out).mono ?_
    intro e w3 hz
    cases qd with
    | error f =>
      obtain ⟨rfl, ho3⟩ := hz
      have HO3 := hide (HO.out.trans ho3 (fun _ _ h => h))
      clear ho3
      go_wp2
      exact ⟨rfl, rfl, HO3.out⟩
    | ok p =>
      obtain ⟨t, r3⟩ := p
      obtain ⟨v, rfl, ⟨nv, rfl, hon⟩, hr3, ho3⟩ := hz
      have hres := heap_only HRES1.out ho3 (by omega)
      have q0 : w3.cell? ⟨w.heap.size, 0, none⟩ = some (.int .i64 0) := by rw [cell_of hres]; rfl
      have f0 : w3.frozen? ⟨w.heap.size, 0, none⟩ = false := frozen_of hres
      have q1 : w3.cell? ⟨w.heap.size, 1, none⟩ = some (.int .i64 0) := by rw [cell_of hres]; rfl
      have f1 : w3.frozen? ⟨w.heap.size, 1, none⟩ = false := frozen_of hres
      have q2 : w3.cell? ⟨w.heap.size, 2, none⟩ = some (.slice none 0 0) := by rw [cell_of hres]; rfl
      have f2 : w3.frozen? ⟨w.heap.size, 2, none⟩ = false := frozen_of hres
      have q3 : w3.cell? ⟨w.heap.size, 3, none⟩ = some (.slice none 0 0) := by rw [cell_of hres]; rfl
      have f3 : w3.frozen? ⟨w.heap.size, 3, none⟩ = false := frozen_of hres
      have q4 : w3.cell? ⟨w.heap.size, 4, none⟩ = some (.string ⟨#[]⟩) := by rw [cell_of hres]; rfl
      have f4 : w3.frozen? ⟨w.heap.size, 4, none⟩ = false := frozen_of hres
      have HON := hide hon
      have hs3 := ho3.size
      have HR3 := hide hr3
      have HO3 := hide (HO.out.trans ho3 (fun _ _ h => h))
      clear ho3 hr3 hon hres
      unfold NVal.val ndV
      go_wp2
      refine bodyPost_ret (v := .agg #[.int .i64 (i - 1), .int .i64 nv.op, .slice nv.no nv.nl nv.nc, .slice nv.ko nv.kl nv.kc, .string nv.nm]) (by simp [results, Tryd.results66, go_sem, q0, q1, q2, q3, q4]) rfl ?_
      have hW : Only (fun k => k = w.heap.size) w3 _ := ((((Only.set w3 w.heap.size 0 (.int .i64 (i - 1))).trans (Only.set _ w.heap.size 1 (.int .i64 nv.op)) (fun _ _ e => e)).trans (Only.set _ w.heap.size 2 (.slice nv.no nv.nl nv.nc)) (fun _ _ e => e)).trans (Only.set _ w.heap.size 3 (.slice nv.ko nv.kl nv.kc)) (fun _ _ e => e)).trans (Only.set _ w.heap.size 4 (.string nv.nm)) (fun _ _ e => e)
      refine ⟨_, rfl, ⟨nv, rfl, HON.out.mono (fun b hb => ⟨by omega, Nat.lt_of_lt_of_le hb.2 hW.size⟩) (fun ad u hB hc => hW.cell hc (by omega))⟩, ?_, ?_⟩
      · exact HR3.out.only ((((((Below.refl N _).setCell hN1 _).setCell hN1 _).setCell hN1 _).setCell hN1 _).setCell hN1 _)
      · exact HO3.out.trans hW (fun i hi e => absurd e (by omega))
end Go.Proofs.YtkpgfhapffijkaaDoor

