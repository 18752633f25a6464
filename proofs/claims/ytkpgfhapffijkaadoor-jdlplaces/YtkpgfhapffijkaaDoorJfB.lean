/- Package jdl: what stands between a first word and its end, at calendars and shifts. Written by gens6.py. -/
import Derived.Test.YtkpgfhapffijkaaDoorJ17
namespace Go.Proofs.YtkpgfhapffijkaaDoor
open Go.ChangeShapes Go.WideShapes Go.ChangeAt Go.RowKit Go.DsMem Go.DsLx Go.DsJd Go.DsMk
set_option linter.unusedVariables false
theorem only_set5 {w w' : World} {R p : Nat} (h : Only (· = R) w w') (hp : w.heap.size ≤ p) (a b c d e : Value) : Only (· = R) w (((((w'.setCell ⟨p, 0, none⟩ a).setCell ⟨p, 1, none⟩ b).setCell ⟨p, 2, none⟩ c).setCell ⟨p, 3, none⟩ d).setCell ⟨p, 4, none⟩ e) := by
  refine h.trans ((((((Only.set w' p 0 a).trans (Only.set _ p 1 b) (fun _ _ e => e)).trans (Only.set _ p 2 c) (fun _ _ e => e)).trans (Only.set _ p 3 d) (fun _ _ e => e)).trans (Only.set _ p 4 e) (fun _ _ e => e))) (fun i hi e => absurd e (by omega))
set_option maxHeartbeats 4000000 in
set_option maxRecDepth 20000 in
/-- jdl.said[cal.Cal] -/
theorem saidCal {w : World} {R : Nat} {E d : Int} {B N : Nat} {t : Tk} {r : List Tk} {α : Type} (h : Rdr w R E d B N (t :: r)) (K : Nat) (first cap : Array Value) (part : List Tk → Except Fl (α × List Tk)) (V : World → α → Value → World → Prop)
    (hcf : CF K) (hV : ∀ wA a v w1, V wA a v w1 → ∃ (n : ByteArray) (op : Int) (no : Option Addr) (nl : Nat) (nc : Nat) (ko : Option Addr) (kl : Nat) (kc : Nat) (nm : ByteArray), v = .agg #[.string n, .int .i64 op, .slice no nl nc, .slice ko kl kc, .string nm]) (hS : ∀ wA a v w1 w2, wA.heap.size = w.heap.size + 1 → V wA a v w1 → Only (fun k => k = R ∨ k = w.heap.size) w1 w2 → V w a v w2) (hA : ∀ wA wB a v w1, wA.heap.size ≤ wB.heap.size → V wB a v w1 → V wA a v w1)
    (hp : ∀ w, Rdr w R E d B N r → Calls Tryd.prog K (first ++ cap) w (PE R E d B N (part r) V w)) :
    Calls Tryd.prog 33 #[.pointer (some ⟨R, 0, none⟩), .func (.func K) first cap] w (PE R E d B N (thenP E ⟨#[59]⟩ (part r)) V w) := by
  obtain ⟨hN1, hN2⟩ := h.n
  have HS : Hid (∀ o, _) := hide (fun o => skip_any (h.below (below_new4 o)))
  have HP := hide hp
  have HV := hide hV
  have HST := hide hS
  have HA := hide hA
  have hcf' := hcf (first ++ cap)
  have HM := hide (fun (w : World) (r : List Tk) (h : Rdr w R E d B N r) => must_any ⟨#[59]⟩ h (by decide))
  have HRES : Hid ((w.alloc (.cells #[.string ⟨#[]⟩, .int .i64 0, .slice none 0 0, .slice none 0 0, .string ⟨#[]⟩] 83)).heap[w.heap.size]? = some (.cells #[.string ⟨#[]⟩, .int .i64 0, .slice none 0 0, .slice none 0 0, .string ⟨#[]⟩] 83 (0, 0))) := heap_alloc_new w _
  have HOA : Hid (Only (· = R) w (w.alloc (.cells #[.string ⟨#[]⟩, .int .i64 0, .slice none 0 0, .slice none 0 0, .string ⟨#[]⟩] 83))) := Only.alloc _ _ _
  have hzA : (w.alloc (.cells #[.string ⟨#[]⟩, .int .i64 0, .slice none 0 0, .slice none 0 0, .string ⟨#[]⟩] 83)).heap.size = w.heap.size + 1 := by simp
  clear h hp hV hS hA hcf
  generalize part r = q at *
  cases q with
  | error f =>
    unfold PE Ends at HP
    unfold PE Ends thenP
    simp only at HP ⊢
    go_enter Tryd.func33, Tryd.ntmps33
    go_wp2_with fail
    refine (HS.out _).mono ?_
    rintro e w1 ⟨rfl, hr, ho⟩
    have HR := hide hr
    have HO := hide (HOA.out.trans ho (fun _ _ h => h))
    clear hr ho
    go_wp2_with fail
    refine (HP.out w1 HR.out).mono ?_
    rintro e w2 ⟨rfl, ho2⟩
    have HO2 := hide (HO.out.trans ho2 (fun _ _ h => h))
    clear ho2
    go_wp2
    exact ⟨rfl, rfl, HO2.out⟩
  | ok p =>
    obtain ⟨a, r'⟩ := p
    have e : thenP E ⟨#[59]⟩ (.ok (a, r')) = (match mustP E ⟨#[59]⟩ r' with | .error f => .error f | .ok r2 => .ok (a, r2)) := rfl
    rw [e]
    have HM2 := hide (fun (w : World) h => HM.out w r' h)
    clear HM e
    unfold PE Ends at HP
    simp only at HP
    generalize mustP E ⟨#[59]⟩ r' = qm at *
    go_enter Tryd.func33, Tryd.ntmps33
    go_wp2_with fail
    refine (HS.out _).mono ?_
    rintro e w1 ⟨rfl, hr, ho⟩
    have HR := hide hr
    have HO := hide (HOA.out.trans ho (fun _ _ h => h))
    have hs1 := ho.size
    have HRES1 := hide (heap_only HRES.out ho (by omega))
    clear hr ho
    go_wp2_with fail
    refine (HP.out w1 HR.out).mono ?_
    rintro e w2 ⟨v, rfl, hv, hr2, ho2⟩
    obtain ⟨n, op, no, nl, nc, ko, kl, kc, nm, rfl⟩ := HV.out _ _ _ _ hv
    have hv' := HA.out (w.alloc (.cells #[.string ⟨#[]⟩, .int .i64 0, .slice none 0 0, .slice none 0 0, .string ⟨#[]⟩] 83)) w1 _ _ _ (by omega) hv
    have HVA := hide hv'
    have HR2 := hide hr2
    have HO2 := hide (HO.out.trans ho2 (fun _ _ h => h))
    have hs2 := ho2.size
    have HRES2 := hide (heap_only HRES1.out ho2 (by omega))
    clear hr2 ho2 hv hv'
    go_wp2_with fail
    refine (HM2.out _ (HR2.out.below (below_new4 _))).mono ?_
    intro e w3 hz
    cases qm with
    | error f =>
      obtain ⟨rfl, ho3⟩ := hz
      have HO3 := hide ((HO2.out.trans (Only.alloc _ _ _) (fun _ _ h => h)).trans ho3 (fun _ _ h => h))
      clear ho3
      go_wp2
      exact ⟨rfl, rfl, HO3.out⟩
    | ok r2 =>
      obtain ⟨rfl, hr3, ho3⟩ := hz
      have hbox : w3.heap[w2.heap.size]? = some (.cells #[.string n, .int .i64 op, .slice no nl nc, .slice ko kl kc, .string nm] 83 (0, 0)) := heap_only (heap_alloc_new w2 _) ho3 (by omega)
      have hres3 : w3.heap[w.heap.size]? = some (.cells #[.string ⟨#[]⟩, .int .i64 0, .slice none 0 0, .slice none 0 0, .string ⟨#[]⟩] 83 (0, 0)) := heap_only (heap_keep' HRES2.out) ho3 (by omega)
      have z0 : w3.cell? ⟨w2.heap.size, 0, none⟩ = some (.string n) := by rw [cell_of hbox]; rfl
      have q0 : w3.cell? ⟨w.heap.size, 0, none⟩ = some (.string ⟨#[]⟩) := by rw [cell_of hres3]; rfl
      have f0 : w3.frozen? ⟨w.heap.size, 0, none⟩ = false := frozen_of hres3
      have z1 : w3.cell? ⟨w2.heap.size, 1, none⟩ = some (.int .i64 op) := by rw [cell_of hbox]; rfl
      have q1 : w3.cell? ⟨w.heap.size, 1, none⟩ = some (.int .i64 0) := by rw [cell_of hres3]; rfl
      have f1 : w3.frozen? ⟨w.heap.size, 1, none⟩ = false := frozen_of hres3
      have z2 : w3.cell? ⟨w2.heap.size, 2, none⟩ = some (.slice no nl nc) := by rw [cell_of hbox]; rfl
      have q2 : w3.cell? ⟨w.heap.size, 2, none⟩ = some (.slice none 0 0) := by rw [cell_of hres3]; rfl
      have f2 : w3.frozen? ⟨w.heap.size, 2, none⟩ = false := frozen_of hres3
      have z3 : w3.cell? ⟨w2.heap.size, 3, none⟩ = some (.slice ko kl kc) := by rw [cell_of hbox]; rfl
      have q3 : w3.cell? ⟨w.heap.size, 3, none⟩ = some (.slice none 0 0) := by rw [cell_of hres3]; rfl
      have f3 : w3.frozen? ⟨w.heap.size, 3, none⟩ = false := frozen_of hres3
      have z4 : w3.cell? ⟨w2.heap.size, 4, none⟩ = some (.string nm) := by rw [cell_of hbox]; rfl
      have q4 : w3.cell? ⟨w.heap.size, 4, none⟩ = some (.string ⟨#[]⟩) := by rw [cell_of hres3]; rfl
      have f4 : w3.frozen? ⟨w.heap.size, 4, none⟩ = false := frozen_of hres3
      have HR3 := hide hr3
      have hW1 : Only (· = R) w2 w3 := (Only.alloc _ _ _).trans ho3 (fun _ _ h => h)
      have HW1 := hide hW1
      have HO3 := hide (HO2.out.trans hW1 (fun _ _ h => h))
      clear hr3 ho3 hbox hres3 hW1
      go_wp2
      refine bodyPost_ret (v := .agg #[.string n, .int .i64 op, .slice no nl nc, .slice ko kl kc, .string nm]) (by simp [results, Tryd.results33, go_sem, q0, q1, q2, q3, q4]) rfl ?_
      have hW : Only (fun k => k = R ∨ k = w.heap.size) w2 _ := (((((HW1.out.mono (fun _ _ e => .inl e)).trans (Only.set _ w.heap.size 0 (.string n)) (fun _ _ e => .inr e)).trans (Only.set _ w.heap.size 1 (.int .i64 op)) (fun _ _ e => .inr e)).trans (Only.set _ w.heap.size 2 (.slice no nl nc)) (fun _ _ e => .inr e)).trans (Only.set _ w.heap.size 3 (.slice ko kl kc)) (fun _ _ e => .inr e)).trans (Only.set _ w.heap.size 4 (.string nm)) (fun _ _ e => .inr e)
      exact ⟨_, rfl, HST.out _ _ _ _ _ hzA HVA.out hW, HR3.out.only ((((((Below.refl N _).setCell hN1 _).setCell hN1 _).setCell hN1 _).setCell hN1 _).setCell hN1 _), only_set5 HO3.out (Nat.le_refl _) _ _ _ _ _⟩
set_option maxHeartbeats 4000000 in
set_option maxRecDepth 20000 in
/-- jdl.said[jdl.shift] -/
theorem saidShift {w : World} {R : Nat} {E d : Int} {B N : Nat} {t : Tk} {r : List Tk} {α : Type} (h : Rdr w R E d B N (t :: r)) (K : Nat) (first cap : Array Value) (part : List Tk → Except Fl (α × List Tk)) (V : World → α → Value → World → Prop)
    (hcf : CF K) (hV : ∀ wA a v w1, V wA a v w1 → ∃ (n : Int) (op : Int) (no : Option Addr) (nl : Nat) (nc : Nat) (ko : Option Addr) (kl : Nat) (kc : Nat) (nm : ByteArray), v = .agg #[.int .i64 n, .int .i64 op, .slice no nl nc, .slice ko kl kc, .string nm]) (hS : ∀ wA a v w1 w2, wA.heap.size = w.heap.size + 1 → V wA a v w1 → Only (fun k => k = R ∨ k = w.heap.size) w1 w2 → V w a v w2) (hA : ∀ wA wB a v w1, wA.heap.size ≤ wB.heap.size → V wB a v w1 → V wA a v w1)
    (hp : ∀ w, Rdr w R E d B N r → Calls Tryd.prog K (first ++ cap) w (PE R E d B N (part r) V w)) :
    Calls Tryd.prog 65 #[.pointer (some ⟨R, 0, none⟩), .func (.func K) first cap] w (PE R E d B N (thenP E ⟨#[59]⟩ (part r)) V w) := by
  obtain ⟨hN1, hN2⟩ := h.n
  have HS : Hid (∀ o, _) := hide (fun o => skip_any (h.below (below_new4 o)))
  have HP := hide hp
  have HV := hide hV
  have HST := hide hS
  have HA := hide hA
  have hcf' := hcf (first ++ cap)
  have HM := hide (fun (w : World) (r : List Tk) (h : Rdr w R E d B N r) => must_any ⟨#[59]⟩ h (by decide))
  have HRES : Hid ((w.alloc (.cells #[.int .i64 0, .int .i64 0, .slice none 0 0, .slice none 0 0, .string ⟨#[]⟩] 122)).heap[w.heap.size]? = some (.cells #[.int .i64 0, .int .i64 0, .slice none 0 0, .slice none 0 0, .string ⟨#[]⟩] 122 (0, 0))) := heap_alloc_new w _
  have HOA : Hid (Only (· = R) w (w.alloc (.cells #[.int .i64 0, .int .i64 0, .slice none 0 0, .slice none 0 0, .string ⟨#[]⟩] 122))) := Only.alloc _ _ _
  have hzA : (w.alloc (.cells #[.int .i64 0, .int .i64 0, .slice none 0 0, .slice none 0 0, .string ⟨#[]⟩] 122)).heap.size = w.heap.size + 1 := by simp
  clear h hp hV hS hA hcf
  generalize part r = q at *
  cases q with
  | error f =>
    unfold PE Ends at HP
    unfold PE Ends thenP
    simp only at HP ⊢
    go_enter Tryd.func65, Tryd.ntmps65
    go_wp2_with fail
    refine (HS.out _).mono ?_
    rintro e w1 ⟨rfl, hr, ho⟩
    have HR := hide hr
    have HO := hide (HOA.out.trans ho (fun _ _ h => h))
    clear hr ho
    go_wp2_with fail
    refine (HP.out w1 HR.out).mono ?_
    rintro e w2 ⟨rfl, ho2⟩
    have HO2 := hide (HO.out.trans ho2 (fun _ _ h => h))
    clear ho2
    go_wp2
    exact ⟨rfl, rfl, HO2.out⟩
  | ok p =>
    obtain ⟨a, r'⟩ := p
    have e : thenP E ⟨#[59]⟩ (.ok (a, r')) = (match mustP E ⟨#[59]⟩ r' with | .error f => .error f | .ok r2 => .ok (a, r2)) := rfl
    rw [e]
    have HM2 := hide (fun (w : World) h => HM.out w r' h)
    clear HM e
    unfold PE Ends at HP
    simp only at HP
    generalize mustP E ⟨#[59]⟩ r' = qm at *
    go_enter Tryd.func65, Tryd.ntmps65
    go_wp2_with fail
    refine (HS.out _).mono ?_
    rintro e w1 ⟨rfl, hr, ho⟩
    have HR := hide hr
    have HO := hide (HOA.out.trans ho (fun _ _ h => h))
    have hs1 := ho.size
    have HRES1 := hide (heap_only HRES.out ho (by omega))
    clear hr ho
    go_wp2_with fail
    refine (HP.out w1 HR.out).mono ?_
    rintro e w2 ⟨v, rfl, hv, hr2, ho2⟩
    obtain ⟨n, op, no, nl, nc, ko, kl, kc, nm, rfl⟩ := HV.out _ _ _ _ hv
    have hv' := HA.out (w.alloc (.cells #[.int .i64 0, .int .i64 0, .slice none 0 0, .slice none 0 0, .string ⟨#[]⟩] 122)) w1 _ _ _ (by omega) hv
    have HVA := hide hv'
    have HR2 := hide hr2
    have HO2 := hide (HO.out.trans ho2 (fun _ _ h => h))
    have hs2 := ho2.size
    have HRES2 := hide (heap_only HRES1.out ho2 (by omega))
    clear hr2 ho2 hv hv'
    go_wp2_with fail
    refine (HM2.out _ (HR2.out.below (below_new4 _))).mono ?_
    intro e w3 hz
    cases qm with
    | error f =>
      obtain ⟨rfl, ho3⟩ := hz
      have HO3 := hide ((HO2.out.trans (Only.alloc _ _ _) (fun _ _ h => h)).trans ho3 (fun _ _ h => h))
      clear ho3
      go_wp2
      exact ⟨rfl, rfl, HO3.out⟩
    | ok r2 =>
      obtain ⟨rfl, hr3, ho3⟩ := hz
      have hbox : w3.heap[w2.heap.size]? = some (.cells #[.int .i64 n, .int .i64 op, .slice no nl nc, .slice ko kl kc, .string nm] 122 (0, 0)) := heap_only (heap_alloc_new w2 _) ho3 (by omega)
      have hres3 : w3.heap[w.heap.size]? = some (.cells #[.int .i64 0, .int .i64 0, .slice none 0 0, .slice none 0 0, .string ⟨#[]⟩] 122 (0, 0)) := heap_only (heap_keep' HRES2.out) ho3 (by omega)
      have z0 : w3.cell? ⟨w2.heap.size, 0, none⟩ = some (.int .i64 n) := by rw [cell_of hbox]; rfl
      have q0 : w3.cell? ⟨w.heap.size, 0, none⟩ = some (.int .i64 0) := by rw [cell_of hres3]; rfl
      have f0 : w3.frozen? ⟨w.heap.size, 0, none⟩ = false := frozen_of hres3
      have z1 : w3.cell? ⟨w2.heap.size, 1, none⟩ = some (.int .i64 op) := by rw [cell_of hbox]; rfl
      have q1 : w3.cell? ⟨w.heap.size, 1, none⟩ = some (.int .i64 0) := by rw [cell_of hres3]; rfl
      have f1 : w3.frozen? ⟨w.heap.size, 1, none⟩ = false := frozen_of hres3
      have z2 : w3.cell? ⟨w2.heap.size, 2, none⟩ = some (.slice no nl nc) := by rw [cell_of hbox]; rfl
      have q2 : w3.cell? ⟨w.heap.size, 2, none⟩ = some (.slice none 0 0) := by rw [cell_of hres3]; rfl
      have f2 : w3.frozen? ⟨w.heap.size, 2, none⟩ = false := frozen_of hres3
      have z3 : w3.cell? ⟨w2.heap.size, 3, none⟩ = some (.slice ko kl kc) := by rw [cell_of hbox]; rfl
      have q3 : w3.cell? ⟨w.heap.size, 3, none⟩ = some (.slice none 0 0) := by rw [cell_of hres3]; rfl
      have f3 : w3.frozen? ⟨w.heap.size, 3, none⟩ = false := frozen_of hres3
      have z4 : w3.cell? ⟨w2.heap.size, 4, none⟩ = some (.string nm) := by rw [cell_of hbox]; rfl
      have q4 : w3.cell? ⟨w.heap.size, 4, none⟩ = some (.string ⟨#[]⟩) := by rw [cell_of hres3]; rfl
      have f4 : w3.frozen? ⟨w.heap.size, 4, none⟩ = false := frozen_of hres3
      have HR3 := hide hr3
      have hW1 : Only (· = R) w2 w3 := (Only.alloc _ _ _).trans ho3 (fun _ _ h => h)
      have HW1 := hide hW1
      have HO3 := hide (HO2.out.trans hW1 (fun _ _ h => h))
      clear hr3 ho3 hbox hres3 hW1
      go_wp2
      refine bodyPost_ret (v := .agg #[.int .i64 n, .int .i64 op, .slice no nl nc, .slice ko kl kc, .string nm]) (by simp [results, Tryd.results65, go_sem, q0, q1, q2, q3, q4]) rfl ?_
      have hW : Only (fun k => k = R ∨ k = w.heap.size) w2 _ := (((((HW1.out.mono (fun _ _ e => .inl e)).trans (Only.set _ w.heap.size 0 (.int .i64 n)) (fun _ _ e => .inr e)).trans (Only.set _ w.heap.size 1 (.int .i64 op)) (fun _ _ e => .inr e)).trans (Only.set _ w.heap.size 2 (.slice no nl nc)) (fun _ _ e => .inr e)).trans (Only.set _ w.heap.size 3 (.slice ko kl kc)) (fun _ _ e => .inr e)).trans (Only.set _ w.heap.size 4 (.string nm)) (fun _ _ e => .inr e)
      exact ⟨_, rfl, HST.out _ _ _ _ _ hzA HVA.out hW, HR3.out.only ((((((Below.refl N _).setCell hN1 _).setCell hN1 _).setCell hN1 _).setCell hN1 _).setCell hN1 _), only_set5 HO3.out (Nat.le_refl _) _ _ _ _ _⟩
end Go.Proofs.YtkpgfhapffijkaaDoor
