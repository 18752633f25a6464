/- Package jdl: resources, locks, needs, windows. Written by genp.py. -/
import Derived.Test.YtkpgfhapffijkaaDoorJ12
namespace Go.DsJd
open Go.DsLx Go.DsMk
/-- one part behind the other -/
def twoP {α β : Type} (p1 : List Tk → Except Fl (α × List Tk)) (p2 : List Tk → Except Fl (β × List Tk)) (ws : List Tk) : Except Fl ((α × β) × List Tk) :=
  match p1 ws with
  | .error f => .error f
  | .ok (a, r) => match p2 r with
    | .error f => .error f
    | .ok (b, r2) => .ok ((a, b), r2)
end Go.DsJd
namespace Go.Proofs.YtkpgfhapffijkaaDoor
open Go.ChangeShapes Go.WideShapes Go.ChangeAt Go.RowKit Go.DsMem Go.DsLx Go.DsJd Go.DsMk
set_option linter.unusedVariables false
theorem heap_only {w w' : World} {p R : Nat} {o : Obj} (h : w.heap[p]? = some o) (ho : Only (· = R) w w') (hp : p ≠ R) : w'.heap[p]? = some o := by
  rw [ho.block p (block_lt h) hp]; exact h
theorem only_set3 {w w' : World} {R p : Nat} (h : Only (· = R) w w') (hp : w.heap.size ≤ p) (a b c : Value) : Only (· = R) w (((w'.setCell ⟨p, 0, none⟩ a).setCell ⟨p, 1, none⟩ b).setCell ⟨p, 2, none⟩ c) := by
  refine h.trans (T := (· = p)) ?_ (fun i hi e => absurd e (by omega))
  exact ((Only.set w' p 0 _).trans (Only.set _ p 1 _) (fun _ _ h => h)).trans (Only.set _ p 2 _) (fun _ _ h => h)
theorem only_set2 {w w' : World} {R p : Nat} (h : Only (· = R) w w') (hp : w.heap.size ≤ p) (a b : Value) : Only (· = R) w ((w'.setCell ⟨p, 0, none⟩ a).setCell ⟨p, 1, none⟩ b) := by
  refine h.trans (T := (· = p)) ?_ (fun i hi e => absurd e (by omega))
  exact (Only.set w' p 0 _).trans (Only.set _ p 1 _) (fun _ _ h => h)
/-- a resource, a need, a window -/
def VRes (w : World) (p : ByteArray × Int) (v : Value) (w' : World) : Prop := v = .agg #[.string p.1, .int .i64 p.2, .bool false]
def VLock (w : World) (p : ByteArray) (v : Value) (w' : World) : Prop := v = .agg #[.string p, .int .i64 0, .bool true]
def VNeed (w : World) (p : ByteArray × Int) (v : Value) (w' : World) : Prop := v = .agg #[.string p.1, .int .i64 p.2, .int .i64 0]
def VWin (w : World) (p : Int × Int) (v : Value) (w' : World) : Prop := v = .agg #[.int .i64 p.1, .int .i64 p.2]
set_option maxHeartbeats 4000000 in
set_option maxRecDepth 20000 in
/-- (*jdl.reader).resource -/
theorem resource_any {w : World} {R : Nat} {E d : Int} {B N : Nat} {ws : List Tk} (h : Rdr w R E d B N ws) : Calls Tryd.prog 36 #[.pointer (some ⟨R, 0, none⟩)] w (PE R E d B N (twoP (nameP E) (numP E) ws) VRes w) := by
  obtain ⟨hN1, hN2⟩ := h.n
  have HN : Hid (∀ o, _) := hide (fun o => name_any (h.below (below_new4 o)))
  have HN2 := hide (fun (w : World) (r : List Tk) (h : Rdr w R E d B N r) => number_any h)
  have HRES : Hid ((w.alloc (.cells #[.string ⟨#[]⟩, .int .i64 0, .bool false] 87)).heap[w.heap.size]? = some (.cells #[.string ⟨#[]⟩, .int .i64 0, .bool false] 87 (0, 0))) := heap_alloc_new w _
  have HOA : Hid (Only (· = R) w (w.alloc (.cells #[.string ⟨#[]⟩, .int .i64 0, .bool false] 87))) := Only.alloc _ _ _
  clear h
  unfold twoP
  generalize nameP E ws = q at *
  cases q with
  | error f =>
    unfold PE Ends at HN
    unfold PE Ends
    simp only at HN ⊢
    go_enter Tryd.func36, Tryd.ntmps36
    go_wp2_with fail
    refine (HN.out _).mono ?_
    rintro e w1 ⟨rfl, ho⟩
    have HO := hide (HOA.out.trans ho (fun _ _ h => h))
    clear ho
    go_wp2
    exact ⟨rfl, rfl, HO.out⟩
  | ok p =>
    obtain ⟨n, r⟩ := p
    unfold PE Ends VS at HN
    simp only at HN ⊢
    have HN3 := hide (fun (w : World) h => HN2.out w r h)
    clear HN2
    generalize numP E r = q2 at *
    cases q2 with
    | error f =>
      unfold PE Ends at HN3
      unfold PE Ends
      simp only at HN3 ⊢
      go_enter Tryd.func36, Tryd.ntmps36
      go_wp2_with fail
      refine (HN.out _).mono ?_
      rintro e w1 ⟨v, rfl, rfl, hr, ho⟩
      have HO := hide (HOA.out.trans ho (fun _ _ h => h))
      have HR := hide hr
      clear ho hr
      go_wp2_with fail
      refine (HN3.out _ HR.out).mono ?_
      rintro e w2 ⟨rfl, ho2⟩
      have HO2 := hide (HO.out.trans ho2 (fun _ _ h => h))
      clear ho2
      go_wp2
      exact ⟨rfl, rfl, HO2.out⟩
    | ok p =>
      obtain ⟨k, r2⟩ := p
      unfold PE Ends VI at HN3
      unfold PE Ends VRes
      simp only at HN3 ⊢
      go_enter Tryd.func36, Tryd.ntmps36
      go_wp2_with fail
      refine (HN.out _).mono ?_
      rintro e w1 ⟨v, rfl, rfl, hr, ho⟩
      have HO := hide (HOA.out.trans ho (fun _ _ h => h))
      have HR := hide hr
      have HRES1 := hide (heap_only HRES.out ho (by omega))
      clear ho hr
      go_wp2_with fail
      refine (HN3.out _ HR.out).mono ?_
      rintro e w2 ⟨v, rfl, rfl, hr2, ho2⟩
      have HO2 := hide (HO.out.trans ho2 (fun _ _ h => h))
      have HR2 := hide hr2
      have hres := heap_only HRES1.out ho2 (by omega)
      have q0 : w2.cell? ⟨w.heap.size, 0, none⟩ = some (.string ⟨#[]⟩) := by rw [cell_of hres]; rfl
      have f0 : w2.frozen? ⟨w.heap.size, 0, none⟩ = false := frozen_of hres
      have q1 : w2.cell? ⟨w.heap.size, 1, none⟩ = some (.int .i64 0) := by rw [cell_of hres]; rfl
      have f1 : w2.frozen? ⟨w.heap.size, 1, none⟩ = false := frozen_of hres
      have q2 : w2.cell? ⟨w.heap.size, 2, none⟩ = some (.bool false) := by rw [cell_of hres]; rfl
      have f2 : w2.frozen? ⟨w.heap.size, 2, none⟩ = false := frozen_of hres
      clear ho2 hr2 hres
      go_wp2
      refine bodyPost_ret (v := .agg #[.string n, .int .i64 k, .bool false]) (by simp [results, Tryd.results36, go_sem, q0, q1, q2]) rfl ?_
      exact ⟨_, rfl, rfl, HR2.out.only ((((Below.refl N _).setCell hN1 _).setCell hN1 _).setCell hN1 _), only_set3 HO2.out (Nat.le_refl _) _ _ _⟩
set_option maxHeartbeats 4000000 in
set_option maxRecDepth 20000 in
/-- (*jdl.reader).need -/
theorem need_any {w : World} {R : Nat} {E d : Int} {B N : Nat} {ws : List Tk} (h : Rdr w R E d B N ws) : Calls Tryd.prog 57 #[.pointer (some ⟨R, 0, none⟩)] w (PE R E d B N (twoP (nameP E) (numP E) ws) VNeed w) := by
  obtain ⟨hN1, hN2⟩ := h.n
  have HN : Hid (∀ o, _) := hide (fun o => name_any (h.below (below_new4 o)))
  have HN2 := hide (fun (w : World) (r : List Tk) (h : Rdr w R E d B N r) => number_any h)
  have HRES : Hid ((w.alloc (.cells #[.string ⟨#[]⟩, .int .i64 0, .int .i64 0] 111)).heap[w.heap.size]? = some (.cells #[.string ⟨#[]⟩, .int .i64 0, .int .i64 0] 111 (0, 0))) := heap_alloc_new w _
  have HOA : Hid (Only (· = R) w (w.alloc (.cells #[.string ⟨#[]⟩, .int .i64 0, .int .i64 0] 111))) := Only.alloc _ _ _
  clear h
  unfold twoP
  generalize nameP E ws = q at *
  cases q with
  | error f =>
    unfold PE Ends at HN
    unfold PE Ends
    simp only at HN ⊢
    go_enter Tryd.func57, Tryd.ntmps57
    go_wp2_with fail
    refine (HN.out _).mono ?_
    rintro e w1 ⟨rfl, ho⟩
    have HO := hide (HOA.out.trans ho (fun _ _ h => h))
    clear ho
    go_wp2
    exact ⟨rfl, rfl, HO.out⟩
  | ok p =>
    obtain ⟨n, r⟩ := p
    unfold PE Ends VS at HN
    simp only at HN ⊢
    have HN3 := hide (fun (w : World) h => HN2.out w r h)
    clear HN2
    generalize numP E r = q2 at *
    cases q2 with
    | error f =>
      unfold PE Ends at HN3
      unfold PE Ends
      simp only at HN3 ⊢
      go_enter Tryd.func57, Tryd.ntmps57
      go_wp2_with fail
      refine (HN.out _).mono ?_
      rintro e w1 ⟨v, rfl, rfl, hr, ho⟩
      have HO := hide (HOA.out.trans ho (fun _ _ h => h))
      have HR := hide hr
      clear ho hr
      go_wp2_with fail
      refine (HN3.out _ HR.out).mono ?_
      rintro e w2 ⟨rfl, ho2⟩
      have HO2 := hide (HO.out.trans ho2 (fun _ _ h => h))
      clear ho2
      go_wp2
      exact ⟨rfl, rfl, HO2.out⟩
    | ok p =>
      obtain ⟨k, r2⟩ := p
      unfold PE Ends VI at HN3
      unfold PE Ends VNeed
      simp only at HN3 ⊢
      go_enter Tryd.func57, Tryd.ntmps57
      go_wp2_with fail
      refine (HN.out _).mono ?_
      rintro e w1 ⟨v, rfl, rfl, hr, ho⟩
      have HO := hide (HOA.out.trans ho (fun _ _ h => h))
      have HR := hide hr
      have HRES1 := hide (heap_only HRES.out ho (by omega))
      clear ho hr
      go_wp2_with fail
      refine (HN3.out _ HR.out).mono ?_
      rintro e w2 ⟨v, rfl, rfl, hr2, ho2⟩
      have HO2 := hide (HO.out.trans ho2 (fun _ _ h => h))
      have HR2 := hide hr2
      have hres := heap_only HRES1.out ho2 (by omega)
      have q0 : w2.cell? ⟨w.heap.size, 0, none⟩ = some (.string ⟨#[]⟩) := by rw [cell_of hres]; rfl
      have f0 : w2.frozen? ⟨w.heap.size, 0, none⟩ = false := frozen_of hres
      have q1 : w2.cell? ⟨w.heap.size, 1, none⟩ = some (.int .i64 0) := by rw [cell_of hres]; rfl
      have f1 : w2.frozen? ⟨w.heap.size, 1, none⟩ = false := frozen_of hres
      have q2 : w2.cell? ⟨w.heap.size, 2, none⟩ = some (.int .i64 0) := by rw [cell_of hres]; rfl
      have f2 : w2.frozen? ⟨w.heap.size, 2, none⟩ = false := frozen_of hres
      clear ho2 hr2 hres
      go_wp2
      refine bodyPost_ret (v := .agg #[.string n, .int .i64 k, .int .i64 0]) (by simp [results, Tryd.results57, go_sem, q0, q1, q2]) rfl ?_
      exact ⟨_, rfl, rfl, HR2.out.only ((((Below.refl N _).setCell hN1 _).setCell hN1 _).setCell hN1 _), only_set3 HO2.out (Nat.le_refl _) _ _ _⟩
set_option maxHeartbeats 4000000 in
set_option maxRecDepth 20000 in
/-- (*jdl.reader).window -/
theorem window_any {w : World} {R : Nat} {E d : Int} {B N : Nat} {ws : List Tk} (h : Rdr w R E d B N ws) : Calls Tryd.prog 68 #[.pointer (some ⟨R, 0, none⟩)] w (PE R E d B N (twoP (timeP E) (timeP E) ws) VWin w) := by
  obtain ⟨hN1, hN2⟩ := h.n
  have HN : Hid (∀ o, _) := hide (fun o => time_any (h.below (below_new4 o)))
  have HN2 := hide (fun (w : World) (r : List Tk) (h : Rdr w R E d B N r) => time_any h)
  have HRES : Hid ((w.alloc (.cells #[.int .i64 0, .int .i64 0] 125)).heap[w.heap.size]? = some (.cells #[.int .i64 0, .int .i64 0] 125 (0, 0))) := heap_alloc_new w _
  have HOA : Hid (Only (· = R) w (w.alloc (.cells #[.int .i64 0, .int .i64 0] 125))) := Only.alloc _ _ _
  clear h
  unfold twoP
  generalize timeP E ws = q at *
  cases q with
  | error f =>
    unfold PE Ends at HN
    unfold PE Ends
    simp only at HN ⊢
    go_enter Tryd.func68, Tryd.ntmps68
    go_wp2_with fail
    refine (HN.out _).mono ?_
    rintro e w1 ⟨rfl, ho⟩
    have HO := hide (HOA.out.trans ho (fun _ _ h => h))
    clear ho
    go_wp2
    exact ⟨rfl, rfl, HO.out⟩
  | ok p =>
    obtain ⟨n, r⟩ := p
    unfold PE Ends VI at HN
    simp only at HN ⊢
    have HN3 := hide (fun (w : World) h => HN2.out w r h)
    clear HN2
    generalize timeP E r = q2 at *
    cases q2 with
    | error f =>
      unfold PE Ends at HN3
      unfold PE Ends
      simp only at HN3 ⊢
      go_enter Tryd.func68, Tryd.ntmps68
      go_wp2_with fail
      refine (HN.out _).mono ?_
      rintro e w1 ⟨v, rfl, rfl, hr, ho⟩
      have HO := hide (HOA.out.trans ho (fun _ _ h => h))
      have HR := hide hr
      clear ho hr
      go_wp2_with fail
      refine (HN3.out _ HR.out).mono ?_
      rintro e w2 ⟨rfl, ho2⟩
      have HO2 := hide (HO.out.trans ho2 (fun _ _ h => h))
      clear ho2
      go_wp2
      exact ⟨rfl, rfl, HO2.out⟩
    | ok p =>
      obtain ⟨k, r2⟩ := p
      unfold PE Ends VI at HN3
      unfold PE Ends VWin
      simp only at HN3 ⊢
      go_enter Tryd.func68, Tryd.ntmps68
      go_wp2_with fail
      refine (HN.out _).mono ?_
      rintro e w1 ⟨v, rfl, rfl, hr, ho⟩
      have HO := hide (HOA.out.trans ho (fun _ _ h => h))
      have HR := hide hr
      have HRES1 := hide (heap_only HRES.out ho (by omega))
      clear ho hr
      go_wp2_with fail
      refine (HN3.out _ HR.out).mono ?_
      rintro e w2 ⟨v, rfl, rfl, hr2, ho2⟩
      have HO2 := hide (HO.out.trans ho2 (fun _ _ h => h))
      have HR2 := hide hr2
      have hres := heap_only HRES1.out ho2 (by omega)
      have q0 : w2.cell? ⟨w.heap.size, 0, none⟩ = some (.int .i64 0) := by rw [cell_of hres]; rfl
      have f0 : w2.frozen? ⟨w.heap.size, 0, none⟩ = false := frozen_of hres
      have q1 : w2.cell? ⟨w.heap.size, 1, none⟩ = some (.int .i64 0) := by rw [cell_of hres]; rfl
      have f1 : w2.frozen? ⟨w.heap.size, 1, none⟩ = false := frozen_of hres
      clear ho2 hr2 hres
      go_wp2
      refine bodyPost_ret (v := .agg #[.int .i64 n, .int .i64 k]) (by simp [results, Tryd.results68, go_sem, q0, q1]) rfl ?_
      exact ⟨_, rfl, rfl, HR2.out.only (((Below.refl N _).setCell hN1 _).setCell hN1 _), only_set2 HO2.out (Nat.le_refl _) _ _⟩
set_option maxHeartbeats 4000000 in
set_option maxRecDepth 20000 in
/-- (*jdl.reader).lock -/
theorem lock_any {w : World} {R : Nat} {E d : Int} {B N : Nat} {ws : List Tk} (h : Rdr w R E d B N ws) : Calls Tryd.prog 37 #[.pointer (some ⟨R, 0, none⟩)] w (PE R E d B N (nameP E ws) VLock w) := by
  obtain ⟨hN1, hN2⟩ := h.n
  have HN : Hid (∀ o, _) := hide (fun o => name_any (h.below (below_new4 o)))
  have HRES : Hid ((w.alloc (.cells #[.string ⟨#[]⟩, .int .i64 0, .bool false] 87)).heap[w.heap.size]? = some (.cells #[.string ⟨#[]⟩, .int .i64 0, .bool false] 87 (0, 0))) := heap_alloc_new w _
  have HOA : Hid (Only (· = R) w (w.alloc (.cells #[.string ⟨#[]⟩, .int .i64 0, .bool false] 87))) := Only.alloc _ _ _
  clear h
  generalize nameP E ws = q at *
  cases q with
  | error f =>
    unfold PE Ends at HN
    unfold PE Ends
    simp only at HN ⊢
    go_enter Tryd.func37, Tryd.ntmps37
    go_wp2_with fail
    refine (HN.out _).mono ?_
    rintro e w1 ⟨rfl, ho⟩
    have HO := hide (HOA.out.trans ho (fun _ _ h => h))
    clear ho
    go_wp2
    exact ⟨rfl, rfl, HO.out⟩
  | ok p =>
    obtain ⟨n, r⟩ := p
    unfold PE Ends VS at HN
    unfold PE Ends VLock
    simp only at HN ⊢
    go_enter Tryd.func37, Tryd.ntmps37
    go_wp2_with fail
    refine (HN.out _).mono ?_
    rintro e w2 ⟨v, rfl, rfl, hr, ho⟩
    have HO2 := hide (HOA.out.trans ho (fun _ _ h => h))
    have HR2 := hide hr
    have hres := heap_only HRES.out ho (by omega)
    have q0 : w2.cell? ⟨w.heap.size, 0, none⟩ = some (.string ⟨#[]⟩) := by rw [cell_of hres]; rfl
    have f0 : w2.frozen? ⟨w.heap.size, 0, none⟩ = false := frozen_of hres
    have q1 : w2.cell? ⟨w.heap.size, 1, none⟩ = some (.int .i64 0) := by rw [cell_of hres]; rfl
    have f1 : w2.frozen? ⟨w.heap.size, 1, none⟩ = false := frozen_of hres
    have q2 : w2.cell? ⟨w.heap.size, 2, none⟩ = some (.bool false) := by rw [cell_of hres]; rfl
    have f2 : w2.frozen? ⟨w.heap.size, 2, none⟩ = false := frozen_of hres
    clear ho hr hres
    go_wp2
    refine bodyPost_ret (v := .agg #[.string n, .int .i64 0, .bool true]) (by simp [results, Tryd.results37, go_sem, q0, q1, q2]) rfl ?_
    exact ⟨_, rfl, rfl, HR2.out.only ((((Below.refl N _).setCell hN1 _).setCell hN1 _).setCell hN1 _), only_set3 HO2.out (Nat.le_refl _) _ _ _⟩
end Go.Proofs.YtkpgfhapffijkaaDoor
