/- Package jdl: a part of a job that stands once. Written by gen_single.py. -/
import Derived.Test.YtkpgfhapffijkaaGreatDoorR19
import Derived.Deep.AppendLies
namespace Go.Proofs.YtkpgfhapffijkaaGreatDoor
open Go.ChangeShapes Go.WideShapes Go.ChangeAt Go.RowKit Go.DsMem Go.DsLx Go.DsJd Go.DsMk
set_option linter.unusedVariables false
set_option maxHeartbeats 8000000 in
set_option maxRecDepth 20000 in
theorem singleDays {w : World} {R J b0 : Nat} {E : Int} {B N : Nat} {t : Tk} {r : List Tk} (h : Rdr w R E 0 B N (t :: r)) (hG : Few9 r) (hc : t.text = wDays) {x : Jb} {s : JSl} (hj : JbAt b0 w J x s) (hNJ : N ≤ J) :
    Calls Tryz.prog 170 #[.pointer (some ⟨R, 0, none⟩), .pointer (some ⟨J, 0, none⟩)] w (SG R E B N J b0 (updP (fun d => { x with days := d }) (thenP E ⟨#[59]⟩ (daysP E (oneP E 16) r))) w) := by
  obtain ⟨hN1, hN2⟩ := h.n
  have hmf : ∀ (fn : Fn) (first cap : Array Value) (w : World), (Instr.makeFunc fn first cap).run Tryz.prog w = .ok (.func fn first cap) w := fun _ _ _ _ => rfl
  have HT := hide (text_any h)
  simp only [textF] at HT
  rw [hc] at HT
  unfold wDays at HT
  have HS := hide (saidDays h hG)
  have HJ := hide hj
  have hlt := hj.lt
  have hle := hj.le
  have hJs : J < w.heap.size := by omega
  have hRs : R < w.heap.size := by omega
  clear h hG hc hj
  generalize thenP E ⟨#[59]⟩ (daysP E (oneP E 16) r) = q at *
  cases q with
  | error f =>
    unfold PE Ends at HS
    unfold updP SG Ends
    simp only at HS ⊢
    go_enter Tryz.func170, Tryz.ntmps170
    go_wp2_with fail
    refine HT.out.mono ?_
    rintro e w1 ⟨rfl, rfl⟩
    go_wp2_with fail
    refine HS.out.mono ?_
    rintro e w2 ⟨rfl, ho⟩
    have HO := hide (ho.mono (T := fun i => i = R ∨ i = J) (fun _ _ e => .inl e))
    clear ho
    go_wp2
    exact ⟨rfl, rfl, HO.out⟩
  | ok pr =>
    obtain ⟨p, r'⟩ := pr
    unfold PE Ends at HS
    unfold updP SG Ends
    simp only at HS ⊢
    go_enter Tryz.func170, Tryz.ntmps170
    go_wp2_with fail
    refine HT.out.mono ?_
    rintro e w1 ⟨rfl, rfl⟩
    go_wp2_with fail
    refine HS.out.mono ?_
    rintro e w2 ⟨v, rfl, ⟨nv, rfl, hon⟩, hr, ho⟩
    have hsz := ho.size
    have HJ2 := hide (HJ.out.moved ho (fun b e => ⟨by omega, by omega⟩))
    have HO := hide (ho.mono (T := fun i => i = R ∨ i = J) (fun _ _ e => .inl e))
    have HR := hide hr
    have HON := hide hon
    clear hon
    clear hr ho
    unfold NVal.val ndV
    have c1 : w2.cell? ⟨J, 1, none⟩ = some (.int .i64 s.dv.op) := (HJ2.out.cell 1).trans rfl
    have f1 : w2.frozen? ⟨J, 1, none⟩ = false := HJ2.out.frozen 1
    have c2 : w2.cell? ⟨J, 2, none⟩ = some (.slice s.dv.no s.dv.nl s.dv.nc) := (HJ2.out.cell 2).trans rfl
    have f2 : w2.frozen? ⟨J, 2, none⟩ = false := HJ2.out.frozen 2
    have c3 : w2.cell? ⟨J, 3, none⟩ = some (.slice s.dv.ko s.dv.kl s.dv.kc) := (HJ2.out.cell 3).trans rfl
    have f3 : w2.frozen? ⟨J, 3, none⟩ = false := HJ2.out.frozen 3
    have c4 : w2.cell? ⟨J, 4, none⟩ = some (.string s.dv.nm) := (HJ2.out.cell 4).trans rfl
    have f4 : w2.frozen? ⟨J, 4, none⟩ = false := HJ2.out.frozen 4
    go_wp2
    go_end0
    have g0 := hset_same (k := 1) HJ2.out.blk (.int .i64 nv.op)
    have g1 := hset_same (k := 2) g0 (.slice nv.no nv.nl nv.nc)
    have g2 := hset_same (k := 3) g1 (.slice nv.ko nv.kl nv.kc)
    have g3 := hset_same (k := 4) g2 (.string nv.nm)
    have hO : Only (· = J) w2 _ := ((((Only.refl _ _).trans (Only.set _ J 1 (.int .i64 nv.op)) (fun _ _ e => e)).trans (Only.set _ J 2 (.slice nv.no nv.nl nv.nc)) (fun _ _ e => e)).trans (Only.set _ J 3 (.slice nv.ko nv.kl nv.kc)) (fun _ _ e => e)).trans (Only.set _ J 4 (.string nv.nm)) (fun _ _ e => e)
    have hh : _ = some (Obj.cells (jC { x with days := p } { s with dv := nv }) 56 (0, 0)) := g3.trans (by kernel_rfl)
    have hput := HJ2.out.put (x' := { x with days := p }) (s' := { s with dv := nv }) hh hO rfl rfl rfl rfl rfl rfl (HON.out.mono (fun b hb => HJ.out.fresh hb) (fun _ _ _ h => h)) HJ2.out.work HJ2.out.inn
    exact ⟨rfl, ⟨_, hput⟩, HR.out.only (((((Below.refl N _).setCell hNJ _).setCell hNJ _).setCell hNJ _).setCell hNJ _), HO.out.trans (hO.mono (fun _ _ e => .inr e)) (fun _ _ h => h)⟩
set_option maxHeartbeats 8000000 in
set_option maxRecDepth 20000 in
theorem singleShift {w : World} {R J b0 : Nat} {E : Int} {B N : Nat} {t : Tk} {r : List Tk} (h : Rdr w R E 0 B N (t :: r)) (hG : Few9 r) (hc : t.text = wShift) {x : Jb} {s : JSl} (hj : JbAt b0 w J x s) (hNJ : N ≤ J) :
    Calls Tryz.prog 170 #[.pointer (some ⟨R, 0, none⟩), .pointer (some ⟨J, 0, none⟩)] w (SG R E B N J b0 (updP (fun p => { x with shift := true, dir := p.1 - 1, work := p.2 }) (thenP E ⟨#[59]⟩ (twoP (choiceP E dirL) (daysP E (oneP E 16)) r))) w) := by
  obtain ⟨hN1, hN2⟩ := h.n
  have hmf : ∀ (fn : Fn) (first cap : Array Value) (w : World), (Instr.makeFunc fn first cap).run Tryz.prog w = .ok (.func fn first cap) w := fun _ _ _ _ => rfl
  have HT := hide (text_any h)
  simp only [textF] at HT
  rw [hc] at HT
  unfold wShift at HT
  have HS := hide (saidWork h hG)
  have HJ := hide hj
  have hlt := hj.lt
  have hle := hj.le
  have hJs : J < w.heap.size := by omega
  have hRs : R < w.heap.size := by omega
  clear h hG hc hj
  generalize thenP E ⟨#[59]⟩ (twoP (choiceP E dirL) (daysP E (oneP E 16)) r) = q at *
  cases q with
  | error f =>
    unfold PE Ends at HS
    unfold updP SG Ends
    simp only at HS ⊢
    go_enter Tryz.func170, Tryz.ntmps170
    go_wp2_with fail
    refine HT.out.mono ?_
    rintro e w1 ⟨rfl, rfl⟩
    go_wp2_with fail
    refine HS.out.mono ?_
    rintro e w2 ⟨rfl, ho⟩
    have HO := hide (ho.mono (T := fun i => i = R ∨ i = J) (fun _ _ e => .inl e))
    clear ho
    go_wp2
    exact ⟨rfl, rfl, HO.out⟩
  | ok pr =>
    obtain ⟨p, r'⟩ := pr
    unfold PE Ends at HS
    unfold updP SG Ends
    simp only at HS ⊢
    go_enter Tryz.func170, Tryz.ntmps170
    go_wp2_with fail
    refine HT.out.mono ?_
    rintro e w1 ⟨rfl, rfl⟩
    go_wp2_with fail
    refine HS.out.mono ?_
    rintro e w2 ⟨v, rfl, ⟨nv, rfl, hon⟩, hr, ho⟩
    have hsz := ho.size
    have HJ2 := hide (HJ.out.moved ho (fun b e => ⟨by omega, by omega⟩))
    have HO := hide (ho.mono (T := fun i => i = R ∨ i = J) (fun _ _ e => .inl e))
    have HR := hide hr
    have HON := hide hon
    clear hon
    clear hr ho
    obtain ⟨w3, hw3⟩ : ∃ w3, w3 = w2.alloc (.cells #[.int .i64 (p.1 - 1), .int .i64 nv.op, .slice nv.no nv.nl nv.nc, .slice nv.ko nv.kl nv.kc, .string nv.nm] 288) := ⟨_, rfl⟩
    have ho3 : Only (fun _ => False) w2 w3 := by rw [hw3]; exact Only.alloc _ _ _
    have hs3 := ho3.size
    have HJ3 := hide (HJ2.out.moved ho3 (fun b e => e.elim))
    have HR3 : Hid (Rdr w3 R E 0 B N r') := by rw [hw3]; exact HR.out.below (below_new4 _)
    have HO3 := hide (HO.out.trans (ho3.mono (T := fun i => i = R ∨ i = J) (fun _ _ e => e.elim)) (fun _ _ h => h))
    clear ho3
    have m0 : w3.cell? ⟨w2.heap.size, 0, none⟩ = some (.int .i64 (p.1 - 1)) := by rw [hw3, World.cell?_alloc_mark]; rfl
    have m1 : w3.cell? ⟨w2.heap.size, 1, none⟩ = some (.int .i64 nv.op) := by rw [hw3, World.cell?_alloc_mark]; rfl
    have m2 : w3.cell? ⟨w2.heap.size, 2, none⟩ = some (.slice nv.no nv.nl nv.nc) := by rw [hw3, World.cell?_alloc_mark]; rfl
    have m3 : w3.cell? ⟨w2.heap.size, 3, none⟩ = some (.slice nv.ko nv.kl nv.kc) := by rw [hw3, World.cell?_alloc_mark]; rfl
    have m4 : w3.cell? ⟨w2.heap.size, 4, none⟩ = some (.string nv.nm) := by rw [hw3, World.cell?_alloc_mark]; rfl
    have c5 : w3.cell? ⟨J, 5, none⟩ = some (.bool x.shift) := (HJ3.out.cell 5).trans rfl
    have f5 : w3.frozen? ⟨J, 5, none⟩ = false := HJ3.out.frozen 5
    have c6 : w3.cell? ⟨J, 6, none⟩ = some (.int .i64 x.dir) := (HJ3.out.cell 6).trans rfl
    have f6 : w3.frozen? ⟨J, 6, none⟩ = false := HJ3.out.frozen 6
    have c7 : w3.cell? ⟨J, 7, none⟩ = some (.int .i64 s.wv.op) := (HJ3.out.cell 7).trans rfl
    have f7 : w3.frozen? ⟨J, 7, none⟩ = false := HJ3.out.frozen 7
    have c8 : w3.cell? ⟨J, 8, none⟩ = some (.slice s.wv.no s.wv.nl s.wv.nc) := (HJ3.out.cell 8).trans rfl
    have f8 : w3.frozen? ⟨J, 8, none⟩ = false := HJ3.out.frozen 8
    have c9 : w3.cell? ⟨J, 9, none⟩ = some (.slice s.wv.ko s.wv.kl s.wv.kc) := (HJ3.out.cell 9).trans rfl
    have f9 : w3.frozen? ⟨J, 9, none⟩ = false := HJ3.out.frozen 9
    have c10 : w3.cell? ⟨J, 10, none⟩ = some (.string s.wv.nm) := (HJ3.out.cell 10).trans rfl
    have f10 : w3.frozen? ⟨J, 10, none⟩ = false := HJ3.out.frozen 10
    have HW : NdOn (JR b0 w3 x s) w3 nv p.2 := HON.out.mono (fun b hb => HJ.out.fresh ⟨hb.1, Nat.lt_of_lt_of_le hb.2 hs3⟩) (fun ad u hB hc => by rw [hw3]; exact (Only.alloc (fun _ => False) w2 _).cell hc (fun e => e))
    go_wp2_with fail
    rw [← hw3]
    clear hw3
    have hJ2 : J < w2.heap.size := by omega
    have hJ2n : ¬ J = w2.heap.size := by omega
    first
    | (go_region_held3 (fun w' => w'.cell? ⟨w2.heap.size, 0, none⟩ = some (.int .i64 (p.1 - 1)) ∧ w'.cell? ⟨w2.heap.size, 1, none⟩ = some (.int .i64 nv.op) ∧ w'.cell? ⟨w2.heap.size, 2, none⟩ = some (.slice nv.no nv.nl nv.nc) ∧ w'.cell? ⟨w2.heap.size, 3, none⟩ = some (.slice nv.ko nv.kl nv.kc) ∧ w'.cell? ⟨w2.heap.size, 4, none⟩ = some (.string nv.nm))
        (go_keep)
        (fail))
    | fail
    all_goals
      go_wp2
      go_end0
      have g0 := hset_same (k := 5) HJ3.out.blk (.bool true)
      have g1 := hset_same (k := 6) g0 (.int .i64 (p.1 - 1))
      have g2 := hset_same (k := 7) g1 (.int .i64 nv.op)
      have g3 := hset_same (k := 8) g2 (.slice nv.no nv.nl nv.nc)
      have g4 := hset_same (k := 9) g3 (.slice nv.ko nv.kl nv.kc)
      have g5 := hset_same (k := 10) g4 (.string nv.nm)
      have hO : Only (· = J) w3 _ := ((((((Only.refl _ _).trans (Only.set _ J 5 (.bool true)) (fun _ _ e => e)).trans (Only.set _ J 6 (.int .i64 (p.1 - 1))) (fun _ _ e => e)).trans (Only.set _ J 7 (.int .i64 nv.op)) (fun _ _ e => e)).trans (Only.set _ J 8 (.slice nv.no nv.nl nv.nc)) (fun _ _ e => e)).trans (Only.set _ J 9 (.slice nv.ko nv.kl nv.kc)) (fun _ _ e => e)).trans (Only.set _ J 10 (.string nv.nm)) (fun _ _ e => e)
      have hh : _ = some (Obj.cells (jC { x with shift := true, dir := p.1 - 1, work := p.2 } { s with wv := nv }) 56 (0, 0)) := g5.trans (by kernel_rfl)
      have hput := HJ3.out.put (x' := { x with shift := true, dir := p.1 - 1, work := p.2 }) (s' := { s with wv := nv }) hh hO rfl rfl rfl rfl rfl rfl HJ3.out.days HW HJ3.out.inn
      exact ⟨rfl, ⟨_, hput.drew⟩, Rdr.drew (HR3.out.only (((((((Below.refl N _).setCell hNJ _).setCell hNJ _).setCell hNJ _).setCell hNJ _).setCell hNJ _).setCell hNJ _)), Only.drew (HO3.out.trans (hO.mono (fun _ _ e => .inr e)) (fun _ _ h => h))⟩
set_option maxHeartbeats 8000000 in
set_option maxRecDepth 20000 in
theorem singleWindow {w : World} {R J b0 : Nat} {E : Int} {B N : Nat} {t : Tk} {r : List Tk} (h : Rdr w R E 0 B N (t :: r)) (hG : Few9 r) (hc : t.text = wWindow) {x : Jb} {s : JSl} (hj : JbAt b0 w J x s) (hNJ : N ≤ J) :
    Calls Tryz.prog 170 #[.pointer (some ⟨R, 0, none⟩), .pointer (some ⟨J, 0, none⟩)] w (SG R E B N J b0 (updP (fun p => { x with fr := p.1, till := p.2 }) (thenP E ⟨#[59]⟩ (twoP (timeP E) (timeP E) r))) w) := by
  obtain ⟨hN1, hN2⟩ := h.n
  have hmf : ∀ (fn : Fn) (first cap : Array Value) (w : World), (Instr.makeFunc fn first cap).run Tryz.prog w = .ok (.func fn first cap) w := fun _ _ _ _ => rfl
  have HT := hide (text_any h)
  simp only [textF] at HT
  rw [hc] at HT
  unfold wWindow at HT
  have HS := hide (saidTimes h)
  have HJ := hide hj
  have hlt := hj.lt
  have hle := hj.le
  have hJs : J < w.heap.size := by omega
  have hRs : R < w.heap.size := by omega
  clear h hG hc hj
  generalize thenP E ⟨#[59]⟩ (twoP (timeP E) (timeP E) r) = q at *
  cases q with
  | error f =>
    unfold PE Ends at HS
    unfold updP SG Ends
    simp only at HS ⊢
    go_enter Tryz.func170, Tryz.ntmps170
    go_wp2_with fail
    refine HT.out.mono ?_
    rintro e w1 ⟨rfl, rfl⟩
    go_wp2_with fail
    refine HS.out.mono ?_
    rintro e w2 ⟨rfl, ho⟩
    have HO := hide (ho.mono (T := fun i => i = R ∨ i = J) (fun _ _ e => .inl e))
    clear ho
    go_wp2
    exact ⟨rfl, rfl, HO.out⟩
  | ok pr =>
    obtain ⟨p, r'⟩ := pr
    unfold PE Ends at HS
    unfold updP SG Ends
    simp only at HS ⊢
    go_enter Tryz.func170, Tryz.ntmps170
    go_wp2_with fail
    refine HT.out.mono ?_
    rintro e w1 ⟨rfl, rfl⟩
    go_wp2_with fail
    refine HS.out.mono ?_
    rintro e w2 ⟨v, rfl, rfl, hr, ho⟩
    have hsz := ho.size
    have HJ2 := hide (HJ.out.moved ho (fun b e => ⟨by omega, by omega⟩))
    have HO := hide (ho.mono (T := fun i => i = R ∨ i = J) (fun _ _ e => .inl e))
    have HR := hide hr
    clear hr ho
    obtain ⟨w3, hw3⟩ : ∃ w3, w3 = w2.alloc (.cells #[.int .i64 p.1, .int .i64 p.2] 291) := ⟨_, rfl⟩
    have ho3 : Only (fun _ => False) w2 w3 := by rw [hw3]; exact Only.alloc _ _ _
    have hs3 := ho3.size
    have HJ3 := hide (HJ2.out.moved ho3 (fun b e => e.elim))
    have HR3 : Hid (Rdr w3 R E 0 B N r') := by rw [hw3]; exact HR.out.below (below_new4 _)
    have HO3 := hide (HO.out.trans (ho3.mono (T := fun i => i = R ∨ i = J) (fun _ _ e => e.elim)) (fun _ _ h => h))
    clear ho3
    have m0 : w3.cell? ⟨w2.heap.size, 0, none⟩ = some (.int .i64 p.1) := by rw [hw3, World.cell?_alloc_mark]; rfl
    have m1 : w3.cell? ⟨w2.heap.size, 1, none⟩ = some (.int .i64 p.2) := by rw [hw3, World.cell?_alloc_mark]; rfl
    have c11 : w3.cell? ⟨J, 11, none⟩ = some (.int .i64 x.fr) := (HJ3.out.cell 11).trans rfl
    have f11 : w3.frozen? ⟨J, 11, none⟩ = false := HJ3.out.frozen 11
    have c12 : w3.cell? ⟨J, 12, none⟩ = some (.int .i64 x.till) := (HJ3.out.cell 12).trans rfl
    have f12 : w3.frozen? ⟨J, 12, none⟩ = false := HJ3.out.frozen 12
    go_wp2_with fail
    rw [← hw3]
    clear hw3
    go_region
    all_goals
      go_wp2
      go_end0
      have g0 := hset_same (k := 11) HJ3.out.blk (.int .i64 p.1)
      have g1 := hset_same (k := 12) g0 (.int .i64 p.2)
      have hO : Only (· = J) w3 _ := ((Only.refl _ _).trans (Only.set _ J 11 (.int .i64 p.1)) (fun _ _ e => e)).trans (Only.set _ J 12 (.int .i64 p.2)) (fun _ _ e => e)
      have hh : _ = some (Obj.cells (jC { x with fr := p.1, till := p.2 } s) 56 (0, 0)) := g1.trans (by kernel_rfl)
      have hput := HJ3.out.put (x' := { x with fr := p.1, till := p.2 }) (s' := s) hh hO rfl rfl rfl rfl rfl rfl HJ3.out.days HJ3.out.work HJ3.out.inn
      exact ⟨rfl, ⟨_, hput.drew⟩, Rdr.drew (HR3.out.only (((Below.refl N _).setCell hNJ _).setCell hNJ _)), Only.drew (HO3.out.trans (hO.mono (fun _ _ e => .inr e)) (fun _ _ h => h))⟩
set_option maxHeartbeats 8000000 in
set_option maxRecDepth 20000 in
theorem singleIn {w : World} {R J b0 : Nat} {E : Int} {B N : Nat} {t : Tk} {r : List Tk} (h : Rdr w R E 0 B N (t :: r)) (hG : Few9 r) (hc : t.text = wIn) {x : Jb} {s : JSl} (hj : JbAt b0 w J x s) (hNJ : N ≤ J) :
    Calls Tryz.prog 170 #[.pointer (some ⟨R, 0, none⟩), .pointer (some ⟨J, 0, none⟩)] w (SG R E B N J b0 (updP (fun e => { x with inn := e }) (thenP E ⟨#[59]⟩ (condP E (eachP E 16) r))) w) := by
  obtain ⟨hN1, hN2⟩ := h.n
  have hmf : ∀ (fn : Fn) (first cap : Array Value) (w : World), (Instr.makeFunc fn first cap).run Tryz.prog w = .ok (.func fn first cap) w := fun _ _ _ _ => rfl
  have HT := hide (text_any h)
  simp only [textF] at HT
  rw [hc] at HT
  unfold wIn at HT
  have HS := hide (saidCond h hG)
  have HJ := hide hj
  have hlt := hj.lt
  have hle := hj.le
  have hJs : J < w.heap.size := by omega
  have hRs : R < w.heap.size := by omega
  clear h hG hc hj
  generalize thenP E ⟨#[59]⟩ (condP E (eachP E 16) r) = q at *
  cases q with
  | error f =>
    unfold PE Ends at HS
    unfold updP SG Ends
    simp only at HS ⊢
    go_enter Tryz.func170, Tryz.ntmps170
    go_wp2_with fail
    refine HT.out.mono ?_
    rintro e w1 ⟨rfl, rfl⟩
    go_wp2_with fail
    refine HS.out.mono ?_
    rintro e w2 ⟨rfl, ho⟩
    have HO := hide (ho.mono (T := fun i => i = R ∨ i = J) (fun _ _ e => .inl e))
    clear ho
    go_wp2
    exact ⟨rfl, rfl, HO.out⟩
  | ok pr =>
    obtain ⟨p, r'⟩ := pr
    unfold PE Ends at HS
    unfold updP SG Ends
    simp only at HS ⊢
    go_enter Tryz.func170, Tryz.ntmps170
    go_wp2_with fail
    refine HT.out.mono ?_
    rintro e w1 ⟨rfl, rfl⟩
    go_wp2_with fail
    refine HS.out.mono ?_
    rintro e w2 ⟨v, rfl, ⟨ev, rfl, hon⟩, hr, ho⟩
    have hsz := ho.size
    have HJ2 := hide (HJ.out.moved ho (fun b e => ⟨by omega, by omega⟩))
    have HO := hide (ho.mono (T := fun i => i = R ∨ i = J) (fun _ _ e => .inl e))
    have HR := hide hr
    have HON := hide hon
    clear hon
    clear hr ho
    unfold EVal.val exV
    have c13 : w2.cell? ⟨J, 13, none⟩ = some (.int .i64 s.iv.op) := (HJ2.out.cell 13).trans rfl
    have f13 : w2.frozen? ⟨J, 13, none⟩ = false := HJ2.out.frozen 13
    have c14 : w2.cell? ⟨J, 14, none⟩ = some (.string s.iv.nm) := (HJ2.out.cell 14).trans rfl
    have f14 : w2.frozen? ⟨J, 14, none⟩ = false := HJ2.out.frozen 14
    have c15 : w2.cell? ⟨J, 15, none⟩ = some (.int .i64 s.iv.wh) := (HJ2.out.cell 15).trans rfl
    have f15 : w2.frozen? ⟨J, 15, none⟩ = false := HJ2.out.frozen 15
    have c16 : w2.cell? ⟨J, 16, none⟩ = some (.slice s.iv.ko s.iv.kl s.iv.kc) := (HJ2.out.cell 16).trans rfl
    have f16 : w2.frozen? ⟨J, 16, none⟩ = false := HJ2.out.frozen 16
    go_wp2
    go_end0
    have g0 := hset_same (k := 13) HJ2.out.blk (.int .i64 ev.op)
    have g1 := hset_same (k := 14) g0 (.string ev.nm)
    have g2 := hset_same (k := 15) g1 (.int .i64 ev.wh)
    have g3 := hset_same (k := 16) g2 (.slice ev.ko ev.kl ev.kc)
    have hO : Only (· = J) w2 _ := ((((Only.refl _ _).trans (Only.set _ J 13 (.int .i64 ev.op)) (fun _ _ e => e)).trans (Only.set _ J 14 (.string ev.nm)) (fun _ _ e => e)).trans (Only.set _ J 15 (.int .i64 ev.wh)) (fun _ _ e => e)).trans (Only.set _ J 16 (.slice ev.ko ev.kl ev.kc)) (fun _ _ e => e)
    have hh : _ = some (Obj.cells (jC { x with inn := p } { s with iv := ev }) 56 (0, 0)) := g3.trans (by kernel_rfl)
    have hput := HJ2.out.put (x' := { x with inn := p }) (s' := { s with iv := ev }) hh hO rfl rfl rfl rfl rfl rfl HJ2.out.days HJ2.out.work (HON.out.mono (fun b hb => HJ.out.fresh hb) (fun _ _ _ h => h))
    exact ⟨rfl, ⟨_, hput⟩, HR.out.only (((((Below.refl N _).setCell hNJ _).setCell hNJ _).setCell hNJ _).setCell hNJ _), HO.out.trans (hO.mono (fun _ _ e => .inr e)) (fun _ _ h => h)⟩
set_option maxHeartbeats 8000000 in
set_option maxRecDepth 20000 in
theorem singlePrio {w : World} {R J b0 : Nat} {E : Int} {B N : Nat} {t : Tk} {r : List Tk} (h : Rdr w R E 0 B N (t :: r)) (hG : Few9 r) (hc : t.text = wPrio) {x : Jb} {s : JSl} (hj : JbAt b0 w J x s) (hNJ : N ≤ J) :
    Calls Tryz.prog 170 #[.pointer (some ⟨R, 0, none⟩), .pointer (some ⟨J, 0, none⟩)] w (SG R E B N J b0 (updP (fun n => { x with prio := n }) (thenP E ⟨#[59]⟩ (numP E r))) w) := by
  obtain ⟨hN1, hN2⟩ := h.n
  have hmf : ∀ (fn : Fn) (first cap : Array Value) (w : World), (Instr.makeFunc fn first cap).run Tryz.prog w = .ok (.func fn first cap) w := fun _ _ _ _ => rfl
  have HT := hide (text_any h)
  simp only [textF] at HT
  rw [hc] at HT
  unfold wPrio at HT
  have HS := hide (saidNum h)
  have HJ := hide hj
  have hlt := hj.lt
  have hle := hj.le
  have hJs : J < w.heap.size := by omega
  have hRs : R < w.heap.size := by omega
  clear h hG hc hj
  generalize thenP E ⟨#[59]⟩ (numP E r) = q at *
  cases q with
  | error f =>
    unfold PE Ends at HS
    unfold updP SG Ends
    simp only at HS ⊢
    go_enter Tryz.func170, Tryz.ntmps170
    go_wp2_with fail
    refine HT.out.mono ?_
    rintro e w1 ⟨rfl, rfl⟩
    go_wp2_with fail
    refine HS.out.mono ?_
    rintro e w2 ⟨rfl, ho⟩
    have HO := hide (ho.mono (T := fun i => i = R ∨ i = J) (fun _ _ e => .inl e))
    clear ho
    go_wp2
    exact ⟨rfl, rfl, HO.out⟩
  | ok pr =>
    obtain ⟨p, r'⟩ := pr
    unfold PE Ends at HS
    unfold updP SG Ends
    simp only at HS ⊢
    go_enter Tryz.func170, Tryz.ntmps170
    go_wp2_with fail
    refine HT.out.mono ?_
    rintro e w1 ⟨rfl, rfl⟩
    go_wp2_with fail
    refine HS.out.mono ?_
    rintro e w2 ⟨v, rfl, rfl, hr, ho⟩
    have hsz := ho.size
    have HJ2 := hide (HJ.out.moved ho (fun b e => ⟨by omega, by omega⟩))
    have HO := hide (ho.mono (T := fun i => i = R ∨ i = J) (fun _ _ e => .inl e))
    have HR := hide hr
    clear hr ho
    have c19 : w2.cell? ⟨J, 19, none⟩ = some (.int .i64 x.prio) := (HJ2.out.cell 19).trans rfl
    have f19 : w2.frozen? ⟨J, 19, none⟩ = false := HJ2.out.frozen 19
    go_wp2
    go_end0
    have g0 := hset_same (k := 19) HJ2.out.blk (.int .i64 p)
    have hO : Only (· = J) w2 _ := (Only.refl _ _).trans (Only.set _ J 19 (.int .i64 p)) (fun _ _ e => e)
    have hh : _ = some (Obj.cells (jC { x with prio := p } s) 56 (0, 0)) := g0.trans (by kernel_rfl)
    have hput := HJ2.out.put (x' := { x with prio := p }) (s' := s) hh hO rfl rfl rfl rfl rfl rfl HJ2.out.days HJ2.out.work HJ2.out.inn
    exact ⟨rfl, ⟨_, hput⟩, HR.out.only ((Below.refl N _).setCell hNJ _), HO.out.trans (hO.mono (fun _ _ e => .inr e)) (fun _ _ h => h)⟩
set_option maxHeartbeats 8000000 in
set_option maxRecDepth 20000 in
theorem singleWait {w : World} {R J b0 : Nat} {E : Int} {B N : Nat} {t : Tk} {r : List Tk} (h : Rdr w R E 0 B N (t :: r)) (hG : Few9 r) (hc : t.text = wWait) {x : Jb} {s : JSl} (hj : JbAt b0 w J x s) (hNJ : N ≤ J) :
    Calls Tryz.prog 170 #[.pointer (some ⟨R, 0, none⟩), .pointer (some ⟨J, 0, none⟩)] w (SG R E B N J b0 (updP (fun n => { x with wait := n }) (thenP E ⟨#[59]⟩ (numP E r))) w) := by
  obtain ⟨hN1, hN2⟩ := h.n
  have hmf : ∀ (fn : Fn) (first cap : Array Value) (w : World), (Instr.makeFunc fn first cap).run Tryz.prog w = .ok (.func fn first cap) w := fun _ _ _ _ => rfl
  have HT := hide (text_any h)
  simp only [textF] at HT
  rw [hc] at HT
  unfold wWait at HT
  have HS := hide (saidNum h)
  have HJ := hide hj
  have hlt := hj.lt
  have hle := hj.le
  have hJs : J < w.heap.size := by omega
  have hRs : R < w.heap.size := by omega
  clear h hG hc hj
  generalize thenP E ⟨#[59]⟩ (numP E r) = q at *
  cases q with
  | error f =>
    unfold PE Ends at HS
    unfold updP SG Ends
    simp only at HS ⊢
    go_enter Tryz.func170, Tryz.ntmps170
    go_wp2_with fail
    refine HT.out.mono ?_
    rintro e w1 ⟨rfl, rfl⟩
    go_wp2_with fail
    refine HS.out.mono ?_
    rintro e w2 ⟨rfl, ho⟩
    have HO := hide (ho.mono (T := fun i => i = R ∨ i = J) (fun _ _ e => .inl e))
    clear ho
    go_wp2
    exact ⟨rfl, rfl, HO.out⟩
  | ok pr =>
    obtain ⟨p, r'⟩ := pr
    unfold PE Ends at HS
    unfold updP SG Ends
    simp only at HS ⊢
    go_enter Tryz.func170, Tryz.ntmps170
    go_wp2_with fail
    refine HT.out.mono ?_
    rintro e w1 ⟨rfl, rfl⟩
    go_wp2_with fail
    refine HS.out.mono ?_
    rintro e w2 ⟨v, rfl, rfl, hr, ho⟩
    have hsz := ho.size
    have HJ2 := hide (HJ.out.moved ho (fun b e => ⟨by omega, by omega⟩))
    have HO := hide (ho.mono (T := fun i => i = R ∨ i = J) (fun _ _ e => .inl e))
    have HR := hide hr
    clear hr ho
    have c20 : w2.cell? ⟨J, 20, none⟩ = some (.int .i64 x.wait) := (HJ2.out.cell 20).trans rfl
    have f20 : w2.frozen? ⟨J, 20, none⟩ = false := HJ2.out.frozen 20
    go_wp2
    go_end0
    have g0 := hset_same (k := 20) HJ2.out.blk (.int .i64 p)
    have hO : Only (· = J) w2 _ := (Only.refl _ _).trans (Only.set _ J 20 (.int .i64 p)) (fun _ _ e => e)
    have hh : _ = some (Obj.cells (jC { x with wait := p } s) 56 (0, 0)) := g0.trans (by kernel_rfl)
    have hput := HJ2.out.put (x' := { x with wait := p }) (s' := s) hh hO rfl rfl rfl rfl rfl rfl HJ2.out.days HJ2.out.work HJ2.out.inn
    exact ⟨rfl, ⟨_, hput⟩, HR.out.only ((Below.refl N _).setCell hNJ _), HO.out.trans (hO.mono (fun _ _ e => .inr e)) (fun _ _ h => h)⟩
set_option maxHeartbeats 8000000 in
set_option maxRecDepth 20000 in
theorem singleEvery {w : World} {R J b0 : Nat} {E : Int} {B N : Nat} {t : Tk} {r : List Tk} (h : Rdr w R E 0 B N (t :: r)) (hG : Few9 r) (hc : t.text = wEvery) {x : Jb} {s : JSl} (hj : JbAt b0 w J x s) (hNJ : N ≤ J) :
    Calls Tryz.prog 170 #[.pointer (some ⟨R, 0, none⟩), .pointer (some ⟨J, 0, none⟩)] w (SG R E B N J b0 (updP (fun n => { x with every := n }) (thenP E ⟨#[59]⟩ (numP E r))) w) := by
  obtain ⟨hN1, hN2⟩ := h.n
  have hmf : ∀ (fn : Fn) (first cap : Array Value) (w : World), (Instr.makeFunc fn first cap).run Tryz.prog w = .ok (.func fn first cap) w := fun _ _ _ _ => rfl
  have HT := hide (text_any h)
  simp only [textF] at HT
  rw [hc] at HT
  unfold wEvery at HT
  have HS := hide (saidNum h)
  have HJ := hide hj
  have hlt := hj.lt
  have hle := hj.le
  have hJs : J < w.heap.size := by omega
  have hRs : R < w.heap.size := by omega
  clear h hG hc hj
  generalize thenP E ⟨#[59]⟩ (numP E r) = q at *
  cases q with
  | error f =>
    unfold PE Ends at HS
    unfold updP SG Ends
    simp only at HS ⊢
    go_enter Tryz.func170, Tryz.ntmps170
    go_wp2_with fail
    refine HT.out.mono ?_
    rintro e w1 ⟨rfl, rfl⟩
    go_wp2_with fail
    refine HS.out.mono ?_
    rintro e w2 ⟨rfl, ho⟩
    have HO := hide (ho.mono (T := fun i => i = R ∨ i = J) (fun _ _ e => .inl e))
    clear ho
    go_wp2
    exact ⟨rfl, rfl, HO.out⟩
  | ok pr =>
    obtain ⟨p, r'⟩ := pr
    unfold PE Ends at HS
    unfold updP SG Ends
    simp only at HS ⊢
    go_enter Tryz.func170, Tryz.ntmps170
    go_wp2_with fail
    refine HT.out.mono ?_
    rintro e w1 ⟨rfl, rfl⟩
    go_wp2_with fail
    refine HS.out.mono ?_
    rintro e w2 ⟨v, rfl, rfl, hr, ho⟩
    have hsz := ho.size
    have HJ2 := hide (HJ.out.moved ho (fun b e => ⟨by omega, by omega⟩))
    have HO := hide (ho.mono (T := fun i => i = R ∨ i = J) (fun _ _ e => .inl e))
    have HR := hide hr
    clear hr ho
    have c21 : w2.cell? ⟨J, 21, none⟩ = some (.int .i64 x.every) := (HJ2.out.cell 21).trans rfl
    have f21 : w2.frozen? ⟨J, 21, none⟩ = false := HJ2.out.frozen 21
    go_wp2
    go_end0
    have g0 := hset_same (k := 21) HJ2.out.blk (.int .i64 p)
    have hO : Only (· = J) w2 _ := (Only.refl _ _).trans (Only.set _ J 21 (.int .i64 p)) (fun _ _ e => e)
    have hh : _ = some (Obj.cells (jC { x with every := p } s) 56 (0, 0)) := g0.trans (by kernel_rfl)
    have hput := HJ2.out.put (x' := { x with every := p }) (s' := s) hh hO rfl rfl rfl rfl rfl rfl HJ2.out.days HJ2.out.work HJ2.out.inn
    exact ⟨rfl, ⟨_, hput⟩, HR.out.only ((Below.refl N _).setCell hNJ _), HO.out.trans (hO.mono (fun _ _ e => .inr e)) (fun _ _ h => h)⟩
set_option maxHeartbeats 8000000 in
set_option maxRecDepth 20000 in
theorem singleRuns {w : World} {R J b0 : Nat} {E : Int} {B N : Nat} {t : Tk} {r : List Tk} (h : Rdr w R E 0 B N (t :: r)) (hG : Few9 r) (hc : t.text = wRuns) {x : Jb} {s : JSl} (hj : JbAt b0 w J x s) (hNJ : N ≤ J) :
    Calls Tryz.prog 170 #[.pointer (some ⟨R, 0, none⟩), .pointer (some ⟨J, 0, none⟩)] w (SG R E B N J b0 (updP (fun n => { x with runs := n }) (thenP E ⟨#[59]⟩ (numP E r))) w) := by
  obtain ⟨hN1, hN2⟩ := h.n
  have hmf : ∀ (fn : Fn) (first cap : Array Value) (w : World), (Instr.makeFunc fn first cap).run Tryz.prog w = .ok (.func fn first cap) w := fun _ _ _ _ => rfl
  have HT := hide (text_any h)
  simp only [textF] at HT
  rw [hc] at HT
  unfold wRuns at HT
  have HS := hide (saidNum h)
  have HJ := hide hj
  have hlt := hj.lt
  have hle := hj.le
  have hJs : J < w.heap.size := by omega
  have hRs : R < w.heap.size := by omega
  clear h hG hc hj
  generalize thenP E ⟨#[59]⟩ (numP E r) = q at *
  cases q with
  | error f =>
    unfold PE Ends at HS
    unfold updP SG Ends
    simp only at HS ⊢
    go_enter Tryz.func170, Tryz.ntmps170
    go_wp2_with fail
    refine HT.out.mono ?_
    rintro e w1 ⟨rfl, rfl⟩
    go_wp2_with fail
    refine HS.out.mono ?_
    rintro e w2 ⟨rfl, ho⟩
    have HO := hide (ho.mono (T := fun i => i = R ∨ i = J) (fun _ _ e => .inl e))
    clear ho
    go_wp2
    exact ⟨rfl, rfl, HO.out⟩
  | ok pr =>
    obtain ⟨p, r'⟩ := pr
    unfold PE Ends at HS
    unfold updP SG Ends
    simp only at HS ⊢
    go_enter Tryz.func170, Tryz.ntmps170
    go_wp2_with fail
    refine HT.out.mono ?_
    rintro e w1 ⟨rfl, rfl⟩
    go_wp2_with fail
    refine HS.out.mono ?_
    rintro e w2 ⟨v, rfl, rfl, hr, ho⟩
    have hsz := ho.size
    have HJ2 := hide (HJ.out.moved ho (fun b e => ⟨by omega, by omega⟩))
    have HO := hide (ho.mono (T := fun i => i = R ∨ i = J) (fun _ _ e => .inl e))
    have HR := hide hr
    clear hr ho
    have c22 : w2.cell? ⟨J, 22, none⟩ = some (.int .i64 x.runs) := (HJ2.out.cell 22).trans rfl
    have f22 : w2.frozen? ⟨J, 22, none⟩ = false := HJ2.out.frozen 22
    go_wp2
    go_end0
    have g0 := hset_same (k := 22) HJ2.out.blk (.int .i64 p)
    have hO : Only (· = J) w2 _ := (Only.refl _ _).trans (Only.set _ J 22 (.int .i64 p)) (fun _ _ e => e)
    have hh : _ = some (Obj.cells (jC { x with runs := p } s) 56 (0, 0)) := g0.trans (by kernel_rfl)
    have hput := HJ2.out.put (x' := { x with runs := p }) (s' := s) hh hO rfl rfl rfl rfl rfl rfl HJ2.out.days HJ2.out.work HJ2.out.inn
    exact ⟨rfl, ⟨_, hput⟩, HR.out.only ((Below.refl N _).setCell hNJ _), HO.out.trans (hO.mono (fun _ _ e => .inr e)) (fun _ _ h => h)⟩
set_option maxHeartbeats 8000000 in
set_option maxRecDepth 20000 in
theorem singleRetry {w : World} {R J b0 : Nat} {E : Int} {B N : Nat} {t : Tk} {r : List Tk} (h : Rdr w R E 0 B N (t :: r)) (hG : Few9 r) (hc : t.text = wRetry) {x : Jb} {s : JSl} (hj : JbAt b0 w J x s) (hNJ : N ≤ J) :
    Calls Tryz.prog 170 #[.pointer (some ⟨R, 0, none⟩), .pointer (some ⟨J, 0, none⟩)] w (SG R E B N J b0 (updP (fun n => { x with retry := n }) (thenP E ⟨#[59]⟩ (numP E r))) w) := by
  obtain ⟨hN1, hN2⟩ := h.n
  have hmf : ∀ (fn : Fn) (first cap : Array Value) (w : World), (Instr.makeFunc fn first cap).run Tryz.prog w = .ok (.func fn first cap) w := fun _ _ _ _ => rfl
  have HT := hide (text_any h)
  simp only [textF] at HT
  rw [hc] at HT
  unfold wRetry at HT
  have HS := hide (saidNum h)
  have HJ := hide hj
  have hlt := hj.lt
  have hle := hj.le
  have hJs : J < w.heap.size := by omega
  have hRs : R < w.heap.size := by omega
  clear h hG hc hj
  generalize thenP E ⟨#[59]⟩ (numP E r) = q at *
  cases q with
  | error f =>
    unfold PE Ends at HS
    unfold updP SG Ends
    simp only at HS ⊢
    go_enter Tryz.func170, Tryz.ntmps170
    go_wp2_with fail
    refine HT.out.mono ?_
    rintro e w1 ⟨rfl, rfl⟩
    go_wp2_with fail
    refine HS.out.mono ?_
    rintro e w2 ⟨rfl, ho⟩
    have HO := hide (ho.mono (T := fun i => i = R ∨ i = J) (fun _ _ e => .inl e))
    clear ho
    go_wp2
    exact ⟨rfl, rfl, HO.out⟩
  | ok pr =>
    obtain ⟨p, r'⟩ := pr
    unfold PE Ends at HS
    unfold updP SG Ends
    simp only at HS ⊢
    go_enter Tryz.func170, Tryz.ntmps170
    go_wp2_with fail
    refine HT.out.mono ?_
    rintro e w1 ⟨rfl, rfl⟩
    go_wp2_with fail
    refine HS.out.mono ?_
    rintro e w2 ⟨v, rfl, rfl, hr, ho⟩
    have hsz := ho.size
    have HJ2 := hide (HJ.out.moved ho (fun b e => ⟨by omega, by omega⟩))
    have HO := hide (ho.mono (T := fun i => i = R ∨ i = J) (fun _ _ e => .inl e))
    have HR := hide hr
    clear hr ho
    have c23 : w2.cell? ⟨J, 23, none⟩ = some (.int .i64 x.retry) := (HJ2.out.cell 23).trans rfl
    have f23 : w2.frozen? ⟨J, 23, none⟩ = false := HJ2.out.frozen 23
    go_wp2
    go_end0
    have g0 := hset_same (k := 23) HJ2.out.blk (.int .i64 p)
    have hO : Only (· = J) w2 _ := (Only.refl _ _).trans (Only.set _ J 23 (.int .i64 p)) (fun _ _ e => e)
    have hh : _ = some (Obj.cells (jC { x with retry := p } s) 56 (0, 0)) := g0.trans (by kernel_rfl)
    have hput := HJ2.out.put (x' := { x with retry := p }) (s' := s) hh hO rfl rfl rfl rfl rfl rfl HJ2.out.days HJ2.out.work HJ2.out.inn
    exact ⟨rfl, ⟨_, hput⟩, HR.out.only ((Below.refl N _).setCell hNJ _), HO.out.trans (hO.mono (fun _ _ e => .inr e)) (fun _ _ h => h)⟩
end Go.Proofs.YtkpgfhapffijkaaGreatDoor

/- Package jdl: a part of a job that stands once, whole. -/
namespace Go.Proofs.YtkpgfhapffijkaaGreatDoor
open Go.ChangeShapes Go.WideShapes Go.ChangeAt Go.RowKit Go.DsMem Go.DsLx Go.DsJd Go.DsMk
set_option linter.unusedVariables false
set_option maxHeartbeats 8000000 in
set_option maxRecDepth 20000 in
theorem singleBad {w : World} {R J b0 : Nat} {E : Int} {B N : Nat} {ws : List Tk} (h : Rdr w R E 0 B N ws)
    (m1 : ¬ textF ws = wDays) (m2 : ¬ textF ws = wShift) (m3 : ¬ textF ws = wWindow) (m4 : ¬ textF ws = wIn) (m5 : ¬ textF ws = wPrio) (m6 : ¬ textF ws = wWait) (m7 : ¬ textF ws = wEvery) (m8 : ¬ textF ws = wRuns) (m9 : ¬ textF ws = wRetry) :
    Calls Tryz.prog 170 #[.pointer (some ⟨R, 0, none⟩), .pointer (some ⟨J, 0, none⟩)] w (SG R E B N J b0 (.error (atF E ws, 20)) w) := by
  have HT := hide (text_any h)
  have HF := hide (fault_any h 20)
  have n1 := str_ne2 [100, 97, 121, 115] m1
  have n2 := str_ne2 [115, 104, 105, 102, 116] m2
  have n3 := str_ne2 [119, 105, 110, 100, 111, 119] m3
  have n4 := str_ne2 [105, 110] m4
  have n5 := str_ne2 [112, 114, 105, 111] m5
  have n6 := str_ne2 [119, 97, 105, 116] m6
  have n7 := str_ne2 [101, 118, 101, 114, 121] m7
  have n8 := str_ne2 [114, 117, 110, 115] m8
  have n9 := str_ne2 [114, 101, 116, 114, 121] m9
  clear h m1 m2 m3 m4 m5 m6 m7 m8 m9
  unfold SG Ends
  simp only
  generalize textF ws = y at *
  go_enter Tryz.func170, Tryz.ntmps170
  go_wp2_with fail
  refine HT.out.mono ?_
  rintro e w1 ⟨rfl, rfl⟩
  go_wp2_with fail
  refine HF.out.mono ?_
  rintro e w2 ⟨rfl, hb⟩
  have HB := hide hb
  clear hb
  go_wp2
  exact ⟨rfl, rfl, Only.below HB.out⟩
/-- (*jdl.reader).single -/
theorem single_any {w : World} {R J b0 : Nat} {E : Int} {B N : Nat} {ws : List Tk} (h : Rdr w R E 0 B N ws) (hG : Few9 ws) {x : Jb} {s : JSl} (hj : JbAt b0 w J x s) (hNJ : N ≤ J) :
    Calls Tryz.prog 170 #[.pointer (some ⟨R, 0, none⟩), .pointer (some ⟨J, 0, none⟩)] w (SG R E B N J b0 (singleP E x ws) w) := by
  unfold singleP
  cases ws with
  | nil =>
    rw [if_neg (by decide), if_neg (by decide), if_neg (by decide), if_neg (by decide), if_neg (by decide), if_neg (by decide), if_neg (by decide), if_neg (by decide), if_neg (by decide)]
    exact singleBad h (by decide) (by decide) (by decide) (by decide) (by decide) (by decide) (by decide) (by decide) (by decide)
  | cons t r =>
    have hGr : Few9 r := hG.suf (List.suffix_cons t r)
    simp only [List.tail_cons]
    by_cases c1 : textF (t :: r) = wDays
    · rw [if_pos c1]; exact singleDays h hGr c1 hj hNJ
    rw [if_neg c1]
    by_cases c2 : textF (t :: r) = wShift
    · rw [if_pos c2]; exact singleShift h hGr c2 hj hNJ
    rw [if_neg c2]
    by_cases c3 : textF (t :: r) = wWindow
    · rw [if_pos c3]; exact singleWindow h hGr c3 hj hNJ
    rw [if_neg c3]
    by_cases c4 : textF (t :: r) = wIn
    · rw [if_pos c4]; exact singleIn h hGr c4 hj hNJ
    rw [if_neg c4]
    by_cases c5 : textF (t :: r) = wPrio
    · rw [if_pos c5]; exact singlePrio h hGr c5 hj hNJ
    rw [if_neg c5]
    by_cases c6 : textF (t :: r) = wWait
    · rw [if_pos c6]; exact singleWait h hGr c6 hj hNJ
    rw [if_neg c6]
    by_cases c7 : textF (t :: r) = wEvery
    · rw [if_pos c7]; exact singleEvery h hGr c7 hj hNJ
    rw [if_neg c7]
    by_cases c8 : textF (t :: r) = wRuns
    · rw [if_pos c8]; exact singleRuns h hGr c8 hj hNJ
    rw [if_neg c8]
    by_cases c9 : textF (t :: r) = wRetry
    · rw [if_pos c9]; exact singleRetry h hGr c9 hj hNJ
    rw [if_neg c9]
    exact singleBad h c1 c2 c3 c4 c5 c6 c7 c8 c9
end Go.Proofs.YtkpgfhapffijkaaGreatDoor

/- Package jdl: a part of a job: those that stand once. -/
namespace Go.Proofs.YtkpgfhapffijkaaGreatDoor
open Go.ChangeShapes Go.WideShapes Go.ChangeAt Go.RowKit Go.DsMem Go.DsLx Go.DsJd Go.DsMk
set_option linter.unusedVariables false
abbrev wOut : ByteArray := ⟨#[111, 117, 116]⟩
abbrev wNeed : ByteArray := ⟨#[110, 101, 101, 100]⟩
abbrev wUse : ByteArray := ⟨#[117, 115, 101]⟩
/-- blocks that a part may turn -/
abbrev TJ (R B J b0 i : Nat) : Prop := i = R ∨ i = B ∨ i = J ∨ b0 ≤ i
/-- how part ends -/
def PT (R : Nat) (E : Int) (B N J b0 : Nat) (q : Except Fl ((Jb × List (Int × ByteArray)) × List Tk)) (w : World) : Ending → World → Prop :=
  Ends q (fun w' => Only (TJ R B J b0) w w') fun p e w' => e = .returned (.tuple #[]) ∧ (∃ s', JbAt b0 w' J p.1.1 s') ∧ StM w' B p.1.2 ∧ Rdr w' R E 0 B N p.2 ∧ Only (TJ R B J b0) w w'
open Classical in
noncomputable def restP (E : Int) (k : Int) (S : List (Int × ByteArray)) (x : Jb) (ws : List Tk) : Except Fl ((Jb × List (Int × ByteArray)) × List Tk) :=
  if (k, textF ws) ∈ S then .error (atF E ws, 22) else match singleP E x ws with | .error f => .error f | .ok (x', r) => .ok ((x', (k, textF ws) :: S), r)
set_option maxHeartbeats 8000000 in
set_option maxRecDepth 20000 in
theorem part_rest {w : World} {R J b0 : Nat} {E : Int} {B N : Nat} {ws : List Tk} (h : Rdr w R E 0 B N ws) (hG : Few9 ws) {x : Jb} {s : JSl} (hj : JbAt b0 w J x s) (hNJ : N ≤ J) (hBJ : B < J) (k : Int) (S : List (Int × ByteArray)) (hs : StM w B S) (hf : fitS (k, textF ws)) (hS : S.length ≤ 100000)
    (m1 : ¬ textF ws = wOut) (m2 : ¬ textF ws = wNeed) (m3 : ¬ textF ws = wUse) :
    Calls Tryz.prog 138 #[.pointer (some ⟨R, 0, none⟩), .pointer (some ⟨J, 0, none⟩), .int .i64 k] w (PT R E B N J b0 (restP E k S x ws) w) := by
  obtain ⟨hN1, hN2⟩ := h.n
  have hlt := hj.lt
  have hle := hj.le
  obtain ⟨wb, hwb⟩ : ∃ wb, wb = w.alloc (.cells #[.pointer (some ⟨R, 0, none⟩)] 84) := ⟨_, rfl⟩
  have hOb : Only (fun _ => False) w wb := by rw [hwb]; exact Only.alloc _ _ _
  have bx : wb.cell? ⟨w.heap.size, 0, none⟩ = some (.pointer (some ⟨R, 0, none⟩)) := by rw [hwb, World.cell?_alloc_mark]; rfl
  have hsb : wb.heap.size = w.heap.size + 1 := by rw [hwb]; simp
  have hrb : Rdr wb R E 0 B N ws := by rw [hwb]; exact h.below (below_new4 _)
  have hjb := hj.moved hOb (fun b e => e.elim)
  have hsb2 : StM wb B S := by rw [hwb]; exact hs.below ((Below.refl _ _).alloc (Nat.le_refl _) _)
  have HT := hide (text_any hrb)
  have HO := hide (once_any hrb S hsb2 k hf hS)
  have HSG : Hid (∀ w', Rdr w' R E 0 B N ws → JbAt b0 w' J x s → Calls Tryz.prog 170 #[.pointer (some ⟨R, 0, none⟩), .pointer (some ⟨J, 0, none⟩)] w' (SG R E B N J b0 (singleP E x ws) w')) := fun w' h1 h2 => single_any h1 hG h2 hNJ
  have HBR : Hid (¬ B = R) := hide (fun e => by obtain ⟨es, clock, hm⟩ := hs.map; obtain ⟨uo, uc, o, h1, _⟩ := h; rw [e, h1] at hm; cases hm)
  have n1 := str_ne2 [111, 117, 116] m1
  have n2 := str_ne2 [110, 101, 101, 100] m2
  have n3 := str_ne2 [117, 115, 101] m3
  have HJB := hide hjb
  have HOB := hide (hOb.mono (T := TJ R B J b0) (fun _ _ e => e.elim))
  clear h hG hj hs hf hS m1 m2 m3 hrb hjb hsb2 hOb
  unfold restP
  unfold Onced at HO
  generalize textF ws = y at *
  by_cases hin : (k, y) ∈ S
  · rw [if_pos hin]
    unfold PT Ends
    simp only
    have HIN := hide hin
    clear HSG hin
    go_enter Tryz.func138, Tryz.ntmps138
    go_wp2_with fail
    rw [← hwb]
    clear hwb
    go_wp2_with fail
    refine HT.out.mono ?_
    rintro e w1 ⟨rfl, rfl⟩
    go_wp2_with fail
    refine HO.out.mono ?_
    intro e w2 hz
    rcases hz with ⟨_, rfl, ho⟩ | ⟨hn, _⟩
    · have HO2 := hide (HOB.out.trans (ho.mono (T := TJ R B J b0) (fun i _ e => by rcases e with e | e; exact .inl e; exact .inr (.inl e))) (fun _ _ h => h))
      clear ho
      go_wp2
      exact ⟨rfl, rfl, HO2.out⟩
    · exact absurd HIN.out hn
  · rw [if_neg hin]
    have HIN := hide hin
    clear hin
    unfold SG at HSG
    generalize singleP E x ws = q at *
    go_enter Tryz.func138, Tryz.ntmps138
    go_wp2_with fail
    rw [← hwb]
    clear hwb
    go_wp2_with fail
    refine HT.out.mono ?_
    rintro e w1 ⟨rfl, rfl⟩
    go_wp2_with fail
    refine HO.out.mono ?_
    intro e w2 hz
    rcases hz with ⟨hn, _⟩ | ⟨_, rfl, hsm, hr, ho⟩
    · exact absurd hn HIN.out
    · have hsz2 := ho.size
      have bx2 := ho.cell bx (fun e => by rcases e with e | e <;> (change w.heap.size = _ at e; omega))
      have HSM := hide hsm
      have HR := hide hr
      have HJ2 := hide (HJB.out.moved ho (fun b e => by rcases e with e | e <;> omega))
      have HO2 := hide (HOB.out.trans (ho.mono (T := TJ R B J b0) (fun i _ e => by rcases e with e | e; exact .inl e; exact .inr (.inl e))) (fun _ _ h => h))
      clear hsm hr ho bx
      go_wp2_with fail
      refine (HSG.out _ HR.out HJ2.out).mono ?_
      intro e w3 hz
      cases q with
      | error f =>
        obtain ⟨rfl, ho3⟩ := hz
        have HO3 := hide (HO2.out.trans (ho3.mono (T := TJ R B J b0) (fun i _ e => by rcases e with e | e; exact .inl e; exact .inr (.inr (.inl e)))) (fun _ _ h => h))
        clear ho3
        go_wp2
        exact ⟨rfl, rfl, HO3.out⟩
      | ok p =>
        obtain ⟨x', r'⟩ := p
        obtain ⟨rfl, hj3, hr3, ho3⟩ := hz
        have HO3 := hide (HO2.out.trans (ho3.mono (T := TJ R B J b0) (fun i _ e => by rcases e with e | e; exact .inl e; exact .inr (.inr (.inl e)))) (fun _ _ h => h))
        have HSM3 := hide (HSM.out.only ho3 (fun e => e.elim (fun e => HBR.out e) (fun e => by omega)))
        have HR3 := hide hr3
        have HJ3 := hide hj3
        clear ho3 hr3 hj3
        go_wp2
        go_end0
        exact ⟨rfl, HJ3.out, HSM3.out, HR3.out, HO3.out⟩
end Go.Proofs.YtkpgfhapffijkaaGreatDoor

/- Package jdl: a job gets a need. -/
namespace Go.Proofs.YtkpgfhapffijkaaGreatDoor
open Go.ChangeShapes Go.WideShapes Go.ChangeAt Go.RowKit Go.DsMem Go.DsLx Go.DsJd Go.DsMk
set_option linter.unusedVariables false
theorem infoNeed : (Tryz.prog.info? 58).map (fun i => (i.zero, i.size, i.bytes)) = some (some (.agg #[.string ⟨#[]⟩, .int .i64 0, .int .i64 0]), 3, 32) := by kernel_rfl
theorem nvC3_one (p : Nv) : ∀ u ∈ nvC3 p, u.oneCell' = true := by
  intro u hu
  simp only [nvC3, List.mem_cons, List.not_mem_nil, or_false] at hu
  rcases hu with rfl | rfl | rfl <;> rfl
theorem nvRow_snoc (l : List Nv) (p : Nv) : nvRow (l ++ [p]) = nvRow l ++ nvC3 p := by simp [nvRow]
theorem JbAt.addNeed {b0 J : Nat} {w2 w3 : World} {x : Jb} {s : JSl} (h : JbAt b0 w2 J x s) (a : Nv) (o : Obj) {g cap : Nat}
    (hown : w3.ownsRow b0 58 3 (.slice (some ⟨g, 0, none⟩) (x.needs.length + 1) cap) (x.needs.length + 1) (nvRow x.needs ++ nvC3 a))
    (hgr : (w2.alloc o).grownBy w3 (jNeeds x s).ownBlock) (hat : (jNeeds x s).ownBlock = some g ∨ g = w2.heap.size + 1) (hlt3 : g < w3.heap.size) :
    JbAt b0 (w3.setCell ⟨J, 18, none⟩ (.slice (some ⟨g, 0, none⟩) (x.needs.length + 1) cap)) J { x with needs := x.needs ++ [a] } { s with no := some ⟨g, 0, none⟩, nc := cap } := by
  have hl := h.lt
  have hle := h.le
  have hA : Only (fun k => (jNeeds x s).ownBlock = some k) w2 w3 := (Only.alloc _ w2 o).trans (Only.grown hgr) (fun i _ hi => hi)
  have hrow := h.needs.lt
  have hrow2 := h.outs.lt
  have hB : Only (fun k => (jNeeds x s).ownBlock = some k ∨ k = J) w2 (w3.setCell ⟨J, 18, none⟩ (.slice (some ⟨g, 0, none⟩) (x.needs.length + 1) cap)) := (hA.mono (fun _ _ e => .inl e)).trans (Only.set w3 J 18 _) (fun _ _ e => .inr e)
  have hgJ : g ≠ J := by
    rcases hat with c | c
    · have := (hrow _ c).1; omega
    · omega
  have hb3 : w3.heap[J]? = some (.cells (jC x s) 56 (0, 0)) := by
    rw [hA.block J (by omega) (fun e => by have := (hrow _ e).1; omega)]; exact h.blk
  have hl1 : (x.needs ++ [a]).length = x.needs.length + 1 := by simp
  have e1 : jOuts { x with needs := x.needs ++ [a] } { s with no := some ⟨g, 0, none⟩, nc := cap } = jOuts x s := rfl
  have e2 : jNeeds { x with needs := x.needs ++ [a] } { s with no := some ⟨g, 0, none⟩, nc := cap } = .slice (some ⟨g, 0, none⟩) (x.needs.length + 1) cap := by unfold jNeeds; simp only; rw [hl1]
  have hne : ∀ b, b < w2.heap.size → (jNeeds x s).ownBlock ≠ some b → b ≠ g := fun b hb hn e => by
    rcases hat with c | c
    · exact hn (by rw [e]; exact c)
    · omega
  have h1 : ∀ b, JR b0 w2 x s b → JR b0 (w3.setCell ⟨J, 18, none⟩ (.slice (some ⟨g, 0, none⟩) (x.needs.length + 1) cap)) { x with needs := x.needs ++ [a] } { s with no := some ⟨g, 0, none⟩, nc := cap } b := fun b hb => by
    refine ⟨hb.1, Nat.lt_of_lt_of_le hb.2.1 hB.size, ?_, ?_⟩
    · rw [e1]; exact hb.2.2.1
    · rw [e2]
      intro e
      exact hne b hb.2.1 hb.2.2.2 (Option.some.inj e).symm
  have h2 : ∀ ad u, JR b0 w2 x s ad.block → w2.cell? ad = some u → (w3.setCell ⟨J, 18, none⟩ (.slice (some ⟨g, 0, none⟩) (x.needs.length + 1) cap)).cell? ad = some u := fun ad u hb hc => hB.cell hc (fun e => by
    rcases e with e | e
    · exact hb.2.2.2 e
    · have := hb.1; omega)
  refine ⟨?_, hl, Nat.le_trans hle hB.size, h.days.mono h1 h2, h.work.mono h1 h2, h.inn.mono h1 h2, ?_, ?_, ?_⟩
  · rw [hset_same hb3]
    unfold jC
    simp only [hl1]
    kernel_rfl
  · rw [e1]
    exact own_sameK h.outs (fun k hk => hB.block k (hrow2 k hk).2 (fun e => by
      rcases e with e | e
      · exact h.apart k hk e
      · have := (hrow2 k hk).1; omega))
  · rw [e2]
    simp only
    rw [hl1, nvRow_snoc]
    exact own_sameK hown (fun k hk => by
      have : g = k := Option.some.inj hk
      subst this
      exact (Only.set w3 J 18 _).block g hlt3 hgJ)
  · rw [e1, e2]
    intro k hk e
    have : g = k := Option.some.inj e
    subst this
    exact hne g (hrow2 g hk).2 (h.apart g hk) rfl
theorem saidNeed1 {w : World} {R : Nat} {E : Int} {B N : Nat} {t : Tk} {r : List Tk} (h : Rdr w R E 0 B N (t :: r)) :
    Calls Tryz.prog 167 #[.pointer (some ⟨R, 0, none⟩), .func (.func 168) #[.pointer (some ⟨R, 0, none⟩)] #[]] w (PE R E 0 B N (thenP E ⟨#[59]⟩ (twoP (nameP E) (numP E) r)) VNeed w) := by
  refine saidNeed h 168 #[.pointer (some ⟨R, 0, none⟩)] #[] (twoP (nameP E) (numP E)) VNeed (cf_of Tryz.func168 (by decide +kernel) (by kernel_rfl)) ?_ ?_ ?_ (fun w h => need_any h)
  · rintro wA a v w1 rfl
    exact ⟨_, _, _, rfl⟩
  · rintro wA a v w1 w2 hs rfl ho
    rfl
  · rintro wA wB a v w1 hs rfl
    rfl
theorem saidUse1 {w : World} {R : Nat} {E : Int} {B N : Nat} {t : Tk} {r : List Tk} (h : Rdr w R E 0 B N (t :: r)) :
    Calls Tryz.prog 167 #[.pointer (some ⟨R, 0, none⟩), .func (.func 169) #[.pointer (some ⟨R, 0, none⟩)] #[]] w (PE R E 0 B N (thenP E ⟨#[59]⟩ (twoP (nameP E) (choiceP E modeL) r)) VUse w) := by
  refine saidNeed h 169 #[.pointer (some ⟨R, 0, none⟩)] #[] (twoP (nameP E) (choiceP E modeL)) VUse (cf_of Tryz.func169 (by decide +kernel) (by kernel_rfl)) ?_ ?_ ?_ (fun w h => use_any h)
  · rintro wA a v w1 rfl
    exact ⟨_, _, _, rfl⟩
  · rintro wA a v w1 w2 hs rfl ho
    rfl
  · rintro wA wB a v w1 hs rfl
    rfl
end Go.Proofs.YtkpgfhapffijkaaGreatDoor

/- Package jdl: a part of a job: need, use. Written by gen_need.py. -/
namespace Go.Proofs.YtkpgfhapffijkaaGreatDoor
open Go.ChangeShapes Go.WideShapes Go.ChangeAt Go.RowKit Go.DsMem Go.DsLx Go.DsJd Go.DsMk
set_option linter.unusedVariables false
/-- what need and use read -/
def moreP {α : Type} (E : Int) (S : List (Int × ByteArray)) (x : Jb) (f : α → Nv) (ws : List Tk) (q : Except Fl (α × List Tk)) : Except Fl ((Jb × List (Int × ByteArray)) × List Tk) :=
  match roomP E ws x.needs.length 6 with
  | .error f => .error f
  | .ok _ => match q with | .error f => .error f | .ok (a, r) => .ok (({ x with needs := x.needs ++ [f a] }, S), r)
theorem PT.bad {w w' : World} {R J b0 : Nat} {E : Int} {B N : Nat} {q : Except Fl ((Jb × List (Int × ByteArray)) × List Tk)} {f : Fl} (hq : q = .error f) (ho : Only (TJ R B J b0) w w') : PT R E B N J b0 q w (.panicked [{ v := flV f, recovered := false }]) w' := by
  subst hq
  exact ⟨rfl, ho⟩
theorem PT.good {w w' : World} {R J b0 : Nat} {E : Int} {B N : Nat} {q : Except Fl ((Jb × List (Int × ByteArray)) × List Tk)} {x : Jb} {S : List (Int × ByteArray)} {r : List Tk} (hq : q = .ok ((x, S), r)) (hj : ∃ s', JbAt b0 w' J x s') (hs : StM w' B S) (hr : Rdr w' R E 0 B N r) (ho : Only (TJ R B J b0) w w') : PT R E B N J b0 q w (.returned (.tuple #[])) w' := by
  subst hq
  exact ⟨rfl, hj, hs, hr, ho⟩
set_option maxHeartbeats 8000000 in
set_option maxRecDepth 20000 in
theorem part_need {w : World} {R J b0 : Nat} {E : Int} {B N : Nat} {t : Tk} {r : List Tk} (h : Rdr w R E 0 B N (t :: r)) (hc : t.text = wNeed) {x : Jb} {s : JSl} (hj : JbAt b0 w J x s) (hNJ : N ≤ J) (hBJ : B < J) (k : Int) (S : List (Int × ByteArray)) (hs : StM w B S) (hn6 : x.needs.length ≤ 6) :
    Calls Tryz.prog 138 #[.pointer (some ⟨R, 0, none⟩), .pointer (some ⟨J, 0, none⟩), .int .i64 k] w (PT R E B N J b0 (moreP E S x (fun p => (p.1, (p.2, 0))) (t :: r) (thenP E ⟨#[59]⟩ (twoP (nameP E) (numP E) r))) w) := by
  obtain ⟨hN1, hN2⟩ := h.n
  have hlt := hj.lt
  have hle := hj.le
  have hmf : ∀ (fn : Fn) (first cap : Array Value) (w : World), (Instr.makeFunc fn first cap).run Tryz.prog w = .ok (.func fn first cap) w := fun _ _ _ _ => rfl
  obtain ⟨i0, hi0, hz0, hz1, hz2⟩ := info_parts infoNeed
  have HBR : Hid (¬ B = R) := hide (fun e => by obtain ⟨es, clock, hm⟩ := hs.map; obtain ⟨uo, uc, o, h1, _⟩ := h; rw [e, h1] at hm; cases hm)
  obtain ⟨wb, hwb⟩ : ∃ wb, wb = w.alloc (.cells #[.pointer (some ⟨R, 0, none⟩)] 84) := ⟨_, rfl⟩
  have hOb : Only (fun _ => False) w wb := by rw [hwb]; exact Only.alloc _ _ _
  have bx : wb.cell? ⟨w.heap.size, 0, none⟩ = some (.pointer (some ⟨R, 0, none⟩)) := by rw [hwb, World.cell?_alloc_mark]; rfl
  have hsb : wb.heap.size = w.heap.size + 1 := by rw [hwb]; simp
  have hrb : Rdr wb R E 0 B N (t :: r) := by rw [hwb]; exact h.below (below_new4 _)
  have hjb := hj.moved hOb (fun b e => e.elim)
  have hsb2 : StM wb B S := by rw [hwb]; exact hs.below ((Below.refl _ _).alloc (Nat.le_refl _) _)
  have HT := hide (text_any hrb)
  simp only [textF] at HT
  rw [hc] at HT
  unfold wNeed at HT
  have HRM := hide (room_any hrb.drew x.needs.length 6)
  have HS : Hid _ := hide (saidNeed1 hrb.drew.drew)
  have j18 : wb.cell? ⟨J, 18, none⟩ = some (.slice s.no x.needs.length s.nc) := (hjb.cell 18).trans rfl
  have HJB := hide hjb
  have HSB := hide hsb2
  have HRB := hide hrb
  have HOB := hide (hOb.mono (T := TJ R B J b0) (fun _ _ e => e.elim))
  have hJb : J < wb.heap.size := by omega
  clear h hj hs hc hrb hjb hsb2 hOb
  generalize thenP E ⟨#[59]⟩ (twoP (nameP E) (numP E) r) = q at *
  have HRM2 : Hid (Calls Tryz.prog 100 #[.pointer (some ⟨R, 0, none⟩), .int .i64 x.needs.length, .int .i64 6] wb.drew fun e w' => ((∃ f, roomP E (t :: r) x.needs.length 6 = .error f ∧ e = .panicked [{ v := flV f, recovered := false }] ∧ Only (· = R) wb.drew w') ∨ (roomP E (t :: r) x.needs.length 6 = .ok () ∧ e = .returned (.tuple #[]) ∧ w' = wb.drew))) := by
    refine hide (HRM.out.mono ?_)
    intro e w' hz
    cases hroom : roomP E (t :: r) x.needs.length 6 with
    | error f => rw [hroom] at hz; exact .inl ⟨f, rfl, hz.1, hz.2⟩
    | ok u => rw [hroom] at hz; exact .inr ⟨rfl, hz.1, hz.2⟩
  have HS2 : Hid (Calls Tryz.prog 167 #[.pointer (some ⟨R, 0, none⟩), .func (.func 168) #[.pointer (some ⟨R, 0, none⟩)] #[]] wb.drew.drew fun e w' => ((∃ f, q = .error f ∧ e = .panicked [{ v := flV f, recovered := false }] ∧ Only (· = R) wb.drew.drew w') ∨ (∃ (p : ByteArray × Int) (r' : List Tk), q = .ok (p, r') ∧ e = .returned (.agg #[.string p.1, .int .i64 p.2, .int .i64 0]) ∧ Rdr w' R E 0 B N r' ∧ Only (· = R) wb.drew.drew w'))) := by
    refine hide (HS.out.mono ?_)
    intro e w' hz
    cases q with
    | error f => exact .inl ⟨f, rfl, hz.1, hz.2⟩
    | ok pr =>
      obtain ⟨p, r'⟩ := pr
      obtain ⟨v, rfl, rfl, hr, ho⟩ := hz
      exact .inr ⟨p, r', rfl, rfl, hr, ho⟩
  clear HRM HS
  have KP : Hid (∀ w', Only (· = R) wb.drew.drew w' → w'.cell? ⟨w.heap.size, 0, none⟩ = some (.pointer (some ⟨R, 0, none⟩)) ∧ w'.cell? ⟨J, 18, none⟩ = some (.slice s.no x.needs.length s.nc)) := fun w' ho =>
    ⟨ho.cell (w := wb.drew.drew) bx (fun e => by change w.heap.size = _ at e; omega), ho.cell (w := wb.drew.drew) j18 (fun e => by change J = _ at e; omega)⟩
  have KJ : Hid (∀ w', Only (· = R) wb.drew.drew w' → JbAt b0 w' J x s) := fun w' ho => HJB.out.drew.drew.moved ho (fun b e => ⟨by omega, by omega⟩)
  have KS : Hid (∀ w', Only (· = R) wb.drew.drew w' → StM w' B S) := fun w' ho => (show StM wb.drew.drew B S from HSB.out).only ho HBR.out
  have KZ : Hid (∀ w', Only (· = R) wb.drew.drew w' → wb.heap.size ≤ w'.heap.size) := fun w' ho => ho.size
  have KROW : Hid (∀ w', Only (· = R) wb.drew.drew w' → ∀ ob, (w'.alloc ob).ownsRow b0 58 3 (.slice s.no x.needs.length s.nc) x.needs.length (nvRow x.needs)) := fun w' ho ob => own_sameK (KJ.out _ ho).needs (fun k hk => by have := (KJ.out _ ho).needs.lt k hk; rw [((Below.refl w'.heap.size w').alloc (Nat.le_refl _) ob).block k (by omega)])
  have KY : Hid (∀ w', Only (· = R) wb.drew.drew w' → ∀ w3 ob, (w'.alloc ob).grownBy w3 (jNeeds x s).ownBlock → w3.cell? ⟨J, 18, none⟩ = some (.slice s.no x.needs.length s.nc) ∧ w3.frozen? ⟨J, 18, none⟩ = false ∧ J < w3.heap.size) := fun w' ho w3 ob hg => by
    have hA : Only (fun k => (jNeeds x s).ownBlock = some k) w' w3 := (Only.alloc _ w' _).trans (Only.grown hg) (fun i _ hi => hi)
    have hn : ¬ (jNeeds x s).ownBlock = some J := fun e => by have := ((KJ.out _ ho).needs.lt J e).1; omega
    have hJw := block_lt (KJ.out _ ho).blk
    have hbJ := (hA.block J hJw hn).trans (KJ.out _ ho).blk
    exact ⟨by rw [cell_of hbJ]; rfl, frozen_of hbJ, block_lt hbJ⟩
  go_enter Tryz.func138, Tryz.ntmps138
  go_wp2_with fail
  rw [← hwb]
  clear hwb
  go_wp2_with fail
  refine HT.out.mono ?_
  rintro e w1 ⟨rfl, rfl⟩
  go_wp2_with fail
  go_region_law (go_simp; go_wp2_with (go_at_call 100; refine HRM2.out.mono ?_; intro e w2 hz; rcases hz with ⟨f, hq, rfl, ho⟩ | ⟨hq1, rfl, rfl⟩; (exact ⟨rfl, PT.bad (f := f) (by unfold moreP; rw [hq]) (HOB.out.trans (((Only.refl _ _).drew.trans ho (fun _ _ h => h)).mono (T := TJ R B J b0) (fun _ _ e => .inl e)) (fun _ _ h => h))⟩); have HQ1 := hide hq1; clear hq1))
  all_goals
    go_wp2_with fail
    go_region_law
      (first
        | (refine step_append_lies _ (by rfl) _ _ _ (by rfl) b0 58 i0 _ 3 32 Tryz.underlying54 hi0 hz0 hz1 hz2 rfl (by omega) (.slice s.no x.needs.length s.nc) x.needs.length (nvRow x.needs) (by rfl) (HROW.out _)
                ⟨w2.heap.size, 0, none⟩ 1 1 (nvC3 (p.1, (p.2, 0))) (by rfl) (by rfl) (World.news_of_block (cs := (nvC3 (p.1, (p.2, 0))).toArray) (t := 58) (fr := (0, 0)) (heap_alloc_new w2 _)) (nvC3_one (p.1, (p.2, 0)))
                (by omega) (by unfold maxLen; omega) (by omega) (by simp; omega) (w2.heap.size + 1) (by simp) ?_; intro gg cap w3 hown3 hgrow hat hlt3; have hy3 := HY.out w3 _ hgrow; obtain ⟨y1, y2, y3⟩ := hy3)
        | (go_simp; go_wp2_with (go_at_call 167; refine HS2.out.mono ?_; intro e w2 hz; rcases hz with ⟨f, hq, rfl, ho⟩ | ⟨p, r', hq2, rfl, hr2, ho2⟩; (exact ⟨rfl, PT.bad (f := f) (by unfold moreP; rw [HQ1.out, hq]) (HOB.out.trans (((Only.refl _ _).drew.drew.trans ho (fun _ _ h => h)).mono (T := TJ R B J b0) (fun _ _ e => .inl e)) (fun _ _ h => h))⟩); have HQ2 := hide hq2; clear hq2; have HR2 := hide hr2; have HO2 := hide ho2; have hs2 := ho2.size; obtain ⟨k0, k1⟩ := KP.out _ ho2; have HJ2 := hide (KJ.out _ ho2); have hs22 := KZ.out _ ho2; have HROW := hide (KROW.out _ ho2); have hle2 := (KJ.out _ ho2).le; have hJ2 : J < w2.heap.size := (by omega); have hJ2n : ¬ J = w2.heap.size := (by omega); have HY := hide (KY.out _ ho2); clear hr2 ho2)))
    all_goals
      have HAD := hide (HJ2.out.addNeed (p.1, (p.2, 0)) _ hown3 hgrow hat hlt3)
      have hA : Only (fun k => b0 ≤ k) w2 w3 := (Only.alloc _ w2 _).trans ((Only.grown hgrow).mono (fun i _ hi => (HJ2.out.needs.lt i hi).1)) (fun i _ hi => hi)
      have hB : Only (TJ R B J b0) w2 (w3.setCell ⟨J, 18, none⟩ (.slice (some ⟨gg, 0, none⟩) (x.needs.length + 1) cap)) := (hA.mono (fun _ _ e => .inr (.inr (.inr e)))).trans (Only.set w3 J 18 _) (fun _ _ e => .inr (.inr (.inl e)))
      have HB := hide hB
      have HR3 : Hid (Rdr (w3.setCell ⟨J, 18, none⟩ (.slice (some ⟨gg, 0, none⟩) (x.needs.length + 1) cap)) R E 0 B N r') := hide (HR2.out.only (((hA.mono (T := fun k => b0 ≤ k ∨ k = J) (fun _ _ e => .inl e)).trans (Only.set w3 J 18 _) (fun _ _ e => .inr e)).toBelow (by omega) (fun i e => by rcases e with e | e <;> omega)))
      have HS3 : Hid (StM (w3.setCell ⟨J, 18, none⟩ (.slice (some ⟨gg, 0, none⟩) (x.needs.length + 1) cap)) B S) := hide ((KS.out _ HO2.out).only ((hA.mono (T := fun k => b0 ≤ k ∨ k = J) (fun _ _ e => .inl e)).trans (Only.set w3 J 18 _) (fun _ _ e => .inr e)) (fun e => by rcases e with e | e <;> omega))
      have HO3 := hide ((HOB.out.trans (((Only.refl _ _).drew.drew.trans HO2.out (fun _ _ h => h)).mono (T := TJ R B J b0) (fun _ _ e => .inl e)) (fun _ _ h => h)).trans HB.out (fun _ _ h => h))
      clear hown3 hgrow hat hA hB
      go_wp2
      go_end0
      exact PT.good (by unfold moreP; rw [HQ1.out, HQ2.out]) ⟨_, HAD.out⟩ HS3.out HR3.out HO3.out
end Go.Proofs.YtkpgfhapffijkaaGreatDoor

/- Package jdl: a part of a job: use. Written by gen_need.py. -/
namespace Go.Proofs.YtkpgfhapffijkaaGreatDoor
open Go.ChangeShapes Go.WideShapes Go.ChangeAt Go.RowKit Go.DsMem Go.DsLx Go.DsJd Go.DsMk
set_option linter.unusedVariables false
set_option maxHeartbeats 8000000 in
set_option maxRecDepth 20000 in
theorem part_use {w : World} {R J b0 : Nat} {E : Int} {B N : Nat} {t : Tk} {r : List Tk} (h : Rdr w R E 0 B N (t :: r)) (hc : t.text = wUse) {x : Jb} {s : JSl} (hj : JbAt b0 w J x s) (hNJ : N ≤ J) (hBJ : B < J) (k : Int) (S : List (Int × ByteArray)) (hs : StM w B S) (hn6 : x.needs.length ≤ 6) :
    Calls Tryz.prog 138 #[.pointer (some ⟨R, 0, none⟩), .pointer (some ⟨J, 0, none⟩), .int .i64 k] w (PT R E B N J b0 (moreP E S x (fun p => (p.1, (0, p.2 + 1))) (t :: r) (thenP E ⟨#[59]⟩ (twoP (nameP E) (choiceP E modeL) r))) w) := by
  obtain ⟨hN1, hN2⟩ := h.n
  have hlt := hj.lt
  have hle := hj.le
  have hmf : ∀ (fn : Fn) (first cap : Array Value) (w : World), (Instr.makeFunc fn first cap).run Tryz.prog w = .ok (.func fn first cap) w := fun _ _ _ _ => rfl
  obtain ⟨i0, hi0, hz0, hz1, hz2⟩ := info_parts infoNeed
  have HBR : Hid (¬ B = R) := hide (fun e => by obtain ⟨es, clock, hm⟩ := hs.map; obtain ⟨uo, uc, o, h1, _⟩ := h; rw [e, h1] at hm; cases hm)
  obtain ⟨wb, hwb⟩ : ∃ wb, wb = w.alloc (.cells #[.pointer (some ⟨R, 0, none⟩)] 84) := ⟨_, rfl⟩
  have hOb : Only (fun _ => False) w wb := by rw [hwb]; exact Only.alloc _ _ _
  have bx : wb.cell? ⟨w.heap.size, 0, none⟩ = some (.pointer (some ⟨R, 0, none⟩)) := by rw [hwb, World.cell?_alloc_mark]; rfl
  have hsb : wb.heap.size = w.heap.size + 1 := by rw [hwb]; simp
  have hrb : Rdr wb R E 0 B N (t :: r) := by rw [hwb]; exact h.below (below_new4 _)
  have hjb := hj.moved hOb (fun b e => e.elim)
  have hsb2 : StM wb B S := by rw [hwb]; exact hs.below ((Below.refl _ _).alloc (Nat.le_refl _) _)
  have HT := hide (text_any hrb)
  simp only [textF] at HT
  rw [hc] at HT
  unfold wUse at HT
  have HRM := hide (room_any hrb.drew x.needs.length 6)
  have HS : Hid _ := hide (saidUse1 hrb.drew.drew)
  have j18 : wb.cell? ⟨J, 18, none⟩ = some (.slice s.no x.needs.length s.nc) := (hjb.cell 18).trans rfl
  have HJB := hide hjb
  have HSB := hide hsb2
  have HRB := hide hrb
  have HOB := hide (hOb.mono (T := TJ R B J b0) (fun _ _ e => e.elim))
  have hJb : J < wb.heap.size := by omega
  clear h hj hs hc hrb hjb hsb2 hOb
  generalize thenP E ⟨#[59]⟩ (twoP (nameP E) (choiceP E modeL) r) = q at *
  have HRM2 : Hid (Calls Tryz.prog 100 #[.pointer (some ⟨R, 0, none⟩), .int .i64 x.needs.length, .int .i64 6] wb.drew fun e w' => ((∃ f, roomP E (t :: r) x.needs.length 6 = .error f ∧ e = .panicked [{ v := flV f, recovered := false }] ∧ Only (· = R) wb.drew w') ∨ (roomP E (t :: r) x.needs.length 6 = .ok () ∧ e = .returned (.tuple #[]) ∧ w' = wb.drew))) := by
    refine hide (HRM.out.mono ?_)
    intro e w' hz
    cases hroom : roomP E (t :: r) x.needs.length 6 with
    | error f => rw [hroom] at hz; exact .inl ⟨f, rfl, hz.1, hz.2⟩
    | ok u => rw [hroom] at hz; exact .inr ⟨rfl, hz.1, hz.2⟩
  have HS2 : Hid (Calls Tryz.prog 167 #[.pointer (some ⟨R, 0, none⟩), .func (.func 169) #[.pointer (some ⟨R, 0, none⟩)] #[]] wb.drew.drew fun e w' => ((∃ f, q = .error f ∧ e = .panicked [{ v := flV f, recovered := false }] ∧ Only (· = R) wb.drew.drew w') ∨ (∃ (p : ByteArray × Int) (r' : List Tk), q = .ok (p, r') ∧ e = .returned (.agg #[.string p.1, .int .i64 0, .int .i64 (p.2 + 1)]) ∧ Rdr w' R E 0 B N r' ∧ Only (· = R) wb.drew.drew w'))) := by
    refine hide (HS.out.mono ?_)
    intro e w' hz
    cases q with
    | error f => exact .inl ⟨f, rfl, hz.1, hz.2⟩
    | ok pr =>
      obtain ⟨p, r'⟩ := pr
      obtain ⟨v, rfl, rfl, hr, ho⟩ := hz
      exact .inr ⟨p, r', rfl, rfl, hr, ho⟩
  clear HRM HS
  have KP : Hid (∀ w', Only (· = R) wb.drew.drew w' → w'.cell? ⟨w.heap.size, 0, none⟩ = some (.pointer (some ⟨R, 0, none⟩)) ∧ w'.cell? ⟨J, 18, none⟩ = some (.slice s.no x.needs.length s.nc)) := fun w' ho =>
    ⟨ho.cell (w := wb.drew.drew) bx (fun e => by change w.heap.size = _ at e; omega), ho.cell (w := wb.drew.drew) j18 (fun e => by change J = _ at e; omega)⟩
  have KJ : Hid (∀ w', Only (· = R) wb.drew.drew w' → JbAt b0 w' J x s) := fun w' ho => HJB.out.drew.drew.moved ho (fun b e => ⟨by omega, by omega⟩)
  have KS : Hid (∀ w', Only (· = R) wb.drew.drew w' → StM w' B S) := fun w' ho => (show StM wb.drew.drew B S from HSB.out).only ho HBR.out
  have KZ : Hid (∀ w', Only (· = R) wb.drew.drew w' → wb.heap.size ≤ w'.heap.size) := fun w' ho => ho.size
  have KROW : Hid (∀ w', Only (· = R) wb.drew.drew w' → ∀ ob, (w'.alloc ob).ownsRow b0 58 3 (.slice s.no x.needs.length s.nc) x.needs.length (nvRow x.needs)) := fun w' ho ob => own_sameK (KJ.out _ ho).needs (fun k hk => by have := (KJ.out _ ho).needs.lt k hk; rw [((Below.refl w'.heap.size w').alloc (Nat.le_refl _) ob).block k (by omega)])
  have KY : Hid (∀ w', Only (· = R) wb.drew.drew w' → ∀ w3 ob, (w'.alloc ob).grownBy w3 (jNeeds x s).ownBlock → w3.cell? ⟨J, 18, none⟩ = some (.slice s.no x.needs.length s.nc) ∧ w3.frozen? ⟨J, 18, none⟩ = false ∧ J < w3.heap.size) := fun w' ho w3 ob hg => by
    have hA : Only (fun k => (jNeeds x s).ownBlock = some k) w' w3 := (Only.alloc _ w' _).trans (Only.grown hg) (fun i _ hi => hi)
    have hn : ¬ (jNeeds x s).ownBlock = some J := fun e => by have := ((KJ.out _ ho).needs.lt J e).1; omega
    have hJw := block_lt (KJ.out _ ho).blk
    have hbJ := (hA.block J hJw hn).trans (KJ.out _ ho).blk
    exact ⟨by rw [cell_of hbJ]; rfl, frozen_of hbJ, block_lt hbJ⟩
  go_enter Tryz.func138, Tryz.ntmps138
  go_wp2_with fail
  rw [← hwb]
  clear hwb
  go_wp2_with fail
  refine HT.out.mono ?_
  rintro e w1 ⟨rfl, rfl⟩
  go_wp2_with fail
  go_region_law (go_simp; go_wp2_with (go_at_call 100; refine HRM2.out.mono ?_; intro e w2 hz; rcases hz with ⟨f, hq, rfl, ho⟩ | ⟨hq1, rfl, rfl⟩; (exact ⟨rfl, PT.bad (f := f) (by unfold moreP; rw [hq]) (HOB.out.trans (((Only.refl _ _).drew.trans ho (fun _ _ h => h)).mono (T := TJ R B J b0) (fun _ _ e => .inl e)) (fun _ _ h => h))⟩); have HQ1 := hide hq1; clear hq1))
  all_goals
    go_wp2_with fail
    go_region_law
      (first
        | (refine step_append_lies _ (by rfl) _ _ _ (by rfl) b0 58 i0 _ 3 32 Tryz.underlying54 hi0 hz0 hz1 hz2 rfl (by omega) (.slice s.no x.needs.length s.nc) x.needs.length (nvRow x.needs) (by rfl) (HROW.out _)
                ⟨w2.heap.size, 0, none⟩ 1 1 (nvC3 (p.1, (0, p.2 + 1))) (by rfl) (by rfl) (World.news_of_block (cs := (nvC3 (p.1, (0, p.2 + 1))).toArray) (t := 58) (fr := (0, 0)) (heap_alloc_new w2 _)) (nvC3_one (p.1, (0, p.2 + 1)))
                (by omega) (by unfold maxLen; omega) (by omega) (by simp; omega) (w2.heap.size + 1) (by simp) ?_; intro gg cap w3 hown3 hgrow hat hlt3; have hy3 := HY.out w3 _ hgrow; obtain ⟨y1, y2, y3⟩ := hy3)
        | (go_simp; go_wp2_with (go_at_call 167; refine HS2.out.mono ?_; intro e w2 hz; rcases hz with ⟨f, hq, rfl, ho⟩ | ⟨p, r', hq2, rfl, hr2, ho2⟩; (exact ⟨rfl, PT.bad (f := f) (by unfold moreP; rw [HQ1.out, hq]) (HOB.out.trans (((Only.refl _ _).drew.drew.trans ho (fun _ _ h => h)).mono (T := TJ R B J b0) (fun _ _ e => .inl e)) (fun _ _ h => h))⟩); have HQ2 := hide hq2; clear hq2; have HR2 := hide hr2; have HO2 := hide ho2; have hs2 := ho2.size; obtain ⟨k0, k1⟩ := KP.out _ ho2; have HJ2 := hide (KJ.out _ ho2); have hs22 := KZ.out _ ho2; have HROW := hide (KROW.out _ ho2); have hle2 := (KJ.out _ ho2).le; have hJ2 : J < w2.heap.size := (by omega); have hJ2n : ¬ J = w2.heap.size := (by omega); have HY := hide (KY.out _ ho2); clear hr2 ho2)))
    all_goals
      have HAD := hide (HJ2.out.addNeed (p.1, (0, p.2 + 1)) _ hown3 hgrow hat hlt3)
      have hA : Only (fun k => b0 ≤ k) w2 w3 := (Only.alloc _ w2 _).trans ((Only.grown hgrow).mono (fun i _ hi => (HJ2.out.needs.lt i hi).1)) (fun i _ hi => hi)
      have hB : Only (TJ R B J b0) w2 (w3.setCell ⟨J, 18, none⟩ (.slice (some ⟨gg, 0, none⟩) (x.needs.length + 1) cap)) := (hA.mono (fun _ _ e => .inr (.inr (.inr e)))).trans (Only.set w3 J 18 _) (fun _ _ e => .inr (.inr (.inl e)))
      have HB := hide hB
      have HR3 : Hid (Rdr (w3.setCell ⟨J, 18, none⟩ (.slice (some ⟨gg, 0, none⟩) (x.needs.length + 1) cap)) R E 0 B N r') := hide (HR2.out.only (((hA.mono (T := fun k => b0 ≤ k ∨ k = J) (fun _ _ e => .inl e)).trans (Only.set w3 J 18 _) (fun _ _ e => .inr e)).toBelow (by omega) (fun i e => by rcases e with e | e <;> omega)))
      have HS3 : Hid (StM (w3.setCell ⟨J, 18, none⟩ (.slice (some ⟨gg, 0, none⟩) (x.needs.length + 1) cap)) B S) := hide ((KS.out _ HO2.out).only ((hA.mono (T := fun k => b0 ≤ k ∨ k = J) (fun _ _ e => .inl e)).trans (Only.set w3 J 18 _) (fun _ _ e => .inr e)) (fun e => by rcases e with e | e <;> omega))
      have HO3 := hide ((HOB.out.trans (((Only.refl _ _).drew.drew.trans HO2.out (fun _ _ h => h)).mono (T := TJ R B J b0) (fun _ _ e => .inl e)) (fun _ _ h => h)).trans HB.out (fun _ _ h => h))
      clear hown3 hgrow hat hA hB
      go_wp2
      go_end0
      exact PT.good (by unfold moreP; rw [HQ1.out, HQ2.out]) ⟨_, HAD.out⟩ HS3.out HR3.out HO3.out
end Go.Proofs.YtkpgfhapffijkaaGreatDoor

/- Package jdl: a part of a job: out. Written by gen_out.py. -/
namespace Go.Proofs.YtkpgfhapffijkaaGreatDoor
open Go.ChangeShapes Go.WideShapes Go.ChangeAt Go.RowKit Go.DsMem Go.DsLx Go.DsJd Go.DsMk
set_option linter.unusedVariables false
theorem ocRow_app (l m : List Oc) : ocRow (l ++ m) = ocRow l ++ ocRow m := by simp [ocRow]
theorem ocRow_len (l : List Oc) : (ocRow l).length = l.length * 3 := by
  induction l with
  | nil => rfl
  | cons a r ih => simp [ocRow, ocC] at ih ⊢; omega
theorem ocRow_one (l : List Oc) : ∀ u ∈ ocRow l, u.oneCell' = true := by
  intro u hu
  simp only [ocRow, List.mem_flatMap] at hu
  obtain ⟨p, _, hu⟩ := hu
  exact ocC_one p u hu
theorem JbAt.addOuts {b0 J : Nat} {w2 w3 : World} {x : Jb} {s : JSl} (h : JbAt b0 w2 J x s) (l : List Oc) {g cap : Nat}
    (hown : w3.ownsRow b0 88 3 (.slice (some ⟨g, 0, none⟩) (x.outs.length + l.length) cap) (x.outs.length + l.length) (ocRow x.outs ++ ocRow l))
    (hgr : w2.grownBy w3 (jOuts x s).ownBlock) (hat : (jOuts x s).ownBlock = some g ∨ g = w2.heap.size) (hlt3 : g < w3.heap.size) :
    JbAt b0 (w3.setCell ⟨J, 17, none⟩ (.slice (some ⟨g, 0, none⟩) (x.outs.length + l.length) cap)) J { x with outs := x.outs ++ l } { s with oo := some ⟨g, 0, none⟩, oc := cap } := by
  have hl := h.lt
  have hle := h.le
  have hA : Only (fun k => (jOuts x s).ownBlock = some k) w2 w3 := Only.grown hgr
  have hrow := h.outs.lt
  have hrow2 := h.needs.lt
  have hB : Only (fun k => (jOuts x s).ownBlock = some k ∨ k = J) w2 (w3.setCell ⟨J, 17, none⟩ (.slice (some ⟨g, 0, none⟩) (x.outs.length + l.length) cap)) := (hA.mono (fun _ _ e => .inl e)).trans (Only.set w3 J 17 _) (fun _ _ e => .inr e)
  have hgJ : g ≠ J := by
    rcases hat with c | c
    · have := (hrow _ c).1; omega
    · omega
  have hb3 : w3.heap[J]? = some (.cells (jC x s) 56 (0, 0)) := by
    rw [hA.block J (by omega) (fun e => by have := (hrow _ e).1; omega)]; exact h.blk
  have hl1 : (x.outs ++ l).length = x.outs.length + l.length := by simp
  have e1 : jNeeds { x with outs := x.outs ++ l } { s with oo := some ⟨g, 0, none⟩, oc := cap } = jNeeds x s := rfl
  have e2 : jOuts { x with outs := x.outs ++ l } { s with oo := some ⟨g, 0, none⟩, oc := cap } = .slice (some ⟨g, 0, none⟩) (x.outs.length + l.length) cap := by unfold jOuts; simp only; rw [hl1]
  have hne : ∀ b, b < w2.heap.size → (jOuts x s).ownBlock ≠ some b → b ≠ g := fun b hb hn e => by
    rcases hat with c | c
    · exact hn (by rw [e]; exact c)
    · omega
  have h1 : ∀ b, JR b0 w2 x s b → JR b0 (w3.setCell ⟨J, 17, none⟩ (.slice (some ⟨g, 0, none⟩) (x.outs.length + l.length) cap)) { x with outs := x.outs ++ l } { s with oo := some ⟨g, 0, none⟩, oc := cap } b := fun b hb => by
    refine ⟨hb.1, Nat.lt_of_lt_of_le hb.2.1 hB.size, ?_, ?_⟩
    · rw [e2]
      intro e
      exact hne b hb.2.1 hb.2.2.1 (Option.some.inj e).symm
    · rw [e1]; exact hb.2.2.2
  have h2 : ∀ ad u, JR b0 w2 x s ad.block → w2.cell? ad = some u → (w3.setCell ⟨J, 17, none⟩ (.slice (some ⟨g, 0, none⟩) (x.outs.length + l.length) cap)).cell? ad = some u := fun ad u hb hc => hB.cell hc (fun e => by
    rcases e with e | e
    · exact hb.2.2.1 e
    · have := hb.1; omega)
  refine ⟨?_, hl, Nat.le_trans hle hB.size, h.days.mono h1 h2, h.work.mono h1 h2, h.inn.mono h1 h2, ?_, ?_, ?_⟩
  · rw [hset_same hb3]
    unfold jC
    simp only [hl1]
    kernel_rfl
  · rw [e2]
    simp only
    rw [hl1, ocRow_app]
    exact own_sameK hown (fun k hk => by
      have : g = k := Option.some.inj hk
      subst this
      exact (Only.set w3 J 17 _).block g hlt3 hgJ)
  · rw [e1]
    exact own_sameK h.needs (fun k hk => hB.block k (hrow2 k hk).2 (fun e => by
      rcases e with e | e
      · exact h.apart k e hk
      · have := (hrow2 k hk).1; omega))
  · rw [e1, e2]
    intro k hk e
    have : g = k := Option.some.inj hk
    subst this
    exact hne g (hrow2 g e).2 (fun c => h.apart g c e) rfl
theorem listP_pos {α : Type} (E : Int) (sep : ByteArray) (part : List Tk → Except Fl (α × List Tk)) (n : Nat) (ws : List Tk) (l : List α) (r : List Tk) (h : listP E sep part n ws = .ok (l, r)) : 0 < l.length := by
  cases n with
  | zero => simp [listP] at h
  | succ n =>
    unfold listP at h
    split at h
    · cases h
    · split at h
      · split at h
        · cases h
        · cases h; simp
      · cases h; simp
theorem thenP_ok {α : Type} {E : Int} {x : ByteArray} {p : Except Fl (α × List Tk)} {a : α} {r : List Tk} (h : thenP E x p = .ok (a, r)) : ∃ r', p = .ok (a, r') := by
  unfold thenP at h
  split at h
  · cases h
  · split at h
    · cases h
    · cases h; exact ⟨_, rfl⟩
/-- what out reads -/
def outPP (S : List (Int × ByteArray)) (x : Jb) (q : Except Fl (List Oc × List Tk)) : Except Fl ((Jb × List (Int × ByteArray)) × List Tk) :=
  match q with | .error f => .error f | .ok (l, r) => .ok (({ x with outs := x.outs ++ l }, S), r)
set_option maxHeartbeats 8000000 in
set_option maxRecDepth 20000 in
theorem part_out {w : World} {R J b0 : Nat} {E : Int} {B N : Nat} {t : Tk} {r : List Tk} (h : Rdr w R E 0 B N (t :: r)) (hc : t.text = wOut) {x : Jb} {s : JSl} (hj : JbAt b0 w J x s) (hNJ : N ≤ J) (hBJ : B < J) (k : Int) (S : List (Int × ByteArray)) (hs : StM w B S) (hn8 : x.outs.length ≤ 8) :
    Calls Tryz.prog 138 #[.pointer (some ⟨R, 0, none⟩), .pointer (some ⟨J, 0, none⟩), .int .i64 k] w (PT R E B N J b0 (outPP S x (thenP E ⟨#[59]⟩ (outsP E (8 - x.outs.length) r))) w) := by
  obtain ⟨hN1, hN2⟩ := h.n
  have hlt := hj.lt
  have hle := hj.le
  have hmf : ∀ (fn : Fn) (first cap : Array Value) (w : World), (Instr.makeFunc fn first cap).run Tryz.prog w = .ok (.func fn first cap) w := fun _ _ _ _ => rfl
  obtain ⟨i0, hi0, hz0, hz1, hz2⟩ := info_parts infoOc
  have HBR : Hid (¬ B = R) := hide (fun e => by obtain ⟨es, clock, hm⟩ := hs.map; obtain ⟨uo, uc, o, h1, _⟩ := h; rw [e, h1] at hm; cases hm)
  have hsub : IntKind.i64.wrap ((8 : Int) - (x.outs.length : Int)) = ((8 - x.outs.length : Nat) : Int) := by rw [IntKind.wrap_i64]; omega
  obtain ⟨wb, hwb⟩ : ∃ wb, wb = w.alloc (.cells #[.pointer (some ⟨R, 0, none⟩)] 84) := ⟨_, rfl⟩
  have hOb : Only (fun _ => False) w wb := by rw [hwb]; exact Only.alloc _ _ _
  have bx : wb.cell? ⟨w.heap.size, 0, none⟩ = some (.pointer (some ⟨R, 0, none⟩)) := by rw [hwb, World.cell?_alloc_mark]; rfl
  have hsb : wb.heap.size = w.heap.size + 1 := by rw [hwb]; simp
  have hrb : Rdr wb R E 0 B N (t :: r) := by rw [hwb]; exact h.below (below_new4 _)
  have hjb := hj.moved hOb (fun b e => e.elim)
  have hsb2 : StM wb B S := by rw [hwb]; exact hs.below ((Below.refl _ _).alloc (Nat.le_refl _) _)
  have HT := hide (text_any hrb)
  simp only [textF] at HT
  rw [hc] at HT
  unfold wOut at HT
  have j17b : wb.cell? ⟨J, 17, none⟩ = some (.slice s.oo x.outs.length s.oc) := (hjb.cell 17).trans rfl
  obtain ⟨M, hM⟩ : ∃ M, M = 8 - x.outs.length := ⟨_, rfl⟩
  rw [← hM] at hsub ⊢
  have hM8 : x.outs.length + M ≤ 8 := by omega
  obtain ⟨wl, hwl⟩ : ∃ wl, wl = wb.alloc (.cells #[.int .i64 (M : Int)] 3) := ⟨_, rfl⟩
  have hOl : Only (fun _ => False) wb wl := by rw [hwl]; exact Only.alloc _ _ _
  have lx : wl.cell? ⟨wb.heap.size, 0, none⟩ = some (.int .i64 (M : Int)) := by rw [hwl, World.cell?_alloc_mark]; rfl
  have lx2 : wl.cell? ⟨w.heap.size + 1, 0, none⟩ = some (.int .i64 (M : Int)) := by rw [← hsb]; exact lx
  have lb : wl.cell? ⟨w.heap.size, 0, none⟩ = some (.pointer (some ⟨R, 0, none⟩)) := hOl.cell bx (fun e => e)
  have hsl : wl.heap.size = w.heap.size + 2 := by rw [hwl]; simp [hsb]
  have hrl : Rdr wl R E 0 B N (t :: r) := by rw [hwl]; exact hrb.below (below_new4 _)
  have hjl := hjb.moved hOl (fun b e => e.elim)
  have hsl2 : StM wl B S := by rw [hwl]; exact hsb2.below ((Below.refl _ _).alloc (Nat.le_refl _) _)
  have j17 : wl.cell? ⟨J, 17, none⟩ = some (.slice s.oo x.outs.length s.oc) := (hjl.cell 17).trans rfl
  have HS : Hid (Calls Tryz.prog 163 #[.pointer (some ⟨R, 0, none⟩), .func (.func 164) #[] #[.pointer (some ⟨w.heap.size, 0, none⟩), .pointer (some ⟨w.heap.size + 1, 0, none⟩)]] wl.drew (PE R E 0 B N (thenP E ⟨#[59]⟩ (outsP E M r)) VLO wl.drew)) :=
    hide (saidO hrl.drew 164 #[] #[.pointer (some ⟨w.heap.size, 0, none⟩), .pointer (some ⟨w.heap.size + 1, 0, none⟩)] (outsP E M) cf_part1 (fun w1 h1 ho1 => by
      have := part1_any h1 M (by omega) w.heap.size (w.heap.size + 1) (ho1.cell (w := wl.drew) lb (fun e => by change w.heap.size = _ at e; omega)) (ho1.cell (w := wl.drew) lx2 (fun e => by change w.heap.size + 1 = _ at e; omega))
      simpa using this))
  have HJL := hide hjl
  have HSL := hide hsl2
  have HOL := hide ((hOb.trans hOl (fun _ _ e => e)).mono (T := TJ R B J b0) (fun _ _ e => e.elim))
  have hJb : J < wb.heap.size := by omega
  have hJl : J < wl.heap.size := by omega
  clear h hj hs hc hrb hjb hsb2 hOb hOl hrl hjl hsl2 lx hM
  have HPOS : Hid (∀ l r', thenP E ⟨#[59]⟩ (outsP E M r) = .ok (l, r') → 0 < l.length ∧ l.length ≤ M) := hide (fun l r' h => by
    obtain ⟨r2, h2⟩ := thenP_ok h
    exact ⟨listP_pos _ _ _ _ _ _ _ h2, listP_len _ _ _ _ _ _ _ h2⟩)
  generalize thenP E ⟨#[59]⟩ (outsP E M r) = q at *
  have HS2 : Hid (Calls Tryz.prog 163 #[.pointer (some ⟨R, 0, none⟩), .func (.func 164) #[] #[.pointer (some ⟨w.heap.size, 0, none⟩), .pointer (some ⟨w.heap.size + 1, 0, none⟩)]] wl.drew fun e w' => ((∃ f, q = .error f ∧ e = .panicked [{ v := flV f, recovered := false }] ∧ Only (· = R) wl.drew w') ∨ (∃ (l : List Oc) (r' : List Tk) (gl cl : Nat), q = .ok (l, r') ∧ (0 < l.length ∧ l.length ≤ M) ∧ e = .returned (.slice (some ⟨gl, 0, none⟩) l.length cl) ∧ (∀ j u, (ocRow l)[j]? = some u → w'.cell? ((⟨gl, 0, none⟩ : Addr).add j) = some u) ∧ Rdr w' R E 0 B N r' ∧ Only (· = R) wl.drew w'))) := by
    refine hide (HS.out.mono ?_)
    intro e w' hz
    cases q with
    | error f => exact .inl ⟨f, rfl, hz.1, hz.2⟩
    | ok pr =>
      obtain ⟨l, r'⟩ := pr
      obtain ⟨v, rfl, ⟨uo, uc, rfl, hown⟩, hr, ho⟩ := hz
      have hp := HPOS.out l r' rfl
      rcases hown.2 with ⟨_, h0⟩ | ⟨g, cap, cur, e, _⟩
      · have := hp.1; simp only at h0; omega
      · simp only [Value.slice.injEq] at e
        obtain ⟨rfl, -, rfl⟩ := e
        exact .inr ⟨l, r', g, _, rfl, hp, rfl, hown.cells (g := g) rfl, hr, ho⟩
  clear HS
  have KP : Hid (∀ w', Only (· = R) wl.drew w' → w'.cell? ⟨w.heap.size, 0, none⟩ = some (.pointer (some ⟨R, 0, none⟩)) ∧ w'.cell? ⟨J, 17, none⟩ = some (.slice s.oo x.outs.length s.oc)) := fun w' ho =>
    ⟨ho.cell (w := wl.drew) lb (fun e => by change w.heap.size = _ at e; omega), ho.cell (w := wl.drew) j17 (fun e => by change J = _ at e; omega)⟩
  have KJ : Hid (∀ w', Only (· = R) wl.drew w' → JbAt b0 w' J x s) := fun w' ho => HJL.out.drew.moved ho (fun b e => ⟨by omega, by omega⟩)
  have KS : Hid (∀ w', Only (· = R) wl.drew w' → StM w' B S) := fun w' ho => (show StM wl.drew B S from HSL.out).only ho HBR.out
  have KY : Hid (∀ w', Only (· = R) wl.drew w' → ∀ w3, w'.grownBy w3 (jOuts x s).ownBlock → w3.cell? ⟨J, 17, none⟩ = some (.slice s.oo x.outs.length s.oc) ∧ w3.frozen? ⟨J, 17, none⟩ = false ∧ J < w3.heap.size) := fun w' ho w3 hg => by
    have hA : Only (fun k => (jOuts x s).ownBlock = some k) w' w3 := Only.grown hg
    have hn : ¬ (jOuts x s).ownBlock = some J := fun e => by have := ((KJ.out _ ho).outs.lt J e).1; omega
    have hJw := block_lt (KJ.out _ ho).blk
    have hbJ := (hA.block J hJw hn).trans (KJ.out _ ho).blk
    exact ⟨by rw [cell_of hbJ]; rfl, frozen_of hbJ, block_lt hbJ⟩
  go_enter Tryz.func138, Tryz.ntmps138
  go_wp2_with fail
  rw [← hwb]
  clear hwb
  go_wp2_with fail
  refine HT.out.mono ?_
  rintro e w1 ⟨rfl, rfl⟩
  go_wp2_with fail
  try rw [hsub]
  rw [← hwl]
  clear hwl
  go_region_law
    (first
      | (refine step_append_lies _ (by rfl) _ _ _ (by rfl) b0 88 i0 _ 3 32 Tryz.underlying53 hi0 hz0 hz1 hz2 rfl (by omega) (.slice s.oo x.outs.length s.oc) x.outs.length (ocRow x.outs) (by rfl) (by exact HJ2.out.outs)
              ⟨gl, 0, none⟩ l.length cl (ocRow l) (by rfl) (ocRow_len l) HC2.out (ocRow_one l)
              hpos.1 (by unfold maxLen; omega) (by omega) hle2 w2.heap.size rfl ?_; intro gg cap w3 hown3 hgrow hat hlt3; have hy3 := HY.out w3 hgrow; obtain ⟨y1, y2, y3⟩ := hy3)
      | (go_simp; go_wp2_with (go_at_call 163; refine HS2.out.mono ?_; intro e w2 hz; rcases hz with ⟨f, hq, rfl, ho⟩ | ⟨l, r', gl, cl, hq2, hpos, rfl, hc2, hr2, ho2⟩; (exact ⟨rfl, PT.bad (f := f) (by unfold outPP; rw [hq]) (HOL.out.trans (((Only.refl _ _).drew.trans ho (fun _ _ h => h)).mono (T := TJ R B J b0) (fun _ _ e => .inl e)) (fun _ _ h => h))⟩); have HQ2 := hide hq2; clear hq2; have HC2 := hide hc2; have HR2 := hide hr2; have HO2 := hide ho2; have hs2 := ho2.size; obtain ⟨k0, k1⟩ := KP.out _ ho2; have HJ2 := hide (KJ.out _ ho2); have hle2 := (KJ.out _ ho2).le; have hJ2 : J < w2.heap.size := (by omega); have hJ2n : ¬ J = w2.heap.size := (by omega); have HY := hide (KY.out _ ho2); clear hr2 ho2 hc2)))
  all_goals
    have HAD := hide (HJ2.out.addOuts l hown3 hgrow hat hlt3)
    have hA : Only (fun k => b0 ≤ k) w2 w3 := (Only.grown hgrow).mono (fun i _ hi => (HJ2.out.outs.lt i hi).1)
    have hB : Only (TJ R B J b0) w2 (w3.setCell ⟨J, 17, none⟩ (.slice (some ⟨gg, 0, none⟩) (x.outs.length + l.length) cap)) := (hA.mono (fun _ _ e => .inr (.inr (.inr e)))).trans (Only.set w3 J 17 _) (fun _ _ e => .inr (.inr (.inl e)))
    have HB := hide hB
    have HR3 : Hid (Rdr (w3.setCell ⟨J, 17, none⟩ (.slice (some ⟨gg, 0, none⟩) (x.outs.length + l.length) cap)) R E 0 B N r') := hide (HR2.out.only (((hA.mono (T := fun k => b0 ≤ k ∨ k = J) (fun _ _ e => .inl e)).trans (Only.set w3 J 17 _) (fun _ _ e => .inr e)).toBelow (by omega) (fun i e => by rcases e with e | e <;> omega)))
    have HS3 : Hid (StM (w3.setCell ⟨J, 17, none⟩ (.slice (some ⟨gg, 0, none⟩) (x.outs.length + l.length) cap)) B S) := hide ((KS.out _ HO2.out).only ((hA.mono (T := fun k => b0 ≤ k ∨ k = J) (fun _ _ e => .inl e)).trans (Only.set w3 J 17 _) (fun _ _ e => .inr e)) (fun e => by rcases e with e | e <;> omega))
    have HO3 := hide ((HOL.out.trans (((Only.refl _ _).drew.trans HO2.out (fun _ _ h => h)).mono (T := TJ R B J b0) (fun _ _ e => .inl e)) (fun _ _ h => h)).trans HB.out (fun _ _ h => h))
    clear hown3 hgrow hat hA hB
    go_wp2
    go_end0
    exact PT.good (by unfold outPP; rw [HQ2.out]) ⟨_, HAD.out⟩ HS3.out HR3.out HO3.out
end Go.Proofs.YtkpgfhapffijkaaGreatDoor

/- Package jdl: a part of a job, whole. -/
namespace Go.Proofs.YtkpgfhapffijkaaGreatDoor
open Go.ChangeShapes Go.WideShapes Go.ChangeAt Go.RowKit Go.DsMem Go.DsLx Go.DsJd Go.DsMk
set_option linter.unusedVariables false
theorem twoP_suf {α β : Type} {p1 : List Tk → Except Fl (α × List Tk)} {p2 : List Tk → Except Fl (β × List Tk)} (h1 : ∀ ws a r, p1 ws = .ok (a, r) → r <:+ ws) (h2 : ∀ ws a r, p2 ws = .ok (a, r) → r <:+ ws) {ws : List Tk} {a : α × β} {r : List Tk} (h : twoP p1 p2 ws = .ok (a, r)) : r <:+ ws := by
  unfold twoP at h
  cases e1 : p1 ws with
  | error f => rw [e1] at h; cases h
  | ok q =>
    obtain ⟨b, r1⟩ := q
    rw [e1] at h
    simp only at h
    cases e2 : p2 r1 with
    | error f => rw [e2] at h; cases h
    | ok q2 =>
      obtain ⟨c, r2⟩ := q2
      rw [e2] at h
      cases h
      exact (h2 _ _ _ e2).trans (h1 _ _ _ e1)
theorem daysW_suf {E : Int} {ws : List Tk} {a : Nd} {r : List Tk} (h : daysP E (oneP E 16) ws = .ok (a, r)) : r <:+ ws := by
  unfold daysP at h
  exact manyP_suf (fun ws a r h => manyP_suf (oneP_suf 16) ws a r h) ws a r h
theorem condW_suf {E : Int} {ws : List Tk} {a : Ex} {r : List Tk} (h : condP E (eachP E 16) ws = .ok (a, r)) : r <:+ ws := by
  unfold condP at h
  exact manyE_suf (fun ws a r h => manyE_suf (eachP_suf 16) ws a r h) ws a r h
theorem updP_suf {α : Type} {f : α → Jb} {q : Except Fl (α × List Tk)} {x : Jb} {r ws : List Tk} (hq : ∀ a r, q = .ok (a, r) → r <:+ ws) (h : updP f q = .ok (x, r)) : r <:+ ws ∧ ∃ a, x = f a := by
  unfold updP at h
  cases q with
  | error f => cases h
  | ok p =>
    obtain ⟨a, r'⟩ := p
    cases h
    exact ⟨hq a _ rfl, a, rfl⟩
theorem singleP_suf {E : Int} {x x' : Jb} {ws r : List Tk} (h : singleP E x ws = .ok (x', r)) : r <:+ ws.tail ∧ ws ≠ [] ∧ x'.outs = x.outs ∧ x'.needs = x.needs := by
  have hn : ws ≠ [] := by
    rintro rfl
    unfold singleP at h
    rw [if_neg (by decide), if_neg (by decide), if_neg (by decide), if_neg (by decide), if_neg (by decide), if_neg (by decide), if_neg (by decide), if_neg (by decide), if_neg (by decide)] at h
    cases h
  have hnum : ∀ a r, thenP E ⟨#[59]⟩ (numP E ws.tail) = .ok (a, r) → r <:+ ws.tail := fun a r h => thenP_suf (fun a r h => numP_suf h) h
  refine ⟨?_, hn, ?_⟩ <;> (
    unfold singleP at h
    split at h
    · obtain ⟨h1, a, rfl⟩ := updP_suf (fun a r h => thenP_suf (fun a r h => daysW_suf h) h) h
      first | exact h1 | exact ⟨rfl, rfl⟩
    split at h
    · obtain ⟨h1, a, rfl⟩ := updP_suf (fun a r h => thenP_suf (fun a r h => twoP_suf (fun ws a r h => (choiceP_suf h).1) (fun ws a r h => daysW_suf h) h) h) h
      first | exact h1 | exact ⟨rfl, rfl⟩
    split at h
    · obtain ⟨h1, a, rfl⟩ := updP_suf (fun a r h => thenP_suf (fun a r h => twoP_suf (fun ws a r h => timeP_suf h) (fun ws a r h => timeP_suf h) h) h) h
      first | exact h1 | exact ⟨rfl, rfl⟩
    split at h
    · obtain ⟨h1, a, rfl⟩ := updP_suf (fun a r h => thenP_suf (fun a r h => condW_suf h) h) h
      first | exact h1 | exact ⟨rfl, rfl⟩
    split at h
    · obtain ⟨h1, a, rfl⟩ := updP_suf hnum h
      first | exact h1 | exact ⟨rfl, rfl⟩
    split at h
    · obtain ⟨h1, a, rfl⟩ := updP_suf hnum h
      first | exact h1 | exact ⟨rfl, rfl⟩
    split at h
    · obtain ⟨h1, a, rfl⟩ := updP_suf hnum h
      first | exact h1 | exact ⟨rfl, rfl⟩
    split at h
    · obtain ⟨h1, a, rfl⟩ := updP_suf hnum h
      first | exact h1 | exact ⟨rfl, rfl⟩
    split at h
    · obtain ⟨h1, a, rfl⟩ := updP_suf hnum h
      first | exact h1 | exact ⟨rfl, rfl⟩
    cases h)
/-- what part reads -/
noncomputable def partP (E : Int) (k : Int) (S : List (Int × ByteArray)) (x : Jb) (ws : List Tk) : Except Fl ((Jb × List (Int × ByteArray)) × List Tk) :=
  if textF ws = wOut then outPP S x (thenP E ⟨#[59]⟩ (outsP E (8 - x.outs.length) ws.tail))
  else if textF ws = wNeed then moreP E S x (fun p => (p.1, (p.2, 0))) ws (thenP E ⟨#[59]⟩ (twoP (nameP E) (numP E) ws.tail))
  else if textF ws = wUse then moreP E S x (fun p => (p.1, (0, p.2 + 1))) ws (thenP E ⟨#[59]⟩ (twoP (nameP E) (choiceP E modeL) ws.tail))
  else restP E k S x ws
/-- (*jdl.reader).part -/
theorem part_any {w : World} {R J b0 : Nat} {E : Int} {B N : Nat} {ws : List Tk} (h : Rdr w R E 0 B N ws) (hG : Few9 ws) {x : Jb} {s : JSl} (hj : JbAt b0 w J x s) (hNJ : N ≤ J) (hBJ : B < J) (k : Int) (S : List (Int × ByteArray)) (hs : StM w B S) (hf : fitS (k, textF ws)) (hS : S.length ≤ 100000)
    (hn8 : x.outs.length ≤ 8) (hn6 : x.needs.length ≤ 6) :
    Calls Tryz.prog 138 #[.pointer (some ⟨R, 0, none⟩), .pointer (some ⟨J, 0, none⟩), .int .i64 k] w (PT R E B N J b0 (partP E k S x ws) w) := by
  unfold partP
  by_cases c1 : textF ws = wOut
  · rw [if_pos c1]
    cases ws with
    | nil => exact absurd c1 (by decide)
    | cons t r => exact part_out h c1 hj hNJ hBJ k S hs hn8
  rw [if_neg c1]
  by_cases c2 : textF ws = wNeed
  · rw [if_pos c2]
    cases ws with
    | nil => exact absurd c2 (by decide)
    | cons t r => exact part_need h c2 hj hNJ hBJ k S hs hn6
  rw [if_neg c2]
  by_cases c3 : textF ws = wUse
  · rw [if_pos c3]
    cases ws with
    | nil => exact absurd c3 (by decide)
    | cons t r => exact part_use h c3 hj hNJ hBJ k S hs hn6
  rw [if_neg c3]
  exact part_rest h hG hj hNJ hBJ k S hs hf hS c1 c2 c3
theorem moreP_suf {α : Type} {E : Int} {S S' : List (Int × ByteArray)} {x x' : Jb} {f : α → Nv} {ws r ws' : List Tk} {q : Except Fl (α × List Tk)} (hq : ∀ a r, q = .ok (a, r) → r <:+ ws') (h : moreP E S x f ws q = .ok ((x', S'), r)) (hn : x.needs.length ≤ 6) : r <:+ ws' ∧ x'.outs = x.outs ∧ x'.needs.length ≤ 6 ∧ S' = S := by
  unfold moreP at h
  by_cases hr : (6 : Int) ≤ x.needs.length
  · have e : roomP E ws x.needs.length 6 = .error (atF E ws, 4) := by unfold roomP; rw [if_pos hr]
    rw [e] at h; cases h
  · have e : roomP E ws x.needs.length 6 = .ok () := by unfold roomP; rw [if_neg hr]
    rw [e] at h
    cases q with
    | error f => cases h
    | ok p =>
      obtain ⟨a, r'⟩ := p
      cases h
      exact ⟨hq a _ rfl, rfl, by simp; omega, rfl⟩
/-- what a part leaves behind -/
theorem partP_suf {E k : Int} {S S' : List (Int × ByteArray)} {x x' : Jb} {ws r : List Tk} (h : partP E k S x ws = .ok ((x', S'), r)) (hn8 : x.outs.length ≤ 8) (hn6 : x.needs.length ≤ 6) :
    r <:+ ws.tail ∧ ws ≠ [] ∧ x'.outs.length ≤ 8 ∧ x'.needs.length ≤ 6 ∧ S'.length ≤ S.length + 1 := by
  unfold partP at h
  split at h
  · next c =>
    have hn : ws ≠ [] := by rintro rfl; exact absurd c (by decide)
    unfold outPP at h
    cases hq : thenP E ⟨#[59]⟩ (outsP E (8 - x.outs.length) ws.tail) with
    | error f => rw [hq] at h; cases h
    | ok p =>
      obtain ⟨l, r'⟩ := p
      rw [hq] at h
      cases h
      obtain ⟨r2, h2⟩ := thenP_ok hq
      have hl := listP_len _ _ _ _ _ _ _ h2
      have hsf : r <:+ ws.tail := thenP_suf (fun a r h => listP_suf (fun ws a r h => twoP_suf (fun ws a r h => (choiceP_suf h).1) (fun ws a r h => refWP_suf h) h) _ _ _ _ h) hq
      exact ⟨hsf, hn, by simp; omega, hn6, by simp⟩
  split at h
  · next c =>
    have hn : ws ≠ [] := by rintro rfl; exact absurd c (by decide)
    obtain ⟨a, b, c, d⟩ := moreP_suf (fun a r h => thenP_suf (fun a r h => twoP_suf (fun ws a r h => nameP_suf h) (fun ws a r h => numP_suf h) h) h) h hn6
    exact ⟨a, hn, by rw [b]; exact hn8, c, by rw [d]; simp⟩
  split at h
  · next c =>
    have hn : ws ≠ [] := by rintro rfl; exact absurd c (by decide)
    obtain ⟨a, b, c, d⟩ := moreP_suf (fun a r h => thenP_suf (fun a r h => twoP_suf (fun ws a r h => nameP_suf h) (fun ws a r h => (choiceP_suf h).1) h) h) h hn6
    exact ⟨a, hn, by rw [b]; exact hn8, c, by rw [d]; simp⟩
  unfold restP at h
  split at h
  · cases h
  · cases hq : singleP E x ws with
    | error f => rw [hq] at h; cases h
    | ok p =>
      obtain ⟨x2, r2⟩ := p
      rw [hq] at h
      cases h
      obtain ⟨a, b, c, d⟩ := singleP_suf hq
      exact ⟨a, b, by rw [c]; exact hn8, by rw [d]; exact hn6, by simp⟩
end Go.Proofs.YtkpgfhapffijkaaGreatDoor
