/- Some parts of the proof, one behind the other. -/
import Derived.Test.YtkpgfhapffijkaaDoorJ8
/- Package jdl: brackets and nots around nodes. -/
namespace Go.Proofs.YtkpgfhapffijkaaDoor
open Go.ChangeShapes Go.WideShapes Go.ChangeAt Go.RowKit Go.DsMem Go.DsLx Go.DsJd Go.DsMk
set_option linter.unusedVariables false
/-- a node's cell, still empty -/
def ResN (w : World) (p : Nat) : Prop := w.heap[p]? = some (.cells #[.int .i64 0, .slice none 0 0, .slice none 0 0, .string ⟨#[]⟩] 41 (0, 0))
theorem ResN.all {w : World} {p : Nat} (h : ResN w p) : (w.cell? ⟨p, 0, none⟩ = some (.int .i64 0) ∧ w.cell? ⟨p, 1, none⟩ = some (.slice none 0 0) ∧ w.cell? ⟨p, 2, none⟩ = some (.slice none 0 0) ∧ w.cell? ⟨p, 3, none⟩ = some (.string ⟨#[]⟩)) ∧ w.frozen? ⟨p, 0, none⟩ = false ∧ w.frozen? ⟨p, 1, none⟩ = false ∧ w.frozen? ⟨p, 2, none⟩ = false ∧ w.frozen? ⟨p, 3, none⟩ = false :=
  ⟨⟨by rw [cell_of h]; rfl, by rw [cell_of h]; rfl, by rw [cell_of h]; rfl, by rw [cell_of h]; rfl⟩, frozen_of h, frozen_of h, frozen_of h, frozen_of h⟩
theorem ResN.only {w w' : World} {p R : Nat} (h : ResN w p) (ho : Only (· = R) w w') (hp : p ≠ R) : ResN w' p := by
  unfold ResN
  rw [ho.block p (block_lt h) hp]; exact h
theorem only_set4 {w w' : World} {R p : Nat} (h : Only (· = R) w w') (hp : w.heap.size ≤ p) (a b c d : Value) : Only (· = R) w ((((w'.setCell ⟨p, 0, none⟩ a).setCell ⟨p, 1, none⟩ b).setCell ⟨p, 2, none⟩ c).setCell ⟨p, 3, none⟩ d) := by
  refine h.trans (T := (· = p)) ?_ (fun i hi e => absurd e (by omega))
  exact (((Only.set w' p 0 _).trans (Only.set _ p 1 _) (fun _ _ h => h)).trans (Only.set _ p 2 _) (fun _ _ h => h)).trans (Only.set _ p 3 _) (fun _ _ h => h)
theorem past {W : World} {p : Nat} {cur : Array Value} {T : TypeId} (h : W.heap[p]? = some (.cells cur T (0, 0))) (ob : Obj) (k : Nat) : (W.alloc ob).cell? ⟨p, k, none⟩ = cur[k]? ∧ (W.alloc ob).frozen? ⟨p, k, none⟩ = false :=
  ⟨cell_of (heap_keep' h), frozen_of (heap_keep' h)⟩
theorem ResN.set {W : World} {p R : Nat} (h : ResN W p) (hne : p ≠ R) (k : Nat) (x : Value) : ResN (W.setCell ⟨R, k, none⟩ x) p := by
  unfold ResN
  rw [(Only.set W R k x).block p (block_lt h) hne]; exact h
theorem res1 {W : World} {p : Nat} (h : ResN W p) (a : Value) : (W.setCell ⟨p, 0, none⟩ a).heap[p]? = some (.cells #[a, .slice none 0 0, .slice none 0 0, .string ⟨#[]⟩] 41 (0, 0)) := by rw [hset_same h]; rfl
theorem res2 {W : World} {p : Nat} (h : ResN W p) (a b : Value) : ((W.setCell ⟨p, 0, none⟩ a).setCell ⟨p, 1, none⟩ b).heap[p]? = some (.cells #[a, b, .slice none 0 0, .string ⟨#[]⟩] 41 (0, 0)) := by rw [hset_same (res1 h a)]; rfl
theorem res3 {W : World} {p : Nat} (h : ResN W p) (a b c : Value) : (((W.setCell ⟨p, 0, none⟩ a).setCell ⟨p, 1, none⟩ b).setCell ⟨p, 2, none⟩ c).heap[p]? = some (.cells #[a, b, c, .string ⟨#[]⟩] 41 (0, 0)) := by rw [hset_same (res2 h a b)]; rfl
theorem res4 {W : World} {p : Nat} (h : ResN W p) (a b c d : Value) : ((((W.setCell ⟨p, 0, none⟩ a).setCell ⟨p, 1, none⟩ b).setCell ⟨p, 2, none⟩ c).setCell ⟨p, 3, none⟩ d).heap[p]? = some (.cells #[a, b, c, d] 41 (0, 0)) := by rw [hset_same (res3 h a b c)]; rfl
set_option maxHeartbeats 4000000 in
set_option maxRecDepth 20000 in
/-- jdl.deeper[cal.Node] -/
theorem deeperN {w : World} {R : Nat} {E d : Int} {B N : Nat} {t : Tk} {r : List Tk} (h : Rdr w R E d B N (t :: r)) (hd0 : 0 ≤ d) (hd1 : d ≤ 16) (K : Nat) (first cap : Array Value) (part : List Tk → Except Fl (Nd × List Tk))
    (hcf : CF K) (hp : d < 16 → ∀ w, Rdr w R E (d + 1) B N r → Calls Tryd.prog K (first ++ cap) w (PE R E (d + 1) B N (part r) VN w)) :
    Calls Tryd.prog 71 #[.pointer (some ⟨R, 0, none⟩), .func (.func K) first cap] w (PE R E d B N (deepP E d part (t :: r)) VN w) := by
  obtain ⟨hN1, hN2⟩ := h.n
  obtain ⟨wA, hwA⟩ : ∃ wA, wA = w.alloc (.cells #[.int .i64 0, .slice none 0 0, .slice none 0 0, .string ⟨#[]⟩] 41) := ⟨_, rfl⟩
  have HRA : Hid (Rdr wA R E d B N (t :: r)) := by rw [hwA]; exact hide (h.below (below_new4 _))
  have HRES : Hid (ResN wA w.heap.size) := by rw [hwA]; exact hide (heap_alloc_new w _)
  have HOA : Hid (Only (· = R) w wA) := by rw [hwA]; exact hide (Only.alloc _ _ _)
  have hzA : wA.heap.size = w.heap.size + 1 := by rw [hwA]; simp
  obtain ⟨x2, f2⟩ := rdr_cell2 HRA.out
  have hcf' := hcf (first ++ cap)
  have HP := hide hp
  by_cases hd : 16 ≤ d
  · have e : deepP E d part (t :: r) = .error (atF E (t :: r), 23) := by unfold deepP; rw [if_pos hd]
    rw [e]
    have HF := hide (fault_any HRA.out 23)
    clear h hp hcf e HP
    obtain rfl : d = 16 := by omega
    subst hwA
    go_enter Tryd.func71, Tryd.ntmps71
    go_wp2_with fail
    refine HF.out.mono ?_
    rintro e w2 ⟨rfl, hb⟩
    have HO := hide (HOA.out.trans (Only.below hb) (fun _ _ h => h))
    clear hb
    go_wp2
    exact ⟨rfl, rfl, HO.out⟩
  · have e : deepP E d part (t :: r) = part r := by unfold deepP; rw [if_neg hd]; rfl
    rw [e]
    have HS := hide (skip_any HRA.out)
    have HPP := hide (HP.out (by omega))
    clear h hp hcf e HP
    have hd' : d < 16 := by omega
    generalize part r = q at *
    subst hwA
    go_enter Tryd.func71, Tryd.ntmps71
    go_wp2_with fail
    refine HS.out.mono ?_
    rintro e w1 ⟨rfl, hr1, ho1⟩
    obtain ⟨y2, g2⟩ := rdr_cell2 hr1
    have HR1 := hide (rdr_deep hr1 (d + 1))
    have HO1 := hide ((HOA.out.trans ho1 (fun _ _ h => h)).trans (Only.set w1 R 2 (.int .i64 (d + 1))) (fun _ _ h => h))
    have HRES1 := hide ((HRES.out.only ho1 (by omega)).only (Only.set w1 R 2 (.int .i64 (d + 1))) (by omega))
    have hs1 := ho1.size
    have hzB : (w1.setCell ⟨R, 2, none⟩ (.int .i64 (d + 1))).heap.size = w1.heap.size := by simp [World.setCell]
    clear hr1 ho1
    go_wp2_with fail
    refine (HPP.out _ HR1.out).mono ?_
    intro e w2 hz
    cases q with
    | error f =>
      obtain ⟨rfl, ho2⟩ := hz
      have HO2 := hide (HO1.out.trans ho2 (fun _ _ h => h))
      clear ho2
      go_wp2
      exact ⟨rfl, rfl, HO2.out⟩
    | ok p =>
      obtain ⟨a, r2⟩ := p
      obtain ⟨v, rfl, ⟨nv, rfl, hon⟩, hr2, ho2⟩ := hz
      simp only at hon hr2
      have HON := hide hon
      have hsz2 := ho2.size
      rw [hzB] at hsz2
      obtain ⟨z2, k2⟩ := rdr_cell2 hr2
      have HO2 := hide (HO1.out.trans ho2 (fun _ _ h => h))
      have HR2 := hide hr2
      have HRN : Hid (ResN w2 w.heap.size) := HRES1.out.only ho2 (by omega)
      have z2' := fun ob : Obj => Below.keeps (below_new4 ob) (Nat.le_refl _) z2
      have k2' : ∀ ob, (w2.alloc ob).frozen? ⟨R, 2, none⟩ = false := fun ob => by
        obtain ⟨uo, uc, o, hh, _⟩ := hr2
        exact (past hh ob 2).2
      have q0 : ∀ ob, (w2.alloc ob).cell? ⟨w.heap.size, 0, none⟩ = some (.int .i64 0) := fun ob => (past HRN.out ob 0).1
      have f0 : ∀ ob, (w2.alloc ob).frozen? ⟨w.heap.size, 0, none⟩ = false := fun ob => (past HRN.out ob 0).2
      have q1 : ∀ ob, (w2.alloc ob).cell? ⟨w.heap.size, 1, none⟩ = some (.slice none 0 0) := fun ob => (past HRN.out ob 1).1
      have f1 : ∀ ob, (w2.alloc ob).frozen? ⟨w.heap.size, 1, none⟩ = false := fun ob => (past HRN.out ob 1).2
      have q2 : ∀ ob, (w2.alloc ob).cell? ⟨w.heap.size, 2, none⟩ = some (.slice none 0 0) := fun ob => (past HRN.out ob 2).1
      have f2 : ∀ ob, (w2.alloc ob).frozen? ⟨w.heap.size, 2, none⟩ = false := fun ob => (past HRN.out ob 2).2
      have q3 : ∀ ob, (w2.alloc ob).cell? ⟨w.heap.size, 3, none⟩ = some (.string ⟨#[]⟩) := fun ob => (past HRN.out ob 3).1
      have f3 : ∀ ob, (w2.alloc ob).frozen? ⟨w.heap.size, 3, none⟩ = false := fun ob => (past HRN.out ob 3).2
      have hne : ¬ w.heap.size = R := by omega
      have hne' : ¬ R = w.heap.size := by omega
      clear hr2 ho2 hon z2 k2 x2
      unfold NVal.val ndV
      go_wp2
      refine bodyPost_ret (v := nv.val) (by simp [results, Tryd.results71, go_sem, q0, q1, q2, q3, NVal.val, ndV]) rfl ?_
      have hW : Only (fun k => k = R ∨ k = w.heap.size) w2 _ := ((((((Only.alloc _ w2 (.cells #[.int .i64 nv.op, .slice nv.no nv.nl nv.nc, .slice nv.ko nv.kl nv.kc, .string nv.nm] 41)).trans (Only.set _ R 2 (.int .i64 d)) (fun _ _ e => .inl e)).trans (Only.set _ w.heap.size 0 (.int .i64 nv.op)) (fun _ _ e => .inr e)).trans (Only.set _ w.heap.size 1 (.slice nv.no nv.nl nv.nc)) (fun _ _ e => .inr e)).trans (Only.set _ w.heap.size 2 (.slice nv.ko nv.kl nv.kc)) (fun _ _ e => .inr e)).trans (Only.set _ w.heap.size 3 (.string nv.nm)) (fun _ _ e => .inr e))
      refine ⟨_, rfl, ⟨nv, rfl, HON.out.mono (fun b hb => ⟨by omega, Nat.lt_of_lt_of_le hb.2 hW.size⟩) (fun ad u hB hc => hW.cell hc (by omega))⟩, ?_, ?_⟩
      · exact (rdr_deep (HR2.out.below (below_new4 _)) d).only (((((Below.refl N _).setCell hN1 _).setCell hN1 _).setCell hN1 _).setCell hN1 _)
      · exact only_set4 ((HO2.out.trans (Only.alloc _ _ _) (fun _ _ h => h)).trans (Only.set _ R 2 _) (fun _ _ h => h)) (Nat.le_refl _) _ _ _ _
end Go.Proofs.YtkpgfhapffijkaaDoor

/- Package jdl: nodes in brackets. -/
namespace Go.Proofs.YtkpgfhapffijkaaDoor
open Go.ChangeShapes Go.WideShapes Go.ChangeAt Go.RowKit Go.DsMem Go.DsLx Go.DsJd Go.DsMk
set_option linter.unusedVariables false
set_option maxHeartbeats 4000000 in
set_option maxRecDepth 20000 in
/-- jdl.bracketed[cal.Node] -/
theorem bracketedN {w : World} {R : Nat} {E d : Int} {B N : Nat} {t : Tk} {r : List Tk} (h : Rdr w R E d B N (t :: r)) (hd0 : 0 ≤ d) (hd1 : d ≤ 16) (K : Nat) (first cap : Array Value) (part : List Tk → Except Fl (Nd × List Tk))
    (hcf : CF K) (hp : d < 16 → ∀ w, Rdr w R E (d + 1) B N r → Calls Tryd.prog K (first ++ cap) w (PE R E (d + 1) B N (part r) VN w)) :
    Calls Tryd.prog 72 #[.pointer (some ⟨R, 0, none⟩), .func (.func K) first cap] w (PE R E d B N (thenP E ⟨#[41]⟩ (deepP E d part (t :: r))) VN w) := by
  obtain ⟨hN1, hN2⟩ := h.n
  have HD : Hid (∀ o, Calls Tryd.prog 71 #[.pointer (some ⟨R, 0, none⟩), .func (.func K) first cap] (w.alloc o) (PE R E d B N (deepP E d part (t :: r)) VN (w.alloc o))) := fun o => deeperN (h.below (below_new4 o)) hd0 hd1 K first cap part hcf hp
  have HM := hide (fun (w : World) (r : List Tk) (h : Rdr w R E d B N r) => must_any ⟨#[41]⟩ h (by decide))
  have HRES : Hid (ResN (w.alloc (.cells #[.int .i64 0, .slice none 0 0, .slice none 0 0, .string ⟨#[]⟩] 41)) w.heap.size) := heap_alloc_new w _
  have HOA : Hid (Only (· = R) w (w.alloc (.cells #[.int .i64 0, .slice none 0 0, .slice none 0 0, .string ⟨#[]⟩] 41))) := Only.alloc _ _ _
  have hzA : (w.alloc (.cells #[.int .i64 0, .slice none 0 0, .slice none 0 0, .string ⟨#[]⟩] 41)).heap.size = w.heap.size + 1 := by simp
  clear h hp hcf
  generalize deepP E d part (t :: r) = q at *
  cases q with
  | error f =>
    unfold PE Ends at HD
    unfold PE Ends thenP
    simp only at HD ⊢
    go_enter Tryd.func72, Tryd.ntmps72
    go_wp2_with fail
    refine (HD.out _).mono ?_
    rintro e w2 ⟨rfl, ho2⟩
    have HO2 := hide (HOA.out.trans ho2 (fun _ _ h => h))
    clear ho2
    go_wp2
    exact ⟨rfl, rfl, HO2.out⟩
  | ok p =>
    obtain ⟨a, r'⟩ := p
    have HM2 := hide (fun (w : World) h => HM.out w r' h)
    have e : thenP E ⟨#[41]⟩ (.ok (a, r')) = (match mustP E ⟨#[41]⟩ r' with | .error f => .error f | .ok r2 => .ok (a, r2)) := rfl
    rw [e]
    clear HM e
    generalize mustP E ⟨#[41]⟩ r' = q2 at *
    unfold PE Ends at HD
    simp only at HD
    go_enter Tryd.func72, Tryd.ntmps72
    go_wp2_with fail
    refine (HD.out _).mono ?_
    rintro e w2 ⟨v, rfl, ⟨nv, rfl, hon⟩, hr2, ho2⟩
    have HON := hide hon
    have hsz2 := ho2.size
    have HR2 := hide hr2
    have HO2 := hide (HOA.out.trans ho2 (fun _ _ h => h))
    have HRN : Hid (ResN w2 w.heap.size) := HRES.out.only ho2 (by omega)
    clear hr2 ho2 hon
    unfold NVal.val ndV
    go_wp2_with fail
    refine (HM2.out _ (HR2.out.below (below_new4 _))).mono ?_
    intro e w3 hz
    cases q2 with
    | error f =>
      obtain ⟨rfl, ho3⟩ := hz
      have HO3 := hide ((HO2.out.trans (Only.alloc _ _ _) (fun _ _ h => h)).trans ho3 (fun _ _ h => h))
      clear ho3
      go_wp2
      exact ⟨rfl, rfl, HO3.out⟩
    | ok r2 =>
      obtain ⟨rfl, hr3, ho3⟩ := hz
      have hsz3 := ho3.size
      have hzB : (w2.alloc (.cells #[.int .i64 nv.op, .slice nv.no nv.nl nv.nc, .slice nv.ko nv.kl nv.kc, .string nv.nm] 41)).heap.size = w2.heap.size + 1 := by simp
      rw [hzB] at hsz3
      have hbox : w3.heap[w2.heap.size]? = some (.cells #[.int .i64 nv.op, .slice nv.no nv.nl nv.nc, .slice nv.ko nv.kl nv.kc, .string nv.nm] 41 (0, 0)) := by
        rw [ho3.block w2.heap.size (by omega) (by omega)]; exact heap_alloc_new w2 _
      have z0 : w3.cell? ⟨w2.heap.size, 0, none⟩ = some (.int .i64 nv.op) := by rw [cell_of hbox]; rfl
      have z1 : w3.cell? ⟨w2.heap.size, 1, none⟩ = some (.slice nv.no nv.nl nv.nc) := by rw [cell_of hbox]; rfl
      have z2 : w3.cell? ⟨w2.heap.size, 2, none⟩ = some (.slice nv.ko nv.kl nv.kc) := by rw [cell_of hbox]; rfl
      have z3 : w3.cell? ⟨w2.heap.size, 3, none⟩ = some (.string nv.nm) := by rw [cell_of hbox]; rfl
      have HRN3 : Hid (ResN w3 w.heap.size) := by
        refine hide (ResN.only (w := w2.alloc (.cells #[.int .i64 nv.op, .slice nv.no nv.nl nv.nc, .slice nv.ko nv.kl nv.kc, .string nv.nm] 41)) ?_ ho3 (by omega))
        exact heap_keep' HRN.out
      obtain ⟨⟨q0, q1, q2, q3⟩, f0, f1, f2, f3⟩ := HRN3.out.all
      have HR3 := hide hr3
      have hW1 : Only (· = R) w2 w3 := (Only.alloc _ _ _).trans ho3 (fun _ _ h => h)
      have HW1 := hide hW1
      have HO3 := hide (HO2.out.trans hW1 (fun _ _ h => h))
      clear hr3 ho3 hbox hW1
      go_wp2
      refine bodyPost_ret (v := nv.val) (by simp [results, Tryd.results72, go_sem, q0, q1, q2, q3, NVal.val, ndV]) rfl ?_
      have hW : Only (fun k => k = R ∨ k = w.heap.size) w2 _ := ((((HW1.out.mono (fun _ _ e => .inl e)).trans (Only.set w3 w.heap.size 0 (.int .i64 nv.op)) (fun _ _ e => .inr e)).trans (Only.set _ w.heap.size 1 (.slice nv.no nv.nl nv.nc)) (fun _ _ e => .inr e)).trans (Only.set _ w.heap.size 2 (.slice nv.ko nv.kl nv.kc)) (fun _ _ e => .inr e)).trans (Only.set _ w.heap.size 3 (.string nv.nm)) (fun _ _ e => .inr e)
      refine ⟨_, rfl, ⟨nv, rfl, HON.out.mono (fun b hb => ⟨by omega, Nat.lt_of_lt_of_le hb.2 hW.size⟩) (fun ad u hB hc => hW.cell hc (by omega))⟩, ?_, ?_⟩
      · exact HR3.out.only (((((Below.refl N _).setCell hN1 _).setCell hN1 _).setCell hN1 _).setCell hN1 _)
      · exact only_set4 HO3.out (Nat.le_refl _) _ _ _ _
end Go.Proofs.YtkpgfhapffijkaaDoor

/- Package jdl: days of all kinds. Written by genk.py. -/
namespace Go.DsJd
open Go.DsLx Go.DsMk
theorem listP_len {α : Type} (E : Int) (sep : ByteArray) (part : List Tk → Except Fl (α × List Tk)) : ∀ (n : Nat) (ws : List Tk) (l : List α) (r : List Tk), listP E sep part n ws = .ok (l, r) → l.length ≤ n
  | 0, ws, l, r, h => by simp [listP] at h
  | n + 1, ws, l, r, h => by
    unfold listP at h
    split at h
    · cases h
    · split at h
      · split at h
        · cases h
        · rename_i l2 r2 h2
          cases h
          have := listP_len E sep part n _ _ _ h2
          simp only [List.length_cons]; omega
      · cases h; simp
theorem listP_suf {α : Type} {E : Int} {sep : ByteArray} {part : List Tk → Except Fl (α × List Tk)} (hp : ∀ ws a r, part ws = .ok (a, r) → r <:+ ws) : ∀ (n : Nat) (ws : List Tk) (l : List α) (r : List Tk), listP E sep part n ws = .ok (l, r) → r <:+ ws
  | 0, ws, l, r, h => by simp [listP] at h
  | n + 1, ws, l, r, h => by
    unfold listP at h
    split at h
    · cases h
    · rename_i a r1 h1
      have s1 := hp _ _ _ h1
      split at h
      · split at h
        · cases h
        · rename_i l2 r2 h2
          cases h
          exact (listP_suf hp n _ _ _ h2).trans ((List.tail_suffix _).trans s1)
      · cases h; exact s1
/-- several parts, one alone stays as it is -/
def manyP (E : Int) (sep : ByteArray) (op : Int) (one : List Tk → Except Fl (Nd × List Tk)) (ws : List Tk) : Except Fl (Nd × List Tk) := match listP E sep one 8 ws with | .error f => .error f | .ok (l, r) => .ok (joinP op l, r)
theorem manyP_suf {E : Int} {sep : ByteArray} {op : Int} {one : List Tk → Except Fl (Nd × List Tk)} (hp : ∀ ws a r, one ws = .ok (a, r) → r <:+ ws) (ws : List Tk) (a : Nd) (r : List Tk) (h : manyP E sep op one ws = .ok (a, r)) : r <:+ ws := by
  unfold manyP at h
  split at h
  · cases h
  · rename_i l r2 h2
    cases h
    exact listP_suf hp _ _ _ _ h2
end Go.DsJd
namespace Go.Proofs.YtkpgfhapffijkaaDoor
open Go.ChangeShapes Go.WideShapes Go.ChangeAt Go.RowKit Go.DsMem Go.DsLx Go.DsJd Go.DsMk
set_option linter.unusedVariables false
set_option maxHeartbeats 4000000 in
set_option maxRecDepth 20000 in
/-- (*jdl.reader).bothDays -/
theorem bothDays_any {w : World} {R : Nat} {E d : Int} {B N : Nat} {ws : List Tk} (h : Rdr w R E d B N ws) (one : List Tk → Except Fl (Nd × List Tk)) (P : List Tk → Prop) (hP0 : P ws) (hPn : ∀ ws a r, P ws → one ws = .ok (a, r) → P r ∧ P r.tail)
    (hp : ∀ w ws, P ws → Rdr w R E d B N ws → Calls Tryd.prog 60 #[.pointer (some ⟨R, 0, none⟩)] w (PE R E d B N (one ws) VN w)) :
    Calls Tryd.prog 51 #[.pointer (some ⟨R, 0, none⟩)] w (PE R E d B N (manyP E ⟨#[97, 110, 100]⟩ 7 one ws) VN w) := by
  obtain ⟨hN1, hN2⟩ := h.n
  have hmf : ∀ (fn : Fn) (first cap : Array Value) (w : World), (Instr.makeFunc fn first cap).run Tryd.prog w = .ok (.func fn first cap) w := fun _ _ _ _ => rfl
  have HL : Hid (∀ o, Calls Tryd.prog 50 #[.pointer (some ⟨R, 0, none⟩), .string ⟨#[97, 110, 100]⟩, .int .i64 8, .func (.func 60) #[.pointer (some ⟨R, 0, none⟩)] #[]] (w.alloc o) (PE R E d B N (listP E ⟨#[97, 110, 100]⟩ one 8 ws) VLN (w.alloc o))) := fun o =>
    listN (h.below (below_new4 o)) 60 #[.pointer (some ⟨R, 0, none⟩)] #[] one ⟨#[97, 110, 100]⟩ (by decide) 8 (by decide) P hP0 hPn (cf_of Tryd.func60 (by decide +kernel) (by kernel_rfl)) hp
  have HRES : Hid (ResN (w.alloc (.cells #[.int .i64 0, .slice none 0 0, .slice none 0 0, .string ⟨#[]⟩] 41)) w.heap.size) := heap_alloc_new w _
  have HOA : Hid (Only (· = R) w (w.alloc (.cells #[.int .i64 0, .slice none 0 0, .slice none 0 0, .string ⟨#[]⟩] 41))) := Only.alloc _ _ _
  have hzA : (w.alloc (.cells #[.int .i64 0, .slice none 0 0, .slice none 0 0, .string ⟨#[]⟩] 41)).heap.size = w.heap.size + 1 := by simp
  have HLN := hide (listP_len E ⟨#[97, 110, 100]⟩ one 8 ws)
  unfold manyP
  clear h hp hPn hP0
  generalize listP E ⟨#[97, 110, 100]⟩ one 8 ws = q at *
  cases q with
  | error f =>
    unfold PE Ends at HL
    unfold PE Ends
    simp only at HL ⊢
    go_enter Tryd.func51, Tryd.ntmps51
    go_wp2_with fail
    refine (HL.out _).mono ?_
    rintro e w2 ⟨rfl, ho2⟩
    have HO2 := hide (HOA.out.trans ho2 (fun _ _ h => h))
    clear ho2
    go_wp2
    exact ⟨rfl, rfl, HO2.out⟩
  | ok p =>
    obtain ⟨l, r⟩ := p
    have hll := HLN.out l r rfl
    unfold PE Ends at HL
    unfold PE Ends
    simp only at HL ⊢
    go_enter Tryd.func51, Tryd.ntmps51
    go_wp2_with fail
    refine (HL.out _).mono ?_
    rintro e w2 ⟨v, rfl, hv, hr2, ho2⟩
    have hsz2 := ho2.size
    have HJ := hide (joinedDays_any (w0 := w.alloc (.cells #[.int .i64 0, .slice none 0 0, .slice none 0 0, .string ⟨#[]⟩] 41)) 7 hv (by omega) (by omega))
    have HR2 := hide hr2
    have HO2 := hide (HOA.out.trans ho2 (fun _ _ h => h))
    have HRN : Hid (ResN w2 w.heap.size) := HRES.out.only ho2 (by omega)
    clear hr2 ho2 hv
    go_wp2_with fail
    refine HJ.out.mono ?_
    rintro e w3 ⟨v', rfl, ⟨nv, rfl, hon⟩, hb3⟩
    have hsz3 := hb3.size
    have HON := hide hon
    have HRN3 : Hid (ResN w3 w.heap.size) := by unfold ResN; rw [hb3.block _ (by omega)]; exact hide HRN.out
    have HR3 := hide (HR2.out.below hb3)
    have HO3 := hide (HO2.out.trans (Only.below hb3) (fun _ _ h => h))
    obtain ⟨⟨q0, q1, q2, q3⟩, f0, f1, f2, f3⟩ := HRN3.out.all
    clear hon hb3
    unfold NVal.val ndV
    go_wp2
    refine bodyPost_ret (v := nv.val) (by simp [results, Tryd.results51, go_sem, q0, q1, q2, q3, NVal.val, ndV]) rfl ?_
    have hW : Only (fun k => k = w.heap.size) w3 _ := (((Only.set w3 w.heap.size 0 (.int .i64 nv.op)).trans (Only.set _ w.heap.size 1 (.slice nv.no nv.nl nv.nc)) (fun _ _ e => e)).trans (Only.set _ w.heap.size 2 (.slice nv.ko nv.kl nv.kc)) (fun _ _ e => e)).trans (Only.set _ w.heap.size 3 (.string nv.nm)) (fun _ _ e => e)
    refine ⟨_, rfl, ⟨nv, rfl, HON.out.mono (fun b hb => ⟨by omega, Nat.lt_of_lt_of_le hb.2 hW.size⟩) (fun ad u hB hc => hW.cell hc (by omega))⟩, ?_, ?_⟩
    · exact HR3.out.only (((((Below.refl N _).setCell hN1 _).setCell hN1 _).setCell hN1 _).setCell hN1 _)
    · exact only_set4 HO3.out (Nat.le_refl _) _ _ _ _
set_option maxHeartbeats 4000000 in
set_option maxRecDepth 20000 in
/-- (*jdl.reader).days -/
theorem days_any {w : World} {R : Nat} {E d : Int} {B N : Nat} {ws : List Tk} (h : Rdr w R E d B N ws) (one : List Tk → Except Fl (Nd × List Tk)) (P : List Tk → Prop) (hP0 : P ws) (hPn : ∀ ws a r, P ws → one ws = .ok (a, r) → P r ∧ P r.tail)
    (hp : ∀ w ws, P ws → Rdr w R E d B N ws → Calls Tryd.prog 51 #[.pointer (some ⟨R, 0, none⟩)] w (PE R E d B N (one ws) VN w)) :
    Calls Tryd.prog 46 #[.pointer (some ⟨R, 0, none⟩)] w (PE R E d B N (manyP E ⟨#[111, 114]⟩ 8 one ws) VN w) := by
  obtain ⟨hN1, hN2⟩ := h.n
  have hmf : ∀ (fn : Fn) (first cap : Array Value) (w : World), (Instr.makeFunc fn first cap).run Tryd.prog w = .ok (.func fn first cap) w := fun _ _ _ _ => rfl
  have HL : Hid (∀ o, Calls Tryd.prog 50 #[.pointer (some ⟨R, 0, none⟩), .string ⟨#[111, 114]⟩, .int .i64 8, .func (.func 51) #[.pointer (some ⟨R, 0, none⟩)] #[]] (w.alloc o) (PE R E d B N (listP E ⟨#[111, 114]⟩ one 8 ws) VLN (w.alloc o))) := fun o =>
    listN (h.below (below_new4 o)) 51 #[.pointer (some ⟨R, 0, none⟩)] #[] one ⟨#[111, 114]⟩ (by decide) 8 (by decide) P hP0 hPn (cf_of Tryd.func51 (by decide +kernel) (by kernel_rfl)) hp
  have HRES : Hid (ResN (w.alloc (.cells #[.int .i64 0, .slice none 0 0, .slice none 0 0, .string ⟨#[]⟩] 41)) w.heap.size) := heap_alloc_new w _
  have HOA : Hid (Only (· = R) w (w.alloc (.cells #[.int .i64 0, .slice none 0 0, .slice none 0 0, .string ⟨#[]⟩] 41))) := Only.alloc _ _ _
  have hzA : (w.alloc (.cells #[.int .i64 0, .slice none 0 0, .slice none 0 0, .string ⟨#[]⟩] 41)).heap.size = w.heap.size + 1 := by simp
  have HLN := hide (listP_len E ⟨#[111, 114]⟩ one 8 ws)
  unfold manyP
  clear h hp hPn hP0
  generalize listP E ⟨#[111, 114]⟩ one 8 ws = q at *
  cases q with
  | error f =>
    unfold PE Ends at HL
    unfold PE Ends
    simp only at HL ⊢
    go_enter Tryd.func46, Tryd.ntmps46
    go_wp2_with fail
    refine (HL.out _).mono ?_
    rintro e w2 ⟨rfl, ho2⟩
    have HO2 := hide (HOA.out.trans ho2 (fun _ _ h => h))
    clear ho2
    go_wp2
    exact ⟨rfl, rfl, HO2.out⟩
  | ok p =>
    obtain ⟨l, r⟩ := p
    have hll := HLN.out l r rfl
    unfold PE Ends at HL
    unfold PE Ends
    simp only at HL ⊢
    go_enter Tryd.func46, Tryd.ntmps46
    go_wp2_with fail
    refine (HL.out _).mono ?_
    rintro e w2 ⟨v, rfl, hv, hr2, ho2⟩
    have hsz2 := ho2.size
    have HJ := hide (joinedDays_any (w0 := w.alloc (.cells #[.int .i64 0, .slice none 0 0, .slice none 0 0, .string ⟨#[]⟩] 41)) 8 hv (by omega) (by omega))
    have HR2 := hide hr2
    have HO2 := hide (HOA.out.trans ho2 (fun _ _ h => h))
    have HRN : Hid (ResN w2 w.heap.size) := HRES.out.only ho2 (by omega)
    clear hr2 ho2 hv
    go_wp2_with fail
    refine HJ.out.mono ?_
    rintro e w3 ⟨v', rfl, ⟨nv, rfl, hon⟩, hb3⟩
    have hsz3 := hb3.size
    have HON := hide hon
    have HRN3 : Hid (ResN w3 w.heap.size) := by unfold ResN; rw [hb3.block _ (by omega)]; exact hide HRN.out
    have HR3 := hide (HR2.out.below hb3)
    have HO3 := hide (HO2.out.trans (Only.below hb3) (fun _ _ h => h))
    obtain ⟨⟨q0, q1, q2, q3⟩, f0, f1, f2, f3⟩ := HRN3.out.all
    clear hon hb3
    unfold NVal.val ndV
    go_wp2
    refine bodyPost_ret (v := nv.val) (by simp [results, Tryd.results46, go_sem, q0, q1, q2, q3, NVal.val, ndV]) rfl ?_
    have hW : Only (fun k => k = w.heap.size) w3 _ := (((Only.set w3 w.heap.size 0 (.int .i64 nv.op)).trans (Only.set _ w.heap.size 1 (.slice nv.no nv.nl nv.nc)) (fun _ _ e => e)).trans (Only.set _ w.heap.size 2 (.slice nv.ko nv.kl nv.kc)) (fun _ _ e => e)).trans (Only.set _ w.heap.size 3 (.string nv.nm)) (fun _ _ e => e)
    refine ⟨_, rfl, ⟨nv, rfl, HON.out.mono (fun b hb => ⟨by omega, Nat.lt_of_lt_of_le hb.2 hW.size⟩) (fun ad u hB hc => hW.cell hc (by omega))⟩, ?_, ?_⟩
    · exact HR3.out.only (((((Below.refl N _).setCell hN1 _).setCell hN1 _).setCell hN1 _).setCell hN1 _)
    · exact only_set4 HO3.out (Nat.le_refl _) _ _ _ _
end Go.Proofs.YtkpgfhapffijkaaDoor

