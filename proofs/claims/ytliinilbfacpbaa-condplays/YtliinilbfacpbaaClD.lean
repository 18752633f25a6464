/- Package cond: Add, Drop. -/
import Derived.Test.YtliinilbfacpbaaClC
namespace Go.Proofs.Ytliinilbfacpbaa
open Go.ChangeShapes Go.WideShapes Go.ChangeAt Go.RowKit Go.DsMem Go.DsCo
set_option linter.unusedVariables false

/-- a condition in a box -/
structure BoxC (w : World) (p : Nat) (c : Cn) : Prop where
  c0 : w.cell? ⟨p, 0, none⟩ = some (.string c.nm)
  c1 : w.cell? ⟨p, 1, none⟩ = some (.int .i64 c.day)
theorem BoxC.new (w : World) (c : Cn) (t : TypeId) : BoxC (w.alloc (.cells #[.string c.nm, .int .i64 c.day] t)) w.heap.size c :=
  ⟨by rw [World.cell?_alloc_mark]; rfl, by rw [World.cell?_alloc_mark]; rfl⟩
theorem BoxC.below {w w' : World} {p : Nat} {c : Cn} (h : BoxC w p c) (hb : Below w.heap.size w w') : BoxC w' p c := ⟨Below.keeps hb (Nat.le_refl _) h.c0, Below.keeps hb (Nat.le_refl _) h.c1⟩

/-- the world behind m[c] = {} -/
noncomputable def putW (B : Nat) (c : Cn) (w : World) : World :=
  match (Instr.mapUpdate 49 (.map (some B)) (cvl c) (.agg #[])).run Try.prog w with
  | .ok _ w' => w'
  | _ => w
theorem Sto.putw {w : World} {B : Nat} {L : List Cn} {c : Cn} (h : Sto w B L) (hc : fitC c) (hn : c ∉ L) (hl : L.length ≤ 1000) :
    (Instr.mapUpdate 49 (.map (some B)) (cvl c) (.agg #[])).run Try.prog w = .ok () (putW B c w) ∧ Sto (putW B c w) B (insL c L) ∧ Only (· = B) w (putW B c w) := by
  obtain ⟨w', h1, h2, h3⟩ := h.put hc hn hl
  have e : putW B c w = w' := by unfold putW; rw [h1]
  rw [e]
  exact ⟨h1, h2, h3⟩
/-- the world behind delete(m, c) -/
noncomputable def delW (B : Nat) (c : Cn) (ty : TypeId) (w : World) : World :=
  match (Builtin.delete_ #[49, 24] ty #[.map (some B), cvl c]).run Try.prog w with
  | .ok _ w' => w'
  | _ => w
theorem Sto.delw {w : World} {B : Nat} {L : List Cn} {c : Cn} (h : Sto w B L) (hf : Up L) (hc : fitC c) (ty : TypeId) :
    (Builtin.delete_ #[49, 24] ty #[.map (some B), cvl c]).run Try.prog w = .ok (.tuple #[]) (delW B c ty w) ∧ Sto (delW B c ty w) B (dropF L c) ∧ Only (· = B) w (delW B c ty w) := by
  obtain ⟨w', h1, h2, h3⟩ := h.del hf hc ty
  have e : delW B c ty w = w' := by unfold delW; rw [h1]
  rw [e]
  exact ⟨h1, h2, h3⟩

/-- delete(m, x), as one step of a region that draws -/
theorem step_delC {ops : Array Oper} {o : Oper} {a : Act} {w w' : World} {K : Act → World → Prop} {Q : Exit → Act → World → Prop} {E : Prop}
    (hg : o.guard = none) (m x : Operand) (t k : TypeId) (hop : o.op = Op.call { callee := Callee.builtin Builtin.delete, args := #[m, x], argTypes := #[t, k] })
    {vm vx : Value} (hm : a.eval m = vm) (hx : a.eval x = vx) (hrun : (Builtin.delete_ #[t, k] o.type #[vm, vx]).run Try.prog w = .ok (.tuple #[]) w')
    (hK : K (a.put o.dst (.tuple #[])) w') : if Region.wanted o (yielded ops a.tmps) = true then Oper.wp Try.prog o a w K Q else E := by
  have hw : Region.wanted o (yielded ops a.tmps) = true := by simp [Region.wanted, hg]
  rw [if_pos hw]
  unfold Oper.wp
  simp [execOp, hop, resolve, invoke, builtin, hm, hx, hrun, Result.andThen]
  exact hK
theorem map_nil (B : Nat) (w : World) : (binOp BinOp.eql 49 (.map (some B)) (.map none)).run Try.prog w = .ok (.bool false) w := by
  first
  | kernel_rfl
  | (simp [binOp, run_underlying Try.underlying49])
/-- what Add has done -/
def Added (w : World) (p B : Nat) (L : List Cn) (c : Cn) (e : Ending) (w' : World) : Prop :=
  e = .returned (.int .i64 (addF L c).2) ∧ StAt w' p B (addF L c).1 ∧ Only (· = B) w w'
set_option maxHeartbeats 8000000 in
set_option maxRecDepth 20000 in
/-- cond.Store.Add -/
theorem cadd_any (c : Cn) (p B : Nat) (L : List Cn) (w : World) (h : StAt w p B L) (hc : fitC c) : Calls Try.prog 11 #[ptr p, cvl c] w (Added w p B L c) := by
  have H := hide h
  have hFN := hide (h.fine)
  have HC := hide hc
  have HR := hide (fun w => cright_any c w hc.1)
  have HH := hide (fun w h => chas_any c p B L w h hc)
  have hp := h.ltp
  have hB := h.ltB
  have hpn : ¬ p = w.heap.size := by omega
  have hBn : ¬ w.heap.size = B := by omega
  have hnp : ¬ w.heap.size = p := by omega
  have BX := hide (BoxC.new w c 24)
  have HST := hide (h.below ((Below.refl _ _).alloc (Nat.le_refl _) (.cells #[.string c.nm, .int .i64 c.day] 24)))
  have HBL : Hid (Below w.heap.size w (w.alloc (.cells #[.string c.nm, .int .i64 c.day] 24))) := (Below.refl _ _).alloc (Nat.le_refl _) _
  clear h hc
  unfold ptr cvl at *
  obtain ⟨w1, hw1⟩ : ∃ w1, w1 = w.alloc (.cells #[.string c.nm, .int .i64 c.day] 24) := ⟨_, rfl⟩
  rw [← hw1] at BX HST HBL
  by_cases hok : okC c
  · have e0 := okB_true hok
    rw [e0] at HR
    clear e0
    by_cases hin : c ∈ L
    · have e1 := inB_true hin
      rw [e1] at HH
      have HF : Hid (addF L c = (L, 0)) := by show addF L c = _; unfold addF; rw [if_neg (by simpa using hok), if_pos hin]
      go_enter Try.func11, Try.ntmps11
      go_wp2_with fail
      rw [← hw1]
      obtain ⟨a0, a1⟩ := BX.out
      go_wp2_with fail
      refine (HR.out _).mono ?_
      rintro e w2 ⟨rfl, hb2⟩
      have HST2 := hide (HST.out.below hb2)
      obtain ⟨a0', a1'⟩ := BX.out.below hb2
      have HB2 := hide (HBL.out.trans (hb2.mono HBL.out.size))
      clear hb2 a0 a1
      go_wp2_with fail
      refine (HH.out w2 HST2.out).mono ?_
      rintro e w3 ⟨rfl, hb3⟩
      have HST3 := hide (HST2.out.below hb3)
      have HB3 := hide (HB2.out.trans (hb3.mono HB2.out.size))
      clear hb3 a0' a1'
      go_wp2
      go_ret
      unfold Added
      rw [HF.out]
      exact ⟨rfl, HST3.out, Only.below HB3.out⟩
    · have e1 := inB_false hin
      rw [e1] at HH
      have hlen := hFN.out.le
      by_cases hfull : 128 ≤ L.length
      · have HF : Hid (addF L c = (L, 4)) := by show addF L c = _; unfold addF; rw [if_neg (by simpa using hok), if_neg hin, if_pos hfull]
        go_enter Try.func11, Try.ntmps11
        go_wp2_with fail
        rw [← hw1]
        obtain ⟨a0, a1⟩ := BX.out
        go_wp2_with fail
        refine (HR.out _).mono ?_
        rintro e w2 ⟨rfl, hb2⟩
        have HST2 := hide (HST.out.below hb2)
        obtain ⟨a0', a1'⟩ := BX.out.below hb2
        have HB2 := hide (HBL.out.trans (hb2.mono HBL.out.size))
        clear hb2 a0 a1
        go_wp2_with fail
        refine (HH.out w2 HST2.out).mono ?_
        rintro e w3 ⟨rfl, hb3⟩
        have HST3 := hide (HST2.out.below hb3)
        have HB3 := hide (HB2.out.trans (hb3.mono HB2.out.size))
        clear hb3 a0' a1'
        have c0 := HST3.out.c0
        obtain ⟨D, hown, hsz, _⟩ := HST3.out.sto
        have HS := hide hsz
        have HO := hide hown
        clear hsz hown
        go_wp2_with (first
          | (at_len; refine wpList_len_own _ rfl _ _ rfl 24 53 Try.underlying49 _ B _ D rfl HO.out ?_; rw [HS.out])
          | go_in)
        go_ret
        unfold Added
        rw [HF.out]
        exact ⟨rfl, HST3.out, Only.below HB3.out⟩
      · have HF : Hid (addF L c = (insL c L, 0)) := by show addF L c = _; unfold addF; rw [if_neg (by simpa using hok), if_neg hin, if_neg hfull]
        have HFN2 := hide (hFN.out.add c)
        go_enter Try.func11, Try.ntmps11
        go_wp2_with fail
        rw [← hw1]
        obtain ⟨a0, a1⟩ := BX.out
        go_wp2_with fail
        refine (HR.out _).mono ?_
        rintro e w2 ⟨rfl, hb2⟩
        have HST2 := hide (HST.out.below hb2)
        obtain ⟨a0', a1'⟩ := BX.out.below hb2
        have HBX2 := hide (BX.out.below hb2)
        have HB2 := hide (HBL.out.trans (hb2.mono HBL.out.size))
        clear hb2 a0 a1
        go_wp2_with fail
        refine (HH.out w2 HST2.out).mono ?_
        rintro e w3 ⟨rfl, hb3⟩
        have HST3 := hide (HST2.out.below hb3)
        obtain ⟨a0, a1⟩ := HBX2.out.below hb3
        have HB3 := hide (HB2.out.trans (hb3.mono HB2.out.size))
        clear hb3 a0' a1'
        have c0 := HST3.out.c0
        have c0' : w3.drew.cell? ⟨p, 0, none⟩ = some (.map (some B)) := c0
        obtain ⟨D, hown, hsz, _⟩ := HST3.out.sto
        have HS := hide hsz
        have HO := hide hown
        clear hsz hown
        obtain ⟨hrun, hsto, honly⟩ := HST3.out.sto.drew.putw HC.out hin (by omega)
        unfold cvl at hrun
        have hmn := map_nil B
        have HSTO := hide hsto
        have HONL := hide honly
        clear hsto honly
        go_wp2_with (first
          | (at_len; refine wpList_len_own _ rfl _ _ rfl 24 53 Try.underlying49 _ B _ D rfl HO.out ?_; rw [HS.out])
          | go_in)
        go_wp2
        go_region
        go_wp2
        go_ret
        unfold Added
        rw [HF.out] at HFN2 ⊢
        refine ⟨rfl, ⟨HONL.out.cell (w := w3.drew) c0' HST3.out.ne, HSTO.out, HFN2.out⟩, ((Only.below HB3.out).drew).trans HONL.out (fun _ _ h => h)⟩
  · have e0 := okB_false hok
    rw [e0] at HR
    have HF : Hid (addF L c = (L, 1)) := by show addF L c = _; unfold addF; rw [if_pos hok]
    go_enter Try.func11, Try.ntmps11
    go_wp2_with fail
    rw [← hw1]
    obtain ⟨a0, a1⟩ := BX.out
    go_wp2_with fail
    refine (HR.out _).mono ?_
    rintro e w2 ⟨rfl, hb2⟩
    have HST2 := hide (HST.out.below hb2)
    have HB2 := hide (HBL.out.trans (hb2.mono HBL.out.size))
    clear hb2 a0 a1
    go_wp2
    go_ret
    unfold Added
    rw [HF.out]
    exact ⟨rfl, HST2.out, Only.below HB2.out⟩
theorem cadd_nil (c : Cn) (w : World) : Calls Try.prog 11 #[.pointer none, cvl c] w fun e w' => e = .returned (.int .i64 2) ∧ Below w.heap.size w w' := by
  unfold cvl
  go_enter Try.func11, Try.ntmps11
  go_wp2
  go_ret
  exact ⟨rfl, (Below.refl _ _).alloc (Nat.le_refl _) _⟩

/-- what Drop has done -/
def Dropped (w : World) (p B : Nat) (L : List Cn) (c : Cn) (e : Ending) (w' : World) : Prop :=
  e = .returned (.bool (inB c L)) ∧ StAt w' p B (dropF L c) ∧ Only (· = B) w w'
set_option maxHeartbeats 8000000 in
set_option maxRecDepth 20000 in
/-- cond.Store.Drop -/
theorem cdrop_any (c : Cn) (p B : Nat) (L : List Cn) (w : World) (h : StAt w p B L) (hc : fitC c) : Calls Try.prog 23 #[ptr p, cvl c] w (Dropped w p B L c) := by
  have hFN := hide (h.fine)
  have HC := hide hc
  have HH := hide (fun w h => chas_any c p B L w h hc)
  have hp := h.ltp
  have hB := h.ltB
  have hpn : ¬ p = w.heap.size := by omega
  have BX := hide (BoxC.new w c 24)
  have HST := hide (h.below ((Below.refl _ _).alloc (Nat.le_refl _) (.cells #[.string c.nm, .int .i64 c.day] 24)))
  have HBL : Hid (Below w.heap.size w (w.alloc (.cells #[.string c.nm, .int .i64 c.day] 24))) := (Below.refl _ _).alloc (Nat.le_refl _) _
  clear h hc
  unfold ptr cvl at *
  obtain ⟨w1, hw1⟩ : ∃ w1, w1 = w.alloc (.cells #[.string c.nm, .int .i64 c.day] 24) := ⟨_, rfl⟩
  rw [← hw1] at BX HST HBL
  by_cases hin : c ∈ L
  · have HI : Hid (inB c L = true) := inB_true hin
    rw [HI.out] at HH
    go_enter Try.func23, Try.ntmps23
    go_wp2_with fail
    rw [← hw1]
    obtain ⟨a0, a1⟩ := BX.out
    go_wp2_with fail
    refine (HH.out w1 HST.out).mono ?_
    rintro e w3 ⟨rfl, hb3⟩
    have HST3 := hide (HST.out.below hb3)
    obtain ⟨a0', a1'⟩ := BX.out.below hb3
    have HB3 := hide (HBL.out.trans (hb3.mono HBL.out.size))
    clear hb3 a0 a1
    have c0 := HST3.out.c0
    have c0' : w3.drew.cell? ⟨p, 0, none⟩ = some (.map (some B)) := c0
    have hdl := fun ty => HST3.out.sto.drew.delw hFN.out.up HC.out ty
    have hrun := fun ty => (hdl ty).1
    have HD := hide (fun ty => (hdl ty).2)
    unfold cvl at hrun
    clear hdl
    go_wp2
    go_region_law ((refine step_delC _ (by rfl) _ _ _ (by rfl) rfl rfl (by exact hrun _) ?_))
    all_goals
      go_wp2
      go_ret
      unfold Dropped
      rw [HI.out]
      obtain ⟨hs, ho⟩ := HD.out 0
      exact ⟨rfl, ⟨ho.cell (w := w3.drew) c0' HST3.out.ne, hs, hFN.out.filter _⟩, ((Only.below HB3.out).drew).trans ho (fun _ _ h => h)⟩
  · have HI : Hid (inB c L = false) := inB_false hin
    rw [HI.out] at HH
    have HDR : Hid (dropF L c = L) := drop_not hin
    go_enter Try.func23, Try.ntmps23
    go_wp2_with fail
    rw [← hw1]
    obtain ⟨a0, a1⟩ := BX.out
    go_wp2_with fail
    refine (HH.out w1 HST.out).mono ?_
    rintro e w3 ⟨rfl, hb3⟩
    have HST3 := hide (HST.out.below hb3)
    have HB3 := hide (HBL.out.trans (hb3.mono HBL.out.size))
    clear hb3 a0 a1
    go_wp2
    go_ret
    unfold Dropped
    rw [HI.out, HDR.out]
    exact ⟨rfl, HST3.out, Only.below HB3.out⟩
theorem cdrop_nil (c : Cn) (w : World) : Calls Try.prog 23 #[.pointer none, cvl c] w fun e w' => e = .returned (.bool false) ∧ Below w.heap.size w w' := by
  have HH := hide (fun w => chas_nil c w)
  have BX := hide (BoxC.new w c 24)
  have HBL : Hid (Below w.heap.size w (w.alloc (.cells #[.string c.nm, .int .i64 c.day] 24))) := (Below.refl _ _).alloc (Nat.le_refl _) _
  unfold cvl at *
  obtain ⟨w1, hw1⟩ : ∃ w1, w1 = w.alloc (.cells #[.string c.nm, .int .i64 c.day] 24) := ⟨_, rfl⟩
  rw [← hw1] at BX HBL
  go_enter Try.func23, Try.ntmps23
  go_wp2_with fail
  rw [← hw1]
  obtain ⟨a0, a1⟩ := BX.out
  go_wp2_with fail
  refine (HH.out w1).mono ?_
  rintro e w3 ⟨rfl, hb3⟩
  have HB3 := hide (HBL.out.trans (hb3.mono HBL.out.size))
  clear hb3 a0 a1
  go_wp2
  go_ret
  exact ⟨rfl, HB3.out⟩
end Go.Proofs.Ytliinilbfacpbaa
