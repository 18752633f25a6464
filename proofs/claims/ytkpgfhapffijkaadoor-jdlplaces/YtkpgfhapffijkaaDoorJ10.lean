/- Some parts of the proof, one behind the other. -/
import Derived.Test.YtkpgfhapffijkaaDoorJ7
import Derived.Test.YtkpgfhapffijkaaDoorJdL
/- Package jdl: lists of nodes. -/
namespace Go.Proofs.YtkpgfhapffijkaaDoor
open Go.ChangeShapes Go.WideShapes Go.ChangeAt Go.RowKit Go.DsMem Go.DsLx Go.DsJd Go.DsMk
set_option linter.unusedVariables false
theorem infoEx : (Tryd.prog.info? 44).map (fun i => (i.zero, i.size, i.bytes)) = some (some (.agg #[.int .i64 0, .string ⟨#[]⟩, .int .i64 0, .slice none 0 0]), 4, 56) := by kernel_rfl
/-- a node of one's own -/
def VE (w : World) (t : Ex) (v : Value) (w' : World) : Prop := ∃ nv : EVal, v = nv.val ∧ ExOn (fun b => w.heap.size ≤ b ∧ b < w'.heap.size) w' nv t
theorem VE.only {w w1 w2 : World} {R : Nat} {t : Ex} {v : Value} (h : VE w t v w1) (ho : Only (· = R) w1 w2) (hR : R < w.heap.size) : VE w t v w2 := by
  obtain ⟨nv, e, hn⟩ := h
  exact ⟨nv, e, hn.mono (fun b hb => ⟨hb.1, Nat.lt_of_lt_of_le hb.2 ho.size⟩) (fun a u hB hc => ho.cell hc (by omega))⟩
theorem VE.since {w0 w w1 : World} {t : Ex} {v : Value} (h : VE w t v w1) (hs : w0.heap.size ≤ w.heap.size) : VE w0 t v w1 := by
  obtain ⟨nv, e, hn⟩ := h
  exact ⟨nv, e, hn.mono (fun b hb => ⟨Nat.le_trans hs hb.1, hb.2⟩) (fun a u _ hc => hc)⟩
/-- nodes read so far -/
structure LeSt (w wr : World) (R : Nat) (acc : List Ex) (uo : Option Addr) (uc : Nat) (K : Nat → EVal) : Prop where
  row : wr.ownsRow w.heap.size 44 4 (.slice uo acc.length uc) acc.length (rowE K acc.length)
  sub : ∀ j (hj : j < acc.length), ExOn (fun b => w.heap.size ≤ b ∧ b < wr.heap.size ∧ (Value.slice uo acc.length uc).ownBlock ≠ some b) wr (K j) acc[j]
  only : Only (· = R) w wr
theorem LeSt.moved {w wr w' : World} {R : Nat} {acc : List Ex} {uo : Option Addr} {uc : Nat} {K : Nat → EVal} (h : LeSt w wr R acc uo uc K) (ho : Only (· = R) wr w') (hR : R < w.heap.size) : LeSt w w' R acc uo uc K := by
  have hlt := h.row.lt
  refine ⟨own_same4 h.row (fun k hk => ho.block k (hlt k hk).2 (by have := (hlt k hk).1; omega)), fun j hj => (h.sub j hj).mono (fun b hb => ⟨hb.1, Nat.lt_of_lt_of_le hb.2.1 ho.size, hb.2.2⟩) (fun a u hB hc => ho.cell hc (by omega)), h.only.trans ho (fun _ _ e => e)⟩
theorem LeSt.step {w wr w1 w2 : World} {R : Nat} {acc : List Ex} {uo : Option Addr} {uc : Nat} {K : Nat → EVal} {a : Ex} {nv : EVal} {g cap : Nat} (h : LeSt w wr R acc uo uc K) (hR : R < w.heap.size)
    (ho1 : Only (· = R) wr w1) (hon : ExOn (fun b => wr.heap.size ≤ b ∧ b < w1.heap.size) w1 nv a) (o : Obj)
    (hown : w2.ownsRow w.heap.size 44 4 (.slice (some ⟨g, 0, none⟩) (acc.length + 1) cap) (acc.length + 1) (rowE K acc.length ++ evC nv)) (hgr : (w1.alloc o).grownBy w2 (Value.slice uo acc.length uc).ownBlock)
    (hat : (Value.slice uo acc.length uc).ownBlock = some g ∨ g = w1.heap.size + 1) :
    LeSt w w2 R (acc ++ [a]) (some ⟨g, 0, none⟩) cap (fun j => if j = acc.length then nv else K j) := by
  have hs0 := h.only.size
  have hs1 := ho1.size
  have hsA : (w1.alloc o).heap.size = w1.heap.size + 1 := by simp
  have hs2 := hgr.size
  have hrow : ∀ k, (Value.slice uo acc.length uc).ownBlock = some k → w.heap.size ≤ k ∧ k < wr.heap.size := h.row.lt
  have hA : Only (fun k => (Value.slice uo acc.length uc).ownBlock = some k) w1 w2 := (Only.alloc _ w1 o).trans (Only.grown hgr) (fun i _ hi => hi)
  have hB : Only (fun k => k = R ∨ (Value.slice uo acc.length uc).ownBlock = some k) wr w2 := (ho1.mono (fun i _ e => .inl e)).trans hA (fun i _ e => .inr e)
  have hl : (acc ++ [a]).length = acc.length + 1 := by simp
  refine ⟨?_, ?_, ?_⟩
  · have : rowE (fun j => if j = acc.length then nv else K j) (acc.length + 1) = rowE K acc.length ++ evC nv := by
      rw [rowE, rowE_cong acc.length (K' := K) (fun j hj => if_neg (by omega))]; simp
    rw [hl, this]
    exact hown
  · intro j hj
    by_cases e : j = acc.length
    · subst e
      simp only [if_true, List.getElem_append_right (Nat.le_refl _), Nat.sub_self, List.getElem_cons_zero]
      refine hon.mono (fun b hb => ⟨by omega, by omega, ?_⟩) (fun ad u hB' hc => hA.cell hc (fun e => by have := hrow _ e; omega))
      show some g ≠ some b
      intro e
      obtain rfl := Option.some.inj e
      rcases hat with c | c
      · have := hrow _ c; omega
      · omega
    · have hj' : j < acc.length := by omega
      simp only [if_neg e, List.getElem_append_left hj']
      have h1 : ∀ b, (w.heap.size ≤ b ∧ b < wr.heap.size ∧ (Value.slice uo acc.length uc).ownBlock ≠ some b) → (w.heap.size ≤ b ∧ b < w2.heap.size ∧ (Value.slice (some ⟨g, 0, none⟩) (acc ++ [a]).length cap).ownBlock ≠ some b) := fun b hb => by
        refine ⟨hb.1, by omega, ?_⟩
        show some g ≠ some b
        intro e
        obtain rfl := Option.some.inj e
        rcases hat with c | c
        · exact hb.2.2 c
        · omega
      refine (h.sub j hj').mono h1 (fun ad u hB' hc => hB.cell hc (fun e => ?_))
      rcases e with e | e
      · omega
      · exact hB'.2.2 e
  · exact h.only.trans hB (fun i hi e => by
      rcases e with e | e
      · exact e
      · have := (hrow _ e).1; omega)
/-- nodes of one's own -/
def VLE (w : World) (l : List Ex) (v : Value) (w' : World) : Prop := ∃ uo uc K, v = .slice uo l.length uc ∧ w'.ownsRow w.heap.size 44 4 v l.length (rowE K l.length) ∧ ∀ j (hj : j < l.length), ExOn (fun b => w.heap.size ≤ b ∧ b < w'.heap.size) w' (K j) l[j]
theorem LeSt.out {w wr : World} {R : Nat} {acc : List Ex} {uo : Option Addr} {uc : Nat} {K : Nat → EVal} (h : LeSt w wr R acc uo uc K) : VLE w acc (.slice uo acc.length uc) wr :=
  ⟨uo, uc, K, rfl, h.row, fun j hj => (h.sub j hj).mono (fun b hb => ⟨hb.1, hb.2.1⟩) (fun a u _ hc => hc)⟩
end Go.Proofs.YtkpgfhapffijkaaDoor

/- Package jdl: the walk of list at nodes. -/
namespace Go.Proofs.YtkpgfhapffijkaaDoor
open Go.ChangeShapes Go.WideShapes Go.ChangeAt Go.RowKit Go.DsMem Go.DsLx Go.DsJd Go.DsMk
set_option linter.unusedVariables false
set_option maxHeartbeats 4000000 in
set_option maxRecDepth 20000 in
/-- jdl.list[jdl.Expr] -/
theorem listE {w : World} {R : Nat} {E d : Int} {B N : Nat} {ws : List Tk} (h : Rdr w R E d B N ws) (K : Nat) (first cap : Array Value) (part : List Tk → Except Fl (Ex × List Tk)) (sep : ByteArray) (hsep : sep ≠ ⟨#[]⟩) (M : Nat) (hM : M ≤ 100000) (P : List Tk → Prop) (hP0 : P ws) (hPn : ∀ ws a r, P ws → part ws = .ok (a, r) → P r ∧ P r.tail)
    (hcf : CF K) (hp : ∀ w ws, P ws → Rdr w R E d B N ws → Calls Tryd.prog K (first ++ cap) w (PE R E d B N (part ws) VE w)) :
    Calls Tryd.prog 77 #[.pointer (some ⟨R, 0, none⟩), .string sep, .int .i64 M, .func (.func K) first cap] w (PE R E d B N (listP E sep part M ws) VLE w) := by
  have HP := hide hp
  have hcf' := hcf (first ++ cap)
  have HPN := hide hPn
  have HP0 := hide hP0
  obtain ⟨hN1, hN2⟩ := h.n
  have HR0 := hide h
  obtain ⟨Q, hQ⟩ : ∃ Q, listP E sep part M ws = Q := ⟨_, rfl⟩
  have HQ : Hid (accP [] (listP E sep part M ws) = Q) := by
    refine hide ?_
    rw [← hQ]
    cases listP E sep part M ws with
    | error f => rfl
    | ok p => rfl
  rw [hQ]
  clear h hp hcf hPn hP0 hQ
  obtain ⟨i0, hi0, hz0, hz1, hz2⟩ := info_parts infoEx
  go_enter Tryd.func77, Tryd.ntmps77
  go_wp2_with fail
  go_loopw [9] (fun tl wr => ∃ (acc : List Ex) (K' : Nat → EVal) (uo : Option Addr) (uc : Nat) (us : List Tk), acc.length ≤ M ∧ tl = .slice uo acc.length uc ∧ P us ∧ LeSt w wr R acc uo uc K' ∧ Rdr wr R E d B N us ∧ accP acc (listP E sep part (M - acc.length) us) = Q) (fun tl _ => M - slLen tl)
  case atStart => exact ⟨[], fun _ => ⟨0, ⟨#[]⟩, 0, none, 0, 0⟩, none, 0, ws, Nat.zero_le _, rfl, HP0.out, ⟨World.ownsRow_nil _ _ _ _, fun j hj => by simp at hj, Only.refl _ _⟩, HR0.out, HQ.out⟩
  case round =>
    obtain ⟨acc, K', uo, uc, us, hal, rfl, hPu, hst, hrd, hq⟩ := hrel
    have HST := hide hst
    have HRD := hide hrd
    have ho := hst.only
    have HO := hide ho
    have HQ2 := hide hq
    have HPU := hide hPu
    have hws := ho.size
    clear hst hrd ho hq hPu
    have HRM := hide (room_any HRD.out acc.length M)
    by_cases hfull : M ≤ acc.length
    · have e : roomP E us acc.length M = .error (atF E us, 4) := by unfold roomP; rw [if_pos (by omega)]
      have hQe : Q = .error (atF E us, 4) := by
        rw [← HQ2.out, show M - acc.length = 0 by omega]; exact acc_full E sep part acc us
      have HQE := hide hQe
      rw [e] at HRM
      unfold Ends at HRM
      clear e hQe
      go_wp2_with fail
      refine HRM.out.mono ?_
      rintro e w1 ⟨rfl, ho1⟩
      have HO1 := hide (HO.out.trans ho1 (fun _ _ h => h))
      clear ho1
      go_wp2
      refine ⟨rfl, ?_⟩
      rw [HQE.out]
      exact ⟨rfl, HO1.out⟩
    · have e : roomP E us acc.length M = .ok () := by unfold roomP; rw [if_neg (by omega)]
      rw [e] at HRM
      unfold Ends at HRM
      clear e
      obtain ⟨n, hn⟩ : ∃ n, M - acc.length = n + 1 := ⟨M - acc.length - 1, by omega⟩
      rw [hn] at HQ2
      have HPP := hide (fun w h => HP.out w us HPU.out h)
      have HPX := hide (fun a r => HPN.out us a r HPU.out)
      obtain ⟨q, hq⟩ : ∃ q, part us = q := ⟨_, rfl⟩
      rw [hq] at HPP HPX
      cases q with
      | error f =>
        have HQE : Hid (Q = .error f) := by refine hide ?_; rw [← HQ2.out]; exact acc_bad acc n hq
        unfold PE Ends at HPP
        simp only at HPP
        clear hq
        go_wp2_with fail
        refine HRM.out.mono ?_
        rintro e w1 ⟨rfl, rfl⟩
        go_wp2_with fail
        refine (HPP.out w1 HRD.out).mono ?_
        rintro e w2 ⟨rfl, ho2⟩
        have HO2 := hide (HO.out.trans ho2 (fun _ _ h => h))
        clear ho2
        go_wp2
        refine ⟨rfl, ?_⟩
        rw [HQE.out]
        exact ⟨rfl, HO2.out⟩
      | ok p =>
        obtain ⟨a, r⟩ := p
        obtain ⟨hp1, hp2⟩ := HPX.out a r rfl
        have HP1 := hide hp1
        have HP2 := hide hp2
        unfold PE Ends at HPP
        simp only at HPP
        have HEND : Hid (¬ textF r = sep → Q = .ok (acc ++ [a], r)) := fun hs => by rw [← HQ2.out]; exact acc_end acc n hq hs
        have HMORE : Hid (textF r = sep → accP (acc ++ [a]) (listP E sep part n r.tail) = Q) := fun hs => by rw [← HQ2.out]; exact (acc_more acc n hq hs).symm
        clear hq hp1 hp2 HPX
        go_wp2_with fail
        refine HRM.out.mono ?_
        rintro e w1 ⟨rfl, rfl⟩
        go_wp2_with fail
        refine (HPP.out w1 HRD.out).mono ?_
        rintro e w2 ⟨v, rfl, ⟨nv, rfl, hon⟩, hr2, ho2⟩
        have HR2 := hide hr2
        have hs2 := ho2.size
        have hlt2 : ∀ k, (Value.slice uo acc.length uc).ownBlock = some k → w.heap.size ≤ k ∧ k < w1.heap.size := HST.out.row.lt
        have HSTEP : Hid (∀ (w3 : World) (g cap : Nat) (ob : Obj), w3.ownsRow w.heap.size 44 4 (.slice (some ⟨g, 0, none⟩) (acc.length + 1) cap) (acc.length + 1) (rowE K' acc.length ++ evC nv) → (w2.alloc ob).grownBy w3 (Value.slice uo acc.length uc).ownBlock → ((Value.slice uo acc.length uc).ownBlock = some g ∨ g = w2.heap.size + 1) →
            LeSt w w3 R (acc ++ [a]) (some ⟨g, 0, none⟩) cap (fun j => if j = acc.length then nv else K' j)) := fun w3 g cap ob h1 h2 h3 => HST.out.step (by omega) ho2 hon ob h1 h2 h3
        have HROW : Hid (∀ ob, (w2.alloc ob).ownsRow w.heap.size 44 4 (.slice uo acc.length uc) acc.length (rowE K' acc.length)) := fun ob =>
          own_same4 HST.out.row (fun k hk => by
            have := hlt2 k hk
            rw [((Below.refl w2.heap.size w2).alloc (Nat.le_refl _) ob).block k (by omega)]
            exact ho2.block k this.2 (by omega))
        have HO2 := hide (HO.out.trans ho2 (fun _ _ h => h))
        clear hr2 ho2 hon
        unfold EVal.val exV
        go_wp2_with (at_builtin; refine Hid.out ?_)
        refine hide ?_
        refine wpList_append_lies _ rfl _ _ 42 rfl w.heap.size 44 i0 _ 4 56 Tryd.underlying42 hi0 hz0 hz1 hz2 rfl (by decide) _ acc.length _ rfl (HROW.out _) ⟨w2.heap.size, 0, none⟩ 1 1 (evC nv) rfl rfl (World.news_of_block (cs := (evC nv).toArray) (t := 44) (fr := (0, 0)) (heap_alloc_new w2 _)) (evC_one nv) (by omega) (by unfold maxLen; omega) (by omega) (by simp; omega) (w2.heap.size + 1) (by simp) ?_
        intro g cap w3 hown3 hgr hat3 _
        have HST3 := hide (HSTEP.out w3 g cap _ hown3 hgr hat3)
        have hl1 : (acc ++ [a]).length = acc.length + 1 := by simp
        have HR3 : Hid (Rdr w3 R E d B N r) := by
          refine hide ((HR2.out.below ((Below.refl _ _).alloc (Nat.le_refl _) _)).only ((Only.grown hgr).toBelow (by simp; omega) (fun i e => by have := (hlt2 i e).1; omega)))
        have HO3 : Hid (Only (· = R) w w3) := HST3.out.only
        clear hown3 hgr hat3 hlt2 HR2 HSTEP HROW
        by_cases hs : textF r = sep
        · have HM2 := hide (HMORE.out hs)
          cases r with
          | nil => exact absurd hs.symm hsep
          | cons t r' =>
            simp only [textF] at hs
            have HTK := hide (take_yes HR3.out)
            rw [hs] at HTK
            simp only [List.tail_cons] at HM2 HP2
            go_wp2_with fail
            refine HTK.out.mono ?_
            rintro e w4 ⟨rfl, hr4, ho4⟩
            have HR4 := hide hr4
            have HO4 := hide (HO3.out.trans ho4 (fun _ _ h => h))
            have HST4 := hide (HST3.out.moved ho4 (by omega))
            clear hr4 ho4
            go_wp2
            go_roundw
            case rel => exact ⟨acc ++ [a], _, some ⟨g, 0, none⟩, cap, r', by simp; omega, by rw [hl1], HP2.out, HST4.out, HR4.out, by rw [show M - (acc ++ [a]).length = n by simp; omega]; exact HM2.out⟩
            case measure => simp [slLen]; omega
        · have HE2 := hide (HEND.out hs)
          have HTK := hide (take_no HR3.out hs)
          go_wp2_with fail
          refine HTK.out.mono ?_
          rintro e w4 ⟨rfl, rfl⟩
          go_wp2
          go_ret
          rw [HE2.out]
          have h5 := HST3.out.out
          rw [hl1] at h5
          exact ⟨_, rfl, h5, HR3.out, HO3.out⟩
end Go.Proofs.YtkpgfhapffijkaaDoor

/- Package jdl: nodes joined, brackets and nots. -/
namespace Go.DsJd
open Go.DsLx Go.DsMk
def joinE (op : Int) (l : List Ex) : Ex := match l with | [x] => x | _ => .mk op ⟨#[]⟩ 0 l
theorem joinE_one {op : Int} {l : List Ex} (h : l.length = 1) : joinE op l = l[0] := by
  match l, h with
  | [x], _ => rfl
theorem joinE_more {op : Int} {l : List Ex} (h : ¬ l.length = 1) : joinE op l = .mk op ⟨#[]⟩ 0 l := by
  match l, h with
  | [], _ => rfl
  | [x], h => exact absurd rfl h
  | x :: y :: r, _ => rfl
end Go.DsJd
namespace Go.Proofs.YtkpgfhapffijkaaDoor
open Go.ChangeShapes Go.WideShapes Go.ChangeAt Go.RowKit Go.DsMem Go.DsLx Go.DsJd Go.DsMk
set_option linter.unusedVariables false
set_option maxHeartbeats 2000000 in
set_option maxRecDepth 20000 in
/-- jdl.joinedConds -/
theorem joinedConds_any {w0 w : World} {l : List Ex} {v : Value} (op : Int) (h : VLE w0 l v w) (hl : l.length ≤ 100000) (hw : w0.heap.size ≤ w.heap.size) : Calls Tryd.prog 76 #[.int .i64 op, v] w fun e w' => ∃ v', e = .returned v' ∧ VE w0 (joinE op l) v' w' ∧ Below w.heap.size w w' := by
  obtain ⟨uo, uc, K, rfl, hrow, hsub⟩ := h
  by_cases h1 : l.length = 1
  · have HJ := hide (joinE_one (op := op) h1)
    have hg : ∃ g, uo = some ⟨g, 0, none⟩ ∧ l.length ≤ uc ∧ g < w.heap.size := by
      rcases hrow.2 with ⟨_, h0⟩ | ⟨g, cap, cur, e, _, hg, hc, _⟩
      · omega
      · simp only [Value.slice.injEq] at e
        obtain ⟨rfl, -, rfl⟩ := e
        exact ⟨g, rfl, hc, block_lt hg⟩
    obtain ⟨g, rfl, hc, hg⟩ := hg
    have hin := rowEx hrow 0 (by omega)
    have HS : Hid (∀ w', Below w.heap.size w w' → VE w0 (joinE op l) (K 0).val w') := fun w' hb => by
      rw [HJ.out]
      exact ⟨K 0, rfl, (hsub 0 (by omega)).mono (fun b hb' => ⟨hb'.1, by have := hb.size; omega⟩) (fun a u _ hcc => Below.keeps hb (Nat.le_refl _) hcc)⟩
    obtain ⟨c0, c1, c2, c3⟩ := hin
    simp only [Nat.zero_mul, Nat.zero_add] at c0 c1 c2 c3
    have x0 := fun ob : Obj => Below.keeps (below_new4 ob) (Nat.le_refl _) c0
    have x1 := fun ob : Obj => Below.keeps (below_new4 ob) (Nat.le_refl _) c1
    have x2 := fun ob : Obj => Below.keeps (below_new4 ob) (Nat.le_refl _) c2
    have x3 := fun ob : Obj => Below.keeps (below_new4 ob) (Nat.le_refl _) c3
    clear hrow hsub c0 c1 c2 c3
    rw [h1] at *
    generalize K 0 = nv at *
    go_enter Tryd.func76, Tryd.ntmps76
    go_wp2
    refine bodyPost_ret (v := nv.val) (by simp [results, Tryd.results76, go_sem, EVal.val, exV]) rfl ?_
    exact ⟨_, rfl, HS.out _ (below_new4 _), below_new4 _⟩
  · have HJ := hide (joinE_more (op := op) h1)
    have HS : Hid (∀ w', Below w.heap.size w w' → VE w0 (joinE op l) (EVal.val ⟨op, ⟨#[]⟩, 0, uo, l.length, uc⟩) w') := fun w' hb => by
      rw [HJ.out]
      refine ⟨_, rfl, ?_⟩
      have hsz := hb.size
      rcases hrow.2 with ⟨e, h0⟩ | ⟨g, cap, cur, e, hgb, hg, hc, _⟩
      · have hl0 : l.length = 0 := h0
        exact .mk op ⟨#[]⟩ 0 l uo uc 0 K (by omega) (by omega) (fun h => by omega) (fun h => by omega) (fun j hj => by omega) (fun j hj => by omega)
      · simp only [Value.slice.injEq] at e
        obtain ⟨rfl, -, rfl⟩ := e
        refine .mk op ⟨#[]⟩ 0 l (some ⟨g, 0, none⟩) uc g K (by omega) hc (fun _ => rfl) (fun _ => ⟨hgb, by have := block_lt hg; omega⟩) (fun j hj => (rowEx hrow j hj).mono (fun a u hcc => Below.keeps hb (Nat.le_refl _) hcc)) (fun j hj => ?_)
        exact (hsub j hj).mono (fun b hb' => ⟨hb'.1, by omega⟩) (fun a u _ hcc => Below.keeps hb (Nat.le_refl _) hcc)
    have h1' : ((l.length : Int) == 1) = false := by simp; omega
    clear hrow hsub
    go_enter Tryd.func76, Tryd.ntmps76
    go_wp2
    refine bodyPost_ret (v := EVal.val ⟨op, ⟨#[]⟩, 0, uo, l.length, uc⟩) (by simp [results, Tryd.results76, go_sem, EVal.val, exV]) rfl ?_
    exact ⟨_, rfl, HS.out _ (below_new4 _), below_new4 _⟩
end Go.Proofs.YtkpgfhapffijkaaDoor

