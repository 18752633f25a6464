/- Some parts of the proof, one behind the other. -/
import Derived.Test.YtkpgfhapffijkaaDoorJfB
import Derived.Maps.OwnSet
import Derived.Maps.Views
import Derived.DeepKeys4
/- Package jdl: lists of outcomes (written by gen_jfc.py out of JdG). -/
namespace Go.Proofs.YtkpgfhapffijkaaDoor
open Go.ChangeShapes Go.WideShapes Go.ChangeAt Go.RowKit Go.DsMem Go.DsLx Go.DsJd Go.DsMk
set_option linter.unusedVariables false
/-- an outcome: its sign's place, its name, its day -/
abbrev Oc := Int × (ByteArray × Int)
def ocC (p : Oc) : List Value := [.bool (p.1 == 0), .string p.2.1, .int .i64 p.2.2]
theorem ocC_one (p : Oc) : ∀ u ∈ ocC p, u.oneCell' = true := by
  intro u hu
  simp only [ocC, List.mem_cons, List.not_mem_nil, or_false] at hu
  rcases hu with rfl | rfl | rfl <;> rfl
def ocRow (l : List Oc) : List Value := l.flatMap ocC
theorem ocRow_snoc (l : List Oc) (p : Oc) : ocRow (l ++ [p]) = ocRow l ++ ocC p := by simp [ocRow]
theorem infoOc : (Tryd.prog.info? 50).map (fun i => (i.zero, i.size, i.bytes)) = some (some (.agg #[.bool false, .string ⟨#[]⟩, .int .i64 0]), 3, 32) := by kernel_rfl
theorem own_sameK {w w' : World} {B : Nat} {e : TypeId} {k : Nat} {v : Value} {n : Nat} {xs : List Value} (h : w.ownsRow B e k v n xs) (hk : ∀ k, v.ownBlock = some k → w'.heap[k]? = w.heap[k]?) : w'.ownsRow B e k v n xs := by
  refine ⟨h.1, ?_⟩
  rcases h.2 with h0 | ⟨g, cap, cur, hv, hbg, hg, r⟩
  · exact .inl h0
  · exact .inr ⟨g, cap, cur, hv, hbg, by rw [hk g (by rw [hv]; rfl)]; exact hg, r⟩
theorem own_baseK {w : World} {B B' : Nat} {e : TypeId} {k : Nat} {v : Value} {n : Nat} {xs : List Value} (h : w.ownsRow B e k v n xs) (hB : B' ≤ B) : w.ownsRow B' e k v n xs := by
  refine ⟨h.1, ?_⟩
  rcases h.2 with h0 | ⟨g, cap, cur, hv, hb, r⟩
  · exact .inl h0
  · exact .inr ⟨g, cap, cur, hv, by omega, r⟩
/-- outcomes read so far -/
structure OlSt (w wr : World) (R : Nat) (acc : List Oc) (uo : Option Addr) (uc : Nat) : Prop where
  row : wr.ownsRow w.heap.size 50 3 (.slice uo acc.length uc) acc.length (ocRow acc)
  only : Only (· = R) w wr
theorem OlSt.moved {w wr w' : World} {R : Nat} {acc : List Oc} {uo : Option Addr} {uc : Nat} (h : OlSt w wr R acc uo uc) (ho : Only (· = R) wr w') (hR : R < w.heap.size) : OlSt w w' R acc uo uc := by
  have hlt := h.row.lt
  exact ⟨own_sameK h.row (fun k hk => ho.block k (hlt k hk).2 (by have := (hlt k hk).1; omega)), h.only.trans ho (fun _ _ e => e)⟩
theorem OlSt.step {w wr w1 w2 : World} {R : Nat} {acc : List Oc} {uo : Option Addr} {uc : Nat} {a : Oc} {g cap : Nat} (h : OlSt w wr R acc uo uc) (ho1 : Only (· = R) wr w1) (o : Obj)
    (hown : w2.ownsRow w.heap.size 50 3 (.slice (some ⟨g, 0, none⟩) (acc.length + 1) cap) (acc.length + 1) (ocRow acc ++ ocC a)) (hgr : (w1.alloc o).grownBy w2 (Value.slice uo acc.length uc).ownBlock) :
    OlSt w w2 R (acc ++ [a]) (some ⟨g, 0, none⟩) cap := by
  have hrow : ∀ k, (Value.slice uo acc.length uc).ownBlock = some k → w.heap.size ≤ k ∧ k < wr.heap.size := h.row.lt
  have hA : Only (fun k => (Value.slice uo acc.length uc).ownBlock = some k) w1 w2 := (Only.alloc _ w1 o).trans (Only.grown hgr) (fun i _ hi => hi)
  have hB : Only (fun k => k = R ∨ (Value.slice uo acc.length uc).ownBlock = some k) wr w2 := (ho1.mono (fun i _ e => .inl e)).trans hA (fun i _ e => .inr e)
  refine ⟨by rw [ocRow_snoc]; simpa using hown, h.only.trans hB (fun i hi e => ?_)⟩
  rcases e with e | e
  · exact e
  · have := (hrow _ e).1; omega
/-- outcomes of one's own -/
def VLO (w : World) (l : List Oc) (v : Value) (w' : World) : Prop := ∃ uo uc, v = .slice uo l.length uc ∧ w'.ownsRow w.heap.size 50 3 v l.length (ocRow l)
theorem OlSt.out {w wr : World} {R : Nat} {acc : List Oc} {uo : Option Addr} {uc : Nat} (h : OlSt w wr R acc uo uc) : VLO w acc (.slice uo acc.length uc) wr := ⟨uo, uc, rfl, h.row⟩
set_option maxHeartbeats 4000000 in
set_option maxRecDepth 20000 in
/-- jdl.list[jdl.Outcome] -/
theorem listO {w : World} {R : Nat} {E d : Int} {B N : Nat} {ws : List Tk} (h : Rdr w R E d B N ws) (K : Nat) (first cap : Array Value) (part : List Tk → Except Fl (Oc × List Tk)) (sep : ByteArray) (hsep : sep ≠ ⟨#[]⟩) (M : Nat) (hM : M ≤ 100000) (P : List Tk → Prop) (hP0 : P ws) (hPn : ∀ ws a r, P ws → part ws = .ok (a, r) → P r ∧ P r.tail)
    (hcf : CF K) (hp : ∀ w ws, P ws → Rdr w R E d B N ws → Calls Tryd.prog K (first ++ cap) w (PE R E d B N (part ws) VOut w)) :
    Calls Tryd.prog 54 #[.pointer (some ⟨R, 0, none⟩), .string sep, .int .i64 M, .func (.func K) first cap] w (PE R E d B N (listP E sep part M ws) VLO w) := by
  have HP := hide hp
  have hcf' := hcf (first ++ cap)
  have HPN := hide hPn
  have HP0 := hide hP0
  obtain ⟨hN1, hN2⟩ := h.n
  have HR0 := hide h
  obtain ⟨Q, hQ⟩ : ∃ Q, listP E sep part M ws = Q := ⟨_, rfl⟩
  have HQ : Hid (accP [] (listP E sep part M ws) = Q) := by
    refine hide ?_
    rw [← hQ]
    cases listP E sep part M ws with
    | error f => rfl
    | ok p => rfl
  rw [hQ]
  clear h hp hcf hPn hP0 hQ
  obtain ⟨i0, hi0, hz0, hz1, hz2⟩ := info_parts infoOc
  go_enter Tryd.func54, Tryd.ntmps54
  go_wp2_with fail
  go_loopw [9] (fun tl wr => ∃ (acc : List Oc) (uo : Option Addr) (uc : Nat) (us : List Tk), acc.length ≤ M ∧ tl = .slice uo acc.length uc ∧ P us ∧ OlSt w wr R acc uo uc ∧ Rdr wr R E d B N us ∧ accP acc (listP E sep part (M - acc.length) us) = Q) (fun tl _ => M - slLen tl)
  case atStart => exact ⟨[], none, 0, ws, Nat.zero_le _, rfl, HP0.out, ⟨World.ownsRow_nil _ _ _ _, Only.refl _ _⟩, HR0.out, HQ.out⟩
  case round =>
    obtain ⟨acc, uo, uc, us, hal, rfl, hPu, hst, hrd, hq⟩ := hrel
    have HST := hide hst
    have HRD := hide hrd
    have ho := hst.only
    have HO := hide ho
    have HQ2 := hide hq
    have HPU := hide hPu
    have hws := ho.size
    clear hst hrd ho hq hPu
    have HRM := hide (room_any HRD.out acc.length M)
    by_cases hfull : M ≤ acc.length
    · have e : roomP E us acc.length M = .error (atF E us, 4) := by unfold roomP; rw [if_pos (by omega)]
      have hQe : Q = .error (atF E us, 4) := by
        rw [← HQ2.out, show M - acc.length = 0 by omega]; exact acc_full E sep part acc us
      have HQE := hide hQe
      rw [e] at HRM
      unfold Ends at HRM
      clear e hQe
      go_wp2_with fail
      refine HRM.out.mono ?_
      rintro e w1 ⟨rfl, ho1⟩
      have HO1 := hide (HO.out.trans ho1 (fun _ _ h => h))
      clear ho1
      go_wp2
      refine ⟨rfl, ?_⟩
      rw [HQE.out]
      exact ⟨rfl, HO1.out⟩
    · have e : roomP E us acc.length M = .ok () := by unfold roomP; rw [if_neg (by omega)]
      rw [e] at HRM
      unfold Ends at HRM
      clear e
      obtain ⟨n, hn⟩ : ∃ n, M - acc.length = n + 1 := ⟨M - acc.length - 1, by omega⟩
      rw [hn] at HQ2
      have HPP := hide (fun w h => HP.out w us HPU.out h)
      have HPX := hide (fun a r => HPN.out us a r HPU.out)
      obtain ⟨q, hq⟩ : ∃ q, part us = q := ⟨_, rfl⟩
      rw [hq] at HPP HPX
      cases q with
      | error f =>
        have HQE : Hid (Q = .error f) := by refine hide ?_; rw [← HQ2.out]; exact acc_bad acc n hq
        unfold PE Ends at HPP
        simp only at HPP
        clear hq
        go_wp2_with fail
        refine HRM.out.mono ?_
        rintro e w1 ⟨rfl, rfl⟩
        go_wp2_with fail
        refine (HPP.out w1 HRD.out).mono ?_
        rintro e w2 ⟨rfl, ho2⟩
        have HO2 := hide (HO.out.trans ho2 (fun _ _ h => h))
        clear ho2
        go_wp2
        refine ⟨rfl, ?_⟩
        rw [HQE.out]
        exact ⟨rfl, HO2.out⟩
      | ok p =>
        obtain ⟨a, r⟩ := p
        obtain ⟨hp1, hp2⟩ := HPX.out a r rfl
        have HP1 := hide hp1
        have HP2 := hide hp2
        unfold PE Ends at HPP
        simp only at HPP
        have HEND : Hid (¬ textF r = sep → Q = .ok (acc ++ [a], r)) := fun hs => by rw [← HQ2.out]; exact acc_end acc n hq hs
        have HMORE : Hid (textF r = sep → accP (acc ++ [a]) (listP E sep part n r.tail) = Q) := fun hs => by rw [← HQ2.out]; exact (acc_more acc n hq hs).symm
        clear hq hp1 hp2 HPX
        go_wp2_with fail
        refine HRM.out.mono ?_
        rintro e w1 ⟨rfl, rfl⟩
        go_wp2_with fail
        refine (HPP.out w1 HRD.out).mono ?_
        rintro e w2 ⟨v, rfl, hv, hr2, ho2⟩
        unfold VOut at hv
        subst hv
        have HR2 := hide hr2
        have hs2 := ho2.size
        have hlt2 : ∀ k, (Value.slice uo acc.length uc).ownBlock = some k → w.heap.size ≤ k ∧ k < w1.heap.size := HST.out.row.lt
        have HSTEP : Hid (∀ (w3 : World) (g cap : Nat) (ob : Obj), w3.ownsRow w.heap.size 50 3 (.slice (some ⟨g, 0, none⟩) (acc.length + 1) cap) (acc.length + 1) (ocRow acc ++ ocC a) → (w2.alloc ob).grownBy w3 (Value.slice uo acc.length uc).ownBlock →
            OlSt w w3 R (acc ++ [a]) (some ⟨g, 0, none⟩) cap) := fun w3 g cap ob h1 h2 => HST.out.step ho2 ob h1 h2
        have HROW : Hid (∀ ob, (w2.alloc ob).ownsRow w.heap.size 50 3 (.slice uo acc.length uc) acc.length (ocRow acc)) := fun ob =>
          own_sameK HST.out.row (fun k hk => by
            have := hlt2 k hk
            rw [((Below.refl w2.heap.size w2).alloc (Nat.le_refl _) ob).block k (by omega)]
            exact ho2.block k this.2 (by omega))
        have HO2 := hide (HO.out.trans ho2 (fun _ _ h => h))
        clear hr2 ho2
        go_wp2_with (at_builtin; refine Hid.out ?_)
        refine hide ?_
        refine wpList_append_lies _ rfl _ _ 45 rfl w.heap.size 50 i0 _ 3 32 Tryd.underlying45 hi0 hz0 hz1 hz2 rfl (by decide) _ acc.length _ rfl (HROW.out _) ⟨w2.heap.size, 0, none⟩ 1 1 (ocC a) rfl rfl (World.news_of_block (cs := (ocC a).toArray) (t := 50) (fr := (0, 0)) (heap_alloc_new w2 _)) (ocC_one a) (by omega) (by unfold maxLen; omega) (by omega) (by simp; omega) (w2.heap.size + 1) (by simp) ?_
        intro g cap w3 hown3 hgr hat3 _
        have HST3 := hide (HSTEP.out w3 g cap _ hown3 hgr)
        have hl1 : (acc ++ [a]).length = acc.length + 1 := by simp
        have HR3 : Hid (Rdr w3 R E d B N r) := by
          refine hide ((HR2.out.below ((Below.refl _ _).alloc (Nat.le_refl _) _)).only ((Only.grown hgr).toBelow (by simp; omega) (fun i e => by have := (hlt2 i e).1; omega)))
        have HO3 : Hid (Only (· = R) w w3) := HST3.out.only
        clear hown3 hgr hat3 hlt2 HR2 HSTEP HROW
        by_cases hs : textF r = sep
        · have HM2 := hide (HMORE.out hs)
          cases r with
          | nil => exact absurd hs.symm hsep
          | cons t r' =>
            simp only [textF] at hs
            have HTK := hide (take_yes HR3.out)
            rw [hs] at HTK
            simp only [List.tail_cons] at HM2 HP2
            go_wp2_with fail
            refine HTK.out.mono ?_
            rintro e w4 ⟨rfl, hr4, ho4⟩
            have HR4 := hide hr4
            have HO4 := hide (HO3.out.trans ho4 (fun _ _ h => h))
            have HST4 := hide (HST3.out.moved ho4 (by omega))
            clear hr4 ho4
            go_wp2
            go_roundw
            case rel => exact ⟨acc ++ [a], some ⟨g, 0, none⟩, cap, r', by simp; omega, by rw [hl1], HP2.out, HST4.out, HR4.out, by rw [show M - (acc ++ [a]).length = n by simp; omega]; exact HM2.out⟩
            case measure => simp [slLen]; omega
        · have HE2 := hide (HEND.out hs)
          have HTK := hide (take_no HR3.out hs)
          go_wp2_with fail
          refine HTK.out.mono ?_
          rintro e w4 ⟨rfl, rfl⟩
          go_wp2
          go_ret
          rw [HE2.out]
          have h5 := HST3.out.out
          rw [hl1] at h5
          exact ⟨_, rfl, h5, HR3.out, HO3.out⟩
end Go.Proofs.YtkpgfhapffijkaaDoor

/- Package jdl: what stands between a first word and its end, at lists of outcomes (out of JdC). -/
namespace Go.Proofs.YtkpgfhapffijkaaDoor
open Go.ChangeShapes Go.WideShapes Go.ChangeAt Go.RowKit Go.DsMem Go.DsLx Go.DsJd Go.DsMk
set_option linter.unusedVariables false
theorem VLO.since {w0 w w1 : World} {l : List Oc} {v : Value} (h : VLO w l v w1) (hs : w0.heap.size ≤ w.heap.size) : VLO w0 l v w1 := by
  obtain ⟨uo, uc, e, h⟩ := h
  exact ⟨uo, uc, e, own_baseK h hs⟩
theorem VLO.moved {w w1 w2 : World} {R : Nat} {l : List Oc} {v : Value} (h : VLO w l v w1) (ho : Only (· = R) w1 w2) (hR : R < w.heap.size) : VLO w l v w2 := by
  obtain ⟨uo, uc, e, h⟩ := h
  exact ⟨uo, uc, e, own_sameK h (fun k hk => ho.block k (h.lt k hk).2 (by have := (h.lt k hk).1; omega))⟩
set_option maxHeartbeats 1000000 in
set_option maxRecDepth 20000 in
/-- jdl.said[[]jdl.Outcome] -/
theorem saidO {w : World} {R : Nat} {E d : Int} {B N : Nat} {t : Tk} {r : List Tk} (h : Rdr w R E d B N (t :: r)) (K : Nat) (first cap : Array Value) (part : List Tk → Except Fl (List Oc × List Tk))
    (hcf : CF K) (hp : ∀ w1, Rdr w1 R E d B N r → Only (· = R) w w1 → Calls Tryd.prog K (first ++ cap) w1 (PE R E d B N (part r) VLO w1)) :
    Calls Tryd.prog 52 #[.pointer (some ⟨R, 0, none⟩), .func (.func K) first cap] w (PE R E d B N (thenP E ⟨#[59]⟩ (part r)) VLO w) := by
  have HRN : Hid (R < w.heap.size) := h.lt
  have HS := hide (skip_any h)
  have HP := hide hp
  have hcf' := hcf (first ++ cap)
  have HM := hide (fun (w : World) (r : List Tk) (h : Rdr w R E d B N r) => must_any ⟨#[59]⟩ h (by decide))
  clear h hp hcf
  generalize part r = q at *
  cases q with
  | error f =>
    unfold PE Ends at HP
    unfold PE Ends thenP
    simp only at HP ⊢
    go_enter Tryd.func52, Tryd.ntmps52
    go_wp2_with fail
    refine HS.out.mono ?_
    rintro e w1 ⟨rfl, hr, ho⟩
    have HR := hide hr
    have HO := hide ho
    have hs1 := ho.size
    clear hr ho
    go_wp2_with fail
    refine (HP.out w1 HR.out HO.out).mono ?_
    rintro e w2 ⟨rfl, ho2⟩
    have HO2 := hide (HO.out.trans ho2 (fun _ _ h => h))
    clear ho2
    go_wp2
    exact ⟨rfl, rfl, HO2.out⟩
  | ok p =>
    obtain ⟨n, r'⟩ := p
    unfold PE Ends at HP
    unfold thenP
    simp only at HP ⊢
    have HM2 := hide (fun (w : World) h => HM.out w r' h)
    clear HM
    generalize mustP E ⟨#[59]⟩ r' = q2 at *
    cases q2 with
    | error f =>
      unfold Ends at HM2
      unfold PE Ends
      simp only at HM2 ⊢
      go_enter Tryd.func52, Tryd.ntmps52
      go_wp2_with fail
      refine HS.out.mono ?_
      rintro e w1 ⟨rfl, hr, ho⟩
      have HR := hide hr
      have HO := hide ho
      have hs1 := ho.size
      clear hr ho
      go_wp2_with fail
      refine (HP.out w1 HR.out HO.out).mono ?_
      rintro e w2 ⟨v, rfl, hv, hr2, ho2⟩
      obtain ⟨uo, uc, rfl, hv⟩ : ∃ uo uc, v = .slice uo n.length uc ∧ VLO w1 n v w2 := by obtain ⟨uo, uc, e, h⟩ := hv; exact ⟨uo, uc, e, uo, uc, e, h⟩
      have HR2 := hide hr2
      have HO2 := hide (HO.out.trans ho2 (fun _ _ h => h))
      have HV := hide (hv.since hs1)
      clear hr2 ho2 hv
      go_wp2_with fail
      refine (HM2.out w2 HR2.out).mono ?_
      rintro e w3 ⟨rfl, ho3⟩
      have HO3 := hide (HO2.out.trans ho3 (fun _ _ h => h))
      clear ho3
      go_wp2
      exact ⟨rfl, rfl, HO3.out⟩
    | ok r2 =>
      unfold Ends at HM2
      unfold PE Ends
      simp only at HM2 ⊢
      go_enter Tryd.func52, Tryd.ntmps52
      go_wp2_with fail
      refine HS.out.mono ?_
      rintro e w1 ⟨rfl, hr, ho⟩
      have HR := hide hr
      have HO := hide ho
      have hs1 := ho.size
      clear hr ho
      go_wp2_with fail
      refine (HP.out w1 HR.out HO.out).mono ?_
      rintro e w2 ⟨v, rfl, hv, hr2, ho2⟩
      obtain ⟨uo, uc, rfl, hv⟩ : ∃ uo uc, v = .slice uo n.length uc ∧ VLO w1 n v w2 := by obtain ⟨uo, uc, e, h⟩ := hv; exact ⟨uo, uc, e, uo, uc, e, h⟩
      have HR2 := hide hr2
      have HO2 := hide (HO.out.trans ho2 (fun _ _ h => h))
      have HV := hide (hv.since hs1)
      clear hr2 ho2 hv
      go_wp2_with fail
      refine (HM2.out w2 HR2.out).mono ?_
      rintro e w3 ⟨rfl, hr3, ho3⟩
      have HR3 := hide hr3
      have HWR := hide ho3
      have HO3 := hide (HO2.out.trans ho3 (fun _ _ h => h))
      clear hr3 ho3
      go_wp2
      go_ret
      exact ⟨_, rfl, HV.out.moved HWR.out HRN.out, HR3.out, HO3.out⟩
end Go.Proofs.YtkpgfhapffijkaaDoor

/- Package jdl: the outcomes of an out; what stood already. -/
namespace Go.DsJd
open Go.DsLx
/-- the outcomes behind an out -/
def outsP (E : Int) (M : Nat) (ws : List Tk) : Except Fl (List (Int × (ByteArray × Int)) × List Tk) := listP E ⟨#[44]⟩ (twoP (choiceP E signsL) (refWP E)) M ws
end Go.DsJd
namespace Go.Proofs.YtkpgfhapffijkaaDoor
open Go.ChangeShapes Go.WideShapes Go.ChangeAt Go.RowKit Go.DsMem Go.DsLx Go.DsJd Go.DsMk
set_option linter.unusedVariables false
theorem cf_outcome : CF 55 := cf_of Tryd.func55 (by decide +kernel) (by kernel_rfl)
theorem cf_part1 : CF 53 := cf_of Tryd.func53 (by decide +kernel) (by kernel_rfl)
set_option maxHeartbeats 4000000 in
set_option maxRecDepth 20000 in
/-- the closure of part -/
theorem part1_any {w : World} {R : Nat} {E d : Int} {B N : Nat} {ws : List Tk} (h : Rdr w R E d B N ws) (M : Nat) (hM : M ≤ 100000) (p q : Nat) (h1 : w.cell? ⟨p, 0, none⟩ = some (.pointer (some ⟨R, 0, none⟩))) (h2 : w.cell? ⟨q, 0, none⟩ = some (.int .i64 M)) :
    Calls Tryd.prog 53 #[.pointer (some ⟨p, 0, none⟩), .pointer (some ⟨q, 0, none⟩)] w (PE R E d B N (outsP E M ws) VLO w) := by
  have HL := hide (listO h 55 #[.pointer (some ⟨R, 0, none⟩)] #[] (twoP (choiceP E signsL) (refWP E)) ⟨#[44]⟩ (by decide) M hM (fun _ => True) trivial (fun _ _ _ _ _ => ⟨trivial, trivial⟩) cf_outcome (fun w ws _ h => outcome_any h))
  unfold outsP
  clear h
  generalize listP E ⟨#[44]⟩ (twoP (choiceP E signsL) (refWP E)) M ws = qq at *
  cases qq with
  | error f =>
    unfold PE Ends at HL
    unfold PE Ends
    simp only at HL ⊢
    go_enter Tryd.func53, Tryd.ntmps53
    go_wp2_with fail
    refine HL.out.mono ?_
    rintro e w1 ⟨rfl, ho⟩
    have HO := hide ho
    clear ho
    go_wp2
    exact ⟨rfl, rfl, HO.out⟩
  | ok p =>
    obtain ⟨l, r⟩ := p
    unfold PE Ends at HL
    unfold PE Ends
    simp only at HL ⊢
    go_enter Tryd.func53, Tryd.ntmps53
    go_wp2_with fail
    refine HL.out.mono ?_
    rintro e w1 ⟨v, rfl, hv, hr, ho⟩
    have HV := hide hv
    have HR := hide hr
    have HO := hide ho
    clear hv hr ho
    go_wp2
    go_ret
    exact ⟨_, rfl, HV.out, HR.out, HO.out⟩
end Go.Proofs.YtkpgfhapffijkaaDoor

