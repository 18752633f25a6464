/- Package jdl: lists of outcomes (written by gen_jfc.py out of JdG). -/
import Derived.Test.YtkpgfhapffijkaaGreatDoorR18
import Derived.Maps.OwnSet
import Derived.Maps.Views
import Derived.DeepKeys4
import Derived.Carry
namespace Go.Proofs.YtkpgfhapffijkaaGreatDoor
open Go.ChangeShapes Go.WideShapes Go.ChangeAt Go.RowKit Go.DsMem Go.DsLx Go.DsJd Go.DsMk
set_option linter.unusedVariables false
/-- an outcome: its sign's place, its name, its day -/
abbrev Oc := Int × (ByteArray × Int)
def ocC (p : Oc) : List Value := [.bool (p.1 == 0), .string p.2.1, .int .i64 p.2.2]
theorem ocC_one (p : Oc) : ∀ u ∈ ocC p, u.oneCell' = true := by
  intro u hu
  simp only [ocC, List.mem_cons, List.not_mem_nil, or_false] at hu
  rcases hu with rfl | rfl | rfl <;> rfl
def ocRow (l : List Oc) : List Value := l.flatMap ocC
theorem ocRow_snoc (l : List Oc) (p : Oc) : ocRow (l ++ [p]) = ocRow l ++ ocC p := by simp [ocRow]
theorem infoOc : (Tryz.prog.info? 88).map (fun i => (i.zero, i.size, i.bytes)) = some (some (.agg #[.bool false, .string ⟨#[]⟩, .int .i64 0]), 3, 32) := by kernel_rfl
theorem own_sameK {w w' : World} {B : Nat} {e : TypeId} {k : Nat} {v : Value} {n : Nat} {xs : List Value} (h : w.ownsRow B e k v n xs) (hk : ∀ k, v.ownBlock = some k → w'.heap[k]? = w.heap[k]?) : w'.ownsRow B e k v n xs := by
  refine ⟨h.1, ?_⟩
  rcases h.2 with h0 | ⟨g, cap, cur, hv, hbg, hg, r⟩
  · exact .inl h0
  · exact .inr ⟨g, cap, cur, hv, hbg, by rw [hk g (by rw [hv]; rfl)]; exact hg, r⟩
theorem own_baseK {w : World} {B B' : Nat} {e : TypeId} {k : Nat} {v : Value} {n : Nat} {xs : List Value} (h : w.ownsRow B e k v n xs) (hB : B' ≤ B) : w.ownsRow B' e k v n xs := by
  refine ⟨h.1, ?_⟩
  rcases h.2 with h0 | ⟨g, cap, cur, hv, hb, r⟩
  · exact .inl h0
  · exact .inr ⟨g, cap, cur, hv, by omega, r⟩
/-- outcomes read so far -/
structure OlSt (w wr : World) (R : Nat) (acc : List Oc) (uo : Option Addr) (uc : Nat) : Prop where
  row : wr.ownsRow w.heap.size 88 3 (.slice uo acc.length uc) acc.length (ocRow acc)
  only : Only (· = R) w wr
theorem OlSt.moved {w wr w' : World} {R : Nat} {acc : List Oc} {uo : Option Addr} {uc : Nat} (h : OlSt w wr R acc uo uc) (ho : Only (· = R) wr w') (hR : R < w.heap.size) : OlSt w w' R acc uo uc := by
  have hlt := h.row.lt
  exact ⟨own_sameK h.row (fun k hk => ho.block k (hlt k hk).2 (by have := (hlt k hk).1; omega)), h.only.trans ho (fun _ _ e => e)⟩
theorem OlSt.step {w wr w1 w2 : World} {R : Nat} {acc : List Oc} {uo : Option Addr} {uc : Nat} {a : Oc} {g cap : Nat} (h : OlSt w wr R acc uo uc) (ho1 : Only (· = R) wr w1) (o : Obj)
    (hown : w2.ownsRow w.heap.size 88 3 (.slice (some ⟨g, 0, none⟩) (acc.length + 1) cap) (acc.length + 1) (ocRow acc ++ ocC a)) (hgr : (w1.alloc o).grownBy w2 (Value.slice uo acc.length uc).ownBlock) :
    OlSt w w2 R (acc ++ [a]) (some ⟨g, 0, none⟩) cap := by
  have hrow : ∀ k, (Value.slice uo acc.length uc).ownBlock = some k → w.heap.size ≤ k ∧ k < wr.heap.size := h.row.lt
  have hA : Only (fun k => (Value.slice uo acc.length uc).ownBlock = some k) w1 w2 := (Only.alloc _ w1 o).trans (Only.grown hgr) (fun i _ hi => hi)
  have hB : Only (fun k => k = R ∨ (Value.slice uo acc.length uc).ownBlock = some k) wr w2 := (ho1.mono (fun i _ e => .inl e)).trans hA (fun i _ e => .inr e)
  refine ⟨by rw [ocRow_snoc]; simpa using hown, h.only.trans hB (fun i hi e => ?_)⟩
  rcases e with e | e
  · exact e
  · have := (hrow _ e).1; omega
/-- outcomes of one's own -/
def VLO (w : World) (l : List Oc) (v : Value) (w' : World) : Prop := ∃ uo uc, v = .slice uo l.length uc ∧ w'.ownsRow w.heap.size 88 3 v l.length (ocRow l)
theorem OlSt.out {w wr : World} {R : Nat} {acc : List Oc} {uo : Option Addr} {uc : Nat} (h : OlSt w wr R acc uo uc) : VLO w acc (.slice uo acc.length uc) wr := ⟨uo, uc, rfl, h.row⟩
set_option maxHeartbeats 4000000 in
set_option maxRecDepth 20000 in
/-- jdl.list[jdl.Outcome] -/
theorem listO {w : World} {R : Nat} {E d : Int} {B N : Nat} {ws : List Tk} (h : Rdr w R E d B N ws) (K : Nat) (first cap : Array Value) (part : List Tk → Except Fl (Oc × List Tk)) (sep : ByteArray) (hsep : sep ≠ ⟨#[]⟩) (M : Nat) (hM : M ≤ 100000) (P : List Tk → Prop) (hP0 : P ws) (hPn : ∀ ws a r, P ws → part ws = .ok (a, r) → P r ∧ P r.tail)
    (hcf : CF K) (hp : ∀ w ws, P ws → Rdr w R E d B N ws → Calls Tryz.prog K (first ++ cap) w (PE R E d B N (part ws) VOut w)) :
    Calls Tryz.prog 165 #[.pointer (some ⟨R, 0, none⟩), .string sep, .int .i64 M, .func (.func K) first cap] w (PE R E d B N (listP E sep part M ws) VLO w) := by
  have HP := hide hp
  have hcf' := hcf (first ++ cap)
  have HPN := hide hPn
  have HP0 := hide hP0
  obtain ⟨hN1, hN2⟩ := h.n
  have HR0 := hide h
  obtain ⟨Q, hQ⟩ : ∃ Q, listP E sep part M ws = Q := ⟨_, rfl⟩
  have HQ : Hid (accP [] (listP E sep part M ws) = Q) := by
    refine hide ?_
    rw [← hQ]
    cases listP E sep part M ws with
    | error f => rfl
    | ok p => rfl
  rw [hQ]
  clear h hp hcf hPn hP0 hQ
  obtain ⟨i0, hi0, hz0, hz1, hz2⟩ := info_parts infoOc
  go_enter Tryz.func165, Tryz.ntmps165
  go_wp2_with fail
  go_loopw [9] (fun tl wr => ∃ (acc : List Oc) (uo : Option Addr) (uc : Nat) (us : List Tk), acc.length ≤ M ∧ tl = .slice uo acc.length uc ∧ P us ∧ OlSt w wr R acc uo uc ∧ Rdr wr R E d B N us ∧ accP acc (listP E sep part (M - acc.length) us) = Q) (fun tl _ => M - slLen tl)
  case atStart => exact ⟨[], none, 0, ws, Nat.zero_le _, rfl, HP0.out, ⟨World.ownsRow_nil _ _ _ _, Only.refl _ _⟩, HR0.out, HQ.out⟩
  case round =>
    obtain ⟨acc, uo, uc, us, hal, rfl, hPu, hst, hrd, hq⟩ := hrel
    have HST := hide hst
    have HRD := hide hrd
    have ho := hst.only
    have HO := hide ho
    have HQ2 := hide hq
    have HPU := hide hPu
    have hws := ho.size
    clear hst hrd ho hq hPu
    have HRM := hide (room_any HRD.out acc.length M)
    by_cases hfull : M ≤ acc.length
    · have e : roomP E us acc.length M = .error (atF E us, 4) := by unfold roomP; rw [if_pos (by omega)]
      have hQe : Q = .error (atF E us, 4) := by
        rw [← HQ2.out, show M - acc.length = 0 by omega]; exact acc_full E sep part acc us
      have HQE := hide hQe
      rw [e] at HRM
      unfold Ends at HRM
      clear e hQe
      go_wp2_with fail
      refine HRM.out.mono ?_
      rintro e w1 ⟨rfl, ho1⟩
      have HO1 := hide (HO.out.trans ho1 (fun _ _ h => h))
      clear ho1
      go_wp2
      refine ⟨rfl, ?_⟩
      rw [HQE.out]
      exact ⟨rfl, HO1.out⟩
    · have e : roomP E us acc.length M = .ok () := by unfold roomP; rw [if_neg (by omega)]
      rw [e] at HRM
      unfold Ends at HRM
      clear e
      obtain ⟨n, hn⟩ : ∃ n, M - acc.length = n + 1 := ⟨M - acc.length - 1, by omega⟩
      rw [hn] at HQ2
      have HPP := hide (fun w h => HP.out w us HPU.out h)
      have HPX := hide (fun a r => HPN.out us a r HPU.out)
      obtain ⟨q, hq⟩ : ∃ q, part us = q := ⟨_, rfl⟩
      rw [hq] at HPP HPX
      cases q with
      | error f =>
        have HQE : Hid (Q = .error f) := by refine hide ?_; rw [← HQ2.out]; exact acc_bad acc n hq
        unfold PE Ends at HPP
        simp only at HPP
        clear hq
        go_wp2_with fail
        refine HRM.out.mono ?_
        rintro e w1 ⟨rfl, rfl⟩
        go_wp2_with fail
        refine (HPP.out w1 HRD.out).mono ?_
        rintro e w2 ⟨rfl, ho2⟩
        have HO2 := hide (HO.out.trans ho2 (fun _ _ h => h))
        clear ho2
        go_wp2
        refine ⟨rfl, ?_⟩
        rw [HQE.out]
        exact ⟨rfl, HO2.out⟩
      | ok p =>
        obtain ⟨a, r⟩ := p
        obtain ⟨hp1, hp2⟩ := HPX.out a r rfl
        have HP1 := hide hp1
        have HP2 := hide hp2
        unfold PE Ends at HPP
        simp only at HPP
        have HEND : Hid (¬ textF r = sep → Q = .ok (acc ++ [a], r)) := fun hs => by rw [← HQ2.out]; exact acc_end acc n hq hs
        have HMORE : Hid (textF r = sep → accP (acc ++ [a]) (listP E sep part n r.tail) = Q) := fun hs => by rw [← HQ2.out]; exact (acc_more acc n hq hs).symm
        clear hq hp1 hp2 HPX
        go_wp2_with fail
        refine HRM.out.mono ?_
        rintro e w1 ⟨rfl, rfl⟩
        go_wp2_with fail
        refine (HPP.out w1 HRD.out).mono ?_
        rintro e w2 ⟨v, rfl, hv, hr2, ho2⟩
        unfold VOut at hv
        subst hv
        have HR2 := hide hr2
        have hs2 := ho2.size
        have hlt2 : ∀ k, (Value.slice uo acc.length uc).ownBlock = some k → w.heap.size ≤ k ∧ k < w1.heap.size := HST.out.row.lt
        have HSTEP : Hid (∀ (w3 : World) (g cap : Nat) (ob : Obj), w3.ownsRow w.heap.size 88 3 (.slice (some ⟨g, 0, none⟩) (acc.length + 1) cap) (acc.length + 1) (ocRow acc ++ ocC a) → (w2.alloc ob).grownBy w3 (Value.slice uo acc.length uc).ownBlock →
            OlSt w w3 R (acc ++ [a]) (some ⟨g, 0, none⟩) cap) := fun w3 g cap ob h1 h2 => HST.out.step ho2 ob h1 h2
        have HROW : Hid (∀ ob, (w2.alloc ob).ownsRow w.heap.size 88 3 (.slice uo acc.length uc) acc.length (ocRow acc)) := fun ob =>
          own_sameK HST.out.row (fun k hk => by
            have := hlt2 k hk
            rw [((Below.refl w2.heap.size w2).alloc (Nat.le_refl _) ob).block k (by omega)]
            exact ho2.block k this.2 (by omega))
        have HO2 := hide (HO.out.trans ho2 (fun _ _ h => h))
        clear hr2 ho2
        go_wp2_with (at_builtin; refine Hid.out ?_)
        refine hide ?_
        refine wpList_append_lies _ rfl _ _ 53 rfl w.heap.size 88 i0 _ 3 32 Tryz.underlying53 hi0 hz0 hz1 hz2 rfl (by decide) _ acc.length _ rfl (HROW.out _) ⟨w2.heap.size, 0, none⟩ 1 1 (ocC a) rfl rfl (World.news_of_block (cs := (ocC a).toArray) (t := 88) (fr := (0, 0)) (heap_alloc_new w2 _)) (ocC_one a) (by omega) (by unfold maxLen; omega) (by omega) (by simp; omega) (w2.heap.size + 1) (by simp) ?_
        intro g cap w3 hown3 hgr hat3 _
        have HST3 := hide (HSTEP.out w3 g cap _ hown3 hgr)
        have hl1 : (acc ++ [a]).length = acc.length + 1 := by simp
        have HR3 : Hid (Rdr w3 R E d B N r) := by
          refine hide ((HR2.out.below ((Below.refl _ _).alloc (Nat.le_refl _) _)).only ((Only.grown hgr).toBelow (by simp; omega) (fun i e => by have := (hlt2 i e).1; omega)))
        have HO3 : Hid (Only (· = R) w w3) := HST3.out.only
        clear hown3 hgr hat3 hlt2 HR2 HSTEP HROW
        by_cases hs : textF r = sep
        · have HM2 := hide (HMORE.out hs)
          cases r with
          | nil => exact absurd hs.symm hsep
          | cons t r' =>
            simp only [textF] at hs
            have HTK := hide (take_yes HR3.out)
            rw [hs] at HTK
            simp only [List.tail_cons] at HM2 HP2
            go_wp2_with fail
            refine HTK.out.mono ?_
            rintro e w4 ⟨rfl, hr4, ho4⟩
            have HR4 := hide hr4
            have HO4 := hide (HO3.out.trans ho4 (fun _ _ h => h))
            have HST4 := hide (HST3.out.moved ho4 (by omega))
            clear hr4 ho4
            go_wp2
            go_roundw
            case rel => exact ⟨acc ++ [a], some ⟨g, 0, none⟩, cap, r', by simp; omega, by rw [hl1], HP2.out, HST4.out, HR4.out, by rw [show M - (acc ++ [a]).length = n by simp; omega]; exact HM2.out⟩
            case measure => simp [slLen]; omega
        · have HE2 := hide (HEND.out hs)
          have HTK := hide (take_no HR3.out hs)
          go_wp2_with fail
          refine HTK.out.mono ?_
          rintro e w4 ⟨rfl, rfl⟩
          go_wp2
          go_ret
          rw [HE2.out]
          have h5 := HST3.out.out
          rw [hl1] at h5
          exact ⟨_, rfl, h5, HR3.out, HO3.out⟩
end Go.Proofs.YtkpgfhapffijkaaGreatDoor

/- Package jdl: what stands between a first word and its end, at lists of outcomes (out of JdC). -/
namespace Go.Proofs.YtkpgfhapffijkaaGreatDoor
open Go.ChangeShapes Go.WideShapes Go.ChangeAt Go.RowKit Go.DsMem Go.DsLx Go.DsJd Go.DsMk
set_option linter.unusedVariables false
theorem VLO.since {w0 w w1 : World} {l : List Oc} {v : Value} (h : VLO w l v w1) (hs : w0.heap.size ≤ w.heap.size) : VLO w0 l v w1 := by
  obtain ⟨uo, uc, e, h⟩ := h
  exact ⟨uo, uc, e, own_baseK h hs⟩
theorem VLO.moved {w w1 w2 : World} {R : Nat} {l : List Oc} {v : Value} (h : VLO w l v w1) (ho : Only (· = R) w1 w2) (hR : R < w.heap.size) : VLO w l v w2 := by
  obtain ⟨uo, uc, e, h⟩ := h
  exact ⟨uo, uc, e, own_sameK h (fun k hk => ho.block k (h.lt k hk).2 (by have := (h.lt k hk).1; omega))⟩
set_option maxHeartbeats 1000000 in
set_option maxRecDepth 20000 in
/-- jdl.said[[]jdl.Outcome] -/
theorem saidO {w : World} {R : Nat} {E d : Int} {B N : Nat} {t : Tk} {r : List Tk} (h : Rdr w R E d B N (t :: r)) (K : Nat) (first cap : Array Value) (part : List Tk → Except Fl (List Oc × List Tk))
    (hcf : CF K) (hp : ∀ w1, Rdr w1 R E d B N r → Only (· = R) w w1 → Calls Tryz.prog K (first ++ cap) w1 (PE R E d B N (part r) VLO w1)) :
    Calls Tryz.prog 163 #[.pointer (some ⟨R, 0, none⟩), .func (.func K) first cap] w (PE R E d B N (thenP E ⟨#[59]⟩ (part r)) VLO w) := by
  have HRN : Hid (R < w.heap.size) := h.lt
  have HS := hide (skip_any h)
  have HP := hide hp
  have hcf' := hcf (first ++ cap)
  have HM := hide (fun (w : World) (r : List Tk) (h : Rdr w R E d B N r) => must_any ⟨#[59]⟩ h (by decide))
  clear h hp hcf
  generalize part r = q at *
  cases q with
  | error f =>
    unfold PE Ends at HP
    unfold PE Ends thenP
    simp only at HP ⊢
    go_enter Tryz.func163, Tryz.ntmps163
    go_wp2_with fail
    refine HS.out.mono ?_
    rintro e w1 ⟨rfl, hr, ho⟩
    have HR := hide hr
    have HO := hide ho
    have hs1 := ho.size
    clear hr ho
    go_wp2_with fail
    refine (HP.out w1 HR.out HO.out).mono ?_
    rintro e w2 ⟨rfl, ho2⟩
    have HO2 := hide (HO.out.trans ho2 (fun _ _ h => h))
    clear ho2
    go_wp2
    exact ⟨rfl, rfl, HO2.out⟩
  | ok p =>
    obtain ⟨n, r'⟩ := p
    unfold PE Ends at HP
    unfold thenP
    simp only at HP ⊢
    have HM2 := hide (fun (w : World) h => HM.out w r' h)
    clear HM
    generalize mustP E ⟨#[59]⟩ r' = q2 at *
    cases q2 with
    | error f =>
      unfold Ends at HM2
      unfold PE Ends
      simp only at HM2 ⊢
      go_enter Tryz.func163, Tryz.ntmps163
      go_wp2_with fail
      refine HS.out.mono ?_
      rintro e w1 ⟨rfl, hr, ho⟩
      have HR := hide hr
      have HO := hide ho
      have hs1 := ho.size
      clear hr ho
      go_wp2_with fail
      refine (HP.out w1 HR.out HO.out).mono ?_
      rintro e w2 ⟨v, rfl, hv, hr2, ho2⟩
      obtain ⟨uo, uc, rfl, hv⟩ : ∃ uo uc, v = .slice uo n.length uc ∧ VLO w1 n v w2 := by obtain ⟨uo, uc, e, h⟩ := hv; exact ⟨uo, uc, e, uo, uc, e, h⟩
      have HR2 := hide hr2
      have HO2 := hide (HO.out.trans ho2 (fun _ _ h => h))
      have HV := hide (hv.since hs1)
      clear hr2 ho2 hv
      go_wp2_with fail
      refine (HM2.out w2 HR2.out).mono ?_
      rintro e w3 ⟨rfl, ho3⟩
      have HO3 := hide (HO2.out.trans ho3 (fun _ _ h => h))
      clear ho3
      go_wp2
      exact ⟨rfl, rfl, HO3.out⟩
    | ok r2 =>
      unfold Ends at HM2
      unfold PE Ends
      simp only at HM2 ⊢
      go_enter Tryz.func163, Tryz.ntmps163
      go_wp2_with fail
      refine HS.out.mono ?_
      rintro e w1 ⟨rfl, hr, ho⟩
      have HR := hide hr
      have HO := hide ho
      have hs1 := ho.size
      clear hr ho
      go_wp2_with fail
      refine (HP.out w1 HR.out HO.out).mono ?_
      rintro e w2 ⟨v, rfl, hv, hr2, ho2⟩
      obtain ⟨uo, uc, rfl, hv⟩ : ∃ uo uc, v = .slice uo n.length uc ∧ VLO w1 n v w2 := by obtain ⟨uo, uc, e, h⟩ := hv; exact ⟨uo, uc, e, uo, uc, e, h⟩
      have HR2 := hide hr2
      have HO2 := hide (HO.out.trans ho2 (fun _ _ h => h))
      have HV := hide (hv.since hs1)
      clear hr2 ho2 hv
      go_wp2_with fail
      refine (HM2.out w2 HR2.out).mono ?_
      rintro e w3 ⟨rfl, hr3, ho3⟩
      have HR3 := hide hr3
      have HWR := hide ho3
      have HO3 := hide (HO2.out.trans ho3 (fun _ _ h => h))
      clear hr3 ho3
      go_wp2
      go_ret
      exact ⟨_, rfl, HV.out.moved HWR.out HRN.out, HR3.out, HO3.out⟩
end Go.Proofs.YtkpgfhapffijkaaGreatDoor

/- Package jdl: the outcomes of an out; what stood already. -/
namespace Go.DsJd
open Go.DsLx
/-- the outcomes behind an out -/
def outsP (E : Int) (M : Nat) (ws : List Tk) : Except Fl (List (Int × (ByteArray × Int)) × List Tk) := listP E ⟨#[44]⟩ (twoP (choiceP E signsL) (refWP E)) M ws
end Go.DsJd
namespace Go.Proofs.YtkpgfhapffijkaaGreatDoor
open Go.ChangeShapes Go.WideShapes Go.ChangeAt Go.RowKit Go.DsMem Go.DsLx Go.DsJd Go.DsMk
set_option linter.unusedVariables false
theorem cf_outcome : CF 166 := cf_of Tryz.func166 (by decide +kernel) (by kernel_rfl)
theorem cf_part1 : CF 164 := cf_of Tryz.func164 (by decide +kernel) (by kernel_rfl)
set_option maxHeartbeats 4000000 in
set_option maxRecDepth 20000 in
/-- the closure of part -/
theorem part1_any {w : World} {R : Nat} {E d : Int} {B N : Nat} {ws : List Tk} (h : Rdr w R E d B N ws) (M : Nat) (hM : M ≤ 100000) (p q : Nat) (h1 : w.cell? ⟨p, 0, none⟩ = some (.pointer (some ⟨R, 0, none⟩))) (h2 : w.cell? ⟨q, 0, none⟩ = some (.int .i64 M)) :
    Calls Tryz.prog 164 #[.pointer (some ⟨p, 0, none⟩), .pointer (some ⟨q, 0, none⟩)] w (PE R E d B N (outsP E M ws) VLO w) := by
  have HL := hide (listO h 166 #[.pointer (some ⟨R, 0, none⟩)] #[] (twoP (choiceP E signsL) (refWP E)) ⟨#[44]⟩ (by decide) M hM (fun _ => True) trivial (fun _ _ _ _ _ => ⟨trivial, trivial⟩) cf_outcome (fun w ws _ h => outcome_any h))
  unfold outsP
  clear h
  generalize listP E ⟨#[44]⟩ (twoP (choiceP E signsL) (refWP E)) M ws = qq at *
  cases qq with
  | error f =>
    unfold PE Ends at HL
    unfold PE Ends
    simp only at HL ⊢
    go_enter Tryz.func164, Tryz.ntmps164
    go_wp2_with fail
    refine HL.out.mono ?_
    rintro e w1 ⟨rfl, ho⟩
    have HO := hide ho
    clear ho
    go_wp2
    exact ⟨rfl, rfl, HO.out⟩
  | ok p =>
    obtain ⟨l, r⟩ := p
    unfold PE Ends at HL
    unfold PE Ends
    simp only at HL ⊢
    go_enter Tryz.func164, Tryz.ntmps164
    go_wp2_with fail
    refine HL.out.mono ?_
    rintro e w1 ⟨v, rfl, hv, hr, ho⟩
    have HV := hide hv
    have HR := hide hr
    have HO := hide ho
    clear hv hr ho
    go_wp2
    go_ret
    exact ⟨_, rfl, HV.out, HR.out, HO.out⟩
end Go.Proofs.YtkpgfhapffijkaaGreatDoor

/- Package jdl: what may stand once. -/
namespace Go.Proofs.YtkpgfhapffijkaaGreatDoor
open Go.ChangeShapes Go.WideShapes Go.ChangeAt Go.RowKit Go.DsMem Go.DsLx Go.DsJd Go.DsMk
set_option linter.unusedVariables false
theorem laidOutS : laidOutB Tryz.prog = true := by kernel_rfl
theorem sdRow : 231 < Tryz.prog.types.size := of_decide_eq_true (by kernel_rfl)
theorem sdLaw : Maps.Keyed Tryz.prog 231 := Maps.Keyed.of_law (deep_law_laid laidOutS (m := 4) (by decide) sdRow (by kernel_rfl) (by kernel_rfl))
theorem sdType : Tryz.prog.keyType 231 = true := by kernel_rfl
theorem sdCells : Tryz.prog.cellsOf 231 = 2 := by kernel_rfl
theorem sdStr1 : Tryz.prog.cellsOf 9 = 1 := by kernel_rfl
theorem sdInt1 : Tryz.prog.cellsOf 3 = 1 := by kernel_rfl
theorem sdZero (w : World) : (zeroValue 232).run Tryz.prog w = .ok (.agg #[]) w := by kernel_rfl
def sdV (p : Int × ByteArray) : Value := .agg #[.int .i64 p.1, .string p.2]
def fitS (p : Int × ByteArray) : Prop := p.2.size ≤ 140737488355000 ∧ -9223372036854775808 ≤ p.1 ∧ p.1 ≤ 9223372036854775807
theorem sd_key (p : Int × ByteArray) (h : fitS p) : ∃ kl, keyOf Tryz.prog 231 (sdV p) = some kl := by
  obtain ⟨h0, h1, h2⟩ := h
  have w1 : (Lit.int .i64 p.1).wf = true := WalkArith.wf_i64 ⟨h1, h2⟩
  have w2 : p.2.size ≤ maxLen := by unfold maxLen; omega
  unfold keyOf sdV
  rw [Tryz.underlying231]
  simp only
  rw [if_pos (by rw [sdType]; simp [Value.formed, Tryz.underlying231, sdCells])]
  have hsz : ∃ m, Tryz.prog.types.size = m + 1 := ⟨Tryz.prog.types.size - 1, by have := sdRow; omega⟩
  obtain ⟨m, hm⟩ := hsz
  rw [hm]
  unfold Program.keyLits
  rw [Tryz.underlying231]
  simp [Value.cells, sdCells, Program.keyLits, Tryz.underlying9, Tryz.underlying3, sdStr1, sdInt1, w1, w2]
theorem sdV_inj {p q : Int × ByteArray} (h : sdV p = sdV q) : p = q := by
  unfold sdV at h
  simp at h
  exact Prod.ext h.1 h.2
theorem sd_keys {p q : Int × ByteArray} {kl : Lit} (h : keyOf Tryz.prog 231 (sdV p) = some kl) (h' : keyOf Tryz.prog 231 (sdV q) = some kl) : p = q := sdV_inj (sdLaw.inj h h')
/-- the map in block B holds just what stood -/
def StM (w : World) (B : Nat) (S : List (Int × ByteArray)) : Prop :=
  ∃ D : DataW Unit, w.ownsMap Tryz.prog 231 unitElem B S.length D ∧ ∀ p kl, keyOf Tryz.prog 231 (sdV p) = some kl → (Maps.has D kl = true ↔ p ∈ S)
theorem StM.same {w w' : World} {B : Nat} {S : List (Int × ByteArray)} (h : StM w B S) (hb : w'.heap[B]? = w.heap[B]?) : StM w' B S := by
  obtain ⟨D, ⟨es, clock, h1, h2⟩, h3⟩ := h
  exact ⟨D, ⟨es, clock, by rw [hb]; exact h1, h2⟩, h3⟩
theorem StM.map {w : World} {B : Nat} {S : List (Int × ByteArray)} (h : StM w B S) : ∃ es clock, w.heap[B]? = some (.map es clock) := by
  obtain ⟨D, ⟨es, clock, h1, h2⟩, h3⟩ := h
  exact ⟨es, clock, h1⟩
theorem StM.lt {w : World} {B : Nat} {S : List (Int × ByteArray)} (h : StM w B S) : B < w.heap.size := by
  obtain ⟨es, clock, h1⟩ := h.map
  exact block_lt h1
theorem StM.below {w w' : World} {B : Nat} {S : List (Int × ByteArray)} (h : StM w B S) (hb : Below w.heap.size w w') : StM w' B S := h.same (hb.block B h.lt)
theorem StM.only {T : Nat → Prop} {w w' : World} {B : Nat} {S : List (Int × ByteArray)} (h : StM w B S) (ho : Only T w w') (hs : ¬ T B) : StM w' B S := h.same (ho.block B h.lt hs)
theorem StM.drew {w : World} {B : Nat} {S : List (Int × ByteArray)} (h : StM w B S) : StM w.drew B S := h
theorem StM.made (w : World) : StM (w.alloc (.map #[] 0)) w.heap.size [] :=
  ⟨.map [], World.ownsMap_made (H := Unit) w Tryz.prog 231 unitElem, fun p kl _ => by simp [Maps.has]⟩
theorem StM.look {w : World} {B : Nat} {S : List (Int × ByteArray)} {p : Int × ByteArray} (h : StM w B S) (hp : fitS p) {b : Bool} (hb : b = true ↔ p ∈ S) : (Instr.lookup 133 (.map (some B)) (sdV p) true).run Tryz.prog w = .ok (.tuple #[.agg #[], .bool b]) w := by
  obtain ⟨D, h1, h3⟩ := h
  obtain ⟨kl, hkl⟩ := sd_key p hp
  obtain ⟨v, ps, hr, hv⟩ := h1.look_ok sdLaw Tryz.underlying133 (sdZero _) unitElem_mk hkl
  obtain ⟨rfl, _⟩ := unitElem_inv hv
  rw [hr]
  have : Maps.has D kl = b := by
    have := h3 p kl hkl
    cases b <;> simp_all
  rw [this]
/-- the world behind m[p] = {} -/
noncomputable def stW (B : Nat) (p : Int × ByteArray) (w : World) : World :=
  match (Instr.mapUpdate 133 (.map (some B)) (sdV p) (.agg #[])).run Tryz.prog w with
  | .ok _ w' => w'
  | _ => w
theorem StM.put {w : World} {B : Nat} {S : List (Int × ByteArray)} {p : Int × ByteArray} (h : StM w B S) (hp : fitS p) (hl : S.length ≤ 100000) :
    (Instr.mapUpdate 133 (.map (some B)) (sdV p) (.agg #[])).run Tryz.prog w = .ok () (stW B p w) ∧ StM (stW B p w) B (p :: S) ∧ Only (· = B) w (stW B p w) := by
  obtain ⟨D, h1, h3⟩ := h
  obtain ⟨kl, hkl⟩ := sd_key p hp
  obtain ⟨w', hrun, hown, hturn⟩ := h1.store sdLaw Tryz.underlying133 (by unfold maxLen; omega) hkl unitElem_mk
  have e : stW B p w = w' := by unfold stW; rw [hrun]
  rw [e]
  refine ⟨hrun, ⟨_, by simpa using hown, fun d kd hkd => ?_⟩, ?_⟩
  · rw [List.mem_cons]
    by_cases e2 : kd = kl
    · subst e2
      obtain rfl := sd_keys hkd hkl
      simp [Maps.has_put_same h1.isMap (sdLaw.key hkl)]
    · rw [Maps.has_put_other e2, h3 d kd hkd]
      constructor
      · exact .inr
      · rintro (rfl | h)
        · exact absurd (Option.some.inj (hkd.symm.trans hkl)) e2
        · exact h
  · obtain ⟨es, clock, es', clock', hb, rfl⟩ := hturn
    refine ⟨rfl, rfl, rfl, by simp [ChangeMaps.setBlock], fun i hi hne => ?_⟩
    simp only [ChangeMaps.setBlock, Array.getElem?_setIfInBounds]
    rw [if_neg (fun e => hne e.symm)]
/-- the reader stands while the map alone turns -/
theorem Rdr.turn {w w' : World} {R : Nat} {E d : Int} {B N : Nat} {ws : List Tk} (h : Rdr w R E d B N ws) (hm : ∃ es clock, w.heap[B]? = some (.map es clock)) (ho : Only (· = B) w w') : Rdr w' R E d B N ws := by
  obtain ⟨es, clock, hm⟩ := hm
  obtain ⟨uo, uc, o, h1, h2, h3, h4, h5, h6, h7, h8, h9⟩ := h
  have cellNe : ∀ a u, w.cell? a = some u → ¬ a.block = B := fun a u hc e => by
    simp only [World.cell?, e, hm] at hc
    first
    | (cases hc; done)
    | (simp at hc; done)
    | (split at hc <;> simp at hc)
  have hR : ¬ R = B := fun e => by rw [e, hm] at h1; cases h1
  refine ⟨uo, uc, o, (ho.block R (block_lt h1) hR).trans h1, h2.keep ho.size (fun a u _ hc => ho.cell hc (cellNe a u hc)), h3, h4, h5, Nat.le_trans h6 ho.size, ⟨⟨Nat.lt_of_lt_of_le h7.1 ho.size, fun m m1 m2 => ho.cell (h7.2 m m1 m2) (cellNe _ _ (h7.2 m m1 m2))⟩, h8, h9⟩⟩
/-- what once does -/
def Onced (w : World) (R : Nat) (E d : Int) (B N : Nat) (ws : List Tk) (S : List (Int × ByteArray)) (k : Int) : Ending → World → Prop := fun e w' =>
  ((k, textF ws) ∈ S ∧ e = .panicked [{ v := flV (atF E ws, 22), recovered := false }] ∧ Only (fun i => i = R ∨ i = B) w w') ∨
  ((k, textF ws) ∉ S ∧ e = .returned (.tuple #[]) ∧ StM w' B ((k, textF ws) :: S) ∧ Rdr w' R E d B N ws ∧ Only (fun i => i = R ∨ i = B) w w')
set_option maxHeartbeats 8000000 in
set_option maxRecDepth 20000 in
/-- (*jdl.reader).once -/
theorem once_any {w : World} {R : Nat} {E d : Int} {B N : Nat} {ws : List Tk} (h : Rdr w R E d B N ws) (S : List (Int × ByteArray)) (hs : StM w B S) (k : Int) (hf : fitS (k, textF ws)) (hS : S.length ≤ 100000) :
    Calls Tryz.prog 96 #[.pointer (some ⟨R, 0, none⟩), .int .i64 k] w (Onced w R E d B N ws S k) := by
  obtain ⟨es, clock, hmap⟩ := hs.map
  have HT := hide (text_any h)
  have HR := hide h
  have HSM := hide hs
  have HFT := hide hf
  obtain ⟨uo, uc, o, h1, _⟩ := h
  have hR : ¬ R = B := fun e => by rw [e, hmap] at h1; cases h1
  have c3 : w.cell? ⟨R, 3, none⟩ = some (.map (some B)) := by rw [cell_of h1]; rfl
  have hRl : R < w.heap.size := block_lt h1
  have hBl : B < w.heap.size := block_lt hmap
  generalize hx : textF ws = x at *
  have HX := hide hx
  have BX0 : (w.alloc (.cells #[.int .i64 k, .string x] 231)).cell? ⟨w.heap.size, 0, none⟩ = some (.int .i64 k) := by rw [World.cell?_alloc_mark]; rfl
  have BX1 : (w.alloc (.cells #[.int .i64 k, .string x] 231)).cell? ⟨w.heap.size, 1, none⟩ = some (.string x) := by rw [World.cell?_alloc_mark]; rfl
  obtain ⟨w1, hw1⟩ : ∃ w1, w1 = w.alloc (.cells #[.int .i64 k, .string x] 231) := ⟨_, rfl⟩
  have HB1 : Hid (Below w.heap.size w w1) := by rw [hw1]; exact (Below.refl _ _).alloc (Nat.le_refl _) _
  rw [← hw1] at BX0 BX1
  have d3 : w1.cell? ⟨R, 3, none⟩ = some (.map (some B)) := Below.keeps HB1.out (Nat.le_refl _) c3
  have hs1 : w1.heap.size = w.heap.size + 1 := by rw [hw1]; simp
  have HR1 := hide (HR.out.below HB1.out)
  have HSM1 := hide (HSM.out.below HB1.out)
  clear h1 hs hf hmap c3 hx
  by_cases hin : (k, x) ∈ S
  · have hlk : ∀ w', StM w' B S → (Instr.lookup 133 (.map (some B)) (.agg #[.int .i64 k, .string x]) true).run Tryz.prog w' = .ok (.tuple #[.agg #[], .bool true]) w' := fun w' h' => h'.look HFT.out (by simp [hin])
    have s2 : StM (w1.alloc (.cells #[] 232)).drew B S := show StM (w1.alloc (.cells #[] 232)) B S from HSM1.out.below ((Below.refl _ _).alloc (Nat.le_refl _) _)
    have s1 : StM w1.drew B S := HSM1.out
    have hrl : R < w1.heap.size := by omega
    have HRX : Hid (Rdr (w1.alloc (.cells #[] 232)).drew R E d B N ws) := Rdr.drew (show Rdr (w1.alloc (.cells #[] 232)) R E d B N ws from HR1.out.below ((Below.refl _ _).alloc (Nat.le_refl _) _))
    have HF := hide (fault_any HRX.out 22)
    have HOO : Hid (Only (fun i => i = R ∨ i = B) w (w1.alloc (.cells #[] 232)).drew) := ((Only.below HB1.out).trans (Only.alloc _ _ _) (fun _ _ h => h)).drew
    have HIN := hide hin
    go_enter Tryz.func96, Tryz.ntmps96
    go_wp2_with fail
    refine HT.out.mono ?_
    rintro e w' ⟨rfl, rfl⟩
    go_wp2_with fail
    rw [← hw1]
    clear hw1
    go_region
    all_goals
      go_wp2_with fail
      refine HF.out.mono ?_
      rintro e w3 ⟨rfl, hb⟩
      have HO3 := hide (HOO.out.trans (Only.below hb) (fun _ _ h => h))
      clear hb
      go_wp2
      refine ⟨rfl, ?_⟩
      unfold Onced
      rw [HX.out]
      exact Or.inl ⟨HIN.out, rfl, HO3.out⟩
  · have hlk : ∀ w', StM w' B S → (Instr.lookup 133 (.map (some B)) (.agg #[.int .i64 k, .string x]) true).run Tryz.prog w' = .ok (.tuple #[.agg #[], .bool false]) w' := fun w' h' => h'.look HFT.out (by simp [hin])
    have s2 : StM (w1.alloc (.cells #[] 232)).drew B S := show StM (w1.alloc (.cells #[] 232)) B S from HSM1.out.below ((Below.refl _ _).alloc (Nat.le_refl _) _)
    have s1 : StM w1.drew B S := HSM1.out
    have hrl : R < w1.heap.size := by omega
    have HIN := hide hin
    obtain ⟨w2, hw2⟩ : ∃ w2, w2 = (w1.alloc (.cells #[] 232)).drew := ⟨_, rfl⟩
    have HO2 : Hid (Only (fun i => i = R ∨ i = B) w w2) := by rw [hw2]; exact ((Only.below HB1.out).trans (Only.alloc _ _ _) (fun _ _ h => h)).drew
    have HR2 : Hid (Rdr w2 R E d B N ws) := by rw [hw2]; exact Rdr.drew (show Rdr (w1.alloc (.cells #[] 232)) R E d B N ws from HR1.out.below ((Below.refl _ _).alloc (Nat.le_refl _) _))
    have s2b := s2
    rw [← hw2] at s2b
    have hb12 : Below w1.heap.size w1 w2 := by rw [hw2]; exact ((Below.refl _ _).alloc (Nat.le_refl _) _).drew
    have e3 : w2.cell? ⟨R, 3, none⟩ = some (.map (some B)) := Below.keeps hb12 (Nat.le_refl _) d3
    have e0 : w2.cell? ⟨w.heap.size, 0, none⟩ = some (.int .i64 k) := Below.keeps hb12 (Nat.le_refl _) BX0
    have e1 : w2.cell? ⟨w.heap.size, 1, none⟩ = some (.string x) := Below.keeps hb12 (Nat.le_refl _) BX1
    clear hb12
    have HMP := hide s2b.drew.map
    obtain ⟨hrun, hsto, honly⟩ := StM.put (StM.drew s2b) HFT.out hS
    have HSTO := hide hsto
    have HONL := hide honly
    clear hsto honly
    unfold sdV at hrun
    simp only at hrun
    go_enter Tryz.func96, Tryz.ntmps96
    go_wp2_with fail
    refine HT.out.mono ?_
    rintro e w' ⟨rfl, rfl⟩
    go_wp2_with fail
    rw [← hw1]
    clear hw1
    go_region
    all_goals
      go_wp2_with fail
      rw [← hw2]
      clear hw2
      go_region
    all_goals
      go_wp2
      refine bodyPost_ret (v := .tuple #[]) (by kernel_rfl) rfl ?_
      unfold Onced
      rw [HX.out]
      exact .inr ⟨HIN.out, rfl, HSTO.out, (HR2.out.drew).turn HMP.out HONL.out, (HO2.out.drew).trans HONL.out (fun _ _ h => .inr h)⟩
end Go.Proofs.YtkpgfhapffijkaaGreatDoor

/- Package jdl: a job while it is read; what is said of it. -/
namespace Go.DsJd
open Go.DsLx Go.DsMk
/-- a need: its name, its units, its mode -/
abbrev Nv := ByteArray × (Int × Int)
end Go.DsJd
namespace Go.Proofs.YtkpgfhapffijkaaGreatDoor
open Go.ChangeShapes Go.WideShapes Go.ChangeAt Go.RowKit Go.DsMem Go.DsLx Go.DsJd Go.DsMk
set_option linter.unusedVariables false
/-- a job -/
structure Jb where
  name : ByteArray
  days : Nd
  shift : Bool
  dir : Int
  work : Nd
  fr : Int
  till : Int
  inn : Ex
  outs : List Oc
  needs : List Nv
  prio : Int
  wait : Int
  every : Int
  runs : Int
  retry : Int
/-- where a job's parts lie -/
structure JSl where
  dv : NVal
  wv : NVal
  iv : EVal
  oo : Option Addr
  oc : Nat
  no : Option Addr
  nc : Nat
def nvC3 (p : Nv) : List Value := [.string p.1, .int .i64 p.2.1, .int .i64 p.2.2]
def nvRow (l : List Nv) : List Value := l.flatMap nvC3
def jOuts (x : Jb) (s : JSl) : Value := .slice s.oo x.outs.length s.oc
def jNeeds (x : Jb) (s : JSl) : Value := .slice s.no x.needs.length s.nc
def jC (x : Jb) (s : JSl) : Array Value := #[.string x.name,
  .int .i64 s.dv.op, .slice s.dv.no s.dv.nl s.dv.nc, .slice s.dv.ko s.dv.kl s.dv.kc, .string s.dv.nm,
  .bool x.shift, .int .i64 x.dir,
  .int .i64 s.wv.op, .slice s.wv.no s.wv.nl s.wv.nc, .slice s.wv.ko s.wv.kl s.wv.kc, .string s.wv.nm,
  .int .i64 x.fr, .int .i64 x.till,
  .int .i64 s.iv.op, .string s.iv.nm, .int .i64 s.iv.wh, .slice s.iv.ko s.iv.kl s.iv.kc,
  .slice s.oo x.outs.length s.oc, .slice s.no x.needs.length s.nc,
  .int .i64 x.prio, .int .i64 x.wait, .int .i64 x.every, .int .i64 x.runs, .int .i64 x.retry]
/-- blocks that hold a job's trees -/
def JR (b0 : Nat) (w : World) (x : Jb) (s : JSl) (b : Nat) : Prop := b0 ≤ b ∧ b < w.heap.size ∧ (jOuts x s).ownBlock ≠ some b ∧ (jNeeds x s).ownBlock ≠ some b
/-- a job in block J, with all that it has behind b0 -/
structure JbAt (b0 : Nat) (w : World) (J : Nat) (x : Jb) (s : JSl) : Prop where
  blk : w.heap[J]? = some (.cells (jC x s) 56 (0, 0))
  lt : J < b0
  le : b0 ≤ w.heap.size
  days : NdOn (JR b0 w x s) w s.dv x.days
  work : NdOn (JR b0 w x s) w s.wv x.work
  inn : ExOn (JR b0 w x s) w s.iv x.inn
  outs : w.ownsRow b0 88 3 (jOuts x s) x.outs.length (ocRow x.outs)
  needs : w.ownsRow b0 58 3 (jNeeds x s) x.needs.length (nvRow x.needs)
  apart : ∀ k, (jOuts x s).ownBlock = some k → (jNeeds x s).ownBlock ≠ some k
/-- while nothing of the job turns -/
theorem JbAt.moved {b0 J : Nat} {w w' : World} {x : Jb} {s : JSl} {T : Nat → Prop} (h : JbAt b0 w J x s) (ho : Only T w w') (hT : ∀ b, T b → b < b0 ∧ b ≠ J) : JbAt b0 w' J x s := by
  have hl := h.lt
  have h1 : ∀ b, JR b0 w x s b → JR b0 w' x s b := fun b hb => ⟨hb.1, Nat.lt_of_lt_of_le hb.2.1 ho.size, hb.2.2⟩
  have h2 : ∀ a u, JR b0 w x s a.block → w.cell? a = some u → w'.cell? a = some u := fun a u hB hc => ho.cell hc (fun e => by have := (hT _ e).1; have := hB.1; omega)
  refine ⟨?_, hl, Nat.le_trans h.le ho.size, h.days.mono h1 h2, h.work.mono h1 h2, h.inn.mono h1 h2, own_sameK h.outs (fun k hk => ?_), own_sameK h.needs (fun k hk => ?_), h.apart⟩
  · rw [ho.block J (block_lt h.blk) (fun e => (hT _ e).2 rfl)]; exact h.blk
  · have := h.outs.lt k hk
    exact ho.block k this.2 (fun e => by have := (hT _ e).1; omega)
  · have := h.needs.lt k hk
    exact ho.block k this.2 (fun e => by have := (hT _ e).1; omega)
/-- what was just read lies apart -/
theorem JbAt.fresh {b0 J : Nat} {w w1 : World} {x : Jb} {s : JSl} (h : JbAt b0 w J x s) {b : Nat} (hb : w.heap.size ≤ b ∧ b < w1.heap.size) : JR b0 w1 x s b := by
  refine ⟨Nat.le_trans h.le hb.1, hb.2, fun e => ?_, fun e => ?_⟩
  · have := (h.outs.lt b e).2; omega
  · have := (h.needs.lt b e).2; omega
/-- the job's own cells turn -/
theorem JbAt.put {b0 J : Nat} {w w' : World} {x x' : Jb} {s s' : JSl} (h : JbAt b0 w J x s) (hh : w'.heap[J]? = some (.cells (jC x' s') 56 (0, 0))) (ho : Only (· = J) w w')
    (e1 : x'.outs = x.outs) (e2 : x'.needs = x.needs) (e3 : s'.oo = s.oo) (e4 : s'.oc = s.oc) (e5 : s'.no = s.no) (e6 : s'.nc = s.nc)
    (hd : NdOn (JR b0 w x s) w s'.dv x'.days) (hw : NdOn (JR b0 w x s) w s'.wv x'.work) (hi : ExOn (JR b0 w x s) w s'.iv x'.inn) : JbAt b0 w' J x' s' := by
  have hl := h.lt
  have f1 : jOuts x' s' = jOuts x s := by unfold jOuts; rw [e1, e3, e4]
  have f2 : jNeeds x' s' = jNeeds x s := by unfold jNeeds; rw [e2, e5, e6]
  have h1 : ∀ b, JR b0 w x s b → JR b0 w' x' s' b := fun b hb => ⟨hb.1, Nat.lt_of_lt_of_le hb.2.1 ho.size, by rw [f1]; exact hb.2.2.1, by rw [f2]; exact hb.2.2.2⟩
  have h2 : ∀ a u, JR b0 w x s a.block → w.cell? a = some u → w'.cell? a = some u := fun a u hB hc => ho.cell hc (fun e => by have := hB.1; omega)
  refine ⟨hh, hl, Nat.le_trans h.le ho.size, hd.mono h1 h2, hw.mono h1 h2, hi.mono h1 h2, ?_, ?_, ?_⟩
  · rw [f1, e1]
    exact own_sameK h.outs (fun k hk => by have := h.outs.lt k hk; exact ho.block k this.2 (fun e => by omega))
  · rw [f2, e2]
    exact own_sameK h.needs (fun k hk => by have := h.needs.lt k hk; exact ho.block k this.2 (fun e => by omega))
  · rw [f1, f2]; exact h.apart
theorem JbAt.drew {b0 J : Nat} {w : World} {x : Jb} {s : JSl} (h : JbAt b0 w J x s) : JbAt b0 w.drew J x s := h.moved (T := fun _ => False) (Only.refl _ w).drew (fun b e => e.elim)
theorem JbAt.cell {b0 J : Nat} {w : World} {x : Jb} {s : JSl} (h : JbAt b0 w J x s) (k : Nat) : w.cell? ⟨J, k, none⟩ = (jC x s)[k]? := by rw [cell_of h.blk]
theorem JbAt.frozen {b0 J : Nat} {w : World} {x : Jb} {s : JSl} (h : JbAt b0 w J x s) (k : Nat) : w.frozen? ⟨J, k, none⟩ = false := frozen_of h.blk
/-- a job's days, work, conditions as values -/
theorem saidDays {w : World} {R : Nat} {E : Int} {B N : Nat} {t : Tk} {r : List Tk} (h : Rdr w R E 0 B N (t :: r)) (hG : Few9 r) :
    Calls Tryz.prog 191 #[.pointer (some ⟨R, 0, none⟩), .func (.func 136) #[.pointer (some ⟨R, 0, none⟩)] #[]] w (PE R E 0 B N (thenP E ⟨#[59]⟩ (daysP E (oneP E 16) r)) VN w) := by
  have hR := h.lt
  refine saidNode h 136 #[.pointer (some ⟨R, 0, none⟩)] #[] (daysP E (oneP E 16)) VN (cf_of Tryz.func136 (by decide +kernel) (by kernel_rfl)) ?_ ?_ ?_ (fun w h => days_all hG h)
  · rintro wA a v w1 ⟨nv, rfl, _⟩
    exact ⟨_, _, _, _, _, _, _, _, rfl⟩
  · rintro wA a v w1 w2 hs ⟨nv, rfl, hn⟩ ho
    exact ⟨nv, rfl, hn.mono (fun b hb => ⟨by omega, Nat.lt_of_lt_of_le hb.2 ho.size⟩) (fun ad u hB hc => ho.cell hc (by omega))⟩
  · intro wA wB a v w1 hs h
    exact h.since hs
theorem saidWork {w : World} {R : Nat} {E : Int} {B N : Nat} {t : Tk} {r : List Tk} (h : Rdr w R E 0 B N (t :: r)) (hG : Few9 r) :
    Calls Tryz.prog 192 #[.pointer (some ⟨R, 0, none⟩), .func (.func 193) #[.pointer (some ⟨R, 0, none⟩)] #[]] w (PE R E 0 B N (thenP E ⟨#[59]⟩ (twoP (choiceP E dirL) (daysP E (oneP E 16)) r)) VSh w) := by
  have hR := h.lt
  refine saidShift h 193 #[.pointer (some ⟨R, 0, none⟩)] #[] (twoP (choiceP E dirL) (daysP E (oneP E 16))) VSh (cf_of Tryz.func193 (by decide +kernel) (by kernel_rfl)) ?_ ?_ ?_ (fun w h => shift_any h hG)
  · rintro wA a v w1 ⟨nv, rfl, _⟩
    exact ⟨_, _, _, _, _, _, _, _, _, rfl⟩
  · rintro wA a v w1 w2 hs ⟨nv, rfl, hn⟩ ho
    exact ⟨nv, rfl, hn.mono (fun b hb => ⟨by omega, Nat.lt_of_lt_of_le hb.2 ho.size⟩) (fun ad u hB hc => ho.cell hc (by omega))⟩
  · rintro wA wB a v w1 hs ⟨nv, rfl, hn⟩
    exact ⟨nv, rfl, hn.mono (fun b hb => ⟨by omega, hb.2⟩) (fun _ _ _ hc => hc)⟩
theorem saidTimes {w : World} {R : Nat} {E : Int} {B N : Nat} {t : Tk} {r : List Tk} (h : Rdr w R E 0 B N (t :: r)) :
    Calls Tryz.prog 194 #[.pointer (some ⟨R, 0, none⟩), .func (.func 195) #[.pointer (some ⟨R, 0, none⟩)] #[]] w (PE R E 0 B N (thenP E ⟨#[59]⟩ (twoP (timeP E) (timeP E) r)) VWin w) := by
  refine saidWin h 195 #[.pointer (some ⟨R, 0, none⟩)] #[] (twoP (timeP E) (timeP E)) VWin (cf_of Tryz.func195 (by decide +kernel) (by kernel_rfl)) ?_ ?_ ?_ (fun w h => window_any h)
  · rintro wA a v w1 rfl
    exact ⟨_, _, rfl⟩
  · rintro wA a v w1 w2 hs rfl ho
    rfl
  · rintro wA wB a v w1 hs rfl
    rfl
theorem saidCond {w : World} {R : Nat} {E : Int} {B N : Nat} {t : Tk} {r : List Tk} (h : Rdr w R E 0 B N (t :: r)) (hG : Few9 r) :
    Calls Tryz.prog 196 #[.pointer (some ⟨R, 0, none⟩), .func (.func 197) #[.pointer (some ⟨R, 0, none⟩)] #[]] w (PE R E 0 B N (thenP E ⟨#[59]⟩ (condP E (eachP E 16) r)) VE w) := by
  have hR := h.lt
  refine saidExpr h 197 #[.pointer (some ⟨R, 0, none⟩)] #[] (condP E (eachP E 16)) VE (cf_of Tryz.func197 (by decide +kernel) (by kernel_rfl)) ?_ ?_ ?_ (fun w h => cond_all hG h)
  · rintro wA a v w1 ⟨nv, rfl, _⟩
    exact ⟨_, _, _, _, _, _, rfl⟩
  · rintro wA a v w1 w2 hs ⟨nv, rfl, hn⟩ ho
    exact ⟨nv, rfl, hn.mono (fun b hb => ⟨by omega, Nat.lt_of_lt_of_le hb.2 ho.size⟩) (fun ad u hB hc => ho.cell hc (by omega))⟩
  · intro wA wB a v w1 hs h
    exact h.since hs
theorem saidNum {w : World} {R : Nat} {E : Int} {B N : Nat} {t : Tk} {r : List Tk} (h : Rdr w R E 0 B N (t :: r)) :
    Calls Tryz.prog 97 #[.pointer (some ⟨R, 0, none⟩), .func (.func 99) #[.pointer (some ⟨R, 0, none⟩)] #[]] w (PE R E 0 B N (thenP E ⟨#[59]⟩ (numP E r)) VI w) :=
  saidI h 99 #[.pointer (some ⟨R, 0, none⟩)] #[] (numP E) (cf_of Tryz.func99 (by decide +kernel) (by kernel_rfl)) (fun w h => number_any h)
/-- what single reads -/
def updP {α : Type} (f : α → Jb) (x : Except Fl (α × List Tk)) : Except Fl (Jb × List Tk) := match x with | .error f => .error f | .ok (a, r) => .ok (f a, r)
abbrev wDays : ByteArray := ⟨#[100, 97, 121, 115]⟩
abbrev wShift : ByteArray := ⟨#[115, 104, 105, 102, 116]⟩
abbrev wWindow : ByteArray := ⟨#[119, 105, 110, 100, 111, 119]⟩
abbrev wIn : ByteArray := ⟨#[105, 110]⟩
abbrev wPrio : ByteArray := ⟨#[112, 114, 105, 111]⟩
abbrev wWait : ByteArray := ⟨#[119, 97, 105, 116]⟩
abbrev wEvery : ByteArray := ⟨#[101, 118, 101, 114, 121]⟩
abbrev wRuns : ByteArray := ⟨#[114, 117, 110, 115]⟩
abbrev wRetry : ByteArray := ⟨#[114, 101, 116, 114, 121]⟩
def singleP (E : Int) (x : Jb) (ws : List Tk) : Except Fl (Jb × List Tk) :=
  if textF ws = wDays then updP (fun d => { x with days := d }) (thenP E ⟨#[59]⟩ (daysP E (oneP E 16) ws.tail))
  else if textF ws = wShift then updP (fun p => { x with shift := true, dir := p.1 - 1, work := p.2 }) (thenP E ⟨#[59]⟩ (twoP (choiceP E dirL) (daysP E (oneP E 16)) ws.tail))
  else if textF ws = wWindow then updP (fun p => { x with fr := p.1, till := p.2 }) (thenP E ⟨#[59]⟩ (twoP (timeP E) (timeP E) ws.tail))
  else if textF ws = wIn then updP (fun e => { x with inn := e }) (thenP E ⟨#[59]⟩ (condP E (eachP E 16) ws.tail))
  else if textF ws = wPrio then updP (fun n => { x with prio := n }) (thenP E ⟨#[59]⟩ (numP E ws.tail))
  else if textF ws = wWait then updP (fun n => { x with wait := n }) (thenP E ⟨#[59]⟩ (numP E ws.tail))
  else if textF ws = wEvery then updP (fun n => { x with every := n }) (thenP E ⟨#[59]⟩ (numP E ws.tail))
  else if textF ws = wRuns then updP (fun n => { x with runs := n }) (thenP E ⟨#[59]⟩ (numP E ws.tail))
  else if textF ws = wRetry then updP (fun n => { x with retry := n }) (thenP E ⟨#[59]⟩ (numP E ws.tail))
  else .error (atF E ws, 20)
/-- how single ends -/
def SG (R : Nat) (E : Int) (B N J b0 : Nat) (q : Except Fl (Jb × List Tk)) (w : World) : Ending → World → Prop :=
  Ends q (fun w' => Only (fun i => i = R ∨ i = J) w w') fun p e w' => e = .returned (.tuple #[]) ∧ (∃ s', JbAt b0 w' J p.1 s') ∧ Rdr w' R E 0 B N p.2 ∧ Only (fun i => i = R ∨ i = J) w w'
end Go.Proofs.YtkpgfhapffijkaaGreatDoor
