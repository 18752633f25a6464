/- Conditions as trees, where they lie. -/
import Derived.Test.YtkpgfhapffijkaaGreatDoorR11
namespace Go.DsMk
/-- what must be true of conditions -/
inductive Ex where
  | mk (op : Int) (name : ByteArray) (wh : Int) (kids : List Ex)
end Go.DsMk
namespace Go.Proofs.YtkpgfhapffijkaaGreatDoor
open Go.ChangeShapes Go.WideShapes Go.ChangeAt Go.RowKit Go.DsMem Go.DsMk
set_option linter.unusedVariables false
structure EVal where
  op : Int
  nm : ByteArray
  wh : Int
  ko : Option Addr
  kl : Nat
  kc : Nat
def exV (op : Int) (nm : ByteArray) (wh : Int) (ko : Option Addr) (kl kc : Nat) : Value := .agg #[.int .i64 op, .string nm, .int .i64 wh, .slice ko kl kc]
def EVal.val (v : EVal) : Value := exV v.op v.nm v.wh v.ko v.kl v.kc
structure EIn (w : World) (g o : Nat) (v : EVal) : Prop where
  c0 : w.cell? ⟨g, o, none⟩ = some (.int .i64 v.op)
  c1 : w.cell? ⟨g, o + 1, none⟩ = some (.string v.nm)
  c2 : w.cell? ⟨g, o + 2, none⟩ = some (.int .i64 v.wh)
  c3 : w.cell? ⟨g, o + 3, none⟩ = some (.slice v.ko v.kl v.kc)
theorem EIn.mono {w w' : World} {g o : Nat} {v : EVal} (h : EIn w g o v) (hc : ∀ a u, w.cell? a = some u → w'.cell? a = some u) : EIn w' g o v := ⟨hc _ _ h.c0, hc _ _ h.c1, hc _ _ h.c2, hc _ _ h.c3⟩
/-- v reads as t, all of it in blocks of B -/
inductive ExOn (B : Nat → Prop) (w : World) : EVal → Ex → Prop
  | mk (op : Int) (nm : ByteArray) (wh : Int) (kids : List Ex) (ko : Option Addr) (kc : Nat) (g : Nat) (K : Nat → EVal)
      (hkl : kids.length ≤ 17592186043904) (hkc : kids.length ≤ kc)
      (hko : 0 < kids.length → ko = some ⟨g, 0, none⟩) (hkB : 0 < kids.length → B g)
      (hc : ∀ j, j < kids.length → EIn w g (0 + j * 4) (K j)) (hk : ∀ j (hj : j < kids.length), ExOn B w (K j) kids[j]) :
      ExOn B w ⟨op, nm, wh, ko, kids.length, kc⟩ (.mk op nm wh kids)
theorem ExOn.mono {B B' : Nat → Prop} {w w' : World} (hB : ∀ b, B b → B' b) (hc : ∀ a u, B a.block → w.cell? a = some u → w'.cell? a = some u) {v : EVal} {t : Ex} (h : ExOn B w v t) : ExOn B' w' v t := by
  induction h with
  | mk op nm wh kids ko kc g K hkl hkc hko hkB hcs _ ih =>
    exact .mk op nm wh kids ko kc g K hkl hkc hko (fun h0 => hB _ (hkB h0))
      (fun j hj => by
        have hb := hkB (by omega)
        have := hcs j hj
        exact ⟨hc _ _ hb this.c0, hc _ _ hb this.c1, hc _ _ hb this.c2, hc _ _ hb this.c3⟩) ih
def evC (v : EVal) : List Value := [.int .i64 v.op, .string v.nm, .int .i64 v.wh, .slice v.ko v.kl v.kc]
def rowE (K : Nat → EVal) : Nat → List Value
  | 0 => []
  | i + 1 => rowE K i ++ evC (K i)
theorem rowE_len (K : Nat → EVal) : ∀ i, (rowE K i).length = i * 4
  | 0 => rfl
  | i + 1 => by rw [rowE, List.length_append, rowE_len K i]; simp [evC]; omega
theorem rowE_at (K : Nat → EVal) (k : Nat) (hk : k < 4) : ∀ i j, j < i → (rowE K i)[j * 4 + k]? = (evC (K j))[k]?
  | 0, j, h => by omega
  | i + 1, j, h => by
    have hl := rowE_len K i
    rw [rowE]
    by_cases e : j = i
    · subst e
      rw [List.getElem?_append_right (by omega), hl]
      congr 1; omega
    · rw [List.getElem?_append_left (by omega)]
      exact rowE_at K k hk i j (by omega)
theorem rowE_cong {K K' : Nat → EVal} : ∀ i, (∀ j, j < i → K j = K' j) → rowE K i = rowE K' i
  | 0, _ => rfl
  | i + 1, h => by rw [rowE, rowE, rowE_cong i (fun j hj => h j (by omega)), h i (by omega)]
theorem evC_one (v : EVal) : ∀ u ∈ evC v, u.oneCell' = true := by
  intro u hu
  simp only [evC, List.mem_cons, List.not_mem_nil, or_false] at hu
  rcases hu with rfl | rfl | rfl | rfl <;> rfl
theorem rowEx {w : World} {B : Nat} {e : TypeId} {g n c : Nat} {K : Nat → EVal} (h : w.ownsRow B e 4 (.slice (some ⟨g, 0, none⟩) n c) n (rowE K n)) (j : Nat) (hj : j < n) : EIn w g (0 + j * 4) (K j) := by
  have key : ∀ k u, k < 4 → (evC (K j))[k]? = some u → w.cell? ⟨g, 0 + j * 4 + k, none⟩ = some u := fun k u hk hu => by
    have := h.cells (g := g) rfl (j * 4 + k) u (by rw [rowE_at K k hk n j hj]; exact hu)
    rw [add_mk] at this
    rw [← this]; congr 2; omega
  exact ⟨key 0 _ (by decide) rfl, key 1 _ (by decide) rfl, key 2 _ (by decide) rfl, key 3 _ (by decide) rfl⟩
end Go.Proofs.YtkpgfhapffijkaaGreatDoor

/- Package jdl: lists of nodes. -/
namespace Go.Proofs.YtkpgfhapffijkaaGreatDoor
open Go.ChangeShapes Go.WideShapes Go.ChangeAt Go.RowKit Go.DsMem Go.DsLx Go.DsJd Go.DsMk
set_option linter.unusedVariables false
theorem infoNd : (Tryz.prog.info? 49).map (fun i => (i.zero, i.size, i.bytes)) = some (some (.agg #[.int .i64 0, .slice none 0 0, .slice none 0 0, .string ⟨#[]⟩]), 4, 72) := by kernel_rfl
/-- a node of one's own -/
def VN (w : World) (t : Nd) (v : Value) (w' : World) : Prop := ∃ nv : NVal, v = nv.val ∧ NdOn (fun b => w.heap.size ≤ b ∧ b < w'.heap.size) w' nv t
theorem VN.since {w0 w w1 : World} {t : Nd} {v : Value} (h : VN w t v w1) (hs : w0.heap.size ≤ w.heap.size) : VN w0 t v w1 := by
  obtain ⟨nv, e, hn⟩ := h
  exact ⟨nv, e, hn.mono (fun b hb => ⟨Nat.le_trans hs hb.1, hb.2⟩) (fun a u _ hc => hc)⟩
/-- nodes read so far -/
structure LnSt (w wr : World) (R : Nat) (acc : List Nd) (uo : Option Addr) (uc : Nat) (K : Nat → NVal) : Prop where
  row : wr.ownsRow w.heap.size 49 4 (.slice uo acc.length uc) acc.length (rowC K acc.length)
  sub : ∀ j (hj : j < acc.length), NdOn (fun b => w.heap.size ≤ b ∧ b < wr.heap.size ∧ (Value.slice uo acc.length uc).ownBlock ≠ some b) wr (K j) acc[j]
  only : Only (· = R) w wr
theorem own_same4 {w w' : World} {B : Nat} {e : TypeId} {v : Value} {n : Nat} {xs : List Value} (h : w.ownsRow B e 4 v n xs) (hk : ∀ k, v.ownBlock = some k → w'.heap[k]? = w.heap[k]?) : w'.ownsRow B e 4 v n xs := by
  refine ⟨h.1, ?_⟩
  rcases h.2 with h0 | ⟨g, cap, cur, hv, hbg, hg, r⟩
  · exact .inl h0
  · exact .inr ⟨g, cap, cur, hv, hbg, by rw [hk g (by rw [hv]; rfl)]; exact hg, r⟩
theorem LnSt.moved {w wr w' : World} {R : Nat} {acc : List Nd} {uo : Option Addr} {uc : Nat} {K : Nat → NVal} (h : LnSt w wr R acc uo uc K) (ho : Only (· = R) wr w') (hR : R < w.heap.size) : LnSt w w' R acc uo uc K := by
  have hlt := h.row.lt
  refine ⟨own_same4 h.row (fun k hk => ho.block k (hlt k hk).2 (by have := (hlt k hk).1; omega)), fun j hj => (h.sub j hj).mono (fun b hb => ⟨hb.1, Nat.lt_of_lt_of_le hb.2.1 ho.size, hb.2.2⟩) (fun a u hB hc => ho.cell hc (by omega)), h.only.trans ho (fun _ _ e => e)⟩
theorem LnSt.step {w wr w1 w2 : World} {R : Nat} {acc : List Nd} {uo : Option Addr} {uc : Nat} {K : Nat → NVal} {a : Nd} {nv : NVal} {g cap : Nat} (h : LnSt w wr R acc uo uc K) (hR : R < w.heap.size)
    (ho1 : Only (· = R) wr w1) (hon : NdOn (fun b => wr.heap.size ≤ b ∧ b < w1.heap.size) w1 nv a) (o : Obj)
    (hown : w2.ownsRow w.heap.size 49 4 (.slice (some ⟨g, 0, none⟩) (acc.length + 1) cap) (acc.length + 1) (rowC K acc.length ++ nvC nv)) (hgr : (w1.alloc o).grownBy w2 (Value.slice uo acc.length uc).ownBlock)
    (hat : (Value.slice uo acc.length uc).ownBlock = some g ∨ g = w1.heap.size + 1) :
    LnSt w w2 R (acc ++ [a]) (some ⟨g, 0, none⟩) cap (fun j => if j = acc.length then nv else K j) := by
  have hs0 := h.only.size
  have hs1 := ho1.size
  have hsA : (w1.alloc o).heap.size = w1.heap.size + 1 := by simp
  have hs2 := hgr.size
  have hrow : ∀ k, (Value.slice uo acc.length uc).ownBlock = some k → w.heap.size ≤ k ∧ k < wr.heap.size := h.row.lt
  have hA : Only (fun k => (Value.slice uo acc.length uc).ownBlock = some k) w1 w2 := (Only.alloc _ w1 o).trans (Only.grown hgr) (fun i _ hi => hi)
  have hB : Only (fun k => k = R ∨ (Value.slice uo acc.length uc).ownBlock = some k) wr w2 := (ho1.mono (fun i _ e => .inl e)).trans hA (fun i _ e => .inr e)
  have hl : (acc ++ [a]).length = acc.length + 1 := by simp
  refine ⟨?_, ?_, ?_⟩
  · have : rowC (fun j => if j = acc.length then nv else K j) (acc.length + 1) = rowC K acc.length ++ nvC nv := by
      rw [rowC, rowC_cong acc.length (K' := K) (fun j hj => if_neg (by omega))]; simp
    rw [hl, this]
    exact hown
  · intro j hj
    by_cases e : j = acc.length
    · subst e
      simp only [if_true, List.getElem_append_right (Nat.le_refl _), Nat.sub_self, List.getElem_cons_zero]
      refine hon.mono (fun b hb => ⟨by omega, by omega, ?_⟩) (fun ad u hB' hc => hA.cell hc (fun e => by have := hrow _ e; omega))
      show some g ≠ some b
      intro e
      obtain rfl := Option.some.inj e
      rcases hat with c | c
      · have := hrow _ c; omega
      · omega
    · have hj' : j < acc.length := by omega
      simp only [if_neg e, List.getElem_append_left hj']
      have h1 : ∀ b, (w.heap.size ≤ b ∧ b < wr.heap.size ∧ (Value.slice uo acc.length uc).ownBlock ≠ some b) → (w.heap.size ≤ b ∧ b < w2.heap.size ∧ (Value.slice (some ⟨g, 0, none⟩) (acc ++ [a]).length cap).ownBlock ≠ some b) := fun b hb => by
        refine ⟨hb.1, by omega, ?_⟩
        show some g ≠ some b
        intro e
        obtain rfl := Option.some.inj e
        rcases hat with c | c
        · exact hb.2.2 c
        · omega
      refine (h.sub j hj').mono h1 (fun ad u hB' hc => hB.cell hc (fun e => ?_))
      rcases e with e | e
      · omega
      · exact hB'.2.2 e
  · exact h.only.trans hB (fun i hi e => by
      rcases e with e | e
      · exact e
      · have := (hrow _ e).1; omega)
/-- nodes of one's own -/
def VLN (w : World) (l : List Nd) (v : Value) (w' : World) : Prop := ∃ uo uc K, v = .slice uo l.length uc ∧ w'.ownsRow w.heap.size 49 4 v l.length (rowC K l.length) ∧ ∀ j (hj : j < l.length), NdOn (fun b => w.heap.size ≤ b ∧ b < w'.heap.size) w' (K j) l[j]
theorem LnSt.out {w wr : World} {R : Nat} {acc : List Nd} {uo : Option Addr} {uc : Nat} {K : Nat → NVal} (h : LnSt w wr R acc uo uc K) : VLN w acc (.slice uo acc.length uc) wr :=
  ⟨uo, uc, K, rfl, h.row, fun j hj => (h.sub j hj).mono (fun b hb => ⟨hb.1, hb.2.1⟩) (fun a u _ hc => hc)⟩
end Go.Proofs.YtkpgfhapffijkaaGreatDoor

/- Package jdl: the walk of list at nodes. -/
namespace Go.Proofs.YtkpgfhapffijkaaGreatDoor
open Go.ChangeShapes Go.WideShapes Go.ChangeAt Go.RowKit Go.DsMem Go.DsLx Go.DsJd Go.DsMk
set_option linter.unusedVariables false
set_option maxHeartbeats 4000000 in
set_option maxRecDepth 20000 in
/-- jdl.list[cal.Node] -/
theorem listN {w : World} {R : Nat} {E d : Int} {B N : Nat} {ws : List Tk} (h : Rdr w R E d B N ws) (K : Nat) (first cap : Array Value) (part : List Tk → Except Fl (Nd × List Tk)) (sep : ByteArray) (hsep : sep ≠ ⟨#[]⟩) (M : Nat) (hM : M ≤ 100000) (P : List Tk → Prop) (hP0 : P ws) (hPn : ∀ ws a r, P ws → part ws = .ok (a, r) → P r ∧ P r.tail)
    (hcf : CF K) (hp : ∀ w ws, P ws → Rdr w R E d B N ws → Calls Tryz.prog K (first ++ cap) w (PE R E d B N (part ws) VN w)) :
    Calls Tryz.prog 161 #[.pointer (some ⟨R, 0, none⟩), .string sep, .int .i64 M, .func (.func K) first cap] w (PE R E d B N (listP E sep part M ws) VLN w) := by
  have HP := hide hp
  have hcf' := hcf (first ++ cap)
  have HPN := hide hPn
  have HP0 := hide hP0
  obtain ⟨hN1, hN2⟩ := h.n
  have HR0 := hide h
  obtain ⟨Q, hQ⟩ : ∃ Q, listP E sep part M ws = Q := ⟨_, rfl⟩
  have HQ : Hid (accP [] (listP E sep part M ws) = Q) := by
    refine hide ?_
    rw [← hQ]
    cases listP E sep part M ws with
    | error f => rfl
    | ok p => rfl
  rw [hQ]
  clear h hp hcf hPn hP0 hQ
  obtain ⟨i0, hi0, hz0, hz1, hz2⟩ := info_parts infoNd
  go_enter Tryz.func161, Tryz.ntmps161
  go_wp2_with fail
  go_loopw [9] (fun tl wr => ∃ (acc : List Nd) (K' : Nat → NVal) (uo : Option Addr) (uc : Nat) (us : List Tk), acc.length ≤ M ∧ tl = .slice uo acc.length uc ∧ P us ∧ LnSt w wr R acc uo uc K' ∧ Rdr wr R E d B N us ∧ accP acc (listP E sep part (M - acc.length) us) = Q) (fun tl _ => M - slLen tl)
  case atStart => exact ⟨[], fun _ => ⟨0, none, 0, 0, none, 0, 0, ⟨#[]⟩⟩, none, 0, ws, Nat.zero_le _, rfl, HP0.out, ⟨World.ownsRow_nil _ _ _ _, fun j hj => by simp at hj, Only.refl _ _⟩, HR0.out, HQ.out⟩
  case round =>
    obtain ⟨acc, K', uo, uc, us, hal, rfl, hPu, hst, hrd, hq⟩ := hrel
    have HST := hide hst
    have HRD := hide hrd
    have ho := hst.only
    have HO := hide ho
    have HQ2 := hide hq
    have HPU := hide hPu
    have hws := ho.size
    clear hst hrd ho hq hPu
    have HRM := hide (room_any HRD.out acc.length M)
    by_cases hfull : M ≤ acc.length
    · have e : roomP E us acc.length M = .error (atF E us, 4) := by unfold roomP; rw [if_pos (by omega)]
      have hQe : Q = .error (atF E us, 4) := by
        rw [← HQ2.out, show M - acc.length = 0 by omega]; exact acc_full E sep part acc us
      have HQE := hide hQe
      rw [e] at HRM
      unfold Ends at HRM
      clear e hQe
      go_wp2_with fail
      refine HRM.out.mono ?_
      rintro e w1 ⟨rfl, ho1⟩
      have HO1 := hide (HO.out.trans ho1 (fun _ _ h => h))
      clear ho1
      go_wp2
      refine ⟨rfl, ?_⟩
      rw [HQE.out]
      exact ⟨rfl, HO1.out⟩
    · have e : roomP E us acc.length M = .ok () := by unfold roomP; rw [if_neg (by omega)]
      rw [e] at HRM
      unfold Ends at HRM
      clear e
      obtain ⟨n, hn⟩ : ∃ n, M - acc.length = n + 1 := ⟨M - acc.length - 1, by omega⟩
      rw [hn] at HQ2
      have HPP := hide (fun w h => HP.out w us HPU.out h)
      have HPX := hide (fun a r => HPN.out us a r HPU.out)
      obtain ⟨q, hq⟩ : ∃ q, part us = q := ⟨_, rfl⟩
      rw [hq] at HPP HPX
      cases q with
      | error f =>
        have HQE : Hid (Q = .error f) := by refine hide ?_; rw [← HQ2.out]; exact acc_bad acc n hq
        unfold PE Ends at HPP
        simp only at HPP
        clear hq
        go_wp2_with fail
        refine HRM.out.mono ?_
        rintro e w1 ⟨rfl, rfl⟩
        go_wp2_with fail
        refine (HPP.out w1 HRD.out).mono ?_
        rintro e w2 ⟨rfl, ho2⟩
        have HO2 := hide (HO.out.trans ho2 (fun _ _ h => h))
        clear ho2
        go_wp2
        refine ⟨rfl, ?_⟩
        rw [HQE.out]
        exact ⟨rfl, HO2.out⟩
      | ok p =>
        obtain ⟨a, r⟩ := p
        obtain ⟨hp1, hp2⟩ := HPX.out a r rfl
        have HP1 := hide hp1
        have HP2 := hide hp2
        unfold PE Ends at HPP
        simp only at HPP
        have HEND : Hid (¬ textF r = sep → Q = .ok (acc ++ [a], r)) := fun hs => by rw [← HQ2.out]; exact acc_end acc n hq hs
        have HMORE : Hid (textF r = sep → accP (acc ++ [a]) (listP E sep part n r.tail) = Q) := fun hs => by rw [← HQ2.out]; exact (acc_more acc n hq hs).symm
        clear hq hp1 hp2 HPX
        go_wp2_with fail
        refine HRM.out.mono ?_
        rintro e w1 ⟨rfl, rfl⟩
        go_wp2_with fail
        refine (HPP.out w1 HRD.out).mono ?_
        rintro e w2 ⟨v, rfl, ⟨nv, rfl, hon⟩, hr2, ho2⟩
        have HR2 := hide hr2
        have hs2 := ho2.size
        have hlt2 : ∀ k, (Value.slice uo acc.length uc).ownBlock = some k → w.heap.size ≤ k ∧ k < w1.heap.size := HST.out.row.lt
        have HSTEP : Hid (∀ (w3 : World) (g cap : Nat) (ob : Obj), w3.ownsRow w.heap.size 49 4 (.slice (some ⟨g, 0, none⟩) (acc.length + 1) cap) (acc.length + 1) (rowC K' acc.length ++ nvC nv) → (w2.alloc ob).grownBy w3 (Value.slice uo acc.length uc).ownBlock → ((Value.slice uo acc.length uc).ownBlock = some g ∨ g = w2.heap.size + 1) →
            LnSt w w3 R (acc ++ [a]) (some ⟨g, 0, none⟩) cap (fun j => if j = acc.length then nv else K' j)) := fun w3 g cap ob h1 h2 h3 => HST.out.step (by omega) ho2 hon ob h1 h2 h3
        have HROW : Hid (∀ ob, (w2.alloc ob).ownsRow w.heap.size 49 4 (.slice uo acc.length uc) acc.length (rowC K' acc.length)) := fun ob =>
          own_same4 HST.out.row (fun k hk => by
            have := hlt2 k hk
            rw [((Below.refl w2.heap.size w2).alloc (Nat.le_refl _) ob).block k (by omega)]
            exact ho2.block k this.2 (by omega))
        have HO2 := hide (HO.out.trans ho2 (fun _ _ h => h))
        clear hr2 ho2 hon
        unfold NVal.val ndV
        go_wp2_with (at_builtin; refine Hid.out ?_)
        refine hide ?_
        refine wpList_append_lies _ rfl _ _ 47 rfl w.heap.size 49 i0 _ 4 72 Tryz.underlying47 hi0 hz0 hz1 hz2 rfl (by decide) _ acc.length _ rfl (HROW.out _) ⟨w2.heap.size, 0, none⟩ 1 1 (nvC nv) rfl rfl (World.news_of_block (cs := (nvC nv).toArray) (t := 49) (fr := (0, 0)) (heap_alloc_new w2 _)) (nvC_one nv) (by omega) (by unfold maxLen; omega) (by omega) (by simp; omega) (w2.heap.size + 1) (by simp) ?_
        intro g cap w3 hown3 hgr hat3 _
        have HST3 := hide (HSTEP.out w3 g cap _ hown3 hgr hat3)
        have hl1 : (acc ++ [a]).length = acc.length + 1 := by simp
        have HR3 : Hid (Rdr w3 R E d B N r) := by
          refine hide ((HR2.out.below ((Below.refl _ _).alloc (Nat.le_refl _) _)).only ((Only.grown hgr).toBelow (by simp; omega) (fun i e => by have := (hlt2 i e).1; omega)))
        have HO3 : Hid (Only (· = R) w w3) := HST3.out.only
        clear hown3 hgr hat3 hlt2 HR2 HSTEP HROW
        by_cases hs : textF r = sep
        · have HM2 := hide (HMORE.out hs)
          cases r with
          | nil => exact absurd hs.symm hsep
          | cons t r' =>
            simp only [textF] at hs
            have HTK := hide (take_yes HR3.out)
            rw [hs] at HTK
            simp only [List.tail_cons] at HM2 HP2
            go_wp2_with fail
            refine HTK.out.mono ?_
            rintro e w4 ⟨rfl, hr4, ho4⟩
            have HR4 := hide hr4
            have HO4 := hide (HO3.out.trans ho4 (fun _ _ h => h))
            have HST4 := hide (HST3.out.moved ho4 (by omega))
            clear hr4 ho4
            go_wp2
            go_roundw
            case rel => exact ⟨acc ++ [a], _, some ⟨g, 0, none⟩, cap, r', by simp; omega, by rw [hl1], HP2.out, HST4.out, HR4.out, by rw [show M - (acc ++ [a]).length = n by simp; omega]; exact HM2.out⟩
            case measure => simp [slLen]; omega
        · have HE2 := hide (HEND.out hs)
          have HTK := hide (take_no HR3.out hs)
          go_wp2_with fail
          refine HTK.out.mono ?_
          rintro e w4 ⟨rfl, rfl⟩
          go_wp2
          go_ret
          rw [HE2.out]
          have h5 := HST3.out.out
          rw [hl1] at h5
          exact ⟨_, rfl, h5, HR3.out, HO3.out⟩
end Go.Proofs.YtkpgfhapffijkaaGreatDoor

/- Package jdl: nodes joined, brackets and nots. -/
namespace Go.DsJd
open Go.DsLx Go.DsMk
def joinP (op : Int) (l : List Nd) : Nd := match l with | [x] => x | _ => .mk op [] l ⟨#[]⟩
theorem joinP_one {op : Int} {l : List Nd} (h : l.length = 1) : joinP op l = l[0] := by
  match l, h with
  | [x], _ => rfl
theorem joinP_more {op : Int} {l : List Nd} (h : ¬ l.length = 1) : joinP op l = .mk op [] l ⟨#[]⟩ := by
  match l, h with
  | [], _ => rfl
  | [x], h => exact absurd rfl h
  | x :: y :: r, _ => rfl
/-- a part behind a bracket or a not -/
def deepP {α : Type} (E : Int) (d : Int) (part : List Tk → Except Fl (α × List Tk)) (ws : List Tk) : Except Fl (α × List Tk) := if 16 ≤ d then .error (atF E ws, 23) else part ws.tail
end Go.DsJd
namespace Go.Proofs.YtkpgfhapffijkaaGreatDoor
open Go.ChangeShapes Go.WideShapes Go.ChangeAt Go.RowKit Go.DsMem Go.DsLx Go.DsJd Go.DsMk
set_option linter.unusedVariables false
theorem below_new4 {w : World} (o : Obj) : Below w.heap.size w (w.alloc o) := (Below.refl _ _).alloc (Nat.le_refl _) o
set_option maxHeartbeats 2000000 in
set_option maxRecDepth 20000 in
/-- jdl.joinedDays -/
theorem joinedDays_any {w0 w : World} {l : List Nd} {v : Value} (op : Int) (h : VLN w0 l v w) (hl : l.length ≤ 100000) (hw : w0.heap.size ≤ w.heap.size) : Calls Tryz.prog 160 #[.int .i64 op, v] w fun e w' => ∃ v', e = .returned v' ∧ VN w0 (joinP op l) v' w' ∧ Below w.heap.size w w' := by
  obtain ⟨uo, uc, K, rfl, hrow, hsub⟩ := h
  by_cases h1 : l.length = 1
  · have HJ := hide (joinP_one (op := op) h1)
    have hg : ∃ g, uo = some ⟨g, 0, none⟩ ∧ l.length ≤ uc ∧ g < w.heap.size := by
      rcases hrow.2 with ⟨_, h0⟩ | ⟨g, cap, cur, e, _, hg, hc, _⟩
      · omega
      · simp only [Value.slice.injEq] at e
        obtain ⟨rfl, -, rfl⟩ := e
        exact ⟨g, rfl, hc, block_lt hg⟩
    obtain ⟨g, rfl, hc, hg⟩ := hg
    have hin := rowN hrow 0 (by omega)
    have HS : Hid (∀ w', Below w.heap.size w w' → VN w0 (joinP op l) (K 0).val w') := fun w' hb => by
      rw [HJ.out]
      exact ⟨K 0, rfl, (hsub 0 (by omega)).mono (fun b hb' => ⟨hb'.1, by have := hb.size; omega⟩) (fun a u _ hcc => Below.keeps hb (Nat.le_refl _) hcc)⟩
    obtain ⟨c0, c1, c2, c3⟩ := hin
    simp only [Nat.zero_mul, Nat.zero_add] at c0 c1 c2 c3
    have x0 := fun ob : Obj => Below.keeps (below_new4 ob) (Nat.le_refl _) c0
    have x1 := fun ob : Obj => Below.keeps (below_new4 ob) (Nat.le_refl _) c1
    have x2 := fun ob : Obj => Below.keeps (below_new4 ob) (Nat.le_refl _) c2
    have x3 := fun ob : Obj => Below.keeps (below_new4 ob) (Nat.le_refl _) c3
    clear hrow hsub c0 c1 c2 c3
    rw [h1] at *
    generalize K 0 = nv at *
    go_enter Tryz.func160, Tryz.ntmps160
    go_wp2
    refine bodyPost_ret (v := nv.val) (by simp [results, Tryz.results160, go_sem, NVal.val, ndV]) rfl ?_
    exact ⟨_, rfl, HS.out _ (below_new4 _), below_new4 _⟩
  · have HJ := hide (joinP_more (op := op) h1)
    have HS : Hid (∀ w', Below w.heap.size w w' → VN w0 (joinP op l) (NVal.val ⟨op, none, 0, 0, uo, l.length, uc, ⟨#[]⟩⟩) w') := fun w' hb => by
      rw [HJ.out]
      refine ⟨_, rfl, ?_⟩
      have hsz := hb.size
      rcases hrow.2 with ⟨e, h0⟩ | ⟨g, cap, cur, e, hgb, hg, hc, _⟩
      · have hl0 : l.length = 0 := h0
        exact .mk op [] l ⟨#[]⟩ none 0 uo uc 0 K (RdI.nil _) (fun a e => by cases e) (by simp) (by omega) (by omega) (fun h => by omega) (fun h => by omega) (fun j hj => by omega) (fun j hj => by omega)
      · simp only [Value.slice.injEq] at e
        obtain ⟨rfl, -, rfl⟩ := e
        refine .mk op [] l ⟨#[]⟩ none 0 (some ⟨g, 0, none⟩) uc g K (RdI.nil _) (fun a e => by cases e) (by simp) (by omega) hc (fun _ => rfl) (fun _ => ⟨hgb, by have := block_lt hg; omega⟩) (fun j hj => (rowN hrow j hj).mono (fun a u hcc => Below.keeps hb (Nat.le_refl _) hcc)) (fun j hj => ?_)
        exact (hsub j hj).mono (fun b hb' => ⟨hb'.1, by omega⟩) (fun a u _ hcc => Below.keeps hb (Nat.le_refl _) hcc)
    have h1' : ((l.length : Int) == 1) = false := by simp; omega
    clear hrow hsub
    go_enter Tryz.func160, Tryz.ntmps160
    go_wp2
    refine bodyPost_ret (v := NVal.val ⟨op, none, 0, 0, uo, l.length, uc, ⟨#[]⟩⟩) (by simp [results, Tryz.results160, go_sem, NVal.val, ndV]) rfl ?_
    exact ⟨_, rfl, HS.out _ (below_new4 _), below_new4 _⟩
theorem rdr_deep {w : World} {R : Nat} {E d : Int} {B N : Nat} {ws : List Tk} (h : Rdr w R E d B N ws) (d' : Int) : Rdr (w.setCell ⟨R, 2, none⟩ (.int .i64 d')) R E d' B N ws := by
  obtain ⟨uo, uc, o, h1, h2, h3, h4, h5, h6, h7⟩ := h
  refine ⟨uo, uc, o, by rw [hset_same h1]; rfl, h2.keep (by simp [World.setCell]) (fun a u ha hc => (Only.setCell w ⟨R, 2, none⟩ _).cell hc ?_), h3, h4, h5, by simpa [World.setCell] using h6, h7.only (Only.set _ _ _ _)⟩
  intro e
  cases uo with
  | none => cases ha
  | some b =>
    simp only [Option.map_some, Option.some.injEq] at ha
    exact (h3 b rfl).1 (by rw [ha]; exact e)
theorem rdr_cell2 {w : World} {R : Nat} {E d : Int} {B N : Nat} {ws : List Tk} (h : Rdr w R E d B N ws) : w.cell? ⟨R, 2, none⟩ = some (.int .i64 d) ∧ w.frozen? ⟨R, 2, none⟩ = false := by
  obtain ⟨uo, uc, o, h1, _⟩ := h
  exact ⟨by rw [cell_of h1]; rfl, frozen_of h1⟩
end Go.Proofs.YtkpgfhapffijkaaGreatDoor

/- Package jdl: brackets and nots around nodes. -/
namespace Go.Proofs.YtkpgfhapffijkaaGreatDoor
open Go.ChangeShapes Go.WideShapes Go.ChangeAt Go.RowKit Go.DsMem Go.DsLx Go.DsJd Go.DsMk
set_option linter.unusedVariables false
/-- a node's cell, still empty -/
def ResN (w : World) (p : Nat) : Prop := w.heap[p]? = some (.cells #[.int .i64 0, .slice none 0 0, .slice none 0 0, .string ⟨#[]⟩] 49 (0, 0))
theorem ResN.all {w : World} {p : Nat} (h : ResN w p) : (w.cell? ⟨p, 0, none⟩ = some (.int .i64 0) ∧ w.cell? ⟨p, 1, none⟩ = some (.slice none 0 0) ∧ w.cell? ⟨p, 2, none⟩ = some (.slice none 0 0) ∧ w.cell? ⟨p, 3, none⟩ = some (.string ⟨#[]⟩)) ∧ w.frozen? ⟨p, 0, none⟩ = false ∧ w.frozen? ⟨p, 1, none⟩ = false ∧ w.frozen? ⟨p, 2, none⟩ = false ∧ w.frozen? ⟨p, 3, none⟩ = false :=
  ⟨⟨by rw [cell_of h]; rfl, by rw [cell_of h]; rfl, by rw [cell_of h]; rfl, by rw [cell_of h]; rfl⟩, frozen_of h, frozen_of h, frozen_of h, frozen_of h⟩
theorem ResN.only {w w' : World} {p R : Nat} (h : ResN w p) (ho : Only (· = R) w w') (hp : p ≠ R) : ResN w' p := by
  unfold ResN
  rw [ho.block p (block_lt h) hp]; exact h
theorem only_set4 {w w' : World} {R p : Nat} (h : Only (· = R) w w') (hp : w.heap.size ≤ p) (a b c d : Value) : Only (· = R) w ((((w'.setCell ⟨p, 0, none⟩ a).setCell ⟨p, 1, none⟩ b).setCell ⟨p, 2, none⟩ c).setCell ⟨p, 3, none⟩ d) := by
  refine h.trans (T := (· = p)) ?_ (fun i hi e => absurd e (by omega))
  exact (((Only.set w' p 0 _).trans (Only.set _ p 1 _) (fun _ _ h => h)).trans (Only.set _ p 2 _) (fun _ _ h => h)).trans (Only.set _ p 3 _) (fun _ _ h => h)
theorem past {W : World} {p : Nat} {cur : Array Value} {T : TypeId} (h : W.heap[p]? = some (.cells cur T (0, 0))) (ob : Obj) (k : Nat) : (W.alloc ob).cell? ⟨p, k, none⟩ = cur[k]? ∧ (W.alloc ob).frozen? ⟨p, k, none⟩ = false :=
  ⟨cell_of (heap_keep' h), frozen_of (heap_keep' h)⟩
theorem res1 {W : World} {p : Nat} (h : ResN W p) (a : Value) : (W.setCell ⟨p, 0, none⟩ a).heap[p]? = some (.cells #[a, .slice none 0 0, .slice none 0 0, .string ⟨#[]⟩] 49 (0, 0)) := by rw [hset_same h]; rfl
theorem res2 {W : World} {p : Nat} (h : ResN W p) (a b : Value) : ((W.setCell ⟨p, 0, none⟩ a).setCell ⟨p, 1, none⟩ b).heap[p]? = some (.cells #[a, b, .slice none 0 0, .string ⟨#[]⟩] 49 (0, 0)) := by rw [hset_same (res1 h a)]; rfl
theorem res3 {W : World} {p : Nat} (h : ResN W p) (a b c : Value) : (((W.setCell ⟨p, 0, none⟩ a).setCell ⟨p, 1, none⟩ b).setCell ⟨p, 2, none⟩ c).heap[p]? = some (.cells #[a, b, c, .string ⟨#[]⟩] 49 (0, 0)) := by rw [hset_same (res2 h a b)]; rfl
theorem res4 {W : World} {p : Nat} (h : ResN W p) (a b c d : Value) : ((((W.setCell ⟨p, 0, none⟩ a).setCell ⟨p, 1, none⟩ b).setCell ⟨p, 2, none⟩ c).setCell ⟨p, 3, none⟩ d).heap[p]? = some (.cells #[a, b, c, d] 49 (0, 0)) := by rw [hset_same (res3 h a b c)]; rfl
set_option maxHeartbeats 4000000 in
set_option maxRecDepth 20000 in
/-- jdl.deeper[cal.Node] -/
theorem deeperN {w : World} {R : Nat} {E d : Int} {B N : Nat} {t : Tk} {r : List Tk} (h : Rdr w R E d B N (t :: r)) (hd0 : 0 ≤ d) (hd1 : d ≤ 16) (K : Nat) (first cap : Array Value) (part : List Tk → Except Fl (Nd × List Tk))
    (hcf : CF K) (hp : d < 16 → ∀ w, Rdr w R E (d + 1) B N r → Calls Tryz.prog K (first ++ cap) w (PE R E (d + 1) B N (part r) VN w)) :
    Calls Tryz.prog 214 #[.pointer (some ⟨R, 0, none⟩), .func (.func K) first cap] w (PE R E d B N (deepP E d part (t :: r)) VN w) := by
  obtain ⟨hN1, hN2⟩ := h.n
  obtain ⟨wA, hwA⟩ : ∃ wA, wA = w.alloc (.cells #[.int .i64 0, .slice none 0 0, .slice none 0 0, .string ⟨#[]⟩] 49) := ⟨_, rfl⟩
  have HRA : Hid (Rdr wA R E d B N (t :: r)) := by rw [hwA]; exact hide (h.below (below_new4 _))
  have HRES : Hid (ResN wA w.heap.size) := by rw [hwA]; exact hide (heap_alloc_new w _)
  have HOA : Hid (Only (· = R) w wA) := by rw [hwA]; exact hide (Only.alloc _ _ _)
  have hzA : wA.heap.size = w.heap.size + 1 := by rw [hwA]; simp
  obtain ⟨x2, f2⟩ := rdr_cell2 HRA.out
  have hcf' := hcf (first ++ cap)
  have HP := hide hp
  by_cases hd : 16 ≤ d
  · have e : deepP E d part (t :: r) = .error (atF E (t :: r), 23) := by unfold deepP; rw [if_pos hd]
    rw [e]
    have HF := hide (fault_any HRA.out 23)
    clear h hp hcf e HP
    obtain rfl : d = 16 := by omega
    subst hwA
    go_enter Tryz.func214, Tryz.ntmps214
    go_wp2_with fail
    refine HF.out.mono ?_
    rintro e w2 ⟨rfl, hb⟩
    have HO := hide (HOA.out.trans (Only.below hb) (fun _ _ h => h))
    clear hb
    go_wp2
    exact ⟨rfl, rfl, HO.out⟩
  · have e : deepP E d part (t :: r) = part r := by unfold deepP; rw [if_neg hd]; rfl
    rw [e]
    have HS := hide (skip_any HRA.out)
    have HPP := hide (HP.out (by omega))
    clear h hp hcf e HP
    have hd' : d < 16 := by omega
    generalize part r = q at *
    subst hwA
    go_enter Tryz.func214, Tryz.ntmps214
    go_wp2_with fail
    refine HS.out.mono ?_
    rintro e w1 ⟨rfl, hr1, ho1⟩
    obtain ⟨y2, g2⟩ := rdr_cell2 hr1
    have HR1 := hide (rdr_deep hr1 (d + 1))
    have HO1 := hide ((HOA.out.trans ho1 (fun _ _ h => h)).trans (Only.set w1 R 2 (.int .i64 (d + 1))) (fun _ _ h => h))
    have HRES1 := hide ((HRES.out.only ho1 (by omega)).only (Only.set w1 R 2 (.int .i64 (d + 1))) (by omega))
    have hs1 := ho1.size
    have hzB : (w1.setCell ⟨R, 2, none⟩ (.int .i64 (d + 1))).heap.size = w1.heap.size := by simp [World.setCell]
    clear hr1 ho1
    go_wp2_with fail
    refine (HPP.out _ HR1.out).mono ?_
    intro e w2 hz
    cases q with
    | error f =>
      obtain ⟨rfl, ho2⟩ := hz
      have HO2 := hide (HO1.out.trans ho2 (fun _ _ h => h))
      clear ho2
      go_wp2
      exact ⟨rfl, rfl, HO2.out⟩
    | ok p =>
      obtain ⟨a, r2⟩ := p
      obtain ⟨v, rfl, ⟨nv, rfl, hon⟩, hr2, ho2⟩ := hz
      simp only at hon hr2
      have HON := hide hon
      have hsz2 := ho2.size
      rw [hzB] at hsz2
      obtain ⟨z2, k2⟩ := rdr_cell2 hr2
      have HO2 := hide (HO1.out.trans ho2 (fun _ _ h => h))
      have HR2 := hide hr2
      have HRN : Hid (ResN w2 w.heap.size) := HRES1.out.only ho2 (by omega)
      have z2' := fun ob : Obj => Below.keeps (below_new4 ob) (Nat.le_refl _) z2
      have k2' : ∀ ob, (w2.alloc ob).frozen? ⟨R, 2, none⟩ = false := fun ob => by
        obtain ⟨uo, uc, o, hh, _⟩ := hr2
        exact (past hh ob 2).2
      have q0 : ∀ ob, (w2.alloc ob).cell? ⟨w.heap.size, 0, none⟩ = some (.int .i64 0) := fun ob => (past HRN.out ob 0).1
      have f0 : ∀ ob, (w2.alloc ob).frozen? ⟨w.heap.size, 0, none⟩ = false := fun ob => (past HRN.out ob 0).2
      have q1 : ∀ ob, (w2.alloc ob).cell? ⟨w.heap.size, 1, none⟩ = some (.slice none 0 0) := fun ob => (past HRN.out ob 1).1
      have f1 : ∀ ob, (w2.alloc ob).frozen? ⟨w.heap.size, 1, none⟩ = false := fun ob => (past HRN.out ob 1).2
      have q2 : ∀ ob, (w2.alloc ob).cell? ⟨w.heap.size, 2, none⟩ = some (.slice none 0 0) := fun ob => (past HRN.out ob 2).1
      have f2 : ∀ ob, (w2.alloc ob).frozen? ⟨w.heap.size, 2, none⟩ = false := fun ob => (past HRN.out ob 2).2
      have q3 : ∀ ob, (w2.alloc ob).cell? ⟨w.heap.size, 3, none⟩ = some (.string ⟨#[]⟩) := fun ob => (past HRN.out ob 3).1
      have f3 : ∀ ob, (w2.alloc ob).frozen? ⟨w.heap.size, 3, none⟩ = false := fun ob => (past HRN.out ob 3).2
      have hne : ¬ w.heap.size = R := by omega
      have hne' : ¬ R = w.heap.size := by omega
      clear hr2 ho2 hon z2 k2 x2
      unfold NVal.val ndV
      go_wp2
      refine bodyPost_ret (v := nv.val) (by simp [results, Tryz.results214, go_sem, q0, q1, q2, q3, NVal.val, ndV]) rfl ?_
      have hW : Only (fun k => k = R ∨ k = w.heap.size) w2 _ := ((((((Only.alloc _ w2 (.cells #[.int .i64 nv.op, .slice nv.no nv.nl nv.nc, .slice nv.ko nv.kl nv.kc, .string nv.nm] 49)).trans (Only.set _ R 2 (.int .i64 d)) (fun _ _ e => .inl e)).trans (Only.set _ w.heap.size 0 (.int .i64 nv.op)) (fun _ _ e => .inr e)).trans (Only.set _ w.heap.size 1 (.slice nv.no nv.nl nv.nc)) (fun _ _ e => .inr e)).trans (Only.set _ w.heap.size 2 (.slice nv.ko nv.kl nv.kc)) (fun _ _ e => .inr e)).trans (Only.set _ w.heap.size 3 (.string nv.nm)) (fun _ _ e => .inr e))
      refine ⟨_, rfl, ⟨nv, rfl, HON.out.mono (fun b hb => ⟨by omega, Nat.lt_of_lt_of_le hb.2 hW.size⟩) (fun ad u hB hc => hW.cell hc (by omega))⟩, ?_, ?_⟩
      · exact (rdr_deep (HR2.out.below (below_new4 _)) d).only (((((Below.refl N _).setCell hN1 _).setCell hN1 _).setCell hN1 _).setCell hN1 _)
      · exact only_set4 ((HO2.out.trans (Only.alloc _ _ _) (fun _ _ h => h)).trans (Only.set _ R 2 _) (fun _ _ h => h)) (Nat.le_refl _) _ _ _ _
end Go.Proofs.YtkpgfhapffijkaaGreatDoor

/- Package jdl: nodes in brackets. -/
namespace Go.Proofs.YtkpgfhapffijkaaGreatDoor
open Go.ChangeShapes Go.WideShapes Go.ChangeAt Go.RowKit Go.DsMem Go.DsLx Go.DsJd Go.DsMk
set_option linter.unusedVariables false
set_option maxHeartbeats 4000000 in
set_option maxRecDepth 20000 in
/-- jdl.bracketed[cal.Node] -/
theorem bracketedN {w : World} {R : Nat} {E d : Int} {B N : Nat} {t : Tk} {r : List Tk} (h : Rdr w R E d B N (t :: r)) (hd0 : 0 ≤ d) (hd1 : d ≤ 16) (K : Nat) (first cap : Array Value) (part : List Tk → Except Fl (Nd × List Tk))
    (hcf : CF K) (hp : d < 16 → ∀ w, Rdr w R E (d + 1) B N r → Calls Tryz.prog K (first ++ cap) w (PE R E (d + 1) B N (part r) VN w)) :
    Calls Tryz.prog 215 #[.pointer (some ⟨R, 0, none⟩), .func (.func K) first cap] w (PE R E d B N (thenP E ⟨#[41]⟩ (deepP E d part (t :: r))) VN w) := by
  obtain ⟨hN1, hN2⟩ := h.n
  have HD : Hid (∀ o, Calls Tryz.prog 214 #[.pointer (some ⟨R, 0, none⟩), .func (.func K) first cap] (w.alloc o) (PE R E d B N (deepP E d part (t :: r)) VN (w.alloc o))) := fun o => deeperN (h.below (below_new4 o)) hd0 hd1 K first cap part hcf hp
  have HM := hide (fun (w : World) (r : List Tk) (h : Rdr w R E d B N r) => must_any ⟨#[41]⟩ h (by decide))
  have HRES : Hid (ResN (w.alloc (.cells #[.int .i64 0, .slice none 0 0, .slice none 0 0, .string ⟨#[]⟩] 49)) w.heap.size) := heap_alloc_new w _
  have HOA : Hid (Only (· = R) w (w.alloc (.cells #[.int .i64 0, .slice none 0 0, .slice none 0 0, .string ⟨#[]⟩] 49))) := Only.alloc _ _ _
  have hzA : (w.alloc (.cells #[.int .i64 0, .slice none 0 0, .slice none 0 0, .string ⟨#[]⟩] 49)).heap.size = w.heap.size + 1 := by simp
  clear h hp hcf
  generalize deepP E d part (t :: r) = q at *
  cases q with
  | error f =>
    unfold PE Ends at HD
    unfold PE Ends thenP
    simp only at HD ⊢
    go_enter Tryz.func215, Tryz.ntmps215
    go_wp2_with fail
    refine (HD.out _).mono ?_
    rintro e w2 ⟨rfl, ho2⟩
    have HO2 := hide (HOA.out.trans ho2 (fun _ _ h => h))
    clear ho2
    go_wp2
    exact ⟨rfl, rfl, HO2.out⟩
  | ok p =>
    obtain ⟨a, r'⟩ := p
    have HM2 := hide (fun (w : World) h => HM.out w r' h)
    have e : thenP E ⟨#[41]⟩ (.ok (a, r')) = (match mustP E ⟨#[41]⟩ r' with | .error f => .error f | .ok r2 => .ok (a, r2)) := rfl
    rw [e]
    clear HM e
    generalize mustP E ⟨#[41]⟩ r' = q2 at *
    unfold PE Ends at HD
    simp only at HD
    go_enter Tryz.func215, Tryz.ntmps215
    go_wp2_with fail
    refine (HD.out _).mono ?_
    rintro e w2 ⟨v, rfl, ⟨nv, rfl, hon⟩, hr2, ho2⟩
    have HON := hide hon
    have hsz2 := ho2.size
    have HR2 := hide hr2
    have HO2 := hide (HOA.out.trans ho2 (fun _ _ h => h))
    have HRN : Hid (ResN w2 w.heap.size) := HRES.out.only ho2 (by omega)
    clear hr2 ho2 hon
    unfold NVal.val ndV
    go_wp2_with fail
    refine (HM2.out _ (HR2.out.below (below_new4 _))).mono ?_
    intro e w3 hz
    cases q2 with
    | error f =>
      obtain ⟨rfl, ho3⟩ := hz
      have HO3 := hide ((HO2.out.trans (Only.alloc _ _ _) (fun _ _ h => h)).trans ho3 (fun _ _ h => h))
      clear ho3
      go_wp2
      exact ⟨rfl, rfl, HO3.out⟩
    | ok r2 =>
      obtain ⟨rfl, hr3, ho3⟩ := hz
      have hsz3 := ho3.size
      have hzB : (w2.alloc (.cells #[.int .i64 nv.op, .slice nv.no nv.nl nv.nc, .slice nv.ko nv.kl nv.kc, .string nv.nm] 49)).heap.size = w2.heap.size + 1 := by simp
      rw [hzB] at hsz3
      have hbox : w3.heap[w2.heap.size]? = some (.cells #[.int .i64 nv.op, .slice nv.no nv.nl nv.nc, .slice nv.ko nv.kl nv.kc, .string nv.nm] 49 (0, 0)) := by
        rw [ho3.block w2.heap.size (by omega) (by omega)]; exact heap_alloc_new w2 _
      have z0 : w3.cell? ⟨w2.heap.size, 0, none⟩ = some (.int .i64 nv.op) := by rw [cell_of hbox]; rfl
      have z1 : w3.cell? ⟨w2.heap.size, 1, none⟩ = some (.slice nv.no nv.nl nv.nc) := by rw [cell_of hbox]; rfl
      have z2 : w3.cell? ⟨w2.heap.size, 2, none⟩ = some (.slice nv.ko nv.kl nv.kc) := by rw [cell_of hbox]; rfl
      have z3 : w3.cell? ⟨w2.heap.size, 3, none⟩ = some (.string nv.nm) := by rw [cell_of hbox]; rfl
      have HRN3 : Hid (ResN w3 w.heap.size) := by
        refine hide (ResN.only (w := w2.alloc (.cells #[.int .i64 nv.op, .slice nv.no nv.nl nv.nc, .slice nv.ko nv.kl nv.kc, .string nv.nm] 49)) ?_ ho3 (by omega))
        exact heap_keep' HRN.out
      obtain ⟨⟨q0, q1, q2, q3⟩, f0, f1, f2, f3⟩ := HRN3.out.all
      have HR3 := hide hr3
      have hW1 : Only (· = R) w2 w3 := (Only.alloc _ _ _).trans ho3 (fun _ _ h => h)
      have HW1 := hide hW1
      have HO3 := hide (HO2.out.trans hW1 (fun _ _ h => h))
      clear hr3 ho3 hbox hW1
      go_wp2
      refine bodyPost_ret (v := nv.val) (by simp [results, Tryz.results215, go_sem, q0, q1, q2, q3, NVal.val, ndV]) rfl ?_
      have hW : Only (fun k => k = R ∨ k = w.heap.size) w2 _ := ((((HW1.out.mono (fun _ _ e => .inl e)).trans (Only.set w3 w.heap.size 0 (.int .i64 nv.op)) (fun _ _ e => .inr e)).trans (Only.set _ w.heap.size 1 (.slice nv.no nv.nl nv.nc)) (fun _ _ e => .inr e)).trans (Only.set _ w.heap.size 2 (.slice nv.ko nv.kl nv.kc)) (fun _ _ e => .inr e)).trans (Only.set _ w.heap.size 3 (.string nv.nm)) (fun _ _ e => .inr e)
      refine ⟨_, rfl, ⟨nv, rfl, HON.out.mono (fun b hb => ⟨by omega, Nat.lt_of_lt_of_le hb.2 hW.size⟩) (fun ad u hB hc => hW.cell hc (by omega))⟩, ?_, ?_⟩
      · exact HR3.out.only (((((Below.refl N _).setCell hN1 _).setCell hN1 _).setCell hN1 _).setCell hN1 _)
      · exact only_set4 HO3.out (Nat.le_refl _) _ _ _ _
end Go.Proofs.YtkpgfhapffijkaaGreatDoor

/- Package jdl: days of all kinds. Written by genk.py. -/
namespace Go.DsJd
open Go.DsLx Go.DsMk
theorem listP_len {α : Type} (E : Int) (sep : ByteArray) (part : List Tk → Except Fl (α × List Tk)) : ∀ (n : Nat) (ws : List Tk) (l : List α) (r : List Tk), listP E sep part n ws = .ok (l, r) → l.length ≤ n
  | 0, ws, l, r, h => by simp [listP] at h
  | n + 1, ws, l, r, h => by
    unfold listP at h
    split at h
    · cases h
    · split at h
      · split at h
        · cases h
        · rename_i l2 r2 h2
          cases h
          have := listP_len E sep part n _ _ _ h2
          simp only [List.length_cons]; omega
      · cases h; simp
theorem listP_suf {α : Type} {E : Int} {sep : ByteArray} {part : List Tk → Except Fl (α × List Tk)} (hp : ∀ ws a r, part ws = .ok (a, r) → r <:+ ws) : ∀ (n : Nat) (ws : List Tk) (l : List α) (r : List Tk), listP E sep part n ws = .ok (l, r) → r <:+ ws
  | 0, ws, l, r, h => by simp [listP] at h
  | n + 1, ws, l, r, h => by
    unfold listP at h
    split at h
    · cases h
    · rename_i a r1 h1
      have s1 := hp _ _ _ h1
      split at h
      · split at h
        · cases h
        · rename_i l2 r2 h2
          cases h
          exact (listP_suf hp n _ _ _ h2).trans ((List.tail_suffix _).trans s1)
      · cases h; exact s1
/-- several parts, one alone stays as it is -/
def manyP (E : Int) (sep : ByteArray) (op : Int) (one : List Tk → Except Fl (Nd × List Tk)) (ws : List Tk) : Except Fl (Nd × List Tk) := match listP E sep one 8 ws with | .error f => .error f | .ok (l, r) => .ok (joinP op l, r)
theorem manyP_suf {E : Int} {sep : ByteArray} {op : Int} {one : List Tk → Except Fl (Nd × List Tk)} (hp : ∀ ws a r, one ws = .ok (a, r) → r <:+ ws) (ws : List Tk) (a : Nd) (r : List Tk) (h : manyP E sep op one ws = .ok (a, r)) : r <:+ ws := by
  unfold manyP at h
  split at h
  · cases h
  · rename_i l r2 h2
    cases h
    exact listP_suf hp _ _ _ _ h2
end Go.DsJd
namespace Go.Proofs.YtkpgfhapffijkaaGreatDoor
open Go.ChangeShapes Go.WideShapes Go.ChangeAt Go.RowKit Go.DsMem Go.DsLx Go.DsJd Go.DsMk
set_option linter.unusedVariables false
set_option maxHeartbeats 4000000 in
set_option maxRecDepth 20000 in
/-- (*jdl.reader).bothDays -/
theorem bothDays_any {w : World} {R : Nat} {E d : Int} {B N : Nat} {ws : List Tk} (h : Rdr w R E d B N ws) (one : List Tk → Except Fl (Nd × List Tk)) (P : List Tk → Prop) (hP0 : P ws) (hPn : ∀ ws a r, P ws → one ws = .ok (a, r) → P r ∧ P r.tail)
    (hp : ∀ w ws, P ws → Rdr w R E d B N ws → Calls Tryz.prog 188 #[.pointer (some ⟨R, 0, none⟩)] w (PE R E d B N (one ws) VN w)) :
    Calls Tryz.prog 162 #[.pointer (some ⟨R, 0, none⟩)] w (PE R E d B N (manyP E ⟨#[97, 110, 100]⟩ 7 one ws) VN w) := by
  obtain ⟨hN1, hN2⟩ := h.n
  have hmf : ∀ (fn : Fn) (first cap : Array Value) (w : World), (Instr.makeFunc fn first cap).run Tryz.prog w = .ok (.func fn first cap) w := fun _ _ _ _ => rfl
  have HL : Hid (∀ o, Calls Tryz.prog 161 #[.pointer (some ⟨R, 0, none⟩), .string ⟨#[97, 110, 100]⟩, .int .i64 8, .func (.func 188) #[.pointer (some ⟨R, 0, none⟩)] #[]] (w.alloc o) (PE R E d B N (listP E ⟨#[97, 110, 100]⟩ one 8 ws) VLN (w.alloc o))) := fun o =>
    listN (h.below (below_new4 o)) 188 #[.pointer (some ⟨R, 0, none⟩)] #[] one ⟨#[97, 110, 100]⟩ (by decide) 8 (by decide) P hP0 hPn (cf_of Tryz.func188 (by decide +kernel) (by kernel_rfl)) hp
  have HRES : Hid (ResN (w.alloc (.cells #[.int .i64 0, .slice none 0 0, .slice none 0 0, .string ⟨#[]⟩] 49)) w.heap.size) := heap_alloc_new w _
  have HOA : Hid (Only (· = R) w (w.alloc (.cells #[.int .i64 0, .slice none 0 0, .slice none 0 0, .string ⟨#[]⟩] 49))) := Only.alloc _ _ _
  have hzA : (w.alloc (.cells #[.int .i64 0, .slice none 0 0, .slice none 0 0, .string ⟨#[]⟩] 49)).heap.size = w.heap.size + 1 := by simp
  have HLN := hide (listP_len E ⟨#[97, 110, 100]⟩ one 8 ws)
  unfold manyP
  clear h hp hPn hP0
  generalize listP E ⟨#[97, 110, 100]⟩ one 8 ws = q at *
  cases q with
  | error f =>
    unfold PE Ends at HL
    unfold PE Ends
    simp only at HL ⊢
    go_enter Tryz.func162, Tryz.ntmps162
    go_wp2_with fail
    refine (HL.out _).mono ?_
    rintro e w2 ⟨rfl, ho2⟩
    have HO2 := hide (HOA.out.trans ho2 (fun _ _ h => h))
    clear ho2
    go_wp2
    exact ⟨rfl, rfl, HO2.out⟩
  | ok p =>
    obtain ⟨l, r⟩ := p
    have hll := HLN.out l r rfl
    unfold PE Ends at HL
    unfold PE Ends
    simp only at HL ⊢
    go_enter Tryz.func162, Tryz.ntmps162
    go_wp2_with fail
    refine (HL.out _).mono ?_
    rintro e w2 ⟨v, rfl, hv, hr2, ho2⟩
    have hsz2 := ho2.size
    have HJ := hide (joinedDays_any (w0 := w.alloc (.cells #[.int .i64 0, .slice none 0 0, .slice none 0 0, .string ⟨#[]⟩] 49)) 7 hv (by omega) (by omega))
    have HR2 := hide hr2
    have HO2 := hide (HOA.out.trans ho2 (fun _ _ h => h))
    have HRN : Hid (ResN w2 w.heap.size) := HRES.out.only ho2 (by omega)
    clear hr2 ho2 hv
    go_wp2_with fail
    refine HJ.out.mono ?_
    rintro e w3 ⟨v', rfl, ⟨nv, rfl, hon⟩, hb3⟩
    have hsz3 := hb3.size
    have HON := hide hon
    have HRN3 : Hid (ResN w3 w.heap.size) := by unfold ResN; rw [hb3.block _ (by omega)]; exact hide HRN.out
    have HR3 := hide (HR2.out.below hb3)
    have HO3 := hide (HO2.out.trans (Only.below hb3) (fun _ _ h => h))
    obtain ⟨⟨q0, q1, q2, q3⟩, f0, f1, f2, f3⟩ := HRN3.out.all
    clear hon hb3
    unfold NVal.val ndV
    go_wp2
    refine bodyPost_ret (v := nv.val) (by simp [results, Tryz.results162, go_sem, q0, q1, q2, q3, NVal.val, ndV]) rfl ?_
    have hW : Only (fun k => k = w.heap.size) w3 _ := (((Only.set w3 w.heap.size 0 (.int .i64 nv.op)).trans (Only.set _ w.heap.size 1 (.slice nv.no nv.nl nv.nc)) (fun _ _ e => e)).trans (Only.set _ w.heap.size 2 (.slice nv.ko nv.kl nv.kc)) (fun _ _ e => e)).trans (Only.set _ w.heap.size 3 (.string nv.nm)) (fun _ _ e => e)
    refine ⟨_, rfl, ⟨nv, rfl, HON.out.mono (fun b hb => ⟨by omega, Nat.lt_of_lt_of_le hb.2 hW.size⟩) (fun ad u hB hc => hW.cell hc (by omega))⟩, ?_, ?_⟩
    · exact HR3.out.only (((((Below.refl N _).setCell hN1 _).setCell hN1 _).setCell hN1 _).setCell hN1 _)
    · exact only_set4 HO3.out (Nat.le_refl _) _ _ _ _
set_option maxHeartbeats 4000000 in
set_option maxRecDepth 20000 in
/-- (*jdl.reader).days -/
theorem days_any {w : World} {R : Nat} {E d : Int} {B N : Nat} {ws : List Tk} (h : Rdr w R E d B N ws) (one : List Tk → Except Fl (Nd × List Tk)) (P : List Tk → Prop) (hP0 : P ws) (hPn : ∀ ws a r, P ws → one ws = .ok (a, r) → P r ∧ P r.tail)
    (hp : ∀ w ws, P ws → Rdr w R E d B N ws → Calls Tryz.prog 162 #[.pointer (some ⟨R, 0, none⟩)] w (PE R E d B N (one ws) VN w)) :
    Calls Tryz.prog 136 #[.pointer (some ⟨R, 0, none⟩)] w (PE R E d B N (manyP E ⟨#[111, 114]⟩ 8 one ws) VN w) := by
  obtain ⟨hN1, hN2⟩ := h.n
  have hmf : ∀ (fn : Fn) (first cap : Array Value) (w : World), (Instr.makeFunc fn first cap).run Tryz.prog w = .ok (.func fn first cap) w := fun _ _ _ _ => rfl
  have HL : Hid (∀ o, Calls Tryz.prog 161 #[.pointer (some ⟨R, 0, none⟩), .string ⟨#[111, 114]⟩, .int .i64 8, .func (.func 162) #[.pointer (some ⟨R, 0, none⟩)] #[]] (w.alloc o) (PE R E d B N (listP E ⟨#[111, 114]⟩ one 8 ws) VLN (w.alloc o))) := fun o =>
    listN (h.below (below_new4 o)) 162 #[.pointer (some ⟨R, 0, none⟩)] #[] one ⟨#[111, 114]⟩ (by decide) 8 (by decide) P hP0 hPn (cf_of Tryz.func162 (by decide +kernel) (by kernel_rfl)) hp
  have HRES : Hid (ResN (w.alloc (.cells #[.int .i64 0, .slice none 0 0, .slice none 0 0, .string ⟨#[]⟩] 49)) w.heap.size) := heap_alloc_new w _
  have HOA : Hid (Only (· = R) w (w.alloc (.cells #[.int .i64 0, .slice none 0 0, .slice none 0 0, .string ⟨#[]⟩] 49))) := Only.alloc _ _ _
  have hzA : (w.alloc (.cells #[.int .i64 0, .slice none 0 0, .slice none 0 0, .string ⟨#[]⟩] 49)).heap.size = w.heap.size + 1 := by simp
  have HLN := hide (listP_len E ⟨#[111, 114]⟩ one 8 ws)
  unfold manyP
  clear h hp hPn hP0
  generalize listP E ⟨#[111, 114]⟩ one 8 ws = q at *
  cases q with
  | error f =>
    unfold PE Ends at HL
    unfold PE Ends
    simp only at HL ⊢
    go_enter Tryz.func136, Tryz.ntmps136
    go_wp2_with fail
    refine (HL.out _).mono ?_
    rintro e w2 ⟨rfl, ho2⟩
    have HO2 := hide (HOA.out.trans ho2 (fun _ _ h => h))
    clear ho2
    go_wp2
    exact ⟨rfl, rfl, HO2.out⟩
  | ok p =>
    obtain ⟨l, r⟩ := p
    have hll := HLN.out l r rfl
    unfold PE Ends at HL
    unfold PE Ends
    simp only at HL ⊢
    go_enter Tryz.func136, Tryz.ntmps136
    go_wp2_with fail
    refine (HL.out _).mono ?_
    rintro e w2 ⟨v, rfl, hv, hr2, ho2⟩
    have hsz2 := ho2.size
    have HJ := hide (joinedDays_any (w0 := w.alloc (.cells #[.int .i64 0, .slice none 0 0, .slice none 0 0, .string ⟨#[]⟩] 49)) 8 hv (by omega) (by omega))
    have HR2 := hide hr2
    have HO2 := hide (HOA.out.trans ho2 (fun _ _ h => h))
    have HRN : Hid (ResN w2 w.heap.size) := HRES.out.only ho2 (by omega)
    clear hr2 ho2 hv
    go_wp2_with fail
    refine HJ.out.mono ?_
    rintro e w3 ⟨v', rfl, ⟨nv, rfl, hon⟩, hb3⟩
    have hsz3 := hb3.size
    have HON := hide hon
    have HRN3 : Hid (ResN w3 w.heap.size) := by unfold ResN; rw [hb3.block _ (by omega)]; exact hide HRN.out
    have HR3 := hide (HR2.out.below hb3)
    have HO3 := hide (HO2.out.trans (Only.below hb3) (fun _ _ h => h))
    obtain ⟨⟨q0, q1, q2, q3⟩, f0, f1, f2, f3⟩ := HRN3.out.all
    clear hon hb3
    unfold NVal.val ndV
    go_wp2
    refine bodyPost_ret (v := nv.val) (by simp [results, Tryz.results136, go_sem, q0, q1, q2, q3, NVal.val, ndV]) rfl ?_
    have hW : Only (fun k => k = w.heap.size) w3 _ := (((Only.set w3 w.heap.size 0 (.int .i64 nv.op)).trans (Only.set _ w.heap.size 1 (.slice nv.no nv.nl nv.nc)) (fun _ _ e => e)).trans (Only.set _ w.heap.size 2 (.slice nv.ko nv.kl nv.kc)) (fun _ _ e => e)).trans (Only.set _ w.heap.size 3 (.string nv.nm)) (fun _ _ e => e)
    refine ⟨_, rfl, ⟨nv, rfl, HON.out.mono (fun b hb => ⟨by omega, Nat.lt_of_lt_of_le hb.2 hW.size⟩) (fun ad u hB hc => hW.cell hc (by omega))⟩, ?_, ?_⟩
    · exact HR3.out.only (((((Below.refl N _).setCell hN1 _).setCell hN1 _).setCell hN1 _).setCell hN1 _)
    · exact only_set4 HO3.out (Nat.le_refl _) _ _ _ _
end Go.Proofs.YtkpgfhapffijkaaGreatDoor
