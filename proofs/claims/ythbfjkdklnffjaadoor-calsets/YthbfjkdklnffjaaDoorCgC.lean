/- The walk of dayshiftlaw06.given. -/
import Derived.Test.YthbfjkdklnffjaaDoorCgB
namespace Go.Proofs.YthbfjkdklnffjaaDoor
open Go.ChangeShapes Go.WideShapes Go.ChangeAt Go.RowKit Go.DsMem Go.DsMk
set_option linter.unusedVariables false

/-- given copies t -/
def GivenOk (t : Nd) : Prop := ∀ (v : NVal) (W w : World), Gc W w → NdAt w v t →
  Calls Tryd.prog 8 #[.agg #[.int .i64 v.op, .slice v.no v.nl v.nc, .slice v.ko v.kl v.kc, .string v.nm]] w fun e w' =>
    ∃ v' : NVal, e = .returned (.agg #[.int .i64 v'.op, .slice v'.no v'.nl v'.nc, .slice v'.ko v'.kl v'.kc, .string v'.nm]) ∧ NdOn (fun b => w.heap.size ≤ b ∧ b < w'.heap.size) w' v' t ∧ Gc W w'

theorem Gc.more' {W w w' : World} {S : Nat → Prop} (h : Gc W w) (ho : Only S w w') (hS : ∀ i, S i → W.heap.size ≤ i) : Gc W w' := Only.gcS h ho hS
set_option maxHeartbeats 8000000 in
set_option maxRecDepth 20000 in
theorem given_step (op : Int) (ns : List Int) (kids : List Nd) (nm : ByteArray) (hk : kids.length ≤ 1954687338211) (hn : ns.length ≤ 17592186043904) (ih : ∀ j (hj : j < kids.length), GivenOk kids[j]) : GivenOk (.mk op ns kids nm) := by
  intro v W w h hv
  have HIH := hide ih
  have HG := hide h
  have HV := hide hv
  cases hv with
  | mk _ _ _ _ no nc ko kc g0 o K hrn hnl hkl hkc hko hc hkk =>
  have HRN := hide hrn
  have HC := hide hc
  have HKK := hide hkk
  have HKO := hide hko
  clear ih h hrn hc hkk hko
  simp only
  go_enter Tryd.func8, Tryd.ntmps8
  go_wp2_with (at_builtin; refine Hid.out ?_)
  refine hide ?_
  obtain ⟨wA, hwA⟩ : ∃ wA, wA = ((w.alloc (.cells #[.int .i64 op, .slice no ns.length nc, .slice ko kids.length kc, .string nm] 26)).alloc (.cells #[.int .i64 0, .slice none 0 0, .slice none 0 0, .string ⟨#[]⟩] 31)).alloc (.cells #[.int .i64 op, .slice none 0 0, .slice none 0 0, .string nm] 31) := ⟨_, rfl⟩
  have f0 : wA.heap[w.heap.size]? = some (.cells #[.int .i64 op, .slice no ns.length nc, .slice ko kids.length kc, .string nm] 26 (0, 0)) := by rw [hwA]; exact heap_keep (heap_keep (heap_alloc_new w _))
  have f1 : wA.heap[w.heap.size + 1]? = some (.cells #[.int .i64 0, .slice none 0 0, .slice none 0 0, .string ⟨#[]⟩] 31 (0, 0)) := by
    rw [hwA]
    refine heap_keep ?_
    have := heap_alloc_new (w.alloc (.cells #[.int .i64 op, .slice no ns.length nc, .slice ko kids.length kc, .string nm] 26)) (.cells #[.int .i64 0, .slice none 0 0, .slice none 0 0, .string ⟨#[]⟩] 31)
    simpa using this
  have f2 : wA.heap[w.heap.size + 2]? = some (.cells #[.int .i64 op, .slice none 0 0, .slice none 0 0, .string nm] 31 (0, 0)) := by
    rw [hwA]
    have := heap_alloc_new ((w.alloc (.cells #[.int .i64 op, .slice no ns.length nc, .slice ko kids.length kc, .string nm] 26)).alloc (.cells #[.int .i64 0, .slice none 0 0, .slice none 0 0, .string ⟨#[]⟩] 31)) (.cells #[.int .i64 op, .slice none 0 0, .slice none 0 0, .string nm] 31)
    simpa using this
  have hzA : wA.heap.size = w.heap.size + 3 := by rw [hwA]; simp
  have HBA : Hid (Below w.heap.size w wA) := by
    refine hide ?_; rw [hwA]
    exact (((Below.refl _ _).alloc (Nat.le_refl _) _).alloc (by simp) _).alloc (by simp; omega) _
  rw [← hwA]
  have HF := hide (And.intro f0 (And.intro f1 f2))
  have e2 : w.heap.size + 1 + 1 = w.heap.size + 2 := rfl
  rw [e2]
  clear hwA e2
  refine wpList_append_rdi rfl _ _ 23 rfl 2 Tryd.underlying23 infoI64' (w.heap.size + 3) _ 0 [] rfl (World.ownsRow_nil _ _ _ _) _ ns rfl (HRN.out.below HBA.out) (by omega) (by omega) ?_
  intro vN w1 hown hgr
  replace hgr : wA.grownBy w1 none := hgr
  rw [Nat.zero_add, List.nil_append] at hown
  obtain ⟨no', nc', rfl, -⟩ := own_shape hown
  have HS0 := hide (GvSt.start (v := ⟨op, no, ns.length, nc, ko, kids.length, kc, nm⟩) (kids := kids) rfl f0 f1 f2 HBA.out hgr hown)
  have x2 : w1.heap[w.heap.size + 2]? = _ := (hgr.block _ (block_lt f2) (by simp)).trans f2
  have x2c : w1.cell? ⟨w.heap.size + 2, 1, none⟩ = some (.slice none 0 0) := by rw [cell_of x2]; rfl
  have x2f : w1.frozen? ⟨w.heap.size + 2, 1, none⟩ = false := frozen_of x2
  clear hown hgr f0 f1 f2 HF x2
  generalize hpe : w.heap.size = p at *
  have HPE := hide hpe
  go_wp2
  obtain ⟨i0, hi0, hz0, hz1, hz2⟩ := info_parts infoNode
  go_loopw [4] (fun tt wr => ∃ (i : Nat) (Kc : Nat → NVal) (uo : Option Addr) (uc : Nat), i ≤ kids.length ∧ tt = .int .i64 i ∧ GvSt w wr p ⟨op, no, ns.length, nc, ko, kids.length, kc, nm⟩ ns kids no' nc' uo uc i Kc) (fun tt _ => kids.length - (intOf tt).toNat)
  case atStart => exact ⟨0, _, none, 0, Nat.zero_le _, rfl, HS0.out⟩
  case round =>
    obtain ⟨i, Kc, uo, uc, hile, rfl, hst⟩ := hrel
    have HST := hide hst
    have HBR : Hid (Below w.heap.size w wr) := hst.below
    have HGR : Hid (Gc W wr) := HG.out.more hst.below
    have b2 : wr.cell? ⟨p, 2, none⟩ = some (.slice ko kids.length kc) := by rw [cell_of hst.box]; rfl
    have y0 : wr.cell? ⟨p + 2, 0, none⟩ = some (.int .i64 op) := by rw [cell_of hst.x]; rfl
    have y1 : wr.cell? ⟨p + 2, 1, none⟩ = some (.slice no' ns.length nc') := by rw [cell_of hst.x]; rfl
    have y2 : wr.cell? ⟨p + 2, 2, none⟩ = some (.slice uo i uc) := by rw [cell_of hst.x]; rfl
    have y3 : wr.cell? ⟨p + 2, 3, none⟩ = some (.string nm) := by rw [cell_of hst.x]; rfl
    have y2f : wr.frozen? ⟨p + 2, 2, none⟩ = false := frozen_of hst.x
    by_cases hlt : i < kids.length
    · obtain rfl := HKO.out (by omega)
      have hin := (HC.out i hlt).mono (w' := wr) fun a u hc => Below.keeps HBR.out (Nat.le_refl _) hc
      have HKD := hide ((HKK.out i hlt).grew HBR.out)
      have HCALL := hide (HIH.out i hlt)
      have HSTEP : Hid (∀ (w1 w2 : World) (v1 : NVal) (g cap : Nat) (ob : Obj), Below wr.heap.size wr w1 → NdOn (fun b => wr.heap.size ≤ b ∧ b < w1.heap.size) w1 v1 kids[i] →
          w2.ownsRow (p + 3) 31 4 (.slice (some ⟨g, 0, none⟩) (i + 1) cap) (i + 1) (rowC Kc i ++ nvC v1) → (w1.alloc ob).grownBy w2 (Value.slice uo i uc).ownBlock → ((Value.slice uo i uc).ownBlock = some g ∨ g = w1.heap.size + 1) →
          GvSt w (w2.setCell ⟨p + 2, 2, none⟩ (.slice (some ⟨g, 0, none⟩) (i + 1) cap)) p ⟨op, no, ns.length, nc, some ⟨g0, o, none⟩, kids.length, kc, nm⟩ ns kids no' nc' (some ⟨g, 0, none⟩) cap (i + 1) (fun j => if j = i then v1 else Kc j)) :=
        fun w1 w2 v1 g cap ob a b c d e => HST.out.step HPE.out.symm hlt a b ob c d e
      have HSZ : Hid (wr.heap.size = wr.drew.heap.size) := hide rfl
      have hrl : ∀ k, (Value.slice uo i uc).ownBlock = some k → p + 3 ≤ k ∧ k < wr.heap.size := hst.row.lt
      have HRL := hide hrl
      have hg0 : g0 < p := by rw [← HPE.out]; exact World.block_lt_of_cell? w _ (HC.out i hlt).c0
      have hp3 : p + 3 ≤ wr.heap.size := block_lt hst.x
      obtain ⟨n0, n1, n2, n3⟩ := hin
      generalize K i = kv at *
      have HCL : Hid (Calls Tryd.prog 8 #[.agg #[.int .i64 kv.op, .slice kv.no kv.nl kv.nc, .slice kv.ko kv.kl kv.kc, .string kv.nm]] wr.drew fun e w' =>
          ∃ v' : NVal, e = .returned (.agg #[.int .i64 v'.op, .slice v'.no v'.nl v'.nc, .slice v'.ko v'.kl v'.kc, .string v'.nm]) ∧ NdOn (fun b => wr.heap.size ≤ b ∧ b < w'.heap.size) w' v' kids[i] ∧ Below wr.heap.size wr w' ∧ Only (fun k => (Value.slice uo i uc).ownBlock = some k) wr.drew w') := by
        refine hide ((HCALL.out kv wr.drew wr.drew HGR.out.drew.here (HKD.out.grew (Below.refl _ _).drew)).mono ?_)
        rintro e w' ⟨v', rfl, hon, hg⟩
        exact ⟨v', rfl, hon, (Below.refl _ _).drew.trans hg.below, Only.below hg.below⟩
      have far : ∀ q, q < p + 3 → ¬ (Value.slice uo i uc).ownBlock = some q := fun q hq e => by have := (HRL.out q e).1; omega
      have KP : Hid (∀ w', Only (fun k => (Value.slice uo i uc).ownBlock = some k) wr.drew w' → w'.cell? ⟨p, 2, none⟩ = some (.slice (some ⟨g0, o, none⟩) kids.length kc) ∧ w'.cell? ⟨g0, o + i * 4, none⟩ = some (.int .i64 kv.op) ∧ w'.cell? ⟨g0, o + i * 4 + 1, none⟩ = some (.slice kv.no kv.nl kv.nc) ∧ w'.cell? ⟨g0, o + i * 4 + 2, none⟩ = some (.slice kv.ko kv.kl kv.kc) ∧ w'.cell? ⟨g0, o + i * 4 + 3, none⟩ = some (.string kv.nm)) := fun w' ho =>
        ⟨ho.cell (w := wr.drew) b2 (far _ (by show p < p + 3; omega)), ho.cell (w := wr.drew) n0 (far _ (by show g0 < p + 3; omega)), ho.cell (w := wr.drew) n1 (far _ (by show g0 < p + 3; omega)), ho.cell (w := wr.drew) n2 (far _ (by show g0 < p + 3; omega)), ho.cell (w := wr.drew) n3 (far _ (by show g0 < p + 3; omega))⟩
      have KP2 : Hid (∀ w' x, Only (fun k => (Value.slice uo i uc).ownBlock = some k) wr.drew w' → (w'.setCell ⟨p + 2, 2, none⟩ x).cell? ⟨p, 2, none⟩ = some (.slice (some ⟨g0, o, none⟩) kids.length kc) ∧ (w'.setCell ⟨p + 2, 2, none⟩ x).cell? ⟨g0, o + i * 4, none⟩ = some (.int .i64 kv.op) ∧ (w'.setCell ⟨p + 2, 2, none⟩ x).cell? ⟨g0, o + i * 4 + 1, none⟩ = some (.slice kv.no kv.nl kv.nc) ∧ (w'.setCell ⟨p + 2, 2, none⟩ x).cell? ⟨g0, o + i * 4 + 2, none⟩ = some (.slice kv.ko kv.kl kv.kc) ∧ (w'.setCell ⟨p + 2, 2, none⟩ x).cell? ⟨g0, o + i * 4 + 3, none⟩ = some (.string kv.nm)) := fun w' x ho => by
        obtain ⟨q0, q1, q2, q3, q4⟩ := KP.out w' ho
        exact ⟨by rw [cell_set_ne (by omega)]; exact q0, by rw [cell_set_ne (by omega)]; exact q1, by rw [cell_set_ne (by omega)]; exact q2, by rw [cell_set_ne (by omega)]; exact q3, by rw [cell_set_ne (by omega)]; exact q4⟩
      have KY : Hid (∀ w', Only (fun k => (Value.slice uo i uc).ownBlock = some k) wr.drew w' → w'.cell? ⟨p + 2, 2, none⟩ = some (.slice uo i uc) ∧ w'.frozen? ⟨p + 2, 2, none⟩ = false) := fun w' ho =>
        ⟨ho.cell (w := wr.drew) y2 (far _ (by show p + 2 < p + 3; omega)), (World.frozen?_of_block (w := wr.drew) (ho.block (p + 2) (by show p + 2 < wr.heap.size; omega) (far _ (by omega)))).trans y2f⟩
      have HROW := hide hst.row
      have hi0' : (0 : Int) ≤ (i : Int) := Int.natCast_nonneg _
      have hi1 : (i : Int) < (kids.length : Int) := by omega
      have hR0 : Only (fun k => (Value.slice uo i uc).ownBlock = some k) wr.drew wr.drew := Only.refl _ _
      generalize kids[i] = kt at *
      clear hst HCALL HKD y0 y1 y3
      go_wp2_with fail
      go_region_law
        (first
          | (refine step_append_lies _ (by rfl) _ _ _ (by rfl) (p + 3) 31 i0 _ 4 72 Tryd.underlying29 hi0 hz0 hz1 hz2 rfl (by omega) (.slice uo i uc) i (rowC Kc i) (by rfl) (hr2.alloc _)
                  ⟨w2.heap.size, 0, none⟩ 1 1 (nvC v1) (by rfl) (by rfl) (World.news_of_block (cs := (nvC v1).toArray) (t := 31) (fr := (0, 0)) (heap_alloc_new w2 _)) (nvC_one v1)
                  (by omega) (by unfold maxLen; omega) (by omega) (by simp; omega) (w2.heap.size + 1) (by simp) ?_; intro gg cap w3 hown3 hgrow hat hlt3; have hR3 : Only (fun k => (Value.slice uo i uc).ownBlock = some k) wr.drew w3 := (hR1.trans (Only.alloc _ _ _) (fun _ _ h => h)).trans (Only.grown hgrow) (fun _ _ h => h); obtain ⟨y32, y32f⟩ := KY.out _ hR3)
          | (go_simp; go_wp2_with (go_at_call 8; refine HCL.out.mono ?_; rintro e w2 ⟨v1, rfl, hon1, hb1, hR1⟩; have hr2 : w2.ownsRow (p + 3) 31 4 (.slice uo i uc) i (rowC Kc i) := own_same4 HROW.out (fun k hk => hb1.block k (HRL.out k hk).2); have hs2 := hb1.size; obtain ⟨y22, y22f⟩ := KY.out _ hR1; have hne2 : ¬ p + 2 = w2.heap.size := (by omega); have hlt2 : p + 2 < w2.heap.size := (by omega))))
      all_goals
        have HNEW := hide (HSTEP.out w2 w3 v1 gg cap _ hb1 hon1 hown3 hgrow hat)
        clear hb1 hon1 hown3 hgrow hat hr2 hR1 hR3 y22 y22f y32 y32f hlt3
        go_wp2
        go_roundw
        case rel => exact ⟨i + 1, _, _, _, by omega, by go_num, HNEW.out⟩
        case measure => simp [intOf]; omega
    · obtain rfl : i = kids.length := by omega
      have r0 : wr.cell? ⟨p + 1, 0, none⟩ = some (.int .i64 0) := by rw [cell_of hst.res]; rfl
      have r1 : wr.cell? ⟨p + 1, 1, none⟩ = some (.slice none 0 0) := by rw [cell_of hst.res]; rfl
      have r2 : wr.cell? ⟨p + 1, 2, none⟩ = some (.slice none 0 0) := by rw [cell_of hst.res]; rfl
      have r3 : wr.cell? ⟨p + 1, 3, none⟩ = some (.string ⟨#[]⟩) := by rw [cell_of hst.res]; rfl
      have q0 : wr.frozen? ⟨p + 1, 0, none⟩ = false := frozen_of hst.res
      have q1 : wr.frozen? ⟨p + 1, 1, none⟩ = false := frozen_of hst.res
      have q2 : wr.frozen? ⟨p + 1, 2, none⟩ = false := frozen_of hst.res
      have q3 : wr.frozen? ⟨p + 1, 3, none⟩ = false := frozen_of hst.res
      clear hst
      go_wp2
      refine bodyPost_ret (v := .agg #[.int .i64 op, .slice no' ns.length nc', .slice uo kids.length uc, .string nm]) (by simp [results, Tryd.results8, go_sem, r0, r1, r2, r3]) rfl ?_
      have ho : Only (· = p + 1) wr ((((wr.setCell ⟨p + 1, 0, none⟩ (.int .i64 op)).setCell ⟨p + 1, 1, none⟩ (.slice no' ns.length nc')).setCell ⟨p + 1, 2, none⟩ (.slice uo kids.length uc)).setCell ⟨p + 1, 3, none⟩ (.string nm)) :=
        (((Only.set _ _ _ _).trans (Only.set _ _ _ _) (fun _ _ h => h)).trans (Only.set _ _ _ _) (fun _ _ h => h)).trans (Only.set _ _ _ _) (fun _ _ h => h)
      exact ⟨⟨op, no', ns.length, nc', uo, kids.length, uc, nm⟩, rfl, HST.out.finish HPE.out.symm hn hkl ho, HGR.out.more' ho (by have := HG.out.below.size; have := HPE.out; intro i hi; omega)⟩
theorem given_any {t : Nd} (h : Fits t) : GivenOk t := by
  induction h with
  | mk op ns kids nm hk hn _ ih => exact given_step op ns kids nm hk hn ih
end Go.Proofs.YthbfjkdklnffjaaDoor
