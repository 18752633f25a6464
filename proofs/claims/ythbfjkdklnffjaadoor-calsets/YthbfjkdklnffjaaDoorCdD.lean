/- Package cal: the walk of follow. -/
import Derived.Test.YthbfjkdklnffjaaDoorJ6
namespace Go.Proofs.YthbfjkdklnffjaaDoor
open Go.ChangeShapes Go.WideShapes Go.ChangeAt Go.RowKit Go.DsMem Go.DsMk
set_option linter.unusedVariables false

/-- meet is met, at most f nodes on -/
def MeetOk (f : Nat) : Prop := ∀ (t : Nd) (v : NVal) (refs : Nat) (inw : Bool) (met : Nat) (W w : World) (pw : Nat) (co : Option Addr) (cc : Nat) (cs : List (ByteArray × Nd)) (g o : Nat) (V : Nat → NVal),
  Gc W w → W.heap.size ≤ pw → NdAt W v t → CalsAt W co cc cs g o V → WkAt w pw co cs.length cc met → met ≤ 256 → 257 ≤ met + f → refs ≤ 24 →
  Calls Tryd.prog 24 #[.pointer (some ⟨pw, 0, none⟩), v.val, spV refs inw] w (Met w pw co cs.length cc (meetF cs f t refs inw met))
def followF (cs : List (ByteArray × Nd)) (f : Nat) (nm : ByteArray) (op : Int) (refs : Nat) (inw : Bool) (met : Nat) : Int × Nat :=
  match calOf cs nm with
  | none => (21, met)
  | some t => if refs = 24 then (23, met) else meetF cs f t (refs + 1) (inw || op == 5) met

theorem Met.of {w w' : World} {pw : Nat} {co : Option Addr} {cl cc : Nat} {r : Int × Nat} {e : Ending} (h : e = .returned (.int .i64 r.1) ∧ WkAt w' pw co cl cc r.2 ∧ Only (· = pw) w w') : Met w pw co cl cc r e w' := h
theorem calOf_some {cs : List (ByteArray × Nd)} {nm : ByteArray} (h : fiC cs nm < cs.length) : calOf cs nm = some cs[fiC cs nm].2 := by unfold calOf; rw [List.getElem?_eq_getElem h]; rfl
theorem calOf_none {cs : List (ByteArray × Nd)} {nm : ByteArray} (h : ¬ fiC cs nm < cs.length) : calOf cs nm = none := by unfold calOf; rw [List.getElem?_eq_none (by omega)]; rfl

set_option maxHeartbeats 8000000 in
set_option maxRecDepth 20000 in
/-- cal.walk.follow -/
theorem follow_step (f : Nat) (ih : MeetOk f) (op : Int) (no : Option Addr) (nl nc : Nat) (ko : Option Addr) (kl kc : Nat) (nm : ByteArray) (refs : Nat) (inw : Bool) (met : Nat) (W w : World) (pw : Nat) (co : Option Addr) (cc : Nat) (cs : List (ByteArray × Nd)) (g o : Nat) (V : Nat → NVal)
    (h : Gc W w) (hp : W.heap.size ≤ pw) (hc : CalsAt W co cc cs g o V) (hw : WkAt w pw co cs.length cc met) (hm : met ≤ 256) (hf : 257 ≤ met + f) (hr : refs ≤ 24) :
    Calls Tryd.prog 32 #[.pointer (some ⟨pw, 0, none⟩), ndV op no nl nc ko kl kc nm, spV refs inw] w (Met w pw co cs.length cc (followF cs f nm op refs inw met)) := by
  have HIH := hide ih
  have HG := hide h
  have HC := hide hc
  have HW := hide hw
  have hlen := hc.len
  clear ih h hc hw
  unfold ndV spV
  go_enter Tryd.func32, Tryd.ntmps32
  go_wp2
  obtain ⟨wB, hwB⟩ : ∃ wB, wB = w.alloc (.cells #[.int .i64 op, .slice no nl nc, .slice ko kl kc, .string nm] 31) := ⟨_, rfl⟩
  have hbx : NBox wB w.heap.size op no nl nc ko kl kc nm := by rw [hwB]; exact NBox.new _ _ _ _ _ _ _ _ _
  have HZ : Hid (w.heap.size + 1 = wB.heap.size) := by rw [hwB]; show _ = _; simp
  have HBL : Hid (Below w.heap.size w wB) := by rw [hwB]; exact (Below.refl _ _).alloc (Nat.le_refl _) _
  rw [← hwB, HZ.out]
  clear hwB
  obtain ⟨wA, hwA⟩ : ∃ wA, wA = wB.alloc (.cells #[.int .i64 refs, .bool inw] 65) := ⟨_, rfl⟩
  have hsp : wA.heap[wB.heap.size]? = some (.cells #[.int .i64 refs, .bool inw] 65 (0, 0)) := by rw [hwA]; exact heap_alloc_new wB _
  have HBA : Hid (Below w.heap.size w wA) := by rw [hwA]; exact HBL.out.trans (((Below.refl _ _).alloc (Nat.le_refl _) _).mono HBL.out.size)
  have HBX : Hid (NBox wA w.heap.size op no nl nc ko kl kc nm) := by rw [hwA]; exact hbx.below ((Below.refl _ _).alloc (Nat.le_refl _) _)
  rw [← hwA]
  have HSP := hide hsp
  clear hwA hbx hsp
  have HGA : Hid (Gc W wA) := HG.out.more HBA.out
  have HWA : Hid (WkAt wA pw co cs.length cc met) := HW.out.below HBA.out
  generalize hp5 : wB.heap.size = p5 at HSP HZ ⊢
  generalize hp4 : w.heap.size = p4 at HBX HZ ⊢
  have b3 := HBX.out.c3
  have k0 := HWA.out.c0
  have hg0 : Gc wA wA.drew := HGA.out.here.drew
  have KP : Hid (∀ w', Gc wA w' → w'.cell? ⟨pw, 0, none⟩ = some (.slice co cs.length cc) ∧ w'.cell? ⟨p4, 3, none⟩ = some (.string nm)) := fun w' hw => ⟨(HWA.out.below hw.below).c0, (HBX.out.below hw.below).c3⟩
  have HCA : Hid (∀ w', Gc wA w' → CalsAt w' co cc cs g o V) := fun w' hw => HC.out.grew (HGA.out.more hw.below).below
  go_region_held3 (fun w' => w'.cell? ⟨pw, 0, none⟩ = some (.slice co cs.length cc) ∧ w'.cell? ⟨p4, 3, none⟩ = some (.string nm)) (first | go_keep | (exact KP.out _ (by assumption)))
    ((go_at_call 49; refine (Gc.find (W := wA) (by assumption) co cc cs g o V (by exact HCA.out _ (by assumption)) nm).mono ?_; rintro e w1 ⟨rfl, hgF⟩))
  have HGF := hide hgF
  have HON : Hid (Only (· = pw) w w1) := Only.below (HBA.out.trans (HGF.out.below.mono HBA.out.size))
  have HWF : Hid (WkAt w1 pw co cs.length cc met) := HWA.out.below HGF.out.below
  clear hgF hg0 k0 b3 KP
  by_cases hfi : fiC cs nm < cs.length
  · have HV : Hid (fiV cs nm = (fiC cs nm : Int)) := by show _ = _; unfold fiV; rw [if_pos hfi]
    rw [HV.out]
    have HCO := hide (calOf_some hfi)
    have HFF : Hid (followF cs f nm op refs inw met = if refs = 24 then (23, met) else meetF cs f cs[fiC cs nm].2 (refs + 1) (inw || op == 5) met) := by show _ = _; unfold followF; rw [HCO.out]
    have HNI := hide ((HCA.out w1 HGF.out).cell _ hfi)
    have HND : Hid (NdAt W (V (fiC cs nm)) cs[fiC cs nm].2) := HC.out.node _ hfi
    obtain rfl := HC.out.at_ (by omega)
    generalize cs[fiC cs nm].2 = kt at *
    generalize hie : fiC cs nm = i at *
    have HIE := hide hie
    clear hie
    generalize V i = kv at *
    have hspc : w1.heap[p5]? = some (.cells #[.int .i64 refs, .bool inw] 65 (0, 0)) := by rw [HGF.out.below.block _ (block_lt HSP.out)]; exact HSP.out
    have s0 : w1.cell? ⟨p5, 0, none⟩ = some (.int .i64 refs) := by rw [cell_of hspc]; rfl
    have s1 : w1.cell? ⟨p5, 1, none⟩ = some (.bool inw) := by rw [cell_of hspc]; rfl
    have q0 := (HBX.out.below HGF.out.below).c0
    have k0 := HWF.out.c0
    obtain ⟨n0, n1, n2, n3⟩ := HNI.out
    by_cases hr24 : refs = 24
    · have HR : Hid (followF cs f nm op refs inw met = (23, met)) := by show _ = _; rw [HFF.out, if_pos hr24]
      have r24 : ((refs : Int) == 24) = true := by simp; omega
      clear hr24
      go_wp2
      go_ret
      exact Met.of ⟨ret_int (by rw [HR.out]), by rw [HR.out]; exact HWF.out, HON.out⟩
    · have HR : Hid (followF cs f nm op refs inw met = meetF cs f kt (refs + 1) (inw || op == 5) met) := by show _ = _; rw [HFF.out, if_neg hr24]
      have r24 : ((refs : Int) == 24) = false := by simp; omega
      have hwrap : IntKind.i64.wrap ((refs : Int) + 1) = (refs : Int) + 1 := by rw [IntKind.wrap_i64]; omega
      obtain ⟨bw, hbw⟩ : ∃ b, (inw || op == 5) = b := ⟨_, rfl⟩
      rw [hbw] at HR
      have i0 : (0 : Int) ≤ (i : Int) := by omega
      have il : (i : Int) < (cs.length : Int) := by omega
      have hg1 : Gc W w1.drew := (HGA.out.more HGF.out.below).drew
      have HW1 : Hid (WkAt w1.drew pw (some ⟨g, o, none⟩) cs.length cc met) := HWF.out.below (Below.refl _ _).drew
      have HCALL := hide (HIH.out kt kv (refs + 1) bw met W w1.drew pw (some ⟨g, o, none⟩) cc cs g o V hg1 hp HND.out HC.out HW1.out hm hf (by omega))
      unfold NVal.val ndV spV at HCALL
      have ecast : (((refs + 1 : Nat) : Int)) = (refs : Int) + 1 := by omega
      rw [ecast] at HCALL
      clear hr24 ecast hg1
      have hpw : pw < w.heap.size := block_lt HW.out
      have ne4 : ¬ p4 = pw := by omega
      have ne5 : ¬ p5 = pw := by have := HZ.out; omega
      have neg : ¬ g = pw := fun e => by have := World.block_lt_of_cell? W _ (HC.out.name i (by omega)); simp at this; omega
      have KPM : Hid (∀ w2 m2, WkAt w2 pw (some ⟨g, o, none⟩) cs.length cc m2 → Only (· = pw) w1.drew w2 → w2.cell? ⟨pw, 0, none⟩ = some (.slice (some ⟨g, o, none⟩) cs.length cc) ∧ w2.cell? ⟨p5, 0, none⟩ = some (.int .i64 refs) ∧ w2.cell? ⟨p5, 1, none⟩ = some (.bool inw) ∧ w2.cell? ⟨p4, 0, none⟩ = some (.int .i64 op) ∧ w2.cell? ⟨g, o + i * 5 + 1, none⟩ = some (.int .i64 kv.op) ∧ w2.cell? ⟨g, o + i * 5 + 1 + 1, none⟩ = some (.slice kv.no kv.nl kv.nc) ∧ w2.cell? ⟨g, o + i * 5 + 1 + 2, none⟩ = some (.slice kv.ko kv.kl kv.kc) ∧ w2.cell? ⟨g, o + i * 5 + 1 + 3, none⟩ = some (.string kv.nm)) := fun w2 m2 hk ho =>
        ⟨hk.c0, ho.cell (w := w1.drew) s0 ne5, ho.cell (w := w1.drew) s1 ne5, ho.cell (w := w1.drew) q0 ne4, ho.cell (w := w1.drew) n0 neg, ho.cell (w := w1.drew) n1 neg, ho.cell (w := w1.drew) n2 neg, ho.cell (w := w1.drew) n3 neg⟩
      clear hpw ne4 ne5 neg
      go_wp2
      cases inw
      · simp only [Bool.false_or] at hbw
        first
          | (go_region_held3 (fun w' => w'.cell? ⟨pw, 0, none⟩ = some (.slice (some ⟨g, o, none⟩) cs.length cc) ∧ w'.cell? ⟨p5, 0, none⟩ = some (.int .i64 refs) ∧ w'.cell? ⟨p5, 1, none⟩ = some (.bool false) ∧ w'.cell? ⟨p4, 0, none⟩ = some (.int .i64 op) ∧ w'.cell? ⟨g, o + i * 5 + 1, none⟩ = some (.int .i64 kv.op) ∧ w'.cell? ⟨g, o + i * 5 + 1 + 1, none⟩ = some (.slice kv.no kv.nl kv.nc) ∧ w'.cell? ⟨g, o + i * 5 + 1 + 2, none⟩ = some (.slice kv.ko kv.kl kv.kc) ∧ w'.cell? ⟨g, o + i * 5 + 1 + 3, none⟩ = some (.string kv.nm)) (first | go_keep | (exact KPM.out _ _ (by assumption) (by assumption))) ((go_at_call 24; refine HCALL.out.mono ?_; rintro e w2 ⟨rfl, hwk, hon⟩)))
          | fail
        have HWK := hide hwk
        have HON2 := hide hon
        clear hwk hon
        go_wp2
        go_ret
        exact Met.of ⟨ret_int (by rw [HR.out]), by rw [HR.out]; exact HWK.out, HON.out.drew.trans HON2.out (fun _ _ h => h)⟩
      · simp only [Bool.true_or] at hbw
        subst hbw
        have hHeld := KPM.out w1.drew met HW1.out (Only.refl _ _)
        refine wp_region_noPanic ?_
        refine wp_region_held (S := (fun w' => w'.cell? ⟨pw, 0, none⟩ = some (.slice (some ⟨g, o, none⟩) cs.length cc) ∧ w'.cell? ⟨p5, 0, none⟩ = some (.int .i64 refs) ∧ w'.cell? ⟨p5, 1, none⟩ = some (.bool true) ∧ w'.cell? ⟨p4, 0, none⟩ = some (.int .i64 op) ∧ w'.cell? ⟨g, o + i * 5 + 1, none⟩ = some (.int .i64 kv.op) ∧ w'.cell? ⟨g, o + i * 5 + 1 + 1, none⟩ = some (.slice kv.no kv.nl kv.nc) ∧ w'.cell? ⟨g, o + i * 5 + 1 + 2, none⟩ = some (.slice kv.ko kv.kl kv.kc) ∧ w'.cell? ⟨g, o + i * 5 + 1 + 3, none⟩ = some (.string kv.nm))) (by kernel_rfl) ?_
        change wpAnyH _ _ _ _ _ _ _ _ (World.drew _)
        refine wpAnyH_take (i := 0) (v := ?v0) rfl (by kernel_rfl) (by kernel_rfl) (by kernel_rfl) (fun _ _ _ h => h) (Or.inl ⟨by rfl, ?y0⟩) (by assumption) ?r0
        case y0 => intro w hSw; (try dsimp only at hSw); go_simp; first | done | with_reducible rfl
        simp only [Act.put, List.getElem_toArray, List.getElem_cons_zero, List.setIfInBounds_toArray, List.set_cons_zero, List.set_cons_succ]
        refine wpAnyH_take (i := 1) (v := ?v1) rfl (by kernel_rfl) (by kernel_rfl) (by kernel_rfl) (fun _ _ _ h => h) (Or.inl ⟨by rfl, ?y1⟩) (by assumption) ?r1
        case y1 => intro w hSw; (try dsimp only at hSw); go_simp; first | done | with_reducible rfl
        simp only [Act.put, List.getElem_toArray, List.getElem_cons_zero, List.getElem_cons_succ, List.setIfInBounds_toArray, List.set_cons_zero, List.set_cons_succ]
        refine wpAnyH_take (i := 2) (v := ?v2) rfl (by kernel_rfl) (by kernel_rfl) (by kernel_rfl) (fun _ _ _ h => h) (Or.inl ⟨by rfl, ?y2⟩) (by assumption) ?r2
        case y2 => intro w hSw; (try dsimp only at hSw); go_simp; first | done | with_reducible rfl
        simp only [Act.put, List.getElem_toArray, List.getElem_cons_zero, List.getElem_cons_succ, List.setIfInBounds_toArray, List.set_cons_zero, List.set_cons_succ]
        refine wpAnyH_take (i := 3) (v := ?v3) rfl (by kernel_rfl) (by kernel_rfl) (by kernel_rfl) (fun _ _ _ h => h) (Or.inl ⟨by rfl, ?y3⟩) (by assumption) ?r3
        case y3 => intro w hSw; (try dsimp only at hSw); go_simp; first | done | with_reducible rfl
        simp only [Act.put, List.getElem_toArray, List.getElem_cons_zero, List.getElem_cons_succ, List.setIfInBounds_toArray, List.set_cons_zero, List.set_cons_succ]
        refine wpAnyH_take (i := 4) (v := ?v4) rfl (by kernel_rfl) (by kernel_rfl) (by kernel_rfl) (fun _ _ _ h => h) (Or.inl ⟨by rfl, ?y4⟩) (by assumption) ?r4
        case y4 => intro w hSw; (try dsimp only at hSw); go_simp; first | done | with_reducible rfl
        simp only [Act.put, List.getElem_toArray, List.getElem_cons_zero, List.getElem_cons_succ, List.setIfInBounds_toArray, List.set_cons_zero, List.set_cons_succ]
        refine wpAnyH_take (i := 5) (v := ?v5) rfl (by kernel_rfl) (by kernel_rfl) (by kernel_rfl) (fun _ _ _ h => h) (Or.inl ⟨by rfl, ?y5⟩) (by assumption) ?r5
        case y5 => intro w hSw; (try dsimp only at hSw); go_simp; first | done | with_reducible rfl
        simp only [Act.put, List.getElem_toArray, List.getElem_cons_zero, List.getElem_cons_succ, List.setIfInBounds_toArray, List.set_cons_zero, List.set_cons_succ]
        refine wpAnyH_take (i := 6) (v := ?v6) rfl (by kernel_rfl) (by kernel_rfl) (by kernel_rfl) (fun _ _ _ h => h) (Or.inl ⟨by rfl, ?y6⟩) (by assumption) ?r6
        case y6 => intro w hSw; (try dsimp only at hSw); go_simp; first | done | with_reducible rfl
        simp only [Act.put, List.getElem_toArray, List.getElem_cons_zero, List.getElem_cons_succ, List.setIfInBounds_toArray, List.set_cons_zero, List.set_cons_succ]
        refine wpAnyH_take (i := 7) (v := ?v7) rfl (by kernel_rfl) (by kernel_rfl) (by kernel_rfl) (fun _ _ _ h => h) (Or.inl ⟨by rfl, ?y7⟩) (by assumption) ?r7
        case y7 => intro w hSw; (try dsimp only at hSw); go_simp; first | done | with_reducible rfl
        simp only [Act.put, List.getElem_toArray, List.getElem_cons_zero, List.getElem_cons_succ, List.setIfInBounds_toArray, List.set_cons_zero, List.set_cons_succ]
        refine wpAnyH_take (i := 8) (v := ?v8) rfl (by kernel_rfl) (by kernel_rfl) (by kernel_rfl) (fun _ _ _ h => h) (Or.inl ⟨by rfl, ?y8⟩) (by assumption) ?r8
        case y8 => intro w hSw; (try dsimp only at hSw); go_simp; first | done | with_reducible rfl
        simp only [Act.put, List.getElem_toArray, List.getElem_cons_zero, List.getElem_cons_succ, List.setIfInBounds_toArray, List.set_cons_zero, List.set_cons_succ]
        refine wpAnyH_take (i := 9) (v := ?v9) rfl (by kernel_rfl) (by kernel_rfl) (by kernel_rfl) (fun _ _ _ h => h) (Or.inl ⟨by rfl, ?y9⟩) (by assumption) ?r9
        case y9 => intro w hSw; (try dsimp only at hSw); go_simp; first | done | with_reducible rfl
        simp only [Act.put, List.getElem_toArray, List.getElem_cons_zero, List.getElem_cons_succ, List.setIfInBounds_toArray, List.set_cons_zero, List.set_cons_succ]
        refine wpAnyH_take (i := 10) (v := ?v10) rfl (by kernel_rfl) (by kernel_rfl) (by kernel_rfl) (fun _ _ _ h => h) (Or.inl ⟨by rfl, ?y10⟩) (by assumption) ?r10
        case y10 => intro w hSw; (try dsimp only at hSw); go_simp; first | done | with_reducible rfl
        simp only [Act.put, List.getElem_toArray, List.getElem_cons_zero, List.getElem_cons_succ, List.setIfInBounds_toArray, List.set_cons_zero, List.set_cons_succ]
        refine wpAnyH_take (i := 11) (v := ?v11) rfl (by kernel_rfl) (by kernel_rfl) (by kernel_rfl) (fun _ _ _ h => h) (Or.inl ⟨by rfl, ?y11⟩) (by assumption) ?r11
        case y11 => intro w hSw; (try dsimp only at hSw); go_simp; first | done | with_reducible rfl
        simp only [Act.put, List.getElem_toArray, List.getElem_cons_zero, List.getElem_cons_succ, List.setIfInBounds_toArray, List.set_cons_zero, List.set_cons_succ]
        refine wpAnyH_take (i := 12) (v := ?v12) rfl (by kernel_rfl) (by kernel_rfl) (by kernel_rfl) (fun _ _ _ h => h) (Or.inl ⟨by rfl, ?y12⟩) (by assumption) ?r12
        case y12 => intro w hSw; (try dsimp only at hSw); go_simp; first | done | with_reducible rfl
        simp only [Act.put, List.getElem_toArray, List.getElem_cons_zero, List.getElem_cons_succ, List.setIfInBounds_toArray, List.set_cons_zero, List.set_cons_succ]
        refine wpAnyH_take (i := 13) (v := ?v13) rfl (by kernel_rfl) (by kernel_rfl) (by kernel_rfl) (fun _ _ _ h => h) (Or.inl ⟨by rfl, ?y13⟩) (by assumption) ?r13
        case y13 => intro w hSw; (try dsimp only at hSw); go_simp; first | done | with_reducible rfl
        simp only [Act.put, List.getElem_toArray, List.getElem_cons_zero, List.getElem_cons_succ, List.setIfInBounds_toArray, List.set_cons_zero, List.set_cons_succ]
        refine wpAnyH_take (i := 14) (v := ?v14) rfl (by kernel_rfl) (by kernel_rfl) (by kernel_rfl) (fun _ _ _ h => h) (Or.inl ⟨by rfl, ?y14⟩) (by assumption) ?r14
        case y14 => intro w hSw; (try dsimp only at hSw); go_simp; first | done | with_reducible rfl
        simp only [Act.put, List.getElem_toArray, List.getElem_cons_zero, List.getElem_cons_succ, List.setIfInBounds_toArray, List.set_cons_zero, List.set_cons_succ]
        refine wpAnyH_take (i := 15) (v := undef) rfl (by kernel_rfl) (by kernel_rfl) (by kernel_rfl) (fun _ _ _ h => h) (Or.inr ⟨by rfl, rfl⟩) (by assumption) ?_
        simp only [Act.put, List.getElem_toArray, List.getElem_cons_zero, List.getElem_cons_succ, List.setIfInBounds_toArray, List.set_cons_zero, List.set_cons_succ]
        refine wpAnyH_take (i := 16) (v := undef) rfl (by kernel_rfl) (by kernel_rfl) (by kernel_rfl) (fun _ _ _ h => h) (Or.inr ⟨by rfl, rfl⟩) (by assumption) ?_
        simp only [Act.put, List.getElem_toArray, List.getElem_cons_zero, List.getElem_cons_succ, List.setIfInBounds_toArray, List.set_cons_zero, List.set_cons_succ]
        refine wpAnyH_take (i := 17) (v := undef) rfl (by kernel_rfl) (by kernel_rfl) (by kernel_rfl) (fun _ _ _ h => h) (Or.inr ⟨by rfl, rfl⟩) (by assumption) ?_
        simp only [Act.put, List.getElem_toArray, List.getElem_cons_zero, List.getElem_cons_succ, List.setIfInBounds_toArray, List.set_cons_zero, List.set_cons_succ]
        refine wpAnyH_take (i := 18) (v := ?v18) rfl (by kernel_rfl) (by kernel_rfl) (by kernel_rfl) (fun _ _ _ h => h) (Or.inl ⟨by rfl, ?y18⟩) (by assumption) ?r18
        case y18 => intro w hSw; (try dsimp only at hSw); go_simp; first | done | with_reducible rfl
        simp only [Act.put, List.getElem_toArray, List.getElem_cons_zero, List.getElem_cons_succ, List.setIfInBounds_toArray, List.set_cons_zero, List.set_cons_succ]
        refine wpAnyH_take (i := 19) (v := ?v19) rfl (by kernel_rfl) (by kernel_rfl) (by kernel_rfl) (fun _ _ _ h => h) (Or.inl ⟨by rfl, ?y19⟩) (by assumption) ?r19
        case y19 => intro w hSw; (try dsimp only at hSw); go_simp; first | done | with_reducible rfl
        simp only [Act.put, List.getElem_toArray, List.getElem_cons_zero, List.getElem_cons_succ, List.setIfInBounds_toArray, List.set_cons_zero, List.set_cons_succ]
        refine wpAnyH_ready (rs := [20]) (by kernel_rfl) (by simp) ?_
        refine AllReadyH.cons rfl (fun K hK => ?step) ?more
        case more => exact AllReadyH.nil
        go_simp
        go_at_call 24
        refine HCALL.out.mono ?_
        rintro e w2 ⟨rfl, hwk, hon⟩
        go_wp2_with fail
        refine hK.out _ _ (KPM.out _ _ hwk hon) (fun hHeld2 => ?_)
        clear hK K
        refine wpAnyH_take (i := 21) (v := ?v21) rfl (by kernel_rfl) (by kernel_rfl) (by kernel_rfl) (fun _ _ _ h => h) (Or.inl ⟨by rfl, ?y21⟩) (by assumption) ?r21
        case y21 => intro w hSw; (try dsimp only at hSw); go_simp; first | done | with_reducible rfl
        simp only [Act.put, List.getElem_toArray, List.getElem_cons_zero, List.getElem_cons_succ, List.setIfInBounds_toArray, List.set_cons_zero, List.set_cons_succ]
        refine wpAnyH_done (by kernel_rfl) (NoPanic.normal ?_) _
        clear hHeld hHeld2
        have HWK := hide hwk
        have HON2 := hide hon
        clear hwk hon
        go_wp2
        go_ret
        exact Met.of ⟨ret_int (by rw [HR.out]), by rw [HR.out]; exact HWK.out, HON.out.drew.trans HON2.out (fun _ _ h => h)⟩
  · have HV : Hid (fiV cs nm = -1) := by show _ = _; unfold fiV; rw [if_neg hfi]
    have HR : Hid (followF cs f nm op refs inw met = (21, met)) := by show _ = _; unfold followF; rw [calOf_none hfi]
    rw [HV.out]
    go_wp2
    go_ret
    exact Met.of ⟨ret_int (by rw [HR.out]), by rw [HR.out]; exact HWF.out, HON.out⟩
end Go.Proofs.YthbfjkdklnffjaaDoor
