/- Package cal: the walk of refuse. -/
import Derived.Test.YthbfjkdklnffjaaDoorCdE
namespace Go.Proofs.YthbfjkdklnffjaaDoor
open Go.ChangeShapes Go.WideShapes Go.ChangeAt Go.RowKit Go.DsMem Go.DsMk
set_option linter.unusedVariables false

/-- the error of asking for a node's days, among calendars, at a day -/
def refF (cs : List (ByteArray × Nd)) (t : Nd) (day : Int) : Int :=
  if 24 < cs.length then 3 else if rightN t = false then 1 else if (cs.all fun c => rightN c.2) = false then 1 else if DsCal.rightB day = false then 6 else (meetF cs 257 t 0 false 0).1

set_option maxHeartbeats 8000000 in
set_option maxRecDepth 20000 in
/-- cal.refuse -/
theorem Gc.refuse {W w : World} (h : Gc W w) (co : Option Addr) (cc : Nat) (cs : List (ByteArray × Nd)) (g o : Nat) (V : Nat → NVal) (hc : CalsAt w co cc cs g o V) (t : Nd) (v : NVal) (hv : NdAt w v t) (day : Int) :
    Calls Tryd.prog 14 #[.slice co cs.length cc, v.val, .int .i64 day] w fun e w' => e = .returned (.int .i64 (refF cs t day)) ∧ Gc W w' := by
  have HG := hide h
  have HC := hide hc
  have HV := hide hv
  have hlen := hc.len
  clear h hc hv
  obtain ⟨R, hR⟩ : ∃ R, refF cs t day = R := ⟨_, rfl⟩
  have HR := hide hR
  rw [hR]
  clear hR
  have HRF : Hid (R = if 24 < cs.length then 3 else if rightN t = false then 1 else if (cs.all fun c => rightN c.2) = false then 1 else if DsCal.rightB day = false then 6 else (meetF cs 257 t 0 false 0).1) := by show _ = _; rw [← HR.out]; rfl
  unfold NVal.val ndV
  by_cases c24 : 24 < cs.length
  · have HE : Hid (R = 3) := by show _ = _; rw [HRF.out, if_pos c24]
    have c24' : (24 : Int) < (cs.length : Int) := by omega
    go_enter Tryd.func14, Tryd.ntmps14
    go_wp2
    go_ret
    exact ⟨ret_int (by rw [HE.out]), HG.out.alloc _⟩
  have c24' : ¬ (24 : Int) < (cs.length : Int) := by omega
  obtain ⟨br, hbr⟩ : ∃ b, rightN t = b := ⟨_, rfl⟩
  have HBR := hide hbr
  clear hbr
  go_enter Tryd.func14, Tryd.ntmps14
  go_wp2_with fail
  obtain ⟨wA, hwA⟩ : ∃ wA, wA = w.alloc (.cells #[.int .i64 v.op, .slice v.no v.nl v.nc, .slice v.ko v.kl v.kc, .string v.nm] 31) := ⟨_, rfl⟩
  have hbx : NBox wA w.heap.size v.op v.no v.nl v.nc v.ko v.kl v.kc v.nm := by rw [hwA]; exact NBox.new _ _ _ _ _ _ _ _ _
  have HBL : Hid (Below w.heap.size w wA) := by rw [hwA]; exact (Below.refl _ _).alloc (Nat.le_refl _) _
  rw [← hwA]
  have HBX := hide hbx
  clear hwA hbx
  have HGA : Hid (Gc W wA) := HG.out.more HBL.out
  have HGW : Hid (Gc wA wA) := HGA.out.here
  generalize w.heap.size = p4 at HBX ⊢
  have HCALL := hide (HGW.out.right t v (HV.out.grew HBL.out))
  unfold NVal.val ndV at HCALL
  rw [HBR.out] at HCALL
  refine HCALL.out.mono ?_
  rintro e w1 ⟨rfl, g1⟩
  have HG1 := hide g1
  clear g1
  cases br
  · have HE : Hid (R = 1) := by show _ = _; rw [HRF.out, if_neg c24, HBR.out]; rfl
    go_wp2
    go_ret
    exact ⟨ret_int (by rw [HE.out]), HGA.out.more HG1.out.below⟩
  go_wp2
  go_loopw [18] (fun t wr => ∃ i : Nat, i ≤ cs.length ∧ t = .int .i64 i ∧ ((cs.take i).all fun c => rightN c.2) = true ∧ Gc wA wr) (fun t _ => cs.length - (intOf t).toNat)
  case atStart => exact ⟨0, Nat.zero_le _, rfl, by simp, HG1.out⟩
  case round =>
    obtain ⟨i, hi, rfl, hall, hg⟩ := hrel
    have HA := hide hall
    have HGr := hide hg
    clear hall hg
    by_cases hlt : i < cs.length
    · obtain rfl := HC.out.at_ (by omega)
      have HCr := hide ((HC.out.grew HBL.out).grew HGr.out.below)
      have k := HCr.out.name i hlt
      obtain ⟨n0, n1, n2, n3⟩ := HCr.out.cell i hlt
      have HKD := hide (HCr.out.node i hlt)
      have HM : Hid (cs[i] ∈ cs) := List.getElem_mem hlt
      have HTK : Hid (cs.take (i + 1) = cs.take i ++ [cs[i]]) := List.take_succ_eq_append_getElem hlt
      generalize cs[i] = c at *
      generalize V i = kv at *
      obtain ⟨bc, hbc⟩ : ∃ b, rightN c.2 = b := ⟨_, rfl⟩
      have HBC := hide hbc
      clear hbc
      have HCALL2 := hide (Gc.right (HGr.out.alloc (.cells #[.string c.1, .int .i64 kv.op, .slice kv.no kv.nl kv.nc, .slice kv.ko kv.kl kv.kc, .string kv.nm] 48)) c.2 kv (HKD.out.grew ((Below.refl _ _).alloc (Nat.le_refl _) _)))
      unfold NVal.val ndV at HCALL2
      rw [HBC.out] at HCALL2
      go_wp2_with fail
      refine HCALL2.out.mono ?_
      rintro e w2 ⟨rfl, g2⟩
      have HG2 := hide g2
      clear g2 k n0 n1 n2 n3
      cases bc
      · have HE : Hid (R = 1) := by
          show _ = _
          rw [HRF.out, if_neg c24, HBR.out, if_neg (by simp), if_pos]
          rw [Bool.eq_false_iff]; intro hq
          have := List.all_eq_true.1 hq c HM.out
          simp only [HBC.out] at this; cases this
        go_wp2
        go_ret
        exact ⟨ret_int (by rw [HE.out]), HGA.out.more HG2.out.below⟩
      · have HS : Hid (((cs.take (i + 1)).all fun c => rightN c.2) = true) := by show _ = _; rw [HTK.out, List.all_append, HA.out]; simp [HBC.out]
        go_wp2
        go_roundw
        case rel => exact ⟨i + 1, by omega, by go_num, HS.out, HG2.out⟩
        case measure => simp [intOf]; omega
    · have HALL : Hid ((cs.all fun c => rightN c.2) = true) := by have := HA.out; rwa [List.take_of_length_le (by omega)] at this
      obtain ⟨bd, hbd⟩ : ∃ b, DsCal.rightB day = b := ⟨_, rfl⟩
      have HBD := hide hbd
      clear hbd
      go_wp2_with fail
      refine (Dt.right_any day _).mono ?_
      rw [HBD.out]
      rintro e w2 ⟨rfl, rfl⟩
      cases bd
      · have HE : Hid (R = 6) := by show _ = _; rw [HRF.out, if_neg c24, HBR.out, if_neg (by simp), HALL.out, if_neg (by simp), HBD.out]; rfl
        go_wp2
        go_ret
        exact ⟨ret_int (by rw [HE.out]), HGA.out.more HGr.out.below⟩
      · have HE : Hid (R = (meetF cs 257 t 0 false 0).1) := by show _ = _; rw [HRF.out, if_neg c24, HBR.out, if_neg (by simp), HALL.out, if_neg (by simp), HBD.out, if_neg (by simp)]
        obtain ⟨b0, b1, b2, b3⟩ := HBX.out.all HGr.out.below
        rename World => wz
        have hp4 : p4 < wz.heap.size := block_lt_cell b0
        have ne4 : ¬ p4 = wz.heap.size := by omega
        obtain ⟨wC, hwC⟩ : ∃ wC, wC = wz.alloc (.cells #[.slice co cs.length cc, .int .i64 0] 62) := ⟨_, rfl⟩
        have hwk : WkAt wC wz.heap.size co cs.length cc 0 := by rw [hwC]; exact heap_alloc_new wz _
        have HBC : Hid (Below wz.heap.size wz wC) := by rw [hwC]; exact (Below.refl _ _).alloc (Nat.le_refl _) _
        have HGC : Hid (Gc wA wC) := HGr.out.more HBC.out
        have HCALL3 := hide (meet_any 257 t v 0 false 0 wA wC wz.heap.size co cc cs g o V HGC.out HGr.out.below.size (HV.out.grew HBL.out) (HC.out.grew HBL.out) hwk (by decide) (by decide) (by decide))
        unfold NVal.val ndV spV at HCALL3
        clear hwk
        go_wp2_with fail
        rw [← hwC]
        refine HCALL3.out.mono ?_
        rintro e w3 ⟨rfl, -, hon⟩
        have HG3 : Hid (Gc wA w3) := Only.gc HGC.out hon HGr.out.below.size
        clear hon hwC
        go_wp2
        go_ret
        exact ⟨ret_int (by rw [HE.out]), HGA.out.more HG3.out.below⟩
end Go.Proofs.YthbfjkdklnffjaaDoor
