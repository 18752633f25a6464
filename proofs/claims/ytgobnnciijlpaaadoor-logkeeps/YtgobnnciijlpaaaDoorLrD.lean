/- The walk of dayshiftref04.Scan. -/
import Derived.Test.YtgobnnciijlpaaaDoorLrC
import Derived.Test.YtgobnnciijlpaaaDoorLgD
namespace Go.Proofs.YtgobnnciijlpaaaDoor
open Go.ChangeShapes Go.WideShapes Go.ChangeAt Go.RowKit Go.DsMem Go.DsDk Go.DsLg
set_option linter.unusedVariables false

set_option maxHeartbeats 4000000 in
set_option maxRecDepth 20000 in
/-- dayshiftref04.Scan -/
theorem rscan_any (b : List UInt8) (sl : Value) (w : World) (h : Rd w sl b) (hl : b.length ≤ 140737488351232) :
    Calls Tryd.prog 35 #[sl] w fun e w' => ∃ v vals, e = .returned (.tuple #[.int .u64 (scanB b).1, v, .int .i64 (scanB b).2.2]) ∧ OwnL w.heap.size w' v vals (scanB b).2.1 ∧ Below w.heap.size w w' := by
  obtain ⟨i0, hi, hz0, hz1, hz2⟩ := info_parts infoB
  have HR := hide h
  obtain ⟨ao, cap, rfl, hlc, hnil, hrd⟩ := h
  clear hrd
  go_enter Tryd.func35, Tryd.ntmps35
  go_wp2
  go_loopw [5, 6, 7] (fun f v p wr => ∃ (first : Nat) (recs : List (List UInt8)) (vals : List Value) (k fuel : Nat), f = .int .u64 first ∧ p = .int .i64 k ∧ k ≤ b.length ∧ b.length < fuel + k ∧ 16 * recs.length ≤ k ∧ first < 18446744073709551616 ∧
      scanL fuel b first recs k = scanB b ∧ OwnL w.heap.size wr v vals recs ∧ Below w.heap.size w wr) (fun _ _ p _ => b.length - (intOf p).toNat)
  case atStart => exact ⟨0, [], [], 0, b.length + 1, rfl, rfl, Nat.zero_le _, by omega, by simp, by decide, rfl, OwnL.nil _ _, Below.refl _ _⟩
  case round =>
    obtain ⟨first, recs, vals, k, fuel, rfl, rfl, hk, hfu, hrl, hfl, hsc, hO, hB⟩ := hrel
    obtain ⟨vo, vc, rfl, hvc⟩ := own_shape hO.row
    have HO := hide hO
    have HB := hide hB
    have HSC := hide hsc
    clear hO hB hsc
    have HRW := hide (HR.out.below HB.out)
    cases ao with
    | none =>
      obtain ⟨h0, rfl⟩ := hnil rfl
      obtain rfl : k = 0 := by omega
      have HDN : Hid (b.drop 0 = []) := by show _ = _; rw [List.drop_zero]; exact List.eq_nil_of_length_eq_zero h0
      have HRD : Hid (Rd wr (.slice none 0 0) []) := Rd.nil _
      go_wp2_with fail
      refine (rone_any [] _ wr (HRD.out) (by simp)).mono ?_
      rintro e w1 ⟨BU, hno, -⟩
      obtain rfl := hno unf_nil
      have HST : Hid (scanL fuel b first recs 0 = (first, recs, 0)) := scan_stop (by omega) (by rw [HDN.out]; exact unf_nil)
      go_wp2
      go_ret3
      have e := HSC.out
      rw [show scanL fuel b first recs 0 = (first, recs, 0) from HST.out] at e
      rw [← e]
      exact ⟨_, vals, rfl, HO.out.below BU, HB.out.trans (BU.mono HB.out.size)⟩
    | some a =>
      by_cases hck : cap = k
      · have HDN : Hid (b.drop k = []) := List.drop_eq_nil_of_le (by omega)
        have HRD : Hid (Rd wr (.slice (some a) (b.length - k) 0) []) := ⟨some a, 0, by rw [show b.length - k = 0 by omega]; rfl, Nat.le_refl _, fun h => (by cases h), fun x _ j u hu => by simp at hu⟩
        go_wp2_with fail
        refine (rone_any [] _ wr (HRD.out) (by simp)).mono ?_
        rintro e w1 ⟨BU, hno, -⟩
        obtain rfl := hno unf_nil
        have HST : Hid (scanL fuel b first recs k = (first, recs, k)) := scan_stop (by omega) (by rw [HDN.out]; exact unf_nil)
        go_wp2
        go_ret3
        have e := HSC.out
        rw [show scanL fuel b first recs k = (first, recs, k) from HST.out] at e
        rw [← e]
        exact ⟨_, vals, rfl, HO.out.below BU, HB.out.trans (BU.mono HB.out.size)⟩
      · have HRD : Hid (Rd wr (.slice (some (a.add k)) (b.length - k) (cap - k)) (b.drop k)) := by
          have := rd_cut (lo := k) (hi := b.length) (n := b.length - k) (c := cap - k) HRW.out hk (Nat.le_refl _) rfl (by omega)
          rw [List.take_length] at this
          exact this
        cases hun : unfB (b.drop k) with
        | none =>
          have HST : Hid (scanL fuel b first recs k = (first, recs, k)) := scan_stop (by omega) hun
          go_wp2_with fail
          refine (rone_any (b.drop k) _ wr HRD.out (by simp; omega)).mono ?_
          rintro e w1 ⟨BU, hno, -⟩
          obtain rfl := hno hun
          go_wp2
          go_ret3
          have e := HSC.out
          rw [show scanL fuel b first recs k = (first, recs, k) from HST.out] at e
          rw [← e]
          exact ⟨_, vals, rfl, HO.out.below BU, HB.out.trans (BU.mono HB.out.size)⟩
        | some qr =>
          obtain ⟨q, r⟩ := qr
          obtain ⟨hr1, hr2, hr3⟩ := unf_len hun
          simp only [List.length_drop] at hr1
          by_cases hq0 : q = 0
          · have HST : Hid (scanL fuel b first recs k = (first, recs, k)) := scan_zero (by rw [hun, hq0])
            have HU := hide hun
            have hqb : ((q : Int) == 0) = true := by simp [hq0]
            clear hq0
            go_wp2_with fail
            refine (rone_any (b.drop k) _ wr HRD.out (by simp; omega)).mono ?_
            rintro e w1 ⟨BU, -, hyes⟩
            obtain ⟨x, rfl, hx⟩ := hyes q r hun
            obtain ⟨xo, xc, rfl, hxc⟩ := own_shape hx
            have HY := hide (own_base hx HB.out.size)
            have HO1 := hide (HO.out.below BU)
            have HB1 := hide (HB.out.trans (BU.mono HB.out.size))
            clear hx hyes
            clear hun
            go_wp2
            go_ret3
            have e := HSC.out
            rw [show scanL fuel b first recs k = (first, recs, k) from HST.out] at e
            rw [← e]
            exact ⟨_, vals, rfl, HO.out.below BU, HB.out.trans (BU.mono HB.out.size)⟩
          · have hqb : ((q : Int) == 0) = false := by simp [hq0]
            by_cases hl0 : recs.length = 0
            · have hlb : ((recs.length : Int) == 0) = true := by simp [hl0]
              have hg0 : ¬ (0 : Int) < (recs.length : Int) := by omega
              have HL0 := hide hl0
              have HQ0 := hide hq0
              clear hl0 hq0
              go_wp2_with fail
              refine (rone_any (b.drop k) _ wr HRD.out (by simp; omega)).mono ?_
              rintro e w1 ⟨BU, -, hyes⟩
              obtain ⟨x, rfl, hx⟩ := hyes q r hun
              obtain ⟨xo, xc, rfl, hxc⟩ := own_shape hx
              have HY := hide (own_base hx HB.out.size)
              have HO1 := hide (HO.out.below BU)
              have HB1 := hide (HB.out.trans (BU.mono HB.out.size))
              clear hx hyes
              have HU := hide hun
              clear hun
              have HF : Hid (∃ fu, fuel = fu + 1) := ⟨fuel - 1, by show fuel = _; omega⟩
              go_wp2_with (at_builtin; refine wpList_append_own_wide _ rfl _ _ 29 rfl w.heap.size 28 i0 (.slice none 0 0) 1 24 Tryd.underlying29 hi hz0 hz1 hz2 rfl (by decide) _ _ _ rfl (HO1.out.row.alloc _) ⟨_, 0, none⟩ 1 1 [.slice xo r.length xc] rfl rfl (cell_one_new _ _ _) (one_slice _ _ _) (by unfold maxLen; omega) (by omega) (by have := HB1.out.size; simp; omega) ?_; intro v3 w3 hv3 hg3 _)
              obtain ⟨vo3, vc3, rfl, _⟩ := own_shape hv3
              have HO3 := hide ((HO1.out.below ((Below.refl _ _).alloc (Nat.le_refl _) _)).push (HY.out.alloc _) rfl hv3 hg3)
              have HB3 := hide ((HB1.out.alloc HB1.out.size _).grown hg3 (by have := HB1.out.size; simp; omega) (fun j hj => (HO1.out.row.lt j hj).1))
              clear hv3 hg3
              go_roundw
              case rel =>
                obtain ⟨fu, hfu1⟩ := HF.out
                have hs := HSC.out
                rw [hfu1, scan_first HU.out HQ0.out HL0.out] at hs
                refine ⟨q, recs ++ [r], vals ++ [.slice xo r.length xc], k + (16 + r.length), fu, rfl, by go_num, by omega, by omega, by rw [List.length_append]; simp; omega, by omega, ?_, HO3.out, HB3.out⟩
                rw [List.eq_nil_of_length_eq_zero HL0.out]; exact hs
              case measure => simp [intOf]; omega
            · have hlb : ((recs.length : Int) == 0) = false := by simp; intro h; simp [h] at hl0
              have hg0 : (0 : Int) < (recs.length : Int) := by omega
              have hwr : IntKind.u64.wrap ((first : Int) + (recs.length : Int)) = (((first + recs.length) % 18446744073709551616 : Nat) : Int) := by rw [IntKind.wrap_u64]; omega
              obtain ⟨nx, hnx⟩ : ∃ nx, nx = (first + recs.length) % 18446744073709551616 := ⟨_, rfl⟩
              rw [← hnx] at hwr
              have HL0 := hide hl0
              have HQ0 := hide hq0
              have HNX := hide hnx
              clear hl0 hq0 hnx
              by_cases hqn : q = nx
              · have hne : ((q : Int) != (nx : Int)) = false := by simp [hqn]
                have HQN := hide hqn
                clear hqn
                go_wp2_with fail
                refine (rone_any (b.drop k) _ wr HRD.out (by simp; omega)).mono ?_
                rintro e w1 ⟨BU, -, hyes⟩
                obtain ⟨x, rfl, hx⟩ := hyes q r hun
                obtain ⟨xo, xc, rfl, hxc⟩ := own_shape hx
                have HY := hide (own_base hx HB.out.size)
                have HO1 := hide (HO.out.below BU)
                have HB1 := hide (HB.out.trans (BU.mono HB.out.size))
                clear hx hyes
                have HU := hide hun
                clear hun
                have HF : Hid (∃ fu, fuel = fu + 1) := ⟨fuel - 1, by show fuel = _; omega⟩
                go_wp2_with (at_builtin; refine wpList_append_own_wide _ rfl _ _ 29 rfl w.heap.size 28 i0 (.slice none 0 0) 1 24 Tryd.underlying29 hi hz0 hz1 hz2 rfl (by decide) _ _ _ rfl (HO1.out.row.alloc _) ⟨_, 0, none⟩ 1 1 [.slice xo r.length xc] rfl rfl (cell_one_new _ _ _) (one_slice _ _ _) (by unfold maxLen; omega) (by omega) (by have := HB1.out.size; simp; omega) ?_; intro v3 w3 hv3 hg3 _)
                obtain ⟨vo3, vc3, rfl, _⟩ := own_shape hv3
                have HO3 := hide ((HO1.out.below ((Below.refl _ _).alloc (Nat.le_refl _) _)).push (HY.out.alloc _) rfl hv3 hg3)
                have HB3 := hide ((HB1.out.alloc HB1.out.size _).grown hg3 (by have := HB1.out.size; simp; omega) (fun j hj => (HO1.out.row.lt j hj).1))
                clear hv3 hg3
                go_roundw
                case rel =>
                  obtain ⟨fu, hfu1⟩ := HF.out
                  have hs := HSC.out
                  rw [hfu1, scan_next HU.out HQ0.out HL0.out (by rw [HQN.out, HNX.out])] at hs
                  refine ⟨first, recs ++ [r], vals ++ [.slice xo r.length xc], k + (16 + r.length), fu, rfl, by go_num, by omega, by omega, by rw [List.length_append]; simp; omega, by omega, ?_, HO3.out, HB3.out⟩
                  exact hs
                case measure => simp [intOf]; omega
              · have hne : ((q : Int) != (nx : Int)) = true := by simp; omega
                have HST : Hid (scanL fuel b first recs k = (first, recs, k)) := scan_other hun HQ0.out HL0.out (by rw [← HNX.out]; exact hqn)
                clear hqn
                go_wp2_with fail
                refine (rone_any (b.drop k) _ wr HRD.out (by simp; omega)).mono ?_
                rintro e w1 ⟨BU, -, hyes⟩
                obtain ⟨x, rfl, hx⟩ := hyes q r hun
                obtain ⟨xo, xc, rfl, hxc⟩ := own_shape hx
                have HY := hide (own_base hx HB.out.size)
                have HO1 := hide (HO.out.below BU)
                have HB1 := hide (HB.out.trans (BU.mono HB.out.size))
                clear hx hyes
                clear hun
                go_wp2
                go_ret3
                have e := HSC.out
                rw [show scanL fuel b first recs k = (first, recs, k) from HST.out] at e
                rw [← e]
                exact ⟨_, vals, rfl, HO.out.below BU, HB.out.trans (BU.mono HB.out.size)⟩
end Go.Proofs.YtgobnnciijlpaaaDoor
