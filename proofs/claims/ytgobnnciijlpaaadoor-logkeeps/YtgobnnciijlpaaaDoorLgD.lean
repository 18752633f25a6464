/- Lists of byte slices in memory; the walk of Scan of package log. -/
import Derived.Test.YtgobnnciijlpaaaDoorLgC
import Derived.Deep.DeepAppendWide
namespace Go.Proofs.YtgobnnciijlpaaaDoor
open Go.ChangeShapes Go.WideShapes Go.ChangeAt Go.RowKit Go.DsMem Go.DsDk Go.DsLg
set_option linter.unusedVariables false

theorem infoB : (Tryd.prog.info? 28).map (fun i => (i.zero, i.size, i.bytes)) = some (some (.slice none 0 0), 1, 24) := by kernel_rfl

/-- a list of records of one's own, from block B on: the row of its slices, and each one's row -/
structure OwnL (B : Nat) (w : World) (v : Value) (vals : List Value) (recs : List (List UInt8)) : Prop where
  row : w.ownsRow B 28 1 v recs.length vals
  each : ∀ (i : Nat) (r : List UInt8), recs[i]? = some r → ∃ x, vals[i]? = some x ∧ x.oneCell' = true ∧ w.ownsRow B 5 1 x r.length (bvs r)

theorem OwnL.nil (B : Nat) (w : World) : OwnL B w (.slice none 0 0) [] [] := ⟨World.ownsRow_nil _ _ _ _, fun i r h => by simp at h⟩
theorem OwnL.below {B : Nat} {w w' : World} {v : Value} {vals : List Value} {recs : List (List UInt8)} (h : OwnL B w v vals recs) (hb : Below w.heap.size w w') : OwnL B w' v vals recs :=
  ⟨own_below h.row hb, fun i r hr => by obtain ⟨x, h1, h2, h3⟩ := h.each i r hr; exact ⟨x, h1, h2, own_below h3 hb⟩⟩
/-- a row of slices and a row of bytes lie apart -/
theorem apart_rows {w : World} {B B' : Nat} {v x : Value} {n m : Nat} {xs ys : List Value} (h1 : w.ownsRow B 28 1 v n xs) (h2 : w.ownsRow B' 5 1 x m ys) {k : Nat} (hk : x.ownBlock = some k) : v.ownBlock ≠ some k := by
  intro hv
  rcases h1.2 with ⟨rfl, _⟩ | ⟨g, c, cur, rfl, _, hg, _⟩
  · simp [Value.ownBlock] at hv
  · rcases h2.2 with ⟨rfl, _⟩ | ⟨g', c', cur', rfl, _, hg', _⟩
    · simp [Value.ownBlock] at hk
    · simp only [Value.ownBlock, Option.some.injEq] at hv hk
      subst hv
      subst hk
      rw [hg] at hg'
      simp at hg'
/-- one record more -/
theorem OwnL.push {B : Nat} {w1 w2 : World} {v v2 x : Value} {vals : List Value} {recs : List (List UInt8)} {r : List UInt8} (h : OwnL B w1 v vals recs) (hx : w1.ownsRow B 5 1 x r.length (bvs r)) (hx1 : x.oneCell' = true)
    (h2 : w2.ownsRow B 28 1 v2 (recs.length + 1) (vals ++ [x])) (hg : w1.grownBy w2 v.ownBlock) : OwnL B w2 v2 (vals ++ [x]) (recs ++ [r]) := by
  have hvl : vals.length = recs.length := by have := h.row.1; omega
  refine ⟨by rw [List.length_append]; exact h2, fun i r' hr => ?_⟩
  by_cases hi : i < recs.length
  · rw [List.getElem?_append_left hi] at hr
    obtain ⟨y, h3, h4, h5⟩ := h.each i r' hr
    refine ⟨y, by rw [List.getElem?_append_left (by omega)]; exact h3, h4, ?_⟩
    exact own_only h5 (Only.grown hg) (fun k hk e => apart_rows h.row h5 hk e)
  · have hi2 : i = recs.length := by
      have := (List.getElem?_eq_some_iff.1 hr).1
      simp at this; omega
    subst hi2
    rw [List.getElem?_append_right (Nat.le_refl _), Nat.sub_self] at hr
    simp at hr
    subst hr
    refine ⟨x, by rw [List.getElem?_append_right (by omega), hvl, Nat.sub_self]; rfl, hx1, ?_⟩
    exact own_only hx (Only.grown hg) (fun k hk e => apart_rows h.row hx hk e)

theorem one_slice (a : Option Addr) (n c : Nat) : ∀ u ∈ [Value.slice a n c], u.oneCell' = true := by
  intro u hu; simp at hu; subst hu; rfl
theorem unf_nil : unfB [] = none := by unfold unfB; rw [if_pos (by simp)]
theorem scan_stop {fuel k first : Nat} {b : List UInt8} {recs : List (List UInt8)} (hf : 0 < fuel) (h : unfB (b.drop k) = none) : scanL fuel b first recs k = (first, recs, k) := by
  cases fuel with
  | zero => omega
  | succ f => simp [scanL, h]
theorem scan_zero {fuel k first : Nat} {b r : List UInt8} {recs : List (List UInt8)} (h : unfB (b.drop k) = some (0, r)) : scanL fuel b first recs k = (first, recs, k) := by
  cases fuel with
  | zero => rfl
  | succ f => simp [scanL, h]
theorem scan_first {fuel k first q : Nat} {b r : List UInt8} {recs : List (List UInt8)} (h : unfB (b.drop k) = some (q, r)) (hq : q ≠ 0) (hr : recs.length = 0) : scanL (fuel + 1) b first recs k = scanL fuel b q [r] (k + (16 + r.length)) := by
  simp only [scanL, h]; rw [if_neg hq, if_pos hr]
theorem scan_next {fuel k first q : Nat} {b r : List UInt8} {recs : List (List UInt8)} (h : unfB (b.drop k) = some (q, r)) (hq : q ≠ 0) (hr : recs.length ≠ 0) (he : q = (first + recs.length) % 18446744073709551616) : scanL (fuel + 1) b first recs k = scanL fuel b first (recs ++ [r]) (k + (16 + r.length)) := by
  simp only [scanL, h]; rw [if_neg hq, if_neg hr, if_pos he]
theorem scan_other {fuel k first q : Nat} {b r : List UInt8} {recs : List (List UInt8)} (h : unfB (b.drop k) = some (q, r)) (hq : q ≠ 0) (hr : recs.length ≠ 0) (he : q ≠ (first + recs.length) % 18446744073709551616) : scanL fuel b first recs k = (first, recs, k) := by
  cases fuel with
  | zero => rfl
  | succ f => simp only [scanL, h]; rw [if_neg hq, if_neg hr, if_neg he]
set_option maxHeartbeats 4000000 in
/-- log.Scan -/
theorem scan_any (b : List UInt8) (sl : Value) (w : World) (ht : Tab w) (h : Rd w sl b) (hl : b.length ≤ 140737488351232) :
    Calls Tryd.prog 34 #[sl] w fun e w' => ∃ v vals, e = .returned (.tuple #[.int .u64 (scanB b).1, v, .int .i64 (scanB b).2.2]) ∧ OwnL w.heap.size w' v vals (scanB b).2.1 ∧ Below w.heap.size w w' := by
  obtain ⟨i0, hi, hz0, hz1, hz2⟩ := info_parts infoB
  have HR := hide h
  have HT := hide ht
  obtain ⟨ao, cap, rfl, hlc, hnil, hrd⟩ := h
  clear hrd ht
  go_enter Tryd.func34, Tryd.ntmps34
  go_wp2
  go_loopw [5, 6, 7] (fun f v p wr => ∃ (first : Nat) (recs : List (List UInt8)) (vals : List Value) (k fuel : Nat), f = .int .u64 first ∧ p = .int .i64 k ∧ k ≤ b.length ∧ b.length < fuel + k ∧ 16 * recs.length ≤ k ∧ first < 18446744073709551616 ∧
      scanL fuel b first recs k = scanB b ∧ OwnL w.heap.size wr v vals recs ∧ Below w.heap.size w wr) (fun _ _ p _ => b.length - (intOf p).toNat)
  case atStart => exact ⟨0, [], [], 0, b.length + 1, rfl, rfl, Nat.zero_le _, by omega, by simp, by decide, rfl, OwnL.nil _ _, Below.refl _ _⟩
  case round =>
    obtain ⟨first, recs, vals, k, fuel, rfl, rfl, hk, hfu, hrl, hfl, hsc, hO, hB⟩ := hrel
    obtain ⟨vo, vc, rfl, hvc⟩ := own_shape hO.row
    have HO := hide hO
    have HB := hide hB
    have HSC := hide hsc
    clear hO hB hsc
    have HTW : Hid (Tab wr) := fun i h16 => Below.keeps HB.out (Nat.le_refl _) (HT.out i h16)
    have HRW := hide (HR.out.below HB.out)
    cases ao with
    | none =>
      obtain ⟨h0, rfl⟩ := hnil rfl
      obtain rfl : k = 0 := by omega
      have HDN : Hid (b.drop 0 = []) := by show _ = _; rw [List.drop_zero]; exact List.eq_nil_of_length_eq_zero h0
      have HRD : Hid (Rd wr (.slice none 0 0) []) := Rd.nil _
      go_wp2_with fail
      refine (unframe_any [] _ wr HTW.out (HRD.out) (by simp)).mono ?_
      rintro e w1 ⟨BU, hno, -⟩
      obtain rfl := hno unf_nil
      have HST : Hid (scanL fuel b first recs 0 = (first, recs, 0)) := scan_stop (by omega) (by rw [HDN.out]; exact unf_nil)
      go_wp2
      go_ret3
      have e := HSC.out
      rw [show scanL fuel b first recs 0 = (first, recs, 0) from HST.out] at e
      rw [← e]
      exact ⟨_, vals, rfl, HO.out.below BU, HB.out.trans (BU.mono HB.out.size)⟩
    | some a =>
      by_cases hck : cap = k
      · have HDN : Hid (b.drop k = []) := List.drop_eq_nil_of_le (by omega)
        have HRD : Hid (Rd wr (.slice (some a) (b.length - k) 0) []) := ⟨some a, 0, by rw [show b.length - k = 0 by omega]; rfl, Nat.le_refl _, fun h => (by cases h), fun x _ j u hu => by simp at hu⟩
        go_wp2_with fail
        refine (unframe_any [] _ wr HTW.out (HRD.out) (by simp)).mono ?_
        rintro e w1 ⟨BU, hno, -⟩
        obtain rfl := hno unf_nil
        have HST : Hid (scanL fuel b first recs k = (first, recs, k)) := scan_stop (by omega) (by rw [HDN.out]; exact unf_nil)
        go_wp2
        go_ret3
        have e := HSC.out
        rw [show scanL fuel b first recs k = (first, recs, k) from HST.out] at e
        rw [← e]
        exact ⟨_, vals, rfl, HO.out.below BU, HB.out.trans (BU.mono HB.out.size)⟩
      · have HRD : Hid (Rd wr (.slice (some (a.add k)) (b.length - k) (cap - k)) (b.drop k)) := by
          have := rd_cut (lo := k) (hi := b.length) (n := b.length - k) (c := cap - k) HRW.out hk (Nat.le_refl _) rfl (by omega)
          rw [List.take_length] at this
          exact this
        cases hun : unfB (b.drop k) with
        | none =>
          have HST : Hid (scanL fuel b first recs k = (first, recs, k)) := scan_stop (by omega) hun
          go_wp2_with fail
          refine (unframe_any (b.drop k) _ wr HTW.out HRD.out (by simp; omega)).mono ?_
          rintro e w1 ⟨BU, hno, -⟩
          obtain rfl := hno hun
          go_wp2
          go_ret3
          have e := HSC.out
          rw [show scanL fuel b first recs k = (first, recs, k) from HST.out] at e
          rw [← e]
          exact ⟨_, vals, rfl, HO.out.below BU, HB.out.trans (BU.mono HB.out.size)⟩
        | some qr =>
          obtain ⟨q, r⟩ := qr
          obtain ⟨hr1, hr2, hr3⟩ := unf_len hun
          simp only [List.length_drop] at hr1
          by_cases hq0 : q = 0
          · have HST : Hid (scanL fuel b first recs k = (first, recs, k)) := scan_zero (by rw [hun, hq0])
            have HU := hide hun
            have hqb : ((q : Int) == 0) = true := by simp [hq0]
            clear hq0
            go_wp2_with fail
            refine (unframe_any (b.drop k) _ wr HTW.out HRD.out (by simp; omega)).mono ?_
            rintro e w1 ⟨BU, -, hyes⟩
            obtain ⟨x, rfl, hx⟩ := hyes q r hun
            obtain ⟨xo, xc, rfl, hxc, -, -⟩ := id hx
            have HX := hide (hx.below BU)
            have HO1 := hide (HO.out.below BU)
            have HB1 := hide (HB.out.trans (BU.mono HB.out.size))
            clear hx hyes
            clear hun
            go_wp2
            go_ret3
            have e := HSC.out
            rw [show scanL fuel b first recs k = (first, recs, k) from HST.out] at e
            rw [← e]
            exact ⟨_, vals, rfl, HO.out.below BU, HB.out.trans (BU.mono HB.out.size)⟩
          · have hqb : ((q : Int) == 0) = false := by simp [hq0]
            by_cases hl0 : recs.length = 0
            · have hlb : ((recs.length : Int) == 0) = true := by simp [hl0]
              have HL0 := hide hl0
              have HQ0 := hide hq0
              clear hl0 hq0
              go_wp2_with fail
              refine (unframe_any (b.drop k) _ wr HTW.out HRD.out (by simp; omega)).mono ?_
              rintro e w1 ⟨BU, -, hyes⟩
              obtain ⟨x, rfl, hx⟩ := hyes q r hun
              obtain ⟨xo, xc, rfl, hxc, -, -⟩ := id hx
              have HX := hide (hx.below BU)
              have HO1 := hide (HO.out.below BU)
              have HB1 := hide (HB.out.trans (BU.mono HB.out.size))
              clear hx hyes
              have HU := hide hun
              clear hun
              have HF : Hid (∃ fu, fuel = fu + 1) := ⟨fuel - 1, by show fuel = _; omega⟩
              go_wp2_with (first
                | (go_at_call 66; refine (lcopied_any r _ _ HX.out (by omega)).mono ?_; rintro e w2 ⟨y, rfl, hy, B2⟩; obtain ⟨yo, yc, rfl, _⟩ := own_shape hy; have HY := hide (own_base hy HB1.out.size); have HO2 := hide (HO1.out.below B2); have HB2 := hide (HB1.out.trans (B2.mono HB1.out.size)); clear hy B2)
                | (at_builtin; refine wpList_append_own_wide _ rfl _ _ 29 rfl w.heap.size 28 i0 (.slice none 0 0) 1 24 Tryd.underlying29 hi hz0 hz1 hz2 rfl (by decide) _ _ _ rfl (HO2.out.row.alloc _) ⟨_, 0, none⟩ 1 1 [.slice yo r.length yc] rfl rfl (cell_one_new _ _ _) (one_slice _ _ _) (by unfold maxLen; omega) (by omega) (by have := HB2.out.size; simp; omega) ?_; intro v3 w3 hv3 hg3 _))
              obtain ⟨vo3, vc3, rfl, _⟩ := own_shape hv3
              have HO3 := hide ((HO2.out.below ((Below.refl _ _).alloc (Nat.le_refl _) _)).push (HY.out.alloc _) rfl hv3 hg3)
              have HB3 := hide ((HB2.out.alloc HB2.out.size _).grown hg3 (by have := HB2.out.size; simp; omega) (fun j hj => (HO2.out.row.lt j hj).1))
              clear hv3 hg3
              go_roundw
              case rel =>
                obtain ⟨fu, hfu1⟩ := HF.out
                have hs := HSC.out
                rw [hfu1, scan_first HU.out HQ0.out HL0.out] at hs
                refine ⟨q, recs ++ [r], vals ++ [.slice yo r.length yc], k + (16 + r.length), fu, rfl, by go_num, by omega, by omega, by rw [List.length_append]; simp; omega, by omega, ?_, HO3.out, HB3.out⟩
                rw [List.eq_nil_of_length_eq_zero HL0.out]; exact hs
              case measure => simp [intOf]; omega
            · have hlb : ((recs.length : Int) == 0) = false := by simp; intro h; simp [h] at hl0
              have hwr : IntKind.u64.wrap ((first : Int) + (recs.length : Int)) = (((first + recs.length) % 18446744073709551616 : Nat) : Int) := by rw [IntKind.wrap_u64]; omega
              obtain ⟨nx, hnx⟩ : ∃ nx, nx = (first + recs.length) % 18446744073709551616 := ⟨_, rfl⟩
              rw [← hnx] at hwr
              have HL0 := hide hl0
              have HQ0 := hide hq0
              have HNX := hide hnx
              clear hl0 hq0 hnx
              by_cases hqn : q = nx
              · have hne : ((q : Int) != (nx : Int)) = false := by simp [hqn]
                have HQN := hide hqn
                clear hqn
                go_wp2_with fail
                refine (unframe_any (b.drop k) _ wr HTW.out HRD.out (by simp; omega)).mono ?_
                rintro e w1 ⟨BU, -, hyes⟩
                obtain ⟨x, rfl, hx⟩ := hyes q r hun
                obtain ⟨xo, xc, rfl, hxc, -, -⟩ := id hx
                have HX := hide (hx.below BU)
                have HO1 := hide (HO.out.below BU)
                have HB1 := hide (HB.out.trans (BU.mono HB.out.size))
                clear hx hyes
                have HU := hide hun
                clear hun
                have HF : Hid (∃ fu, fuel = fu + 1) := ⟨fuel - 1, by show fuel = _; omega⟩
                go_wp2_with (first
                  | (go_at_call 66; refine (lcopied_any r _ _ HX.out (by omega)).mono ?_; rintro e w2 ⟨y, rfl, hy, B2⟩; obtain ⟨yo, yc, rfl, _⟩ := own_shape hy; have HY := hide (own_base hy HB1.out.size); have HO2 := hide (HO1.out.below B2); have HB2 := hide (HB1.out.trans (B2.mono HB1.out.size)); clear hy B2)
                  | (at_builtin; refine wpList_append_own_wide _ rfl _ _ 29 rfl w.heap.size 28 i0 (.slice none 0 0) 1 24 Tryd.underlying29 hi hz0 hz1 hz2 rfl (by decide) _ _ _ rfl (HO2.out.row.alloc _) ⟨_, 0, none⟩ 1 1 [.slice yo r.length yc] rfl rfl (cell_one_new _ _ _) (one_slice _ _ _) (by unfold maxLen; omega) (by omega) (by have := HB2.out.size; simp; omega) ?_; intro v3 w3 hv3 hg3 _))
                obtain ⟨vo3, vc3, rfl, _⟩ := own_shape hv3
                have HO3 := hide ((HO2.out.below ((Below.refl _ _).alloc (Nat.le_refl _) _)).push (HY.out.alloc _) rfl hv3 hg3)
                have HB3 := hide ((HB2.out.alloc HB2.out.size _).grown hg3 (by have := HB2.out.size; simp; omega) (fun j hj => (HO2.out.row.lt j hj).1))
                clear hv3 hg3
                go_roundw
                case rel =>
                  obtain ⟨fu, hfu1⟩ := HF.out
                  have hs := HSC.out
                  rw [hfu1, scan_next HU.out HQ0.out HL0.out (by rw [HQN.out, HNX.out])] at hs
                  refine ⟨first, recs ++ [r], vals ++ [.slice yo r.length yc], k + (16 + r.length), fu, rfl, by go_num, by omega, by omega, by rw [List.length_append]; simp; omega, by omega, ?_, HO3.out, HB3.out⟩
                  exact hs
                case measure => simp [intOf]; omega
              · have hne : ((q : Int) != (nx : Int)) = true := by simp; omega
                have HST : Hid (scanL fuel b first recs k = (first, recs, k)) := scan_other hun HQ0.out HL0.out (by rw [← HNX.out]; exact hqn)
                clear hqn
                go_wp2_with fail
                refine (unframe_any (b.drop k) _ wr HTW.out HRD.out (by simp; omega)).mono ?_
                rintro e w1 ⟨BU, -, hyes⟩
                obtain ⟨x, rfl, hx⟩ := hyes q r hun
                obtain ⟨xo, xc, rfl, hxc, -, -⟩ := id hx
                have HX := hide (hx.below BU)
                have HO1 := hide (HO.out.below BU)
                have HB1 := hide (HB.out.trans (BU.mono HB.out.size))
                clear hx hyes
                clear hun
                go_wp2
                go_ret3
                have e := HSC.out
                rw [show scanL fuel b first recs k = (first, recs, k) from HST.out] at e
                rw [← e]
                exact ⟨_, vals, rfl, HO.out.below BU, HB.out.trans (BU.mono HB.out.size)⟩
end Go.Proofs.YtgobnnciijlpaaaDoor
