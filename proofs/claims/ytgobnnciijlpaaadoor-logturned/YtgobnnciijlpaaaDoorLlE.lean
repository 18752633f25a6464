/- The walk of LogTurned. -/
import Derived.Test.YtgobnnciijlpaaaDoorLlC
namespace Go.Proofs.YtgobnnciijlpaaaDoor
open Go.ChangeShapes Go.WideShapes Go.ChangeAt Go.RowKit Go.DsMem Go.DsDk Go.DsLg
set_option linter.unusedVariables false

theorem xor8 (a b : Nat) (ha : a < 256) (hb : b < 256) : bits .xor .u8 (a : Int) (b : Int) = ((a ^^^ b : Nat) : Int) := by
  have hx : a ^^^ b < 2 ^ 8 := Nat.xor_lt_two_pow (by omega) (by omega)
  have h1 : (BitVec.ofInt 8 (a : Int)).toNat = a := by rw [BitVec.ofInt_natCast, BitVec.toNat_ofNat]; exact Nat.mod_eq_of_lt (by omega)
  have h2 : (BitVec.ofInt 8 (b : Int)).toNat = b := by rw [BitVec.ofInt_natCast, BitVec.toNat_ofNat]; exact Nat.mod_eq_of_lt (by omega)
  show IntKind.u8.wrap ((BitVec.ofInt 8 (a : Int) ^^^ BitVec.ofInt 8 (b : Int)).toNat : Int) = _
  rw [BitVec.toNat_xor, h1, h2, IntKind.wrap_u8]
  omega
/-- one bit of a byte is turned: another byte -/
theorem turn_bit (c : UInt8) (m : Nat) (hm : m < 8) : ∃ d : UInt8, d ≠ c ∧ bits .xor .u8 (c.toNat : Int) ((2 : Int) ^ m % 256) = (d.toNat : Int) := by
  have h : ∀ m, m < 8 → ((2 : Int) ^ m % 256 = ((2 ^ m : Nat) : Int) ∧ 2 ^ m < 256 ∧ 0 < 2 ^ m) := by decide
  obtain ⟨h1, h2, h3⟩ := h m hm
  have hc := c.toNat_lt
  have hx : c.toNat ^^^ 2 ^ m < 256 := Nat.xor_lt_two_pow (n := 8) (by omega) (by omega)
  have ht : (UInt8.ofNat (c.toNat ^^^ 2 ^ m)).toNat = c.toNat ^^^ 2 ^ m := by rw [UInt8.toNat_ofNat']; exact Nat.mod_eq_of_lt hx
  refine ⟨UInt8.ofNat (c.toNat ^^^ 2 ^ m), fun e => ?_, by rw [ht, h1, xor8 _ _ (by omega) h2]⟩
  have e2 := congrArg UInt8.toNat e
  rw [ht] at e2
  have e3 := congrArg (c.toNat ^^^ ·) e2
  simp only [← Nat.xor_assoc, Nat.xor_self, Nat.zero_xor] at e3
  omega
theorem own_set {w : World} {B g n c p : Nat} {l : List UInt8} (h : w.ownsRow B 5 1 (.slice (some ⟨g, 0, none⟩) n c) n (bvs l)) (d : UInt8) : (w.setCell ⟨g, p, none⟩ (.int .u8 (d.toNat : Int))).ownsRow B 5 1 (.slice (some ⟨g, 0, none⟩) n c) n (bvs (l.set p d)) := by
  obtain ⟨cur, hg, hcl, hx, h1, h2, hB⟩ := own_row h
  have hs := hset_same (k := p) hg (.int .u8 (d.toNat : Int))
  rw [List.setIfInBounds_toArray] at hs
  refine own_mk hs (by simpa using hcl) ?_ h1 h2 hB
  rw [List.take_set, hx]
  unfold bvs
  rw [List.map_set]
  rfl

set_option maxHeartbeats 4000000 in
set_option maxRecDepth 20000 in
/-- the law LogTurned -/
theorem logTurned_walk (l : List (List UInt8)) (ao : Option Addr) (cap : Nat) (n : Int) (w : World) (ht : Tab w) (h : RdLs w (.slice ao l.length cap) l) (hlc : l.length ≤ cap) (hn : -9223372036854775808 ≤ n ∧ n ≤ 9223372036854775807) :
    Calls Tryd.prog 6 #[.slice ao l.length cap, .int .i64 n] w fun e w' => e = .returned (.bool true) ∧ Below w.heap.size w w' := by
  have HT := hide ht
  have HR := hide h
  have HN := hide hn
  clear ht h hn
  by_cases h12 : 12 < l.length
  · go_enter Tryd.func6, Tryd.ntmps6
    go_wp2_with (go_at_call 31; refine (known4_any _ HT.out).mono ?_; rintro e w1 ⟨rfl, B1⟩)
    go_ret
    exact ⟨rfl, B1⟩
  by_cases h00 : l.length = 0
  · have hb0 : ((l.length : Int) == 0) = true := by simp [h00]
    go_enter Tryd.func6, Tryd.ntmps6
    go_wp2_with (go_at_call 31; refine (known4_any _ HT.out).mono ?_; rintro e w1 ⟨rfl, B1⟩)
    go_ret
    exact ⟨rfl, B1⟩
  have hb0 : ((l.length : Int) == 0) = false := by simp; intro h; simp [h] at h00
  have hpos : 1 ≤ l.length := by omega
  have h12' : l.length ≤ 12 := by omega
  clear h12 h00
  go_enter Tryd.func6, Tryd.ntmps6
  go_wp2
  go_loop [5] (fun i => ∃ k : Nat, k ≤ l.length ∧ i = .int .i64 k ∧ ∀ r ∈ l.take k, r.length ≤ 200) (fun i => l.length - (intOf i).toNat)
  case atStart => exact ⟨0, Nat.zero_le _, rfl, fun r hr => by simp at hr⟩
  case round =>
    obtain ⟨k, hk, rfl, hall⟩ := hrel
    have HALL := hide hall
    clear hall
    by_cases hlt : k < l.length
    · obtain ⟨a, xo, xc, rfl, hc, -⟩ := HR.out.at hlt
      by_cases hbig : 200 < l[k].length
      · generalize l[k].length = m at *
        go_wp2_with (go_at_call 31; refine (known4_any _ HT.out).mono ?_; rintro e w1 ⟨rfl, B1⟩)
        go_ret
        exact ⟨rfl, B1⟩
      · have HNX := hide (all_next HALL.out hlt (by omega))
        generalize l[k].length = m at *
        go_wp2
        go_round
        case rel => exact ⟨k + 1, by omega, by go_num, HNX.out⟩
        case measure => simp [intOf]; omega
    · have h200 : ∀ r ∈ l, r.length ≤ 200 := by have := HALL.out; rwa [List.take_of_length_le (by omega)] at this
      have h6 : ∀ r ∈ l, r.length ≤ 60000 := fun r hr => Nat.le_trans (h200 r hr) (by decide)
      have hml := wr_small (n := 1) h200 (by omega)
      have hmn := wrB_len 1 l
      have HTURN : Hid (∀ p c, p < (wrB 1 l).length → longB l 0 p = false → (wrB 1 l)[p]? ≠ some c → ∃ j, j < l.length ∧ (scanB ((wrB 1 l).set p c)).2.1 = l.take j) := fun p c h1 h2 h3 => scan_turn (n := 1) (Nat.le_refl _) (by omega) h6 h1 h2 h3
      obtain ⟨hk1, hk2⟩ := cnt_lt (k := n) (n := 8 * (wrB 1 l).length) (by omega)
      obtain ⟨kk, hkk⟩ : ∃ kk : Nat, cnt n (8 * (wrB 1 l).length) = (kk : Int) := ⟨(cnt n (8 * (wrB 1 l).length)).toNat, by omega⟩
      rw [hkk] at hk1 hk2
      have H200 := hide h200
      have HKK := hide hkk
      clear h200 h6 hkk hk1 HALL
      obtain ⟨bb, hbb⟩ : ∃ bb, bb = wrB 1 l := ⟨_, rfl⟩
      rw [← hbb] at hml hmn hk2 HKK HTURN
      have HBB := hide hbb
      clear hbb
      go_wp2_with fail
      refine (written_any l _ w HT.out HR.out (by omega) H200.out).mono ?_
      rintro e w1 ⟨x, rfl, hx, B1⟩
      rw [← HBB.out] at hx
      obtain ⟨g, xc, rfl, hxc⟩ : ∃ g xc, x = .slice (some ⟨g, 0, none⟩) bb.length xc ∧ bb.length ≤ xc := by
        rcases hx.2 with ⟨_, h0⟩ | ⟨g, cap, cur, h1, _, _, h2, _⟩
        · omega
        · exact ⟨g, cap, h1, h2⟩
      have HX1 := hide hx
      have HB1 := hide B1
      clear hx B1
      obtain ⟨p, hp⟩ : ∃ p, p = kk / 8 := ⟨_, rfl⟩
      have hpd : (kk : Int).tdiv 8 = (p : Int) := by rw [Int.tdiv_eq_ediv_of_nonneg (by omega), hp]; omega
      have hpl : p < bb.length := by omega
      obtain ⟨m, hm⟩ : ∃ m, m = kk % 8 := ⟨_, rfl⟩
      have hmd : (kk : Int).tmod 8 = (m : Int) := by rw [Int.tmod_eq_emod_of_nonneg (by omega), hm]; omega
      have hm8 : m < 8 := by omega
      have HP := hide hp
      have HM := hide hm
      clear hp hm
      by_cases hlong : longB l 0 p = true
      · go_wp2_with (first
          | (go_at_call 39; refine (count_any n (8 * bb.length) _ HN.out (by omega)).mono ?_; rintro e w' ⟨rfl, rfl⟩; rw [HKK.out])
          | (go_at_call 40; refine (long_any l p _ _ (rdls_in HR.out HB1.out (Nat.le_refl _)) (by omega) H200.out (by omega)).mono ?_; rintro e w' ⟨rfl, rfl⟩; rw [hlong])
          | (go_at_call 31; refine (known4_any _ (HT.out.below HB1.out (Nat.le_refl _))).mono ?_; rintro e w6 ⟨rfl, B6⟩; have HB6 := hide (HB1.out.trans (B6.mono HB1.out.size)); clear B6))
        go_ret
        exact ⟨rfl, HB6.out⟩
      · have hlf : longB l 0 p = false := by simpa using hlong
        clear hlong
        obtain ⟨cur, hcur, hcl, htk, -, hmx, hgB⟩ := own_row HX1.out
        have hcp : cur[p]? = some (.int .u8 (bb[p].toNat : Int)) := by
          have : (bvs bb)[p]? = some (bv bb[p]) := by rw [bvs_get, List.getElem?_eq_getElem hpl]; rfl
          rw [← htk, List.getElem?_take, if_pos hpl] at this
          exact this
        have hc := cell_of (k := p) hcur
        rw [List.getElem?_toArray, hcp] at hc
        have hf := frozen_of (k := p) hcur
        obtain ⟨c, hce⟩ : ∃ c, c = bb[p] := ⟨_, rfl⟩
        rw [← hce] at hc hcp
        obtain ⟨d, hdc, hxd⟩ := turn_bit c m hm8
        have hne : bb[p]? ≠ some d := by
          rw [List.getElem?_eq_getElem hpl, ← hce]
          exact fun e => hdc (Option.some.inj e).symm
        obtain ⟨j, hj, hrec⟩ := HTURN.out p d hpl hlf hne
        have hlen : (bb.set p d).length = bb.length := List.length_set
        obtain ⟨b2, hb2⟩ : ∃ b2, b2 = bb.set p d := ⟨_, rfl⟩
        rw [← hb2] at hrec hlen
        have HREC := hide hrec
        have HL2 := hide hlen
        have HB2 := hide hb2
        have HCUR := hide hcur
        have hjl : (l.take j).length = j := by rw [List.length_take]; omega
        have HJL := hide hjl
        clear hce hcur htk hcp hne hdc hrec hlen hb2 hjl hcl HTURN
        go_wp2_with (first
          | (go_at_call 39; refine (count_any n (8 * bb.length) _ HN.out (by omega)).mono ?_; rintro e w' ⟨rfl, rfl⟩; rw [HKK.out])
          | (go_at_call 40; refine (long_any l p _ _ (rdls_in HR.out HB1.out (Nat.le_refl _)) (by omega) H200.out (by omega)).mono ?_; rintro e w' ⟨rfl, rfl⟩; rw [hlf]))
        have hX2 := own_set (p := p) HX1.out d
        rw [← HB2.out] at hX2
        have hW2 := HB1.out.trans ((Only.set _ g p (.int .u8 (d.toNat : Int))).toBelow (B := w.heap.size) HB1.out.size (fun i hi => by omega))
        have hr2 := Rd.own hX2
        refine (scan_any b2 _ _ (HT.out.below hW2 (Nat.le_refl _)) hr2 (by rw [HL2.out]; omega)).mono ?_
        rintro e w4 ⟨r4, vs4, rfl, hr4, B4⟩
        rw [HREC.out] at hr4
        have hs4 := hr4.rds
        obtain ⟨r4o, r4c, rfl, -⟩ := id hs4
        rw [HJL.out] at hs4
        rw [HJL.out]
        have HS4 := hide hs4
        have HB4 := hide (hW2.trans (B4.mono hW2.size))
        clear hr4 hs4 B4 hW2 hX2 hr2 hc hf hxd
        generalize (scanB b2).1 = f4
        generalize (scanB b2).2.2 = t4
        go_wp2_with (first
          | (go_at_call 27; refine (rsame_any (l.take j) (l.take j) _ _ _ HS4.out ((rdls_in HR.out HB4.out (Nat.le_refl _)).take (by omega)) (by rw [HJL.out]; omega) (by rw [HJL.out]; omega)).mono ?_; rintro e w5 ⟨rfl, B5⟩; rw [show decide (l.take j = l.take j) = true by simp]; have HB5 := hide (HB4.out.trans (B5.mono HB4.out.size)); clear B5)
          | (go_at_call 31; refine (known4_any _ (HT.out.below HB5.out (Nat.le_refl _))).mono ?_; rintro e w6 ⟨rfl, B6⟩; have HB6 := hide (HB5.out.trans (B6.mono HB5.out.size)); clear B6))
        go_ret
        exact ⟨rfl, HB6.out⟩
end Go.Proofs.YtgobnnciijlpaaaDoor
