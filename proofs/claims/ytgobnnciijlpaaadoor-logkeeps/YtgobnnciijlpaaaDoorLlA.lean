/- The walk of LogFrames. -/
import Derived.Test.YtgobnnciijlpaaaDoorLrE
import Derived.Test.YtgobnnciijlpaaaDoorLrB
import Derived.Test.YtgobnnciijlpaaaDoorLgL
namespace Go.Proofs.YtgobnnciijlpaaaDoor
open Go.ChangeShapes Go.WideShapes Go.ChangeAt Go.RowKit Go.DsMem Go.DsDk Go.DsLg
set_option linter.unusedVariables false

/-- a record's frame, or none of too long a record; the error -/
def frF (seq : Nat) (rec : List UInt8) : List UInt8 := if 60000 < rec.length then [] else frameB seq rec
def frE (rec : List UInt8) : Int := if 60000 < rec.length then 3 else 0
theorem frame_all (seq : Nat) (rec : List UInt8) (sl : Value) (w : World) (ht : Tab w) (h : Rd w sl rec) (hq : seq < 18446744073709551616) :
    Calls Tryd.prog 32 #[.int .u64 seq, sl] w fun e w' => ∃ v, e = .returned (.tuple #[v, .int .i64 (frE rec)]) ∧ w'.ownsRow w.heap.size 5 1 v (frF seq rec).length (bvs (frF seq rec)) ∧ Below w.heap.size w w' := by
  unfold frF frE
  by_cases hb : 60000 < rec.length
  · rw [if_pos hb, if_pos hb]
    exact (frame_no seq rec sl w h hb).mono fun e w' ⟨he, hw⟩ => ⟨_, he, ⟨rfl, .inl ⟨rfl, rfl⟩⟩, by rw [hw]; exact Below.refl _ _⟩
  · rw [if_neg hb, if_neg hb]
    exact (frame_any seq rec sl w ht h hq (by omega)).mono fun e w' ⟨v, he, ho, hb⟩ => ⟨v, he, by rw [frameB_len]; exact ho, hb⟩
theorem rframe_all (seq : Nat) (rec : List UInt8) (sl : Value) (w : World) (h : Rd w sl rec) (hq : seq < 18446744073709551616) :
    Calls Tryd.prog 33 #[.int .u64 seq, sl] w fun e w' => ∃ v, e = .returned (.tuple #[v, .int .i64 (frE rec)]) ∧ w'.ownsRow w.heap.size 5 1 v (frF seq rec).length (bvs (frF seq rec)) ∧ Below w.heap.size w w' := by
  unfold frF frE
  by_cases hb : 60000 < rec.length
  · rw [if_pos hb, if_pos hb]
    exact (rframe_no _ rec sl w h hb).mono fun e w' ⟨he, hw⟩ => ⟨_, he, ⟨rfl, .inl ⟨rfl, rfl⟩⟩, by rw [hw]; exact Below.refl _ _⟩
  · rw [if_neg hb, if_neg hb]
    exact (rframe_any seq rec sl w h hq (by omega)).mono fun e w' ⟨v, he, ho, hb⟩ => ⟨v, he, ho, hb⟩
theorem scan_few (b : List UInt8) (hl : b.length ≤ 140737488351232) : (scanB b).2.1.length ≤ 140737488355328 := by
  have := scanB_ok b
  have h1 := this.2.2.1
  have h2 := this.2.2.2.1
  omega
theorem LentAt.below {B g : Nat} {w w' : World} {b : List UInt8} (h : LentAt B w g b) (hb : Below w.heap.size w w') : LentAt B w' g b := own_below h hb
theorem lent_in {B C g : Nat} {W w w' : World} {b : List UInt8} (h : LentAt B w g b) (hb : Below C w w') (hC : w.heap.size ≤ C) : LentAt B w' g b := own_same h fun k hk => hb.block k (Nat.lt_of_lt_of_le (h.lt k hk).2 hC)

set_option maxHeartbeats 4000000 in
set_option maxRecDepth 20000 in
/-- the law LogFrames -/
theorem logFrames_walk (q : Int) (rec b : List UInt8) (sr sb : Value) (w : World) (ht : Tab w) (hq : 0 ≤ q ∧ q < 18446744073709551616) (hr : Rd w sr rec) (hb : Rd w sb b) (lr : rec.length ≤ 140737488351232) (lb : b.length ≤ 140737488351232) :
    Calls Tryd.prog 4 #[.int .u64 q, sr, sb] w fun e w' => e = .returned (.bool true) ∧ Below w.heap.size w w' := by
  obtain ⟨seq, rfl⟩ : ∃ n : Nat, q = (n : Int) := ⟨q.toNat, by omega⟩
  have hs : seq < 18446744073709551616 := by omega
  have HT := hide ht
  have HR := hide hr
  have HB := hide hb
  obtain ⟨ro, rc, rfl, -⟩ := hr
  obtain ⟨bo, bc, rfl, -⟩ := hb
  clear ht hq
  go_enter Tryd.func4, Tryd.ntmps4
  go_wp2_with fail
  refine (lent_any b _ w HB.out lb).mono ?_
  rintro e w1 ⟨rfl, hL, B1⟩
  have HL1 := hide hL
  have HB1 := hide B1
  clear hL B1
  go_wp2_with fail
  refine (frame_all seq rec _ w1 (HT.out.below HB1.out (Nat.le_refl _)) (rd_in HR.out HB1.out (Nat.le_refl _)) hs).mono ?_
  rintro e w2 ⟨x, rfl, hx, B2⟩
  obtain ⟨xo, xc, rfl, -⟩ := own_shape hx
  have HX2 := hide (Rd.own hx)
  have HL2 := hide (HL1.out.below B2)
  have HB2 := hide (HB1.out.trans (B2.mono HB1.out.size))
  clear hx B2 HL1 HB1
  go_wp2_with fail
  refine (rframe_all seq rec _ w2 (rd_in HR.out HB2.out (Nat.le_refl _)) hs).mono ?_
  rintro e w3 ⟨y, rfl, hy, B3⟩
  obtain ⟨yo, yc, rfl, -⟩ := own_shape hy
  have HX3 := hide (HX2.out.below B3)
  have HY3 := hide (Rd.own hy)
  have HL3 := hide (HL2.out.below B3)
  have HB3 := hide (HB2.out.trans (B3.mono HB2.out.size))
  clear hy B3 HL2 HB2 HX2
  go_wp2_with fail
  refine (scan_any b _ w3 (HT.out.below HB3.out (Nat.le_refl _)) HL3.out.rd lb).mono ?_
  rintro e w4 ⟨r1, vs1, rfl, hr1, B4⟩
  have hs1 := hr1.rds
  obtain ⟨r1o, r1c, rfl, -⟩ := id hs1
  have HS4 := hide hs1
  have HX4 := hide (HX3.out.below B4)
  have HY4 := hide (HY3.out.below B4)
  have HL4 := hide (HL3.out.below B4)
  have HB4 := hide (HB3.out.trans (B4.mono HB3.out.size))
  clear hr1 hs1 B4 HL3 HB3 HX3 HY3
  go_wp2_with fail
  refine (rscan_any b _ w4 (rd_in HB.out HB4.out (Nat.le_refl _)) lb).mono ?_
  rintro e w5 ⟨r2, vs2, rfl, hr2, B5⟩
  have hs2 := hr2.rds
  obtain ⟨r2o, r2c, rfl, -⟩ := id hs2
  have HS5 := hide (HS4.out.below B5)
  have HT5 := hide hs2
  have HX5 := hide (HX4.out.below B5)
  have HY5 := hide (HY4.out.below B5)
  have HL5 := hide (HL4.out.below B5)
  have HB5 := hide (HB4.out.trans (B5.mono HB4.out.size))
  clear hr2 hs2 B5 HL4 HB4 HX4 HY4 HS4
  have c1 := run_conv_rd (P := Tryd.prog) Tryd.underlying28 Tryd.underlying5 Tryd.underlying9 HX5.out
  have c2 := run_conv_rd (P := Tryd.prog) Tryd.underlying28 Tryd.underlying5 Tryd.underlying9 HY5.out
  generalize bstr (frF seq rec) = tx at c1 c2
  generalize frE rec = er
  have HF := hide (scan_few b lb)
  generalize scanB b = sc at *
  go_wp2_with (first
    | (go_at_call 27; refine (rsame_any _ _ _ _ _ HS5.out HT5.out HF.out HF.out).mono ?_; rintro e w6 ⟨rfl, B6⟩; rw [show decide (sc.2.1 = sc.2.1) = true by simp]; have HL6 := hide (HL5.out.below B6); have HB6 := hide (HB5.out.trans (B6.mono HB5.out.size)); clear B6)
    | (go_at_call 36; refine (sum_any b _ _ (HT.out.below HB6.out (Nat.le_refl _)) HL6.out.rd (by omega)).mono ?_; rintro e w' ⟨rfl, rfl⟩)
    | (go_at_call 37; refine (rsum_any b _ _ (rd_in HB.out HB6.out (Nat.le_refl _)) (by omega)).mono ?_; rintro e w' ⟨rfl, rfl⟩)
    | (go_at_call 17; refine (kept_any _ _ b _ _ HL6.out (rd_in HB.out HB6.out (Nat.le_refl _)) lb).mono ?_; rintro e w7 ⟨rfl, B7⟩; have HB7 := hide (HB6.out.trans (B7.mono HB6.out.size)); clear B7)
    | (go_at_call 31; refine (known4_any _ (HT.out.below HB7.out (Nat.le_refl _))).mono ?_; rintro e w8 ⟨rfl, B8⟩; have HB8 := hide (HB7.out.trans (B8.mono HB7.out.size)); clear B8))
  go_ret
  exact ⟨rfl, HB8.out⟩
end Go.Proofs.YtgobnnciijlpaaaDoor
