/- Layer 6's law: Count, day; cal.In by inB. -/
import Derived.Test.YthbfjkdklnffjaaDoorCeO
namespace Go.Proofs.YthbfjkdklnffjaaDoor
open Go.ChangeShapes Go.WideShapes Go.ChangeAt Go.RowKit Go.DsMem Go.DsMk
set_option linter.unusedVariables false

/-- a number from 0 to one below n -/
def cnt (k n : Int) : Int := if n < 1 then 0 else k % n
theorem cnt_lt {k n : Int} (h : 1 ≤ n) : 0 ≤ cnt k n ∧ cnt k n < n := by
  unfold cnt
  rw [if_neg (by omega)]
  exact ⟨Int.emod_nonneg _ (by omega), Int.emod_lt_of_pos _ (by omega)⟩
theorem tmod_facts (k n : Int) (hn : 1 ≤ n) : -n < k.tmod n ∧ k.tmod n < n ∧ (k.tmod n < 0 → k.tmod n + n = k % n) ∧ (¬ k.tmod n < 0 → k.tmod n = k % n) := by
  have h1 := Int.emod_nonneg k (show n ≠ 0 by omega)
  have h2 := Int.emod_lt_of_pos k (show 0 < n by omega)
  have h3 := Int.tmod_eq_emod (a := k) (b := n)
  have h4 : (n.natAbs : Int) = n := by omega
  rw [h3]
  split
  · refine ⟨by omega, by omega, by omega, by omega⟩
  · rename_i h
    have : k % n ≠ 0 := fun h0 => h (.inr (Int.dvd_of_emod_eq_zero h0))
    rw [h4]
    refine ⟨by omega, by omega, by omega, by omega⟩
set_option maxHeartbeats 1000000 in
/-- dayshiftref01.Count -/
theorem cnt_any (k n : Int) (w : World) (hk : -9223372036854775808 ≤ k ∧ k ≤ 9223372036854775807) (hn : 1 ≤ n ∧ n ≤ 9223372036854775807) :
    Calls Tryd.prog 12 #[.int .i64 k, .int .i64 n] w fun e w' => e = .returned (.int .i64 (cnt k n)) ∧ w' = w := by
  obtain ⟨hk1, hk2⟩ := hk
  obtain ⟨hn1, hn2⟩ := hn
  obtain ⟨t1, t2, t3, t4⟩ := tmod_facts k n hn1
  have HE : Hid (cnt k n = k % n) := by show _ = _; unfold cnt; rw [if_neg (by omega)]
  obtain ⟨r, hr⟩ : ∃ r, r = k.tmod n := ⟨_, rfl⟩
  rw [← hr] at t1 t2 t3 t4
  have hn0 : ¬ n = 0 := by omega
  by_cases h0 : r < 0
  · have HR := hide (t3 h0)
    clear t3 t4
    go_enter Tryd.func12, Tryd.ntmps12
    go_wp2
    go_ret
    exact ⟨ret_int (by rw [HE.out, ← HR.out, hr]), rfl⟩
  · have HR := hide (t4 h0)
    clear t3 t4
    go_enter Tryd.func12, Tryd.ntmps12
    go_wp2
    go_ret
    exact ⟨ret_int (by rw [HE.out, ← HR.out, hr]), rfl⟩
/-- dayshiftlaw06.day -/
theorem day_any (y m d : Int) (w : World) (hv : DsCal.vld y m d) (hm1 : 1 ≤ m) (hm2 : m ≤ 12) :
    Calls Tryd.prog 17 #[.int .i64 y, .int .i64 m, .int .i64 d] w fun e w' => e = .returned (.int .i64 (DsCal.num y m d)) ∧ w' = w := by
  have HV := hide hv
  clear hv
  go_enter Tryd.func17, Tryd.ntmps17
  go_wp2_with fail
  refine (Dt.refDays_yes y m d _ HV.out).mono ?_
  rintro e w1 ⟨rfl, rfl⟩
  go_wp2
  go_ret
  exact ⟨rfl, rfl⟩
/-- what In answers, by inB -/
noncomputable def inF (cs : List (ByteArray × Nd)) (t : Nd) (day : Int) : Bool × Int := if refF cs t day = 0 then (inB cs 257 t day, 0) else (false, refF cs t day)
theorem Gc.inAny {W w : World} (h : Gc W w) (co : Option Addr) (cc : Nat) (cs : List (ByteArray × Nd)) (g o : Nat) (V : Nat → NVal) (hc : CalsAt w co cc cs g o V) (t : Nd) (v : NVal) (hv : NdAt w v t) (day : Int) :
    Calls Tryd.prog 9 #[.slice co cs.length cc, v.val, .int .i64 day] w fun e w' => e = .returned (.tuple #[.bool (inF cs t day).1, .int .i64 (inF cs t day).2]) ∧ Gc W w' :=
  (h.in_ co cc cs g o V hc t v hv day).mono fun e w' ⟨hi, hg⟩ => by
    refine ⟨?_, hg⟩
    rcases hi with ⟨h0, rfl⟩ | ⟨h0, M, hM, m1, m2, rfl⟩
    · have : inF cs t day = (false, refF cs t day) := if_neg h0
      rw [this]
    · have : inF cs t day = (inB cs 257 t day, 0) := if_pos h0
      rw [this, inB_eq hM m1 m2]
end Go.Proofs.YthbfjkdklnffjaaDoor
