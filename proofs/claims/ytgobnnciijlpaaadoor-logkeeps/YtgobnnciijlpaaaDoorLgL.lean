/- dayshiftlaw04.known; the walk of LogNil. -/
import Derived.Test.YtgobnnciijlpaaaDoorLgK
import Derived.Test.YtgobnnciijlpaaaDoorBy
namespace Go.Proofs.YtgobnnciijlpaaaDoor
open Go.ChangeShapes Go.WideShapes Go.ChangeAt Go.RowKit Go.DsMem Go.DsDk Go.DsLg
set_option linter.unusedVariables false

set_option maxHeartbeats 4000000 in
set_option maxRecDepth 20000 in
/-- dayshiftlaw04.known -/
theorem known4_any (w : World) (ht : Tab w) : Calls Tryd.prog 31 #[] w fun e w' => e = .returned (.bool true) ∧ Below w.heap.size w w' := by
  have hlit := run_lit (P := Tryd.prog) Tryd.underlying28 Tryd.underlying5
  have HT := hide ht
  clear ht
  go_enter Tryd.func31, Tryd.ntmps31
  go_wp2_with fail
  refine (new_any _).mono ?_
  rintro e w1 ⟨rfl, hD, hb⟩
  have O1 := Own.new (Below.refl w.heap.size w) (Nat.le_refl _) hD hb
  clear hD hb
  go_wp2_with fail
  refine (open_any _ _ _ _ O1.dk (HT.out.below O1.below (Nat.le_refl _))).mono ?_
  rintro e w2 ⟨v2, M2, -, hok⟩
  obtain ⟨l, x, rs, rfl, E, hO⟩ := hok (by rw [show openB Dk.new = KO1 from rfl, kO1])
  have G2 : OwnG w w2 w.heap.size v2 KO1.1 l ⟨1, 0, false⟩ := ⟨O1.moved M2, by have := hO.log; rw [show openB Dk.new = KO1 from rfl, kO1] at this; exact this, by have := hO.new; have := hO.le; have := O1.size; omega, hO.lof⟩
  obtain ⟨ro, rc, rfl, -⟩ := id hO.recs
  obtain ⟨xo, xc, rfl, -⟩ := own_shape hO.snap
  clear M2 hO hok O1
  go_wp2_with fail
  refine (lappend_any l _ v2 KO1.1 ⟨1, 0, false⟩ _ [97] _ (G2.alloc _).log (G2.alloc _).own.dk G2.lof ((G2.alloc _).tab HT.out) (Rd.one _ 97 97 (by decide) _ _) (by decide) (by decide)).mono ?_
  rintro e w3 ⟨rfl, v3, M3⟩
  have G3 : OwnG w w3 w.heap.size v3 KA1.1 l KA1.2.1 := (G2.alloc _).moved M3
  clear M3 G2
  rw [show appB KO1.1 ⟨1, 0, false⟩ [97] = KA1 from rfl, kA1]
  rw [kA1] at G3
  go_wp2_with fail
  refine (lappend_any l _ v3 KA1.1 ⟨2, 1, false⟩ _ [98] _ (G3.alloc _).log (G3.alloc _).own.dk G3.lof ((G3.alloc _).tab HT.out) (Rd.one _ 98 98 (by decide) _ _) (by decide) (by decide)).mono ?_
  rintro e w4 ⟨rfl, v4, M4⟩
  have G4 : OwnG w w4 w.heap.size v4 KA2.1 l KA2.2.1 := (G3.alloc _).moved M4
  clear M4 G3
  rw [show appB KA1.1 ⟨2, 1, false⟩ [98] = KA2 from rfl, kA2]
  rw [kA2] at G4
  go_wp2_with fail
  refine (crash_any _ _ _ [] _ _ G4.own.dk (RdI.nil _) (fun h => absurd h (by decide))).mono ?_
  rintro e w5 ⟨rfl, v5, M5⟩
  have O5 : Own w.heap.size w w5 w.heap.size v5 KC := G4.own.moved M5
  clear M5 G4
  go_wp2_with fail
  refine (open_any _ _ _ _ O5.dk (HT.out.below O5.below (Nat.le_refl _))).mono ?_
  rintro e w6 ⟨v6, M6, -, hok⟩
  obtain ⟨m, y, qs, rfl, E6, hO6⟩ := hok (by rw [show openB KC = KO2 from rfl, kO2])
  rw [show openB KC = KO2 from rfl] at M6 hO6
  rw [kO2] at hO6
  have G6 : OwnG w w6 w.heap.size v6 KO2.1 m ⟨3, 2, false⟩ := ⟨O5.moved M6, hO6.log, by have := hO6.new; have := hO6.le; have := O5.size; omega, hO6.lof⟩
  have T6 := hO6.told
  obtain ⟨qo, qc, rfl, -⟩ := id hO6.recs
  obtain ⟨yo, yc, rfl, -⟩ := own_shape hO6.snap
  clear M6 hO6 hok O5
  go_wp2_with fail
  refine (linstall_any m _ v6 KO2.1 ⟨3, 2, false⟩ _ [115] _ (G6.alloc _).log (G6.alloc _).own.dk G6.lof ((G6.alloc _).tab HT.out) (Rd.one _ 115 115 (by decide) _ _) (by decide)).mono ?_
  rintro e w7 ⟨rfl, v7, M7⟩
  have G7 : OwnG w w7 w.heap.size v7 KI.1 m KI.2.1 := (G6.alloc _).moved M7
  have T7 := (T6.alloc _).moved M7
  clear M7 G6 T6
  rw [show insB KO2.1 ⟨3, 2, false⟩ [115] = KI from rfl, kI]
  rw [kI] at G7
  go_wp2_with fail
  refine (open_any _ _ _ _ G7.own.dk (G7.tab HT.out)).mono ?_
  rintro e w8 ⟨v8, M8, -, hok⟩
  obtain ⟨k, z, zs, rfl, E8, hO8⟩ := hok (by rw [show openB KI.1 = KO3 from rfl, kO3])
  rw [show openB KI.1 = KO3 from rfl] at M8 hO8
  rw [kO3] at hO8
  have O8 : Own w.heap.size w w8 w.heap.size v8 KO3.1 := G7.own.moved M8
  have T8 := T7.dmoved M8
  have hzs := id hO8.recs
  obtain ⟨zo, zc, rfl, -⟩ := hzs
  obtain ⟨so, sc, rfl, -⟩ := own_shape hO8.snap
  clear M8 hok G7 T7
  have HL8 := hide hO8.log
  have HS8 := hide hO8.snap
  have HW8 := hide O8.below
  have HZ8 := hide O8.size
  have HT8 := hide T8
  clear hO8 O8 T8
  go_wp2_with fail
  obtain ⟨w9, hw9⟩ : ∃ w9, w9 = w8.alloc (.cells #[.int .u8 49, .int .u8 50, .int .u8 51, .int .u8 52, .int .u8 53, .int .u8 54, .int .u8 55, .int .u8 56, .int .u8 57] 5 (9, 10)) := ⟨_, rfl⟩
  have hb9 : Below w8.heap.size w8 w9 := by rw [hw9]; exact (Below.refl _ _).alloc (Nat.le_refl _) _
  have h9 : Rd w9 (.slice (some ⟨w8.heap.size, 0, none⟩) 9 9) [49, 50, 51, 52, 53, 54, 55, 56, 57] := by rw [hw9]; exact Rd.lit w8 [49, 50, 51, 52, 53, 54, 55, 56, 57] 5 (9, 10)
  have hBW : Below w.heap.size w w9 := HW8.out.trans (hb9.mono HZ8.out)
  have HBW := hide hBW
  rw [← hw9]
  clear hw9
  refine (sum_any [49, 50, 51, 52, 53, 54, 55, 56, 57] _ w9 (HT.out.below hBW (Nat.le_refl _)) h9 (by decide)).mono ?_
  rintro e w10 ⟨rfl, rfl⟩
  rw [kSum]
  have T9 := HT8.out.grew hb9
  have hcs := run_conv_rd (P := Tryd.prog) Tryd.underlying28 Tryd.underlying5 Tryd.underlying9 (Rd.own (own_below HS8.out hb9))
  have hL9 := HL8.out.only (S := fun _ => False) (Only.below hb9) (fun h => h)
  obtain ⟨_, _, hq, hqe⟩ := id T9.recs
  obtain ⟨a, uo, uc, ha, -, -, -, hcell, hrow, -⟩ := hqe 1 [98] rfl
  simp only [Value.slice.injEq] at hq
  obtain ⟨hq1, -, -⟩ := hq
  rw [← hq1] at ha
  subst ha
  have hcu := run_conv_rd (P := Tryd.prog) Tryd.underlying28 Tryd.underlying5 Tryd.underlying9 (Rd.own hrow)
  rw [show bstr [98] = ⟨#[98]⟩ from rfl] at hcu
  rw [show bstr [115] = ⟨#[115]⟩ from rfl] at hcs
  simp only [List.length_cons, List.length_nil, Nat.zero_add] at hcu hcs hcell
  have hcell2 : w10.cell? ⟨a.block, a.off + 1, none⟩ = some (.slice uo 1 uc) := hcell
  clear hqe hrow hq1 T9 hb9 h9 hBW hcell
  go_wp2_with (go_at_call 28; refine (next_any _ _ _ _ _ _ hL9).mono ?_; rintro e w11 ⟨rfl, rfl⟩)
  go_ret
  exact ⟨rfl, HBW.out⟩

set_option maxHeartbeats 2000000 in
/-- the law LogNil -/
theorem logNil_walk (ao : Option Addr) (n c : Nat) (w : World) (ht : Tab w) : Calls Tryd.prog 8 #[.slice ao n c] w fun e w' => e = .returned (.bool true) ∧ Below w.heap.size w w' := by
  have HT := hide ht
  clear ht
  go_enter Tryd.func8, Tryd.ntmps8
  go_wp2_with (first
    | (go_at_call 12; refine (open_nil _).mono ?_; rintro e w1 ⟨rfl, B1⟩; have H1 := hide B1; clear B1)
    | (go_at_call 15; refine (lappend_nil _ _).mono ?_; rintro e w' ⟨rfl, rfl⟩)
    | (go_at_call 19; refine (linstall_nil _ _).mono ?_; rintro e w' ⟨rfl, rfl⟩)
    | (go_at_call 28; refine (next_nil _).mono ?_; rintro e w' ⟨rfl, rfl⟩)
    | (go_at_call 29; refine (size_nil _).mono ?_; rintro e w' ⟨rfl, rfl⟩)
    | (go_at_call 31; refine (known4_any _ (HT.out.below H1.out (Nat.le_refl _))).mono ?_; rintro e w5 ⟨rfl, B5⟩; have H5 := hide (H1.out.trans (B5.mono H1.out.size)); clear B5))
  go_ret
  exact ⟨rfl, H5.out⟩
end Go.Proofs.YtgobnnciijlpaaaDoor
