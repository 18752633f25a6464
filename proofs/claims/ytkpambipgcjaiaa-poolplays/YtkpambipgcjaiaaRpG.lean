/- Law 13: same of lists that are one. -/
import Derived.Test.YtkpambipgcjaiaaRpF
namespace Go.Proofs.Ytkpambipgcjaiaa
open Go.ChangeShapes Go.WideShapes Go.ChangeAt Go.RowKit Go.DsMem Go.DsCo Go.DsPl Go.DsMap
set_option linter.unusedVariables false
set_option linter.unusedSimpArgs false
set_option maxHeartbeats 8000000 in
set_option maxRecDepth 20000 in
theorem same13_true (L : List Hd) (b g cap : Nat) (pr b0 : Nat) (X : List Rt) (uo vo : Option Addr) (uc vc : Nat) (w : World) (hr : HdRow w b g cap L) (hp : RpAt w pr b0 X L uo vo uc vc) (hL : L.length ≤ 1000000) :
    Calls Try.prog 21 #[.slice (some ⟨g, 0, none⟩) L.length cap, .slice vo L.length vc] w fun e w' => e = .returned (.bool true) ∧ Below w.heap.size w w' := by
  have HR := hide hr
  have HP := hide hp
  clear hr hp
  go_enter Try.func21, Try.ntmps21
  go_wp2
  go_loopw [5] (fun ti wr => ∃ i : Nat, i ≤ L.length ∧ ti = .int .i64 i ∧ Below w.heap.size w wr) (fun ti _ => L.length - (intOf ti).toNat)
  case atStart => exact ⟨0, Nat.zero_le _, rfl, Below.refl _ _⟩
  case round =>
    obtain ⟨i, hi, rfl, hbl⟩ := hrel
    have HBL := hide hbl
    clear hbl
    by_cases hlt : i < L.length
    · have HLT := hide hlt
      have hi0 : (0 : Int) ≤ (i : Int) := by omega
      have hi1 : (i : Int) < ((L.length : Nat) : Int) := by omega
      have hR2 := HR.out.same (HBL.out.block _ HR.out.lt)
      have d0 : wr.cell? ⟨g, i * 4, none⟩ = some (.int .i64 L[i].1.1) := hR2.cell i 0 hlt (by decide)
      have d1 : wr.cell? ⟨g, i * 4 + 1, none⟩ = some (.string L[i].1.2) := hR2.cell i 1 hlt (by decide)
      have d2 : wr.cell? ⟨g, i * 4 + 2, none⟩ = some (.int .i64 L[i].2.1) := hR2.cell i 2 hlt (by decide)
      have d3 : wr.cell? ⟨g, i * 4 + 3, none⟩ = some (.int .i64 L[i].2.2) := hR2.cell i 3 hlt (by decide)
      obtain ⟨g2, rfl, _, hcells⟩ := (HP.out.below HBL.out).rdH (by omega)
      obtain ⟨f0, f1, f2, f3⟩ := hcells i hlt
      clear hcells hR2
      generalize L[i] = x at *
      go_wp2_with fail
      go_quiet (fail)
      go_wp2
      go_roundw
      case rel => exact ⟨i + 1, by have := HLT.out; omega, by go_num, HBL.out.trans ((below_drewNP _ _).mono HBL.out.size)⟩
      case measure => have := HLT.out; simp [intOf]; omega
    · have hi1 : ¬ (i : Int) < ((L.length : Nat) : Int) := by omega
      go_wp2
      go_ret
      exact ⟨rfl, HBL.out⟩
end Go.Proofs.Ytkpambipgcjaiaa
