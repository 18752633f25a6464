/- Package need: of no pool. -/
import Derived.Test.YtkpambipgcjaiaaNdB
import Derived.Test.YtkpambipgcjaiaaPmA
namespace Go.Proofs.Ytkpambipgcjaiaa
open Go.ChangeShapes Go.WideShapes Go.ChangeAt Go.RowKit Go.DsMem Go.DsCo Go.DsPl Go.DsMap
set_option linter.unusedVariables false
set_option linter.unusedSimpArgs false
theorem emptied_nil (w : World) : Calls Try.prog 68 #[.pointer none] w fun e w' => e = .returned (.pointer none) ∧ w' = w := by
  have HC := hide (fun w => pcopy_nil w)
  have HL := hide (fun w => plist_nil w)
  go_enter Try.func68, Try.ntmps68
  go_wp2_with fail
  refine (HC.out _).mono ?_
  rintro e w1 ⟨rfl, hw⟩
  obtain rfl := hw.symm
  clear hw
  go_wp2_with fail
  refine (HL.out _).mono ?_
  rintro e w1 ⟨rfl, hw⟩
  obtain rfl := hw.symm
  clear hw
  go_wp2
  go_loop [11] (fun i => i = .int .i64 0) (fun _ => 0)
  case atStart => rfl
  case round =>
    obtain rfl := hrel
    go_wp2
    go_ret
    exact ⟨rfl, rfl⟩
theorem nfits_nil (w : World) : Calls Try.prog 34 #[.pointer none, .slice none 0 0] w fun e w' => e = .returned (.int .i64 2) ∧ w' = w := by
  have HE := hide (fun w => emptied_nil w)
  have HM := hide (fun w => may_nil 1 (.slice none 0 0) w)
  go_enter Try.func34, Try.ntmps34
  go_wp2_with fail
  refine (HE.out _).mono ?_
  rintro e w1 ⟨rfl, hw⟩
  obtain rfl := hw.symm
  clear hw
  go_wp2_with fail
  refine (HM.out _).mono ?_
  rintro e w1 ⟨rfl, hw⟩
  obtain rfl := hw.symm
  clear hw
  go_wp2
  go_ret
  exact ⟨rfl, rfl⟩
theorem nboth_nil (w : World) : Calls Try.prog 36 #[.pointer none, .slice none 0 0, .slice none 0 0] w fun e w' => e = .returned (.bool false) ∧ w' = w := by
  have HE := hide (fun w => emptied_nil w)
  have HM := hide (fun w => may_nil 1 (.slice none 0 0) w)
  have HT : Hid (∀ w, Calls Try.prog 27 #[.pointer none, .int .i64 1, .slice none 0 0] w fun e w' => e = .returned (.int .i64 2) ∧ w' = w) := hide (fun w => by
    go_enter Try.func27, Try.ntmps27
    go_wp2_with fail
    refine (HM.out _).mono ?_
    rintro e w1 ⟨rfl, hw⟩
    obtain rfl := hw.symm
    go_wp2
    go_ret
    exact ⟨rfl, rfl⟩)
  go_enter Try.func36, Try.ntmps36
  go_wp2_with fail
  refine (HE.out _).mono ?_
  rintro e w1 ⟨rfl, hw⟩
  obtain rfl := hw.symm
  clear hw
  go_wp2_with fail
  refine (HT.out _).mono ?_
  rintro e w1 ⟨rfl, hw⟩
  obtain rfl := hw.symm
  clear hw
  go_wp2
  go_ret
  exact ⟨rfl, rfl⟩
end Go.Proofs.Ytkpambipgcjaiaa
