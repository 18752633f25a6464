/- Layer 7's law LexTexts. -/
import Derived.Test.YtfbkcipjfjoifaaLzC
import Derived.Test.YtfbkcipjfjoifaaLzD
import Derived.Test.YtfbkcipjfjoifaaLxO
namespace Go.Proofs.Ytfbkcipjfjoifaa
open Go.ChangeShapes Go.WideShapes Go.ChangeAt Go.RowKit Go.DsMem Go.DsLx
set_option linter.unusedVariables false
theorem WdOwn.trans {a b c : World} {ty : TypeId} {l : List Wd} {uo : Option Addr} {uc : Nat} (h : Below a.heap.size a b) (k : WdOwn b c ty l uo uc) : Below a.heap.size a c := h.trans (k.below.mono h.size)
set_option maxHeartbeats 8000000 in
set_option maxRecDepth 20000 in
theorem texts7 (l : List Wd) (uo : Option Addr) (uc o : Nat) (s : ByteArray) (a : Int) (w : World) (hl : l.length ≤ 1000000000000) (hat : WdAt w uo uc o l) (hj : (joinB (l.map (·.text))).size ≤ 140737488355328) (hs : s.size ≤ 140737488351232) (h1 : -9223372036854775808 ≤ a) (h2 : a ≤ 9223372036854775807) :
    Calls Try.prog 3 #[.slice uo l.length uc, .string s, .int .i64 a] w fun e w' => e = .returned (.bool true) ∧ Below w.heap.size w w' := by
  have HK := hide known7
  have HAT := hide hat
  have HG := hide (givenZ l uo uc o w hl hat)
  have HPL := hide (fun w => lexPlace s a w (by omega) h1 h2)
  have HPR := hide (fun w => refPlace s a w (by omega) h1 h2)
  have HFL := hide (fun w => fold_any s w (by omega))
  have HFR := hide (fun w => refFold s w hs)
  have HJL := hide (fun (vo : Option Addr) (vc : Nat) (w : World) (h : WdAt w vo vc 0 l) => lexJoinZ l vo vc 0 w hl h hj)
  have HJR := hide (fun (w : World) (h : WdAt w uo uc o l) => refJoin l uo uc o w hl h hj)
  clear hat hj
  generalize joinB (l.map (·.text)) = J at *
  generalize ((pcn s (clampN a s.size) : Int) + 1) = x1 at *
  generalize ((clampN a s.size : Int) - pli s (clampN a s.size)) = x2 at *
  generalize foldS s = F at *
  go_enter Try.func3, Try.ntmps3
  go_wp2_with fail
  refine HG.out.mono ?_
  rintro e w1 ⟨vo, vc, rfl, hw1⟩
  have HW1 := hide hw1
  have HB1 : Hid (Below w.heap.size w w1) := hw1.below
  have HV1 := hide hw1.at_
  have HU1 := hide (HAT.out.keep hw1.below)
  clear hw1 HG
  go_wp2_with fail
  refine (HPL.out w1).mono ?_
  rintro e w2 ⟨rfl, rfl⟩
  go_wp2_with fail
  refine (HPR.out w2).mono ?_
  rintro e w3 ⟨rfl, rfl⟩
  go_wp2_with fail
  refine (HJL.out vo vc w3 HV1.out).mono ?_
  rintro e w4 ⟨rfl, hb4⟩
  have HB4 := hide (HB1.out.trans (hb4.mono HB1.out.size))
  have HV4 := hide (HV1.out.keep hb4)
  have HU4 := hide (HU1.out.keep hb4)
  clear hb4
  go_wp2_with fail
  refine (HJR.out w4 HU4.out).mono ?_
  rintro e w5 ⟨rfl, rfl⟩
  go_wp2_with fail
  refine (takenZ l vo vc 0 w5 hl HV4.out).mono ?_
  rintro e w6 ⟨so, sc, rfl, hw6⟩
  have HB6 := hide (hw6.trans HB4.out)
  have HT6 := hide hw6.at_
  have HU6 := hide (HU4.out.keep hw6.below)
  clear hw6
  go_wp2_with fail
  refine (sameZ true l l so uo sc uc 0 o w6 hl HT6.out HU6.out rfl).mono ?_
  rintro e w7 ⟨rfl, hb7⟩
  have HB7 := hide (HB6.out.trans (hb7.mono HB6.out.size))
  clear hb7
  go_wp2_with fail
  refine (HFL.out w7).mono ?_
  rintro e w8 ⟨rfl, hb8⟩
  have HB8 := hide (HB7.out.trans (hb8.mono HB7.out.size))
  clear hb8
  go_wp2_with fail
  refine (HFR.out w8).mono ?_
  rintro e w9 ⟨rfl, hb9⟩
  have HB9 := hide (HB8.out.trans (hb9.mono HB8.out.size))
  clear hb9
  go_wp2_with fail
  refine (HK.out w9).mono ?_
  rintro e w10 ⟨rfl, hb10⟩
  have HB10 := hide (HB9.out.trans (hb10.mono HB9.out.size))
  clear hb10
  go_wp2
  go_ret
  exact ⟨rfl, HB10.out⟩
end Go.Proofs.Ytfbkcipjfjoifaa
