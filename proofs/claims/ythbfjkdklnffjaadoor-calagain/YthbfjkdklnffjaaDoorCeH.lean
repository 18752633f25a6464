/- Package cal: days, of And and Or, and of every node. -/
import Derived.Test.YthbfjkdklnffjaaDoorCeG
namespace Go.Proofs.YthbfjkdklnffjaaDoor
open Go.ChangeShapes Go.WideShapes Go.ChangeAt Go.RowKit Go.DsMem Go.DsMk
set_option linter.unusedVariables false

set_option maxHeartbeats 4000000 in
set_option maxRecDepth 20000 in
/-- of And and Or: as joined -/
theorem days78 (op : Int) (hop : op = 7 ∨ op = 8) (R N : Nat) (n : Nat) (W w : World) (B : Nat) (co : Option Addr) (cc : Nat) (cs : List (ByteArray × Nd)) (no : Option Addr) (nl nc : Nat) (ko : Option Addr) (kl kc : Nat) (nm : ByteArray) (M : Mo)
    (hj : ∀ w1, Below w.heap.size w w1 → Calls Tryd.prog 42 #[askrV co cs.length cc B, ndV op no nl nc ko kl kc nm, M.val] w1 (Dayd cs w1 B N R)) :
    Calls Tryd.prog 27 #[askrV co cs.length cc B, ndV op no nl nc ko kl kc nm, M.val] w (Dayd cs w B N R) := by
  have HJ := hide hj
  clear hj
  obtain ⟨wA, hwA⟩ : ∃ wA, wA = ((w.alloc (.cells #[.slice co cs.length cc, .map (some B)] 53)).alloc (.cells #[.int .i64 op, .slice no nl nc, .slice ko kl kc, .string nm] 31)).alloc (.cells #[.int .i64 M.y, .int .i64 M.m, .int .i64 M.f, .int .i64 M.s] 67) := ⟨_, rfl⟩
  have HBL : Hid (Below w.heap.size w wA) := by rw [hwA]; exact below3 w _ _ _
  have HCALL := hide (HJ.out wA HBL.out)
  unfold askrV ndV Mo.val moV at *
  rcases hop with rfl | rfl
  all_goals
    go_enter Tryd.func27, Tryd.ntmps27
    go_wp2_with fail
    rw [← hwA]
    refine HCALL.out.mono ?_
    rintro e w2 ⟨rfl, hmem, hon⟩
    have HM2 := hide hmem
    have HON := hide hon
    clear hmem hon
    go_wp2
    go_ret
    exact Dayd.of ⟨rfl, HM2.out, (Only.below HBL.out).trans HON.out (fun _ _ h => h)⟩

theorem dayd_of_gc {cs : List (ByteArray × Nd)} {w : World} {B n m : Nat} {R : Nat} (hm : Memo cs w B n) (hn : n ≤ m) {P : Program} {f : FuncId} {args : Array Value} (h : Calls P f args w fun e w' => e = .returned (.int .u32 R) ∧ Gc w w') : Calls P f args w (Dayd cs w B m R) :=
  h.mono fun e w' ⟨he, hg⟩ => Dayd.of ⟨he, ⟨n, hn, hm.below hg.below⟩, Only.below hg.below⟩

theorem one_num {l : List Int} (h : l.length = 1) : l = [l.getD 0 0] := by match l, h with | [x], _ => rfl
theorem two_num {l : List Int} (h : l.length = 2) : l = [l.getD 0 0, l.getD 1 0] := by match l, h with | [x, y], _ => rfl
end Go.Proofs.YthbfjkdklnffjaaDoor
