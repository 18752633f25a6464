/- Package cal: numbersCanBe joined; hasShape. -/
import Derived.Test.YthbfjkdklnffjaaDoorCcD
namespace Go.Proofs.YthbfjkdklnffjaaDoor
open Go.ChangeShapes Go.WideShapes Go.ChangeAt Go.RowKit Go.DsMem Go.DsMk
set_option linter.unusedVariables false

set_option maxHeartbeats 1000000 in
theorem Gc.numsE {W w : World} (h : Gc W w) (op : Int) (no : Option Addr) (nl nc : Nat) (ko : Option Addr) (kl kc : Nat) (nm : ByteArray) (h1 : op ≠ 1) (h2 : op ≠ 2) (h3 : op ≠ 3) (h4 : op ≠ 4) (h5 : op ≠ 5) (h6 : op ≠ 6) :
    Calls Tryd.prog 48 #[ndV op no nl nc ko kl kc nm] w fun e w' => e = .returned (.bool true) ∧ Gc W w' := by
  have HG := hide h
  have b1 : (op == 1) = false := by simpa using h1
  have b2 : (op == 2) = false := by simpa using h2
  have b3 : (op == 3) = false := by simpa using h3
  have b4 : (op == 4) = false := by simpa using h4
  have b5 : (op == 5) = false := by simpa using h5
  have b6 : (op == 6) = false := by simpa using h6
  clear h h1 h2 h3 h4 h5 h6
  unfold ndV
  go_enter Tryd.func48, Tryd.ntmps48
  go_wp2
  go_ret
  exact ⟨rfl, HG.out.alloc _⟩
/-- cal.numbersCanBe -/
theorem Gc.numbers {W w : World} (h : Gc W w) (op : Int) (ns : List Int) (no : Option Addr) (nc : Nat) (ko : Option Addr) (kl kc : Nat) (nm : ByteArray) (hr : RdI w (.slice no ns.length nc) ns) (hl : ns.length ≤ 1000000) (h2 : op = 4 ∨ op = 6 → ns.length = 2) :
    Calls Tryd.prog 48 #[ndV op no ns.length nc ko kl kc nm] w fun e w' => e = .returned (.bool (numsB op ns)) ∧ Gc W w' := by
  unfold numsB
  by_cases c1 : op = 1
  · subst c1; rw [if_pos rfl]; exact h.nums1 ns no nc ko kl kc nm hr hl
  rw [if_neg c1]
  by_cases c2 : op = 2
  · subst c2; rw [if_pos rfl]; exact h.nums2 ns no nc ko kl kc nm hr hl
  rw [if_neg c2]
  by_cases c3 : op = 3
  · subst c3; rw [if_pos (.inl rfl)]; exact h.nums3 ns no nc ko kl kc nm hr hl
  by_cases c5 : op = 5
  · subst c5; rw [if_pos (.inr rfl)]; exact h.nums5 ns no nc ko kl kc nm hr hl
  rw [if_neg (by omega)]
  by_cases c4 : op = 4
  · subst c4
    match ns, h2 (.inl rfl) with
    | [x0, x1], _ => rw [if_pos rfl]; exact h.nums4 x0 x1 no nc ko kl kc nm hr
  rw [if_neg c4]
  by_cases c6 : op = 6
  · subst c6
    match ns, h2 (.inr rfl) with
    | [x0, x1], _ => rw [if_pos rfl]; exact h.nums6 x0 x1 no nc ko kl kc nm hr
  rw [if_neg c6]
  exact h.numsE op no ns.length nc ko kl kc nm c1 c2 c3 c4 c5 c6

/-- how many numbers and kids a node has at least and at most, and whether it has a name -/
def shpN (op : Int) : Int × Int × Int × Int × Bool :=
  if op = 1 then (1, 1, 0, 0, false) else if op = 2 then (0, 64, 0, 0, false) else if op = 3 then (0, 64, 0, 0, false) else if op = 4 then (2, 2, 0, 0, false)
  else if op = 5 then (1, 1, 0, 0, true) else if op = 6 then (2, 2, 0, 0, false) else if op = 7 then (0, 0, 1, 8, false) else if op = 8 then (0, 0, 1, 8, false)
  else if op = 9 then (0, 0, 1, 1, false) else if op = 10 then (0, 0, 0, 0, true) else (0, 0, 0, 0, false)
def shapeB (op : Int) (nl kl : Nat) (nm : ByteArray) : Bool :=
  decide (1 ≤ op ∧ op ≤ 10) && (decide ((shpN op).1 ≤ (nl : Int)) && decide ((nl : Int) ≤ (shpN op).2.1) && decide ((shpN op).2.2.1 ≤ (kl : Int)) && decide ((kl : Int) ≤ (shpN op).2.2.2.1) && ((!nm.toList.isEmpty) == (shpN op).2.2.2.2))
theorem tabS_at {w : World} (h : TabS w) (op : Int) (h1 : 1 ≤ op) (h2 : op ≤ 10) : w.cell? ⟨1, op.toNat * 5, none⟩ = some (.int .i64 (shpN op).1) ∧ w.cell? ⟨1, op.toNat * 5 + 1, none⟩ = some (.int .i64 (shpN op).2.1) ∧ w.cell? ⟨1, op.toNat * 5 + 2, none⟩ = some (.int .i64 (shpN op).2.2.1) ∧
    w.cell? ⟨1, op.toNat * 5 + 3, none⟩ = some (.int .i64 (shpN op).2.2.2.1) ∧ w.cell? ⟨1, op.toNat * 5 + 4, none⟩ = some (.bool (shpN op).2.2.2.2) := by
  have hc : op = 1 ∨ op = 2 ∨ op = 3 ∨ op = 4 ∨ op = 5 ∨ op = 6 ∨ op = 7 ∨ op = 8 ∨ op = 9 ∨ op = 10 := by omega
  rcases hc with rfl | rfl | rfl | rfl | rfl | rfl | rfl | rfl | rfl | rfl
  · exact ⟨h 1 0 _ (by decide) rfl, h 1 1 _ (by decide) rfl, h 1 2 _ (by decide) rfl, h 1 3 _ (by decide) rfl, h 1 4 _ (by decide) rfl⟩
  · exact ⟨h 2 0 _ (by decide) rfl, h 2 1 _ (by decide) rfl, h 2 2 _ (by decide) rfl, h 2 3 _ (by decide) rfl, h 2 4 _ (by decide) rfl⟩
  · exact ⟨h 3 0 _ (by decide) rfl, h 3 1 _ (by decide) rfl, h 3 2 _ (by decide) rfl, h 3 3 _ (by decide) rfl, h 3 4 _ (by decide) rfl⟩
  · exact ⟨h 4 0 _ (by decide) rfl, h 4 1 _ (by decide) rfl, h 4 2 _ (by decide) rfl, h 4 3 _ (by decide) rfl, h 4 4 _ (by decide) rfl⟩
  · exact ⟨h 5 0 _ (by decide) rfl, h 5 1 _ (by decide) rfl, h 5 2 _ (by decide) rfl, h 5 3 _ (by decide) rfl, h 5 4 _ (by decide) rfl⟩
  · exact ⟨h 6 0 _ (by decide) rfl, h 6 1 _ (by decide) rfl, h 6 2 _ (by decide) rfl, h 6 3 _ (by decide) rfl, h 6 4 _ (by decide) rfl⟩
  · exact ⟨h 7 0 _ (by decide) rfl, h 7 1 _ (by decide) rfl, h 7 2 _ (by decide) rfl, h 7 3 _ (by decide) rfl, h 7 4 _ (by decide) rfl⟩
  · exact ⟨h 8 0 _ (by decide) rfl, h 8 1 _ (by decide) rfl, h 8 2 _ (by decide) rfl, h 8 3 _ (by decide) rfl, h 8 4 _ (by decide) rfl⟩
  · exact ⟨h 9 0 _ (by decide) rfl, h 9 1 _ (by decide) rfl, h 9 2 _ (by decide) rfl, h 9 3 _ (by decide) rfl, h 9 4 _ (by decide) rfl⟩
  · exact ⟨h 10 0 _ (by decide) rfl, h 10 1 _ (by decide) rfl, h 10 2 _ (by decide) rfl, h 10 3 _ (by decide) rfl, h 10 4 _ (by decide) rfl⟩

set_option maxHeartbeats 4000000 in
set_option maxRecDepth 20000 in
/-- cal.hasShape, of an operation that there is -/
theorem Gc.shape1 {W w : World} (h : Gc W w) (op : Int) (no : Option Addr) (nl nc : Nat) (ko : Option Addr) (kl kc : Nat) (nm : ByteArray) (h1 : 1 ≤ op) (h2 : op ≤ 10) (hnl : nl ≤ 9223372036854775807) (hkl : kl ≤ 9223372036854775807) (s0 s1 s2 s3 : Int) (s4 : Bool) (HS : Hid (shpN op = (s0, s1, s2, s3, s4))) (R : Bool) (HR : Hid (R = (decide (s0 ≤ (nl : Int)) && decide ((nl : Int) ≤ s1) && decide (s2 ≤ (kl : Int)) && decide ((kl : Int) ≤ s3) && ((!nm.toList.isEmpty) == s4)))) :
    Calls Tryd.prog 47 #[ndV op no nl nc ko kl kc nm] w fun e w' => e = .returned (.bool R) ∧ Gc W w' := by
  obtain ⟨t0, t1, t2, t3, t4⟩ := tabS_at (h.alloc (.cells #[.int .i64 op, .slice no nl nc, .slice ko kl kc, .string nm] 31)).shps op h1 h2
  rw [HS.out] at t0 t1 t2 t3 t4
  simp only at t0 t1 t2 t3 t4
  have HG := hide h
  clear h
  unfold ndV
  go_enter Tryd.func47, Tryd.ntmps47
  go_wp2
  go_quiet (fail)
  clear t0 t1 t2 t3 t4
  go_wp2
  all_goals
    go_ret
    refine ⟨ret_bool ?_, ((HG.out.alloc _).alloc _).drewN _⟩
    rw [HR.out]
    first | (simp [*]; done) | (simp [*]; intros; omega)

set_option maxHeartbeats 1000000 in
theorem Gc.shape0 {W w : World} (h : Gc W w) (op : Int) (no : Option Addr) (nl nc : Nat) (ko : Option Addr) (kl kc : Nat) (nm : ByteArray) (ho : op < 1 ∨ 10 < op) :
    Calls Tryd.prog 47 #[ndV op no nl nc ko kl kc nm] w fun e w' => e = .returned (.bool false) ∧ Gc W w' := by
  have HG := hide h
  clear h
  unfold ndV
  by_cases h1 : op < 1
  · go_enter Tryd.func47, Tryd.ntmps47
    go_wp2
    go_ret
    exact ⟨rfl, HG.out.alloc _⟩
  · have h2 : 10 < op := by omega
    clear ho
    go_enter Tryd.func47, Tryd.ntmps47
    go_wp2
    go_ret
    exact ⟨rfl, HG.out.alloc _⟩
/-- cal.hasShape -/
theorem Gc.shape {W w : World} (h : Gc W w) (op : Int) (no : Option Addr) (nl nc : Nat) (ko : Option Addr) (kl kc : Nat) (nm : ByteArray) (hnl : nl ≤ 9223372036854775807) (hkl : kl ≤ 9223372036854775807) :
    Calls Tryd.prog 47 #[ndV op no nl nc ko kl kc nm] w fun e w' => e = .returned (.bool (shapeB op nl kl nm)) ∧ Gc W w' := by
  unfold shapeB
  by_cases ho : 1 ≤ op ∧ op ≤ 10
  · rw [decide_eq_true ho, Bool.true_and]
    exact h.shape1 op no nl nc ko kl kc nm ho.1 ho.2 hnl hkl _ _ _ _ _ rfl _ rfl
  · rw [decide_eq_false ho, Bool.false_and]
    exact h.shape0 op no nl nc ko kl kc nm (by omega)
end Go.Proofs.YthbfjkdklnffjaaDoor
