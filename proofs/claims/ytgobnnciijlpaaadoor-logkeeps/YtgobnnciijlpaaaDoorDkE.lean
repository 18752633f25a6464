/- The walks of Read, Safe, Dead, Fail, New of package disk. -/
import Derived.Test.YtgobnnciijlpaaaDoorDkD
namespace Go.Proofs.YtgobnnciijlpaaaDoor
open Go.ChangeShapes Go.WideShapes Go.ChangeAt Go.RowKit Go.DsMem Go.DsDk
set_option linter.unusedVariables false

set_option maxHeartbeats 1000000 in
/-- (*Disk).Read -/
theorem read_any (p : Nat) (v : Nat → Value) (D : Dk) (f : Int) (w : World) (hAt : DiskAt w p v D) :
    Calls Tryd.prog 59 #[.pointer (some ⟨p, 0, none⟩), .int .i64 f] w fun e w' => ∃ x, e = .returned (.tuple #[x, .int .i64 (D.read f).2]) ∧
      w'.ownsRow w.heap.size 5 1 x (D.read f).1.length (bvs (D.read f).1) ∧ Below w.heap.size w w' := by
  have hA := hAt.stays (Only.alloc (fun _ => False) w (.cells #[.int .i64 f] 3)) (fun _ _ h => h)
  have har := areFiles_any [f] _ _ (RdI.new1 w f 3) (by simp)
  simp only [List.all_cons, List.all_nil, Bool.and_true] at har
  have HR := hide har
  clear har
  cases hok : okf f
  · have HE : Hid (D.read f = ([], 1)) := by show _ = _; simp [Dk.read, hok]
    have HO := hide hok
    clear hok
    go_enter Tryd.func59, Tryd.ntmps59
    go_wp2_with (go_at_call 71; refine HR.out.mono ?_; rintro e w' ⟨rfl, rfl⟩; rw [HO.out])
    go_ret2
    rw [HE.out]
    exact ⟨_, rfl, nil_own _ _, (Below.refl _ _).alloc (Nat.le_refl _) _⟩
  · obtain ⟨hf0, hf8⟩ := okf_bd hok
    obtain ⟨k, rfl⟩ := Int.eq_ofNat_of_zero_le hf0
    have hk : k < 8 := by omega
    have HE : Hid (D.read (k : Int) = (D.b k, 0)) := by show _ = _; simp [Dk.read, hok]
    have hlen := (hAt.ok k hk).2
    obtain ⟨ao2, cap2, hv, hcap⟩ := own_shape (hAt.own k hk)
    have HV := hide hv
    clear hv
    have hcb := hA.blk.bytes hk
    rw [HV.out] at hcb
    have hrd := Rd.own (hA.own k hk)
    rw [HV.out] at hrd
    have HRD := hide hrd
    have HO := hide hok
    clear hok hrd hA
    go_enter Tryd.func59, Tryd.ntmps59
    go_wp2_with (first
      | (go_at_call 71; refine HR.out.mono ?_; rintro e w' ⟨rfl, rfl⟩; rw [HO.out])
      | (go_at_call 72; refine (copied_any (D.b k) _ _ HRD.out (by omega)).mono ?_; rintro e w2 ⟨x, rfl, hx, hb2⟩))
    go_ret2
    rw [HE.out]
    exact ⟨x, rfl, own_base hx (by simp), ((Below.refl _ _).alloc (Nat.le_refl _) _).trans (hb2.mono (by simp))⟩

/-- (*Disk).Safe -/
theorem safe_any (p : Nat) (v : Nat → Value) (D : Dk) (f : Int) (w : World) (hAt : DiskAt w p v D) :
    Calls Tryd.prog 60 #[.pointer (some ⟨p, 0, none⟩), .int .i64 f] w fun e w' => e = .returned (.int .i64 (D.safe f)) ∧ Below w.heap.size w w' := by
  have hA := hAt.stays (Only.alloc (fun _ => False) w (.cells #[.int .i64 f] 3)) (fun _ _ h => h)
  have har := areFiles_any [f] _ _ (RdI.new1 w f 3) (by simp)
  simp only [List.all_cons, List.all_nil, Bool.and_true] at har
  have HR := hide har
  clear har
  cases hok : okf f
  · have HE : Hid (D.safe f = 0) := by show _ = _; simp [Dk.safe, hok]
    have HO := hide hok
    clear hok
    go_enter Tryd.func60, Tryd.ntmps60
    go_wp2_with (go_at_call 71; refine HR.out.mono ?_; rintro e w' ⟨rfl, rfl⟩; rw [HO.out])
    go_ret
    rw [HE.out]
    exact ⟨rfl, (Below.refl _ _).alloc (Nat.le_refl _) _⟩
  · obtain ⟨hf0, hf8⟩ := okf_bd hok
    obtain ⟨k, rfl⟩ := Int.eq_ofNat_of_zero_le hf0
    have hk : k < 8 := by omega
    have HE : Hid (D.safe (k : Int) = D.s k) := by show _ = _; simp [Dk.safe, hok]
    have hcb := hA.blk.safe hk
    have HO := hide hok
    clear hok hA
    go_enter Tryd.func60, Tryd.ntmps60
    go_wp2_with (go_at_call 71; refine HR.out.mono ?_; rintro e w' ⟨rfl, rfl⟩; rw [HO.out])
    go_ret
    rw [HE.out]
    exact ⟨rfl, (Below.refl _ _).alloc (Nat.le_refl _) _⟩

/-- (*Disk).Dead -/
theorem dead_any (p : Nat) (v : Nat → Value) (D : Dk) (w : World) (hAt : DiskAt w p v D) :
    Calls Tryd.prog 62 #[.pointer (some ⟨p, 0, none⟩)] w fun e w' => e = .returned (.bool D.dead) ∧ w' = w := by
  have hd := hAt.blk.deadC
  clear hAt
  go_enter Tryd.func62, Tryd.ntmps62
  go_wp2
  go_ret
  exact ⟨rfl, rfl⟩

/-- (*Disk).Fail -/
theorem fail_any (p : Nat) (v : Nat → Value) (D : Dk) (n : Int) (w : World) (hAt : DiskAt w p v D) (hn : n ≤ 9223372036854775807) :
    Calls Tryd.prog 21 #[.pointer (some ⟨p, 0, none⟩), .int .i64 n] w fun e w' => e = .returned (.tuple #[]) ∧ Moved w p v w' v (D.fail n) := by
  have hl := hAt.blk.leftC
  have hf := hAt.blk.free 16
  rcases (show n < 0 ∨ 0 ≤ n by omega) with h | h
  all_goals
    go_enter Tryd.func21, Tryd.ntmps21
    go_wp2
    go_end0
    refine ⟨rfl, Moved.same hAt (Only.set _ _ _ _) rfl ?_ (hAt.ok.fail n) (Dk.Few.fail D n hn)⟩
    have hz := hAt.blk.setLeft n.toNat
    first
      | (rw [show ((n.toNat : Nat) : Int) = n by omega] at hz; exact hz)
      | (rw [show ((n.toNat : Nat) : Int) = 0 by omega] at hz; exact hz)

/-- disk.New -/
theorem new_any (w : World) :
    Calls Tryd.prog 10 #[] w fun e w' => e = .returned (.pointer (some ⟨w.heap.size, 0, none⟩)) ∧ DiskAt w' w.heap.size (fun _ => .slice none 0 0) Dk.new ∧ Below w.heap.size w w' := by
  go_enter Tryd.func10, Tryd.ntmps10
  go_wp2
  go_ret
  refine ⟨rfl, ⟨?_, fun f _ => nil_own _ _, fun f g _ _ _ k hk => by simp [Value.ownBlock] at hk, Dk.Ok.new, Dk.Few.new⟩, (Below.refl _ _).alloc (Nat.le_refl _) _⟩
  exact heap_alloc_new w _
end Go.Proofs.YtgobnnciijlpaaaDoor
