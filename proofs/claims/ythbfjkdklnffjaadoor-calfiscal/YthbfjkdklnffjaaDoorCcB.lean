/- Package cal: each, between, fromEitherEnd, oneOf; numbersCanBe. -/
import Derived.Test.YthbfjkdklnffjaaDoorCcA
import Derived.Deep.RegionHeld3
namespace Go.Proofs.YthbfjkdklnffjaaDoor
open Go.ChangeShapes Go.WideShapes Go.ChangeAt Go.RowKit Go.DsMem Go.DsMk
set_option linter.unusedVariables false

theorem plain_addr {W : World} {a : Addr} {v : Value} (h : W.cell? a = some v) : a = ⟨a.block, a.off, none⟩ := by
  have : a.spot = none := by
    unfold World.cell? at h
    cases hs : a.spot with
    | none => rfl
    | some s => rw [hs] at h; revert h; cases W.heap[a.block]? with
      | none => simp
      | some o => cases o <;> simp
  cases a; simp_all
/-- a made function stands: a cell of its own -/
theorem Gc.between {W w : World} (h : Gc W w) (a b : Int) :
    Calls Tryd.prog 60 #[.int .i64 a, .int .i64 b] w fun e w' => ∃ p q : Nat, e = .returned (.func (.func 70) #[] #[.pointer (some ⟨p, 0, none⟩), .pointer (some ⟨q, 0, none⟩)]) ∧ (w'.cell? ⟨p, 0, none⟩ = some (.int .i64 a) ∧ w'.cell? ⟨q, 0, none⟩ = some (.int .i64 b)) ∧ Gc w w' := by
  have HG := hide h
  clear h
  go_enter Tryd.func60, Tryd.ntmps60
  go_wp2
  go_ret
  refine ⟨w.heap.size, w.heap.size + 1, rfl, ⟨?_, ?_⟩, (HG.out.here.alloc _).alloc _⟩
  · rw [cell_of (heap_keep (heap_alloc_new w _))]; rfl
  · have := heap_alloc_new (w.alloc (.cells #[.int .i64 a] 2)) (.cells #[.int .i64 b] 2)
    rw [show (w.alloc (.cells #[.int .i64 a] 2)).heap.size = w.heap.size + 1 by simp] at this
    rw [cell_of this]; rfl
theorem Gc.fromEnd {W w : World} (h : Gc W w) (a : Int) :
    Calls Tryd.prog 61 #[.int .i64 a] w fun e w' => ∃ p : Nat, e = .returned (.func (.func 71) #[] #[.pointer (some ⟨p, 0, none⟩)]) ∧ w'.cell? ⟨p, 0, none⟩ = some (.int .i64 a) ∧ Gc w w' := by
  have HG := hide h
  clear h
  go_enter Tryd.func61, Tryd.ntmps61
  go_wp2
  go_ret
  refine ⟨w.heap.size, rfl, ?_, HG.out.here.alloc _⟩
  rw [cell_of (heap_alloc_new w _)]; rfl
theorem Gc.oneOf {W w : World} (h : Gc W w) (ao : Option Addr) (n cap : Nat) :
    Calls Tryd.prog 63 #[.slice ao n cap] w fun e w' => ∃ p : Nat, e = .returned (.func (.func 72) #[] #[.pointer (some ⟨p, 0, none⟩)]) ∧ w'.cell? ⟨p, 0, none⟩ = some (.slice ao n cap) ∧ Gc w w' := by
  have HG := hide h
  clear h
  go_enter Tryd.func63, Tryd.ntmps63
  go_wp2
  go_ret
  refine ⟨w.heap.size, rfl, ?_, HG.out.here.alloc _⟩
  rw [cell_of (heap_alloc_new w _)]; rfl

set_option maxHeartbeats 2000000 in
/-- cal.each, of cal.between$1 and cal.fromEitherEnd$1 -/
theorem Gc.each_nth {W w : World} (h : Gc W w) (x0 x1 : Int) (sl : Value) (hr : RdI w sl [x0, x1]) (t : Nat) (p q r : Nat) (P0 P1 : Int → Bool)
    (ht0 : w.cell? ⟨t, 0, none⟩ = some (.func (.func 70) #[] #[.pointer (some ⟨p, 0, none⟩), .pointer (some ⟨q, 0, none⟩)])) (ht1 : w.cell? ⟨t, 1, none⟩ = some (.func (.func 71) #[] #[.pointer (some ⟨r, 0, none⟩)]))
    (HF0 : Hid (∀ k w', Gc w w' → Calls Tryd.prog 70 #[.int .i64 k, .pointer (some ⟨p, 0, none⟩), .pointer (some ⟨q, 0, none⟩)] w' fun e w'' => e = .returned (.bool (P0 k)) ∧ Gc w w''))
    (HF1 : Hid (∀ k w', Gc w w' → Calls Tryd.prog 71 #[.int .i64 k, .pointer (some ⟨r, 0, none⟩)] w' fun e w'' => e = .returned (.bool (P1 k)) ∧ Gc w w'')) :
    Calls Tryd.prog 62 #[sl, .slice (some ⟨t, 0, none⟩) 2 2] w fun e w' => e = .returned (.bool (P0 x0 && P1 x1)) ∧ Gc W w' := by
  have HG := hide h
  obtain ⟨ao, cap, rfl, hlc, hnil, hrd⟩ := hr
  obtain ⟨a, rfl⟩ : ∃ a, ao = some a := by
    cases ao with
    | none => have := (hnil rfl).1; simp at this
    | some a => exact ⟨a, rfl⟩
  have k0 := hrd a rfl 0 x0 rfl
  have k1 := hrd a rfl 1 x1 rfl
  have ad0 : a.add 0 = a := by cases a; simp [Addr.add]
  rw [ad0] at k0
  have hpl := plain_addr k0
  obtain ⟨ag, ao2, asp⟩ := a
  simp only [Addr.mk.injEq, true_and] at hpl
  subst hpl
  rw [add_mk] at k1
  have HT1 := hide ht1
  have HK1 := hide k1
  simp only [List.length_cons, List.length_nil] at *
  clear h hrd hnil ht1 k1 ad0
  obtain ⟨b0, hb0⟩ : ∃ b, P0 x0 = b := ⟨_, rfl⟩
  obtain ⟨b1, hb1⟩ : ∃ b, P1 x1 = b := ⟨_, rfl⟩
  have HB0 := hide hb0
  have HB1 := hide hb1
  clear hb0 hb1
  go_enter Tryd.func62, Tryd.ntmps62
  go_wp2
  refine wp_loop_rounds 3 ?_
  rw [rounds_succ]
  go_wp2_with fail
  refine (HF0.out x0 _ HG.out.here).mono ?_
  rw [HB0.out]
  rintro e w1 ⟨rfl, g1⟩
  have HG1 := hide g1
  have t1 := Below.keeps g1.below (Nat.le_refl _) HT1.out
  have k1 := Below.keeps g1.below (Nat.le_refl _) HK1.out
  clear g1 ht0 k0
  cases b0
  · go_wp2
    go_ret
    exact ⟨ret_bool (by rw [HB0.out]; rfl), HG.out.more HG1.out.below⟩
  · go_wp2
    rw [rounds_succ]
    go_wp2_with fail
    refine (HF1.out x1 _ HG1.out).mono ?_
    rw [HB1.out]
    rintro e w2 ⟨rfl, g2⟩
    have HG2 := hide g2
    clear g2
    cases b1
    · go_wp2
      go_ret
      exact ⟨ret_bool (by rw [HB0.out, HB1.out]; rfl), HG.out.more HG2.out.below⟩
    · go_wp2
      rw [rounds_succ]
      go_wp2
      go_ret
      exact ⟨ret_bool (by rw [HB0.out, HB1.out]; rfl), HG.out.more HG2.out.below⟩

set_option maxHeartbeats 2000000 in
/-- cal.each, of cal.oneOf$1 and cal.between$1 -/
theorem Gc.each_fis {W w : World} (h : Gc W w) (x0 x1 : Int) (sl : Value) (hr : RdI w sl [x0, x1]) (t : Nat) (p q r : Nat) (P0 P1 : Int → Bool)
    (ht0 : w.cell? ⟨t, 0, none⟩ = some (.func (.func 72) #[] #[.pointer (some ⟨p, 0, none⟩)])) (ht1 : w.cell? ⟨t, 1, none⟩ = some (.func (.func 70) #[] #[.pointer (some ⟨q, 0, none⟩), .pointer (some ⟨r, 0, none⟩)]))
    (HF0 : Hid (∀ k w', Gc w w' → Calls Tryd.prog 72 #[.int .i64 k, .pointer (some ⟨p, 0, none⟩)] w' fun e w'' => e = .returned (.bool (P0 k)) ∧ Gc w w''))
    (HF1 : Hid (∀ k w', Gc w w' → Calls Tryd.prog 70 #[.int .i64 k, .pointer (some ⟨q, 0, none⟩), .pointer (some ⟨r, 0, none⟩)] w' fun e w'' => e = .returned (.bool (P1 k)) ∧ Gc w w'')) :
    Calls Tryd.prog 62 #[sl, .slice (some ⟨t, 0, none⟩) 2 2] w fun e w' => e = .returned (.bool (P0 x0 && P1 x1)) ∧ Gc W w' := by
  have HG := hide h
  obtain ⟨ao, cap, rfl, hlc, hnil, hrd⟩ := hr
  obtain ⟨a, rfl⟩ : ∃ a, ao = some a := by
    cases ao with
    | none => have := (hnil rfl).1; simp at this
    | some a => exact ⟨a, rfl⟩
  have k0 := hrd a rfl 0 x0 rfl
  have k1 := hrd a rfl 1 x1 rfl
  have ad0 : a.add 0 = a := by cases a; simp [Addr.add]
  rw [ad0] at k0
  have hpl := plain_addr k0
  obtain ⟨ag, ao2, asp⟩ := a
  simp only [Addr.mk.injEq, true_and] at hpl
  subst hpl
  rw [add_mk] at k1
  have HT1 := hide ht1
  have HK1 := hide k1
  simp only [List.length_cons, List.length_nil] at *
  clear h hrd hnil ht1 k1 ad0
  obtain ⟨b0, hb0⟩ : ∃ b, P0 x0 = b := ⟨_, rfl⟩
  obtain ⟨b1, hb1⟩ : ∃ b, P1 x1 = b := ⟨_, rfl⟩
  have HB0 := hide hb0
  have HB1 := hide hb1
  clear hb0 hb1
  go_enter Tryd.func62, Tryd.ntmps62
  go_wp2
  refine wp_loop_rounds 3 ?_
  rw [rounds_succ]
  go_wp2_with fail
  refine (HF0.out x0 _ HG.out.here).mono ?_
  rw [HB0.out]
  rintro e w1 ⟨rfl, g1⟩
  have HG1 := hide g1
  have t1 := Below.keeps g1.below (Nat.le_refl _) HT1.out
  have k1 := Below.keeps g1.below (Nat.le_refl _) HK1.out
  clear g1 ht0 k0
  cases b0
  · go_wp2
    go_ret
    exact ⟨ret_bool (by rw [HB0.out]; rfl), HG.out.more HG1.out.below⟩
  · go_wp2
    rw [rounds_succ]
    go_wp2_with fail
    refine (HF1.out x1 _ HG1.out).mono ?_
    rw [HB1.out]
    rintro e w2 ⟨rfl, g2⟩
    have HG2 := hide g2
    clear g2
    cases b1
    · go_wp2
      go_ret
      exact ⟨ret_bool (by rw [HB0.out, HB1.out]; rfl), HG.out.more HG2.out.below⟩
    · go_wp2
      rw [rounds_succ]
      go_wp2
      go_ret
      exact ⟨ret_bool (by rw [HB0.out, HB1.out]; rfl), HG.out.more HG2.out.below⟩
end Go.Proofs.YthbfjkdklnffjaaDoor
