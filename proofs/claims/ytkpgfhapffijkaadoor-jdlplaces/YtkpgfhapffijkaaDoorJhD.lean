/- What known of layer 8 answers; law JdlPlaces whole. -/
import Derived.Test.YtkpgfhapffijkaaDoorJ27
import Derived.Deep.MidRow
namespace Go.Proofs.YtkpgfhapffijkaaDoor
open Go.ChangeShapes Go.WideShapes Go.ChangeAt Go.RowKit Go.DsMem Go.DsLx Go.DsJd Go.DsMk
set_option linter.unusedVariables false
set_option linter.unusedSimpArgs false
set_option maxHeartbeats 8000000 in
set_option maxRecDepth 20000 in
theorem known8 (w : World) (ht : Dt.Tab w) (htl : 1 < w.heap.size) :
    Calls Tryd.prog 5 #[] w fun e w' => e = .returned (.bool true) ∧ Below w.heap.size w w' := by
  obtain ⟨x1, hp1, hk1⟩ := known81
  have HP1 := hide (parse_any src81 w (by decide +kernel) ht htl)
  rw [hp1] at HP1
  have HP2 := hide (fun w' (hb : Below w.heap.size w w') => parse_any src82 w' (by decide +kernel) ⟨Nat.lt_of_lt_of_le ht.1 hb.size, fun m m1 m2 => by rw [hb.cell htl]; exact ht.2 m m1 m2⟩ (Nat.lt_of_lt_of_le htl hb.size))
  simp only [known82] at HP2
  unfold src81 at HP1
  unfold src82 at HP2
  have HKN := hide (fun w' v (h : VSrc w x1 v w') => kn8_of h hk1)
  clear ht htl hp1 hk1
  go_enter Tryd.func5, Tryd.ntmps5
  go_wp2_with fail
  refine HP1.out.mono ?_
  intro e w1 h
  obtain ⟨v, rfl, hv, hb1⟩ : ∃ v, _ ∧ _ ∧ _ := h
  obtain ⟨g, jc, g1, ga, oa, g2, g3, cs, KN⟩ := HKN.out _ _ hv
  have HN := hide KN
  obtain ⟨a0, o1, l1, k1, o2, l2, k2, rfl⟩ := KN.val
  obtain ⟨kc, kkids⟩ := KN.kids
  obtain ⟨oc, kouts⟩ := KN.outs
  obtain ⟨nc, kn0⟩ := KN.n0
  obtain ⟨kc2, kk1⟩ := KN.k1
  have HB1 := hide hb1
  have HKI := hide kkids
  have HKO := hide kouts
  have HN0 := hide kn0
  have HK1 := hide kk1
  clear KN hv hb1 HP1 HKN kkids kouts kn0 kk1
  obtain ⟨w2, hw2⟩ : ∃ w2, w1.alloc (.cells #[.int .i64 a0, .int .i64 7, .slice o1 l1 k1, .slice o2 l2 k2, .slice (some ⟨g, 0, none⟩) 1 jc] 26) = w2 := ⟨_, rfl⟩
  have hb2 : Below w1.heap.size w1 w2 := by rw [← hw2]; exact (Below.refl _ _).alloc (Nat.le_refl _) _
  have hblk : w2.heap[w1.heap.size]? = some (.cells #[.int .i64 a0, .int .i64 7, .slice o1 l1 k1, .slice o2 l2 k2, .slice (some ⟨g, 0, none⟩) 1 jc] 26 (0, 0)) := by rw [← hw2]; exact heap_alloc_new w1 _
  have x1 := cell_of (k := 1) hblk
  have x4 := cell_of (k := 4) hblk
  simp at x1 x4
  have HRG : Hid (w2.rangeAt g 0 cs.toList) := hide (fun j v h => by
    rw [Nat.zero_add]
    exact Below.keeps hb2 (Nat.le_refl _) (HN.out.row j v (by simpa using h)))
  have q3 := Below.keeps hb2 (Nat.le_refl _) (HN.out.row 3 _ HKI.out)
  have q17 := Below.keeps hb2 (Nat.le_refl _) (HN.out.row 17 _ HKO.out)
  have HB2 := hide (HB1.out.trans (hb2.mono HB1.out.size))
  have HBX := hide hb2
  clear hb2
  go_upto_region 2 with fail
  try rw [hw2]
  clear hw2
  obtain ⟨w3, hw3⟩ : ∃ w3, w2.alloc (.cells cs 48 (0, 0)) = w3 := ⟨_, rfl⟩
  have hb3 : Below w2.heap.size w2 w3 := by rw [← hw3]; exact (Below.refl _ _).alloc (Nat.le_refl _) _
  have hblk3 : w3.heap[w2.heap.size]? = some (.cells cs 48 (0, 0)) := by rw [← hw3]; exact heap_alloc_new w2 _
  have HB3 := hide (HB2.out.trans (hb3.mono HB2.out.size))
  have HZ1 := hide (Below.keeps hb3 (Nat.le_refl _) x1)
  have HY : Hid (∀ k u, cs[k]? = some u → w3.cell? ⟨w2.heap.size, k, none⟩ = some u) := hide (fun k u h => (cell_of (k := k) hblk3).trans h)
  have HK3 : Hid (∀ a u, w1.cell? a = some u → w3.cell? a = some u) := hide (fun a u h => Below.keeps (HBX.out.trans (hb3.mono HBX.out.size)) (Nat.le_refl _) h)
  clear hb3 hblk3 hblk
  go_upto_region 4 with fail
  refine wp_region_list ?_
  refine wpList_plain rfl (fun K hK => ?_)
  go_simp
  refine hK _ _ ?_
  clear hK K
  refine wpList_plain rfl (fun K hK => ?_)
  go_simp
  refine hK _ _ ?_
  clear hK K
  refine wpList_plain rfl (fun K hK => ?_)
  go_simp
  refine hK _ _ ?_
  clear hK K
  refine wpList_load_mid rfl 48 (.tmp 42) rfl g 0 rfl cs.toList _ HRG.out Tryd.underlying48 rfl (by rw [show cs.toList.length = 24 from HN.out.size]; kernel_rfl) ?_
  simp only [Array.toArray_toList]
  refine wpList_plain rfl (fun K hK => ?_)
  go_simp
  refine hK _ _ ?_
  clear hK K
  refine wpList_store_row rfl 48 _ _ rfl w2.heap.size cs rfl rfl 48 _ (heap_alloc_new w2 _) (by rw [HN.out.size]; kernel_rfl) (by rw [HN.out.size]; rfl) HN.out.one ?_
  rw [setRow_alloc, hw3]
  clear hw3 x1 x4 q3 q17 HRG
  go_wp2_with fail
  refine (HP2.out _ HB3.out).mono ?_
  intro e w4 h
  obtain ⟨he, hb4⟩ : _ ∧ _ := h
  obtain ⟨z3, hz3⟩ : ∃ z : Int, z = 0 := ⟨0, rfl⟩
  obtain ⟨z4, hz4⟩ : ∃ z : Int, z = 0 := ⟨0, rfl⟩
  have he' : e = .returned (.tuple #[.agg #[.int .i64 z3, .int .i64 z4, .slice none 0 0, .slice none 0 0, .slice none 0 0], .int .i64 16, .int .i64 22]) := by rw [hz3, hz4]; exact he
  clear he hz3 hz4
  subst he'
  have HB4 := hide (HB3.out.trans (hb4.mono HB3.out.size))
  have k4 : ∀ a u, w3.cell? a = some u → w4.cell? a = some u := fun a u h => Below.keeps hb4 (Nat.le_refl _) h
  have z1 := k4 _ _ HZ1.out
  have y0 := k4 _ _ (HY.out 0 _ HN.out.nm)
  have y1 := k4 _ _ (HY.out 1 _ HN.out.op)
  have y3 := k4 _ _ (HY.out 3 _ HKI.out)
  have y12 := k4 _ _ (HY.out 12 _ HN.out.till)
  have y17 := k4 _ _ (HY.out 17 _ HKO.out)
  have y22 := k4 _ _ (HY.out 22 _ HN.out.runs)
  have n0 := k4 _ _ (HK3.out _ _ HN0.out)
  have n17 := k4 _ _ (HK3.out _ _ HN.out.n17)
  have m1 := k4 _ _ (HK3.out _ _ HK1.out)
  have hol := k4 _ _ (HK3.out _ _ HN.out.hol)
  have add := k4 _ _ (HK3.out _ _ HN.out.add)
  have prev := k4 _ _ (HK3.out _ _ HN.out.prev)
  have b1 : w1.heap.size < w4.heap.size := World.block_lt_of_cell? w4 _ z1
  have b2 : w2.heap.size < w4.heap.size := World.block_lt_of_cell? w4 _ y0
  have b3 : g1 < w4.heap.size := World.block_lt_of_cell? w4 _ n0
  have b4 : ga < w4.heap.size := World.block_lt_of_cell? w4 _ n17
  have b5 : g2 < w4.heap.size := World.block_lt_of_cell? w4 _ hol
  have b6 : g3 < w4.heap.size := World.block_lt_of_cell? w4 _ add
  clear hb4 k4 HP2 HN HKI HKO HN0 HK1 HZ1 HY HK3
  go_wp2
  go_ret
  exact ⟨rfl, HB4.out.alloc HB4.out.size _⟩
theorem places8_all (s : ByteArray) (w : World) (hs : s.size ≤ 140737488355000) (ht : Dt.Tab w) (htl : 1 < w.heap.size) :
    Calls Tryd.prog 3 #[.string s] w fun e w' => e = .returned (.bool true) ∧ Below w.heap.size w w' :=
  places8 s w hs ht htl (fun w' hb => known8 w' ⟨Nat.lt_of_lt_of_le ht.1 hb.size, fun m m1 m2 => by rw [hb.cell htl]; exact ht.2 m m1 m2⟩ (Nat.lt_of_lt_of_le htl hb.size))
end Go.Proofs.YtkpgfhapffijkaaDoor
