/- A log of package log in memory; the walk of Open. -/
import Derived.Test.YtgobnnciijlpaaaDoorLgF
namespace Go.Proofs.YtgobnnciijlpaaaDoor
open Go.ChangeShapes Go.WideShapes Go.ChangeAt Go.RowKit Go.DsMem Go.DsDk Go.DsLg
set_option linter.unusedVariables false

/-- at block l lies a log on the disk at block p -/
def LogAt (w : World) (l p next size : Nat) (broken : Bool) : Prop :=
  w.heap[l]? = some (.cells #[.pointer (some ⟨p, 0, none⟩), .int .u64 next, .int .i64 size, .bool broken] 84 (0, 0))
/-- no block of the slice is one of the disk's -/
def Off (p : Nat) (v : Nat → Value) (y : Value) : Prop := ∀ k, y.ownBlock = some k → ¬ foot p v k

/-- what Open leaves: a log, a snapshot, records, none of them in the disk's blocks: snapshot and records lie in the blocks from W's size up to E -/
structure IsOpen (W : World) (E : Nat) (w : World) (p : Nat) (v : Nat → Value) (O : Opened) (l : Nat) (x rs : Value) : Prop where
  log : LogAt w l p O.next O.recs.length false
  new : W.heap.size ≤ E
  le : E ≤ l
  lof : ¬ foot p v l
  fof : ∀ k, foot p v k → k < W.heap.size ∨ E ≤ k
  snap : w.ownsRow W.heap.size 5 1 x O.snap.length (bvs O.snap)
  sin : ∀ k, x.ownBlock = some k → k < E
  recs : RdL W.heap.size E w rs O.recs

theorem RdL.base {B B' E : Nat} {w : World} {v : Value} {recs : List (List UInt8)} (h : RdL B E w v recs) (hB : B' ≤ B) : RdL B' E w v recs := by
  obtain ⟨ao, cap, hv, he⟩ := h
  refine ⟨ao, cap, hv, fun i r hr => ?_⟩
  obtain ⟨a, xo, xc, h1, hb1, hbe, ht, h2, h3, h4⟩ := he i r hr
  exact ⟨a, xo, xc, h1, by omega, hbe, ht, h2, own_base h3 hB, h4⟩
theorem own_off {B : Nat} {w : World} {p : Nat} {v : Nat → Value} {x : Value} {n : Nat} {xs : List Value} (h : w.ownsRow B 5 1 x n xs) (hf : ∀ k, foot p v k → k < B ∨ w.heap.size ≤ k) : Off p v x := fun k hk hfk => by
  have := h.lt k hk
  rcases hf k hfk with h | h <;> omega

theorem opens_a {D : Dk} (h : (snapB (D.b 1)).2.2 ≠ 0) : openB D = (D, ⟨(snapB (D.b 1)).2.2, 0, [], []⟩) := by unfold openB; rw [if_neg h]
theorem opens_b {D : Dk} (h : (snapB (D.b 1)).2.2 = 0) (h2 : (behB (snapB (D.b 1)).1 (scanB (D.b 0)).1 (scanB (D.b 0)).2.1).2 ≠ 0) :
    openB D = (D, ⟨(behB (snapB (D.b 1)).1 (scanB (D.b 0)).1 (scanB (D.b 0)).2.1).2, 0, [], []⟩) := by unfold openB; rw [if_pos h, if_neg h2]

set_option maxHeartbeats 4000000 in
theorem open_a (p : Nat) (v : Nat → Value) (D : Dk) (w : World) (hAt : DiskAt w p v D) (ht : Tab w) (h1 : (snapB (D.b 1)).2.2 ≠ 0) :
    Calls Tryd.prog 12 #[.pointer (some ⟨p, 0, none⟩)] w fun e w' => e = .returned (.tuple #[.pointer none, .slice none 0 0, .slice none 0 0, .int .i64 (snapB (D.b 1)).2.2]) ∧ Below w.heap.size w w' := by
  have hne : ((snapB (D.b 1)).2.2 != 0) = true := by simp [h1]
  clear h1
  have HT := hide ht
  have HAt := hide hAt
  have hl0 := (hAt.ok 0 (by omega)).2
  have hl1 := (hAt.ok 1 (by omega)).2
  clear ht hAt
  go_enter Tryd.func12, Tryd.ntmps12
  go_wp2_with fail
  refine (lread_any p v D w HAt.out).mono ?_
  rintro e w1 ⟨x0, x1, rfl, hx0, hx1, B1⟩
  obtain ⟨o0, c0, rfl, hc0⟩ := own_shape hx0
  obtain ⟨o1, c1, rfl, _⟩ := own_shape hx1
  have HT1 : Hid (Tab (w1.alloc (.cells #[.slice o0 (D.b 0).length c0, .slice o1 (D.b 1).length c1] 75))) := fun i h16 => Below.keeps ((B1.alloc B1.size _)) (Nat.le_refl _) (HT.out i h16)
  have HR1 := hide ((Rd.own hx1).below ((Below.refl _ _).alloc (Nat.le_refl _) (.cells #[.slice o0 (D.b 0).length c0, .slice o1 (D.b 1).length c1] 75)))
  have HX0 := hide (hx0.alloc (.cells #[.slice o0 (D.b 0).length c0, .slice o1 (D.b 1).length c1] 75))
  have HBK := hide (heap_alloc_new w1 (.cells #[.slice o0 (D.b 0).length c0, .slice o1 (D.b 1).length c1] 75))
  have HB1 := hide (B1.alloc B1.size (.cells #[.slice o0 (D.b 0).length c0, .slice o1 (D.b 1).length c1] 75))
  have hz1 := B1.size
  clear hx0 hx1 B1
  go_wp2_with fail
  refine (snapshot_any (D.b 1) _ _ HT1.out HR1.out (by omega)).mono ?_
  rintro e w2 ⟨x, rfl, hx, B2⟩
  obtain ⟨xo, xc, rfl, _⟩ := own_shape hx
  have hz2 : w1.heap.size + 1 ≤ w2.heap.size := by have := B2.size; simp at this; omega
  have HX := hide (own_base hx (B' := w.heap.size) (by simp; omega))
  have HXN := hide hx
  have HX02 := hide (own_below HX0.out B2)
  have hq2 : w2.heap[w1.heap.size]? = some (.cells #[.slice o0 (D.b 0).length c0, .slice o1 (D.b 1).length c1] 75 (0, 0)) := by rw [B2.block _ (by simp)]; exact HBK.out
  have hcf := cell_of (k := 0) hq2
  simp only [List.getElem?_toArray, List.getElem?_cons_zero] at hcf
  have HQ2 := hide hq2
  have HB2 := hide (HB1.out.trans (B2.mono HB1.out.size))
  have HT2 : Hid (Tab w2) := fun i h16 => Below.keeps HB2.out (Nat.le_refl _) (HT.out i h16)
  clear hx B2 hq2
  go_wp2
  refine bodyPost_ret (v := .tuple #[.pointer none, .slice none 0 0, .slice none 0 0, .int .i64 (snapB (D.b 1)).2.2]) (by simp [results, Tryd.results12, go_sem]) rfl ⟨rfl, HB2.out⟩

set_option maxHeartbeats 4000000 in
theorem open_b (p : Nat) (v : Nat → Value) (D : Dk) (w : World) (hAt : DiskAt w p v D) (ht : Tab w) (h1 : (snapB (D.b 1)).2.2 = 0) (h2 : (behB (snapB (D.b 1)).1 (scanB (D.b 0)).1 (scanB (D.b 0)).2.1).2 ≠ 0) :
    Calls Tryd.prog 12 #[.pointer (some ⟨p, 0, none⟩)] w fun e w' => e = .returned (.tuple #[.pointer none, .slice none 0 0, .slice none 0 0, .int .i64 (behB (snapB (D.b 1)).1 (scanB (D.b 0)).1 (scanB (D.b 0)).2.1).2]) ∧ Below w.heap.size w w' := by
  have hne2 : ((behB (snapB (D.b 1)).1 (scanB (D.b 0)).1 (scanB (D.b 0)).2.1).2 != 0) = true := by simp [h2]
  clear h2
  have HT := hide ht
  have HAt := hide hAt
  have hl0 := (hAt.ok 0 (by omega)).2
  have hl1 := (hAt.ok 1 (by omega)).2
  clear ht hAt
  go_enter Tryd.func12, Tryd.ntmps12
  go_wp2_with fail
  refine (lread_any p v D w HAt.out).mono ?_
  rintro e w1 ⟨x0, x1, rfl, hx0, hx1, B1⟩
  obtain ⟨o0, c0, rfl, hc0⟩ := own_shape hx0
  obtain ⟨o1, c1, rfl, _⟩ := own_shape hx1
  have HT1 : Hid (Tab (w1.alloc (.cells #[.slice o0 (D.b 0).length c0, .slice o1 (D.b 1).length c1] 75))) := fun i h16 => Below.keeps ((B1.alloc B1.size _)) (Nat.le_refl _) (HT.out i h16)
  have HR1 := hide ((Rd.own hx1).below ((Below.refl _ _).alloc (Nat.le_refl _) (.cells #[.slice o0 (D.b 0).length c0, .slice o1 (D.b 1).length c1] 75)))
  have HX0 := hide (hx0.alloc (.cells #[.slice o0 (D.b 0).length c0, .slice o1 (D.b 1).length c1] 75))
  have HBK := hide (heap_alloc_new w1 (.cells #[.slice o0 (D.b 0).length c0, .slice o1 (D.b 1).length c1] 75))
  have HB1 := hide (B1.alloc B1.size (.cells #[.slice o0 (D.b 0).length c0, .slice o1 (D.b 1).length c1] 75))
  have hz1 := B1.size
  clear hx0 hx1 B1
  go_wp2_with fail
  refine (snapshot_any (D.b 1) _ _ HT1.out HR1.out (by omega)).mono ?_
  rintro e w2 ⟨x, rfl, hx, B2⟩
  obtain ⟨xo, xc, rfl, _⟩ := own_shape hx
  have hz2 : w1.heap.size + 1 ≤ w2.heap.size := by have := B2.size; simp at this; omega
  have HX := hide (own_base hx (B' := w.heap.size) (by simp; omega))
  have HXN := hide hx
  have HX02 := hide (own_below HX0.out B2)
  have hq2 : w2.heap[w1.heap.size]? = some (.cells #[.slice o0 (D.b 0).length c0, .slice o1 (D.b 1).length c1] 75 (0, 0)) := by rw [B2.block _ (by simp)]; exact HBK.out
  have hcf := cell_of (k := 0) hq2
  simp only [List.getElem?_toArray, List.getElem?_cons_zero] at hcf
  have HQ2 := hide hq2
  have HB2 := hide (HB1.out.trans (B2.mono HB1.out.size))
  have HT2 : Hid (Tab w2) := fun i h16 => Below.keeps HB2.out (Nat.le_refl _) (HT.out i h16)
  clear hx B2 hq2
  go_wp2_with fail
  refine (scan_any (D.b 0) _ w2 HT2.out (Rd.own HX02.out) (by omega)).mono ?_
  rintro e w3 ⟨rv, vals, rfl, hrv, B3⟩
  obtain ⟨ro, rc, rfl, _⟩ := own_shape hrv.row
  have HRV := hide hrv
  have HX3 := hide (own_below HX.out B3)
  have HX03 := hide (own_below HX02.out B3)
  have hq3 : w3.heap[w1.heap.size]? = some (.cells #[.slice o0 (D.b 0).length c0, .slice o1 (D.b 1).length c1] 75 (0, 0)) := by rw [B3.block _ (by omega)]; exact HQ2.out
  have hcf3 := cell_of (k := 0) hq3
  simp only [List.getElem?_toArray, List.getElem?_cons_zero] at hcf3
  have HB3 := hide (HB2.out.trans (B3.mono HB2.out.size))
  have hz3 := B3.size
  obtain ⟨k1, k2, k3, k4, k5⟩ := scanB_ok (D.b 0)
  have ks := (snapB_lt (D.b 1)).1
  clear hrv B3 hq3 hcf
  go_wp2_with fail
  refine (behind_any w2.heap.size _ _ _ vals _ w3 HRV.out ks k1 k2 (by omega)).mono ?_
  rintro e w4 ⟨rs, rfl, hrs, rfl⟩
  clear hrs
  go_wp2
  refine bodyPost_ret (v := .tuple #[.pointer none, .slice none 0 0, .slice none 0 0, .int .i64 (behB (snapB (D.b 1)).1 (scanB (D.b 0)).1 (scanB (D.b 0)).2.1).2]) (by simp [results, Tryd.results12, go_sem]) rfl ⟨rfl, HB3.out⟩


set_option maxHeartbeats 4000000 in
theorem open_e (p : Nat) (v : Nat → Value) (D : Dk) (w : World) (hAt : DiskAt w p v D) (ht : Tab w) (h1 : (snapB (D.b 1)).2.2 = 0) (h2 : (behB (snapB (D.b 1)).1 (scanB (D.b 0)).1 (scanB (D.b 0)).2.1).2 = 0) (h3 : ¬ (scanB (D.b 0)).2.2 < (D.b 0).length) :
    Calls Tryd.prog 12 #[.pointer (some ⟨p, 0, none⟩)] w fun e w' => ∃ l x rs, e = .returned (.tuple #[.pointer (some ⟨l, 0, none⟩), x, rs, .int .i64 0]) ∧ Below w.heap.size w w' ∧
      ∃ E, IsOpen w E w' p v ⟨0, ((snapB (D.b 1)).1 + (behB (snapB (D.b 1)).1 (scanB (D.b 0)).1 (scanB (D.b 0)).2.1).1.length + 1) % 18446744073709551616, (snapB (D.b 1)).2.1, (behB (snapB (D.b 1)).1 (scanB (D.b 0)).1 (scanB (D.b 0)).2.1).1⟩ l x rs := by
  have HT := hide ht
  have HAt := hide hAt
  have hl0 := (hAt.ok 0 (by omega)).2
  have hl1 := (hAt.ok 1 (by omega)).2
  clear ht hAt
  go_enter Tryd.func12, Tryd.ntmps12
  go_wp2_with fail
  refine (lread_any p v D w HAt.out).mono ?_
  rintro e w1 ⟨x0, x1, rfl, hx0, hx1, B1⟩
  obtain ⟨o0, c0, rfl, hc0⟩ := own_shape hx0
  obtain ⟨o1, c1, rfl, _⟩ := own_shape hx1
  have HT1 : Hid (Tab (w1.alloc (.cells #[.slice o0 (D.b 0).length c0, .slice o1 (D.b 1).length c1] 75))) := fun i h16 => Below.keeps ((B1.alloc B1.size _)) (Nat.le_refl _) (HT.out i h16)
  have HR1 := hide ((Rd.own hx1).below ((Below.refl _ _).alloc (Nat.le_refl _) (.cells #[.slice o0 (D.b 0).length c0, .slice o1 (D.b 1).length c1] 75)))
  have HX0 := hide (hx0.alloc (.cells #[.slice o0 (D.b 0).length c0, .slice o1 (D.b 1).length c1] 75))
  have HBK := hide (heap_alloc_new w1 (.cells #[.slice o0 (D.b 0).length c0, .slice o1 (D.b 1).length c1] 75))
  have HB1 := hide (B1.alloc B1.size (.cells #[.slice o0 (D.b 0).length c0, .slice o1 (D.b 1).length c1] 75))
  have hz1 := B1.size
  clear hx0 hx1 B1
  go_wp2_with fail
  refine (snapshot_any (D.b 1) _ _ HT1.out HR1.out (by omega)).mono ?_
  rintro e w2 ⟨x, rfl, hx, B2⟩
  obtain ⟨xo, xc, rfl, _⟩ := own_shape hx
  have hz2 : w1.heap.size + 1 ≤ w2.heap.size := by have := B2.size; simp at this; omega
  have HX := hide (own_base hx (B' := w.heap.size) (by simp; omega))
  have HXN := hide hx
  have HX02 := hide (own_below HX0.out B2)
  have hq2 : w2.heap[w1.heap.size]? = some (.cells #[.slice o0 (D.b 0).length c0, .slice o1 (D.b 1).length c1] 75 (0, 0)) := by rw [B2.block _ (by simp)]; exact HBK.out
  have hcf := cell_of (k := 0) hq2
  simp only [List.getElem?_toArray, List.getElem?_cons_zero] at hcf
  have HQ2 := hide hq2
  have HB2 := hide (HB1.out.trans (B2.mono HB1.out.size))
  have HT2 : Hid (Tab w2) := fun i h16 => Below.keeps HB2.out (Nat.le_refl _) (HT.out i h16)
  clear hx B2 hq2
  go_wp2_with fail
  refine (scan_any (D.b 0) _ w2 HT2.out (Rd.own HX02.out) (by omega)).mono ?_
  rintro e w3 ⟨rv, vals, rfl, hrv, B3⟩
  obtain ⟨ro, rc, rfl, _⟩ := own_shape hrv.row
  have HRV := hide hrv
  have HX3 := hide (own_below HX.out B3)
  have HX03 := hide (own_below HX02.out B3)
  have hq3 : w3.heap[w1.heap.size]? = some (.cells #[.slice o0 (D.b 0).length c0, .slice o1 (D.b 1).length c1] 75 (0, 0)) := by rw [B3.block _ (by omega)]; exact HQ2.out
  have hcf3 := cell_of (k := 0) hq3
  simp only [List.getElem?_toArray, List.getElem?_cons_zero] at hcf3
  have HB3 := hide (HB2.out.trans (B3.mono HB2.out.size))
  have hz3 := B3.size
  obtain ⟨k1, k2, k3, k4, k5⟩ := scanB_ok (D.b 0)
  have ks := (snapB_lt (D.b 1)).1
  clear hrv B3 hq3 hcf
  go_wp2_with fail
  refine (behind_any w2.heap.size _ _ _ vals _ w3 HRV.out ks k1 k2 (by omega)).mono ?_
  rintro e w4 ⟨rs, rfl, hrs, rfl⟩
  rename World => wc
  have hrs0 := id hrs
  obtain ⟨so, sc, rfl, -⟩ := hrs0
  have hbl := behB_len (snapB (D.b 1)).1 (scanB (D.b 0)).1 (scanB (D.b 0)).2.1
  have HBH := hide hrs
  clear hrs
  obtain ⟨n1, hn1⟩ : ∃ n1, n1 = ((snapB (D.b 1)).1 + (behB (snapB (D.b 1)).1 (scanB (D.b 0)).1 (scanB (D.b 0)).2.1).1.length) % 18446744073709551616 := ⟨_, rfl⟩
  obtain ⟨n2, hn2⟩ : ∃ n2, n2 = ((snapB (D.b 1)).1 + (behB (snapB (D.b 1)).1 (scanB (D.b 0)).1 (scanB (D.b 0)).2.1).1.length + 1) % 18446744073709551616 := ⟨_, rfl⟩
  have hw1 : IntKind.u64.wrap (((snapB (D.b 1)).1 : Int) + ((behB (snapB (D.b 1)).1 (scanB (D.b 0)).1 (scanB (D.b 0)).2.1).1.length : Int)) = (n1 : Int) := by rw [IntKind.wrap_u64, hn1]; omega
  have hw2 : IntKind.u64.wrap ((n1 : Int) + 1) = (n2 : Int) := by rw [IntKind.wrap_u64, hn1, hn2]; omega
  have HN2 := hide hn2
  clear hn1 hn2 k1 k2 k5
  go_wp2
  refine bodyPost_ret (v := .tuple #[.pointer (some ⟨wc.heap.size, 0, none⟩), .slice xo (snapB (D.b 1)).2.1.length xc, .slice so (behB (snapB (D.b 1)).1 (scanB (D.b 0)).1 (scanB (D.b 0)).2.1).1.length sc, .int .i64 0]) (by simp [results, Tryd.results12, go_sem]) rfl ?_
  have hft : ∀ k, foot p v k → k < w.heap.size ∨ (wc.alloc (.cells #[.pointer (some ⟨p, 0, none⟩), .int .u64 n2, .int .i64 (behB (snapB (D.b 1)).1 (scanB (D.b 0)).1 (scanB (D.b 0)).2.1).1.length, .bool false] 84)).heap.size ≤ k := fun k hk => .inl (HAt.out.foot_lt hk)
  have hbA := (Below.refl wc.heap.size wc).alloc (Nat.le_refl _) (.cells #[.pointer (some ⟨p, 0, none⟩), .int .u64 n2, .int .i64 (behB (snapB (D.b 1)).1 (scanB (D.b 0)).1 (scanB (D.b 0)).2.1).1.length, .bool false] 84)
  have hsn := own_below HX3.out hbA
  have hrl := (HBH.out.below hbA).base (B' := w.heap.size) (by omega)
  refine ⟨_, _, _, rfl, HB3.out.trans (hbA.mono HB3.out.size), wc.heap.size, ?_, HB3.out.size, Nat.le_refl _, fun hf => by have := HAt.out.foot_lt hf; have := HB3.out.size; omega, fun k hk => .inl (HAt.out.foot_lt hk), hsn, fun k hk => (HX3.out.lt k hk).2, hrl⟩
  show LogAt _ _ _ (((snapB (D.b 1)).1 + (behB (snapB (D.b 1)).1 (scanB (D.b 0)).1 (scanB (D.b 0)).2.1).1.length + 1) % 18446744073709551616) _ _
  rw [← HN2.out]
  exact heap_alloc_new wc _

theorem RdL.only {S : Nat → Prop} {B E : Nat} {w w' : World} {v : Value} {recs : List (List UInt8)} (h : RdL B E w v recs) (ho : Only S w w') (hs : ∀ k, B ≤ k → k < E → ¬ S k) : RdL B E w' v recs := h.same fun k h1 h2 h3 => ho.block k h3 (hs k h1 h2)

set_option maxHeartbeats 4000000 in
theorem open_c (p : Nat) (v : Nat → Value) (D : Dk) (w : World) (hAt : DiskAt w p v D) (ht : Tab w) (h1 : (snapB (D.b 1)).2.2 = 0) (h2 : (behB (snapB (D.b 1)).1 (scanB (D.b 0)).1 (scanB (D.b 0)).2.1).2 = 0) (h3 : (scanB (D.b 0)).2.2 < (D.b 0).length) (h4 : (replB D 2 0 ((D.b 0).take (scanB (D.b 0)).2.2)).2 ≠ 0) :
    Calls Tryd.prog 12 #[.pointer (some ⟨p, 0, none⟩)] w fun e w' => e = .returned (.tuple #[.pointer none, .slice none 0 0, .slice none 0 0, .int .i64 (replB D 2 0 ((D.b 0).take (scanB (D.b 0)).2.2)).2]) ∧ ∃ v', Moved w p v w' v' (replB D 2 0 ((D.b 0).take (scanB (D.b 0)).2.2)).1 := by
  have hne4 : ((replB D 2 0 ((D.b 0).take (scanB (D.b 0)).2.2)).2 != 0) = true := by simp [h4]
  clear h4
  have HT := hide ht
  have HAt := hide hAt
  have hl0 := (hAt.ok 0 (by omega)).2
  have hl1 := (hAt.ok 1 (by omega)).2
  clear ht hAt
  go_enter Tryd.func12, Tryd.ntmps12
  go_wp2_with fail
  refine (lread_any p v D w HAt.out).mono ?_
  rintro e w1 ⟨x0, x1, rfl, hx0, hx1, B1⟩
  obtain ⟨o0, c0, rfl, hc0⟩ := own_shape hx0
  obtain ⟨o1, c1, rfl, _⟩ := own_shape hx1
  have HT1 : Hid (Tab (w1.alloc (.cells #[.slice o0 (D.b 0).length c0, .slice o1 (D.b 1).length c1] 75))) := fun i h16 => Below.keeps ((B1.alloc B1.size _)) (Nat.le_refl _) (HT.out i h16)
  have HR1 := hide ((Rd.own hx1).below ((Below.refl _ _).alloc (Nat.le_refl _) (.cells #[.slice o0 (D.b 0).length c0, .slice o1 (D.b 1).length c1] 75)))
  have HX0 := hide (hx0.alloc (.cells #[.slice o0 (D.b 0).length c0, .slice o1 (D.b 1).length c1] 75))
  have HBK := hide (heap_alloc_new w1 (.cells #[.slice o0 (D.b 0).length c0, .slice o1 (D.b 1).length c1] 75))
  have HB1 := hide (B1.alloc B1.size (.cells #[.slice o0 (D.b 0).length c0, .slice o1 (D.b 1).length c1] 75))
  have hz1 := B1.size
  clear hx0 hx1 B1
  go_wp2_with fail
  refine (snapshot_any (D.b 1) _ _ HT1.out HR1.out (by omega)).mono ?_
  rintro e w2 ⟨x, rfl, hx, B2⟩
  obtain ⟨xo, xc, rfl, _⟩ := own_shape hx
  have hz2 : w1.heap.size + 1 ≤ w2.heap.size := by have := B2.size; simp at this; omega
  have HX := hide (own_base hx (B' := w.heap.size) (by simp; omega))
  have HXN := hide hx
  have HX02 := hide (own_below HX0.out B2)
  have hq2 : w2.heap[w1.heap.size]? = some (.cells #[.slice o0 (D.b 0).length c0, .slice o1 (D.b 1).length c1] 75 (0, 0)) := by rw [B2.block _ (by simp)]; exact HBK.out
  have hcf := cell_of (k := 0) hq2
  simp only [List.getElem?_toArray, List.getElem?_cons_zero] at hcf
  have HQ2 := hide hq2
  have HB2 := hide (HB1.out.trans (B2.mono HB1.out.size))
  have HT2 : Hid (Tab w2) := fun i h16 => Below.keeps HB2.out (Nat.le_refl _) (HT.out i h16)
  clear hx B2 hq2
  go_wp2_with fail
  refine (scan_any (D.b 0) _ w2 HT2.out (Rd.own HX02.out) (by omega)).mono ?_
  rintro e w3 ⟨rv, vals, rfl, hrv, B3⟩
  obtain ⟨ro, rc, rfl, _⟩ := own_shape hrv.row
  have HRV := hide hrv
  have HX3 := hide (own_below HX.out B3)
  have HX03 := hide (own_below HX02.out B3)
  have hq3 : w3.heap[w1.heap.size]? = some (.cells #[.slice o0 (D.b 0).length c0, .slice o1 (D.b 1).length c1] 75 (0, 0)) := by rw [B3.block _ (by omega)]; exact HQ2.out
  have hcf3 := cell_of (k := 0) hq3
  simp only [List.getElem?_toArray, List.getElem?_cons_zero] at hcf3
  have HB3 := hide (HB2.out.trans (B3.mono HB2.out.size))
  have hz3 := B3.size
  obtain ⟨k1, k2, k3, k4, k5⟩ := scanB_ok (D.b 0)
  have ks := (snapB_lt (D.b 1)).1
  clear hrv B3 hq3 hcf
  go_wp2_with fail
  refine (behind_any w2.heap.size _ _ _ vals _ w3 HRV.out ks k1 k2 (by omega)).mono ?_
  rintro e w4 ⟨rs, rfl, hrs, rfl⟩
  rename World => wc
  have hrs0 := id hrs
  obtain ⟨so, sc, rfl, hso⟩ := hrs0
  have hbl := behB_len (snapB (D.b 1)).1 (scanB (D.b 0)).1 (scanB (D.b 0)).2.1
  have HBH := hide hrs
  clear hrs hso
  have HSL := hide (own_take HX03.out k3)
  have HDC := hide (HAt.out.below HB3.out)
  have hoff : ∀ k, (Value.slice o0 (scanB (D.b 0)).2.2 c0).ownBlock = some k → ¬ foot p v k := fun k hk hf => by
    have := (HSL.out.lt k hk).1
    have := HAt.out.foot_lt hf
    omega
  have HOFF := hide hoff
  clear hoff
  clear k1 k2 k5
  go_wp2_with fail
  refine (replace_any p v D 2 0 _ ((D.b 0).take (scanB (D.b 0)).2.2) wc HDC.out (Rd.own HSL.out) (fun _ => HOFF.out)).mono ?_
  rintro e w5 ⟨rfl, v5, M5⟩
  have HM := hide M5
  clear M5
  go_wp2
  refine bodyPost_ret (v := .tuple #[.pointer none, .slice none 0 0, .slice none 0 0, .int .i64 (replB D 2 0 ((D.b 0).take (scanB (D.b 0)).2.2)).2]) (by simp [results, Tryd.results12, go_sem]) rfl ⟨rfl, v5, ?_⟩
  exact (Moved.stay HAt.out (Only.below HB3.out)).trans HM.out

set_option maxHeartbeats 4000000 in
theorem open_d (p : Nat) (v : Nat → Value) (D : Dk) (w : World) (hAt : DiskAt w p v D) (ht : Tab w) (h1 : (snapB (D.b 1)).2.2 = 0) (h2 : (behB (snapB (D.b 1)).1 (scanB (D.b 0)).1 (scanB (D.b 0)).2.1).2 = 0) (h3 : (scanB (D.b 0)).2.2 < (D.b 0).length) (h4 : (replB D 2 0 ((D.b 0).take (scanB (D.b 0)).2.2)).2 = 0) :
    Calls Tryd.prog 12 #[.pointer (some ⟨p, 0, none⟩)] w fun e w' => ∃ l x rs, e = .returned (.tuple #[.pointer (some ⟨l, 0, none⟩), x, rs, .int .i64 0]) ∧ ∃ v', Moved w p v w' v' (replB D 2 0 ((D.b 0).take (scanB (D.b 0)).2.2)).1 ∧
      ∃ E, IsOpen w E w' p v' ⟨0, ((snapB (D.b 1)).1 + (behB (snapB (D.b 1)).1 (scanB (D.b 0)).1 (scanB (D.b 0)).2.1).1.length + 1) % 18446744073709551616, (snapB (D.b 1)).2.1, (behB (snapB (D.b 1)).1 (scanB (D.b 0)).1 (scanB (D.b 0)).2.1).1⟩ l x rs := by
  have HT := hide ht
  have HAt := hide hAt
  have hl0 := (hAt.ok 0 (by omega)).2
  have hl1 := (hAt.ok 1 (by omega)).2
  clear ht hAt
  go_enter Tryd.func12, Tryd.ntmps12
  go_wp2_with fail
  refine (lread_any p v D w HAt.out).mono ?_
  rintro e w1 ⟨x0, x1, rfl, hx0, hx1, B1⟩
  obtain ⟨o0, c0, rfl, hc0⟩ := own_shape hx0
  obtain ⟨o1, c1, rfl, _⟩ := own_shape hx1
  have HT1 : Hid (Tab (w1.alloc (.cells #[.slice o0 (D.b 0).length c0, .slice o1 (D.b 1).length c1] 75))) := fun i h16 => Below.keeps ((B1.alloc B1.size _)) (Nat.le_refl _) (HT.out i h16)
  have HR1 := hide ((Rd.own hx1).below ((Below.refl _ _).alloc (Nat.le_refl _) (.cells #[.slice o0 (D.b 0).length c0, .slice o1 (D.b 1).length c1] 75)))
  have HX0 := hide (hx0.alloc (.cells #[.slice o0 (D.b 0).length c0, .slice o1 (D.b 1).length c1] 75))
  have HBK := hide (heap_alloc_new w1 (.cells #[.slice o0 (D.b 0).length c0, .slice o1 (D.b 1).length c1] 75))
  have HB1 := hide (B1.alloc B1.size (.cells #[.slice o0 (D.b 0).length c0, .slice o1 (D.b 1).length c1] 75))
  have hz1 := B1.size
  clear hx0 hx1 B1
  go_wp2_with fail
  refine (snapshot_any (D.b 1) _ _ HT1.out HR1.out (by omega)).mono ?_
  rintro e w2 ⟨x, rfl, hx, B2⟩
  obtain ⟨xo, xc, rfl, _⟩ := own_shape hx
  have hz2 : w1.heap.size + 1 ≤ w2.heap.size := by have := B2.size; simp at this; omega
  have HX := hide (own_base hx (B' := w.heap.size) (by simp; omega))
  have HXN := hide hx
  have HX02 := hide (own_below HX0.out B2)
  have hq2 : w2.heap[w1.heap.size]? = some (.cells #[.slice o0 (D.b 0).length c0, .slice o1 (D.b 1).length c1] 75 (0, 0)) := by rw [B2.block _ (by simp)]; exact HBK.out
  have hcf := cell_of (k := 0) hq2
  simp only [List.getElem?_toArray, List.getElem?_cons_zero] at hcf
  have HQ2 := hide hq2
  have HB2 := hide (HB1.out.trans (B2.mono HB1.out.size))
  have HT2 : Hid (Tab w2) := fun i h16 => Below.keeps HB2.out (Nat.le_refl _) (HT.out i h16)
  clear hx B2 hq2
  go_wp2_with fail
  refine (scan_any (D.b 0) _ w2 HT2.out (Rd.own HX02.out) (by omega)).mono ?_
  rintro e w3 ⟨rv, vals, rfl, hrv, B3⟩
  obtain ⟨ro, rc, rfl, _⟩ := own_shape hrv.row
  have HRV := hide hrv
  have HX3 := hide (own_below HX.out B3)
  have HX03 := hide (own_below HX02.out B3)
  have hq3 : w3.heap[w1.heap.size]? = some (.cells #[.slice o0 (D.b 0).length c0, .slice o1 (D.b 1).length c1] 75 (0, 0)) := by rw [B3.block _ (by omega)]; exact HQ2.out
  have hcf3 := cell_of (k := 0) hq3
  simp only [List.getElem?_toArray, List.getElem?_cons_zero] at hcf3
  have HB3 := hide (HB2.out.trans (B3.mono HB2.out.size))
  have hz3 := B3.size
  obtain ⟨k1, k2, k3, k4, k5⟩ := scanB_ok (D.b 0)
  have ks := (snapB_lt (D.b 1)).1
  clear hrv B3 hq3 hcf
  go_wp2_with fail
  refine (behind_any w2.heap.size _ _ _ vals _ w3 HRV.out ks k1 k2 (by omega)).mono ?_
  rintro e w4 ⟨rs, rfl, hrs, rfl⟩
  rename World => wc
  have hrs0 := id hrs
  obtain ⟨so, sc, rfl, hso⟩ := hrs0
  have hbl := behB_len (snapB (D.b 1)).1 (scanB (D.b 0)).1 (scanB (D.b 0)).2.1
  have HBH := hide hrs
  clear hrs hso
  have HSL := hide (own_take HX03.out k3)
  have HDC := hide (HAt.out.below HB3.out)
  have hoff : ∀ k, (Value.slice o0 (scanB (D.b 0)).2.2 c0).ownBlock = some k → ¬ foot p v k := fun k hk hf => by
    have := (HSL.out.lt k hk).1
    have := HAt.out.foot_lt hf
    omega
  have HOFF := hide hoff
  clear hoff
  obtain ⟨n1, hn1⟩ : ∃ n1, n1 = ((snapB (D.b 1)).1 + (behB (snapB (D.b 1)).1 (scanB (D.b 0)).1 (scanB (D.b 0)).2.1).1.length) % 18446744073709551616 := ⟨_, rfl⟩
  obtain ⟨n2, hn2⟩ : ∃ n2, n2 = ((snapB (D.b 1)).1 + (behB (snapB (D.b 1)).1 (scanB (D.b 0)).1 (scanB (D.b 0)).2.1).1.length + 1) % 18446744073709551616 := ⟨_, rfl⟩
  have hw1 : IntKind.u64.wrap (((snapB (D.b 1)).1 : Int) + ((behB (snapB (D.b 1)).1 (scanB (D.b 0)).1 (scanB (D.b 0)).2.1).1.length : Int)) = (n1 : Int) := by rw [IntKind.wrap_u64, hn1]; omega
  have hw2 : IntKind.u64.wrap ((n1 : Int) + 1) = (n2 : Int) := by rw [IntKind.wrap_u64, hn1, hn2]; omega
  have HN2 := hide hn2
  clear hn1 hn2 k1 k2 k5
  go_wp2_with fail
  refine (replace_any p v D 2 0 _ ((D.b 0).take (scanB (D.b 0)).2.2) wc HDC.out (Rd.own HSL.out) (fun _ => HOFF.out)).mono ?_
  rintro e w5 ⟨rfl, v5, M5⟩
  have HM := hide M5
  have hz5 := M5.only.size
  clear M5
  go_wp2
  refine bodyPost_ret (v := .tuple #[.pointer (some ⟨w5.heap.size, 0, none⟩), .slice xo (snapB (D.b 1)).2.1.length xc, .slice so (behB (snapB (D.b 1)).1 (scanB (D.b 0)).1 (scanB (D.b 0)).2.1).1.length sc, .int .i64 0]) (by simp [results, Tryd.results12, go_sem]) rfl ?_
  obtain ⟨LG, hLG⟩ : ∃ LG, LG = Obj.cells #[.pointer (some ⟨p, 0, none⟩), .int .u64 n2, .int .i64 (behB (snapB (D.b 1)).1 (scanB (D.b 0)).1 (scanB (D.b 0)).2.1).1.length, .bool false] 84 (0, 0) := ⟨_, rfl⟩
  have hcell : (w5.alloc LG).heap[w5.heap.size]? = some LG := heap_alloc_new w5 _
  rw [← hLG]
  have hbA := (Below.refl w5.heap.size w5).alloc (Nat.le_refl _) LG
  have hnf : ∀ k, w.heap.size ≤ k → k < wc.heap.size → ¬ foot p v k := fun k h1 _ hf => by have := HAt.out.foot_lt hf; omega
  have hft : ∀ k, foot p v5 k → k < w.heap.size ∨ wc.heap.size ≤ k := fun k hk => by
    rcases HM.out.grow k hk with h | h
    · exact .inl (HAt.out.foot_lt h)
    · exact .inr h
  have hsn5 := own_only HX3.out HM.out.only (fun k hk => hnf k (HX3.out.lt k hk).1 (HX3.out.lt k hk).2)
  have hrlb := HBH.out.base (B' := w.heap.size) (by omega)
  have hrl5 := RdL.only hrlb HM.out.only hnf
  · refine ⟨_, _, _, rfl, v5, ((Moved.stay HAt.out (Only.below HB3.out)).trans HM.out).trans (Moved.stay HM.out.dk (Only.below hbA)), wc.heap.size, ?_, HB3.out.size, hz5, fun hf => by have := HM.out.dk.foot_lt hf; omega, hft, own_below hsn5 hbA, fun k hk => (HX3.out.lt k hk).2, hrl5.below hbA⟩
    · show LogAt _ _ _ (((snapB (D.b 1)).1 + (behB (snapB (D.b 1)).1 (scanB (D.b 0)).1 (scanB (D.b 0)).2.1).1.length + 1) % 18446744073709551616) _ _
      rw [← HN2.out]
      unfold LogAt
      rw [hcell, hLG]
end Go.Proofs.YtgobnnciijlpaaaDoor
