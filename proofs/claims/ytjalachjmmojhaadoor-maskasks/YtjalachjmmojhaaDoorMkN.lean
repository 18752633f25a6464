/- The walk of MaskAsks. -/
import Derived.Test.YtjalachjmmojhaaDoorRmF
import Derived.Deep.RegionHeld3
namespace Go.Proofs.YtjalachjmmojhaaDoor
open Go.ChangeShapes Go.WideShapes Go.ChangeAt Go.RowKit Go.DsMem Go.DsMk
set_option linter.unusedVariables false

theorem Gd.rhas {W w : World} (h : Gd W w) (x : Nat) (d : Int) (v : Value) (hr : RMonth W v x) {b : Bool} (hb : hasB x d = b) :
    Calls Tryd.prog 25 #[v, .int .i64 d] w fun e w' => e = .returned (.bool b) ∧ Gd W w' :=
  (rhas_any x d v w (hr.below h.below)).mono fun _ _ ⟨he, hw⟩ => ⟨by rw [he, hb], h.more hw⟩
theorem Gd.rcount {W w : World} (h : Gd W w) (x : Nat) (v : Value) (hr : RMonth W v x) {c : Nat} (hc : (dl x).length = c) :
    Calls Tryd.prog 27 #[v] w fun e w' => e = .returned (.int .i64 c) ∧ Gd W w' :=
  (rcount_any x v w (hr.below h.below)).mono fun _ _ ⟨he, hw⟩ => ⟨by rw [he, hc], h.more hw⟩
theorem Gd.rnth {W w : World} (h : Gd W w) (x : Nat) (k : Int) (v : Value) (hr : RMonth W v x) (hk1 : -9223372036854775808 ≤ k) (hk2 : k ≤ 9223372036854775807) {c : Nat} (hc : nthL (dl x) k = c) :
    Calls Tryd.prog 29 #[v, .int .i64 k] w fun e w' => e = .returned (.int .i64 c) ∧ Gd W w' :=
  (rnth_any x k v w (hr.below h.below) hk1 hk2).mono fun _ _ ⟨he, hw⟩ => ⟨by rw [he, hc], h.more hw⟩
theorem Gd.rnext {W w : World} (h : Gd W w) (x : Nat) (k : Int) (v : Value) (hr : RMonth W v x) {c : Nat} (hc : nextL (dl x) k = c) :
    Calls Tryd.prog 31 #[v, .int .i64 k] w fun e w' => e = .returned (.int .i64 c) ∧ Gd W w' :=
  (rnext_any x k v w (hr.below h.below)).mono fun _ _ ⟨he, hw⟩ => ⟨by rw [he, hc], h.more hw⟩
theorem Gd.rprev {W w : World} (h : Gd W w) (x : Nat) (k : Int) (v : Value) (hr : RMonth W v x) {c : Nat} (hc : prevL (dl x) k = c) :
    Calls Tryd.prog 33 #[v, .int .i64 k] w fun e w' => e = .returned (.int .i64 c) ∧ Gd W w' :=
  (rprev_any x k v w (hr.below h.below)).mono fun _ _ ⟨he, hw⟩ => ⟨by rw [he, hc], h.more hw⟩
theorem Gd.list1 {W w : World} (h : Gd W w) (x : Nat) (hx : x < 4294967296) :
    Calls Tryd.prog 34 #[.int .u32 x] w fun e w' => ∃ ao n cap, e = .returned (.slice ao n cap) ∧ RdI w' (.slice ao n cap) (ints (dl x)) ∧ Gd W w' :=
  (list_any x w hx h.tabT).mono fun _ _ ⟨v, he, ho, hb⟩ => by
    obtain ⟨ao, cap, rfl, -⟩ := own_shape ho
    exact ⟨ao, _, cap, he, RdI.own ho, h.more hb⟩
theorem Gd.rlist1 {W w : World} (h : Gd W w) (x : Nat) (v : Value) (hr : RMonth W v x) (u : Value) (l : List Int) (hu : RdI w u l) :
    Calls Tryd.prog 35 #[v] w fun e w' => ∃ ao n cap, e = .returned (.slice ao n cap) ∧ (RdI w' (.slice ao n cap) (ints (dl x)) ∧ RdI w' u l) ∧ Gd W w' :=
  (rlist_any x v w (hr.below h.below)).mono fun _ _ ⟨v, he, ho, hb⟩ => by
    obtain ⟨ao, cap, rfl, -⟩ := own_shape ho
    exact ⟨ao, _, cap, he, ⟨RdI.own ho, hu.below hb⟩, h.more hb⟩
theorem Gd.same {W w : World} (h : Gd W w) (l : List Int) (a b : Value) (ha : RdI w b l ∧ RdI w a l) (hl : l.length ≤ 31) :
    Calls Tryd.prog 21 #[a, b] w fun e w' => e = .returned (.bool true) ∧ Gd W w' :=
  (same_any l a b w ha.2 ha.1 (by omega)).mono fun _ _ ⟨he, hw⟩ => ⟨he, h.more hw⟩

set_option maxHeartbeats 4000000 in
set_option maxRecDepth 20000 in
theorem asks_walk0 (x c t1 t2 t3 : Nat) (d k : Int) (b : Bool) (W : World) (ht : TabT W) (hx : x < 4294967296) (hd1 : -9223372036854775808 ≤ d) (hd2 : d ≤ 9223372036854775807) (hk1 : -9223372036854775808 ≤ k) (hk2 : k ≤ 9223372036854775807)
    (H1 : Hid (hasB x d = b)) (H2 : Hid ((dl x).length = c)) (H3 : Hid (nthL (dl x) k = t1)) (H4 : Hid (nextL (dl x) d = t2)) (H5 : Hid (prevL (dl x) d = t3)) (H6 : Hid ((ints (dl x)).length ≤ 31)) :
    Calls Tryd.prog 4 #[.int .u32 x, .int .i64 d, .int .i64 k] W fun e w' => e = .returned (.bool true) ∧ Below W.heap.size W w' := by
  have HT := hide ht
  clear ht
  go_enter Tryd.func4, Tryd.ntmps4
  go_wp2_with fail
  refine (rof_any _ _ hx).mono ?_; rintro e w1 ⟨v, g, rfl, -, hr, hbel⟩
  obtain rfl := hr.val
  have HB1 := hide hbel
  have HG1 : Hid (Gd W w1) := (Gd.here HT.out).more hbel
  have HR1 : Hid (RMonth w1 (.agg #[.slice (some ⟨g, 0, none⟩) 32 32]) x) := ⟨g, hr⟩
  clear hr hbel
  go_wp2
  obtain ⟨wA, hwA⟩ : ∃ wA, wA = w1.alloc (.cells #[.slice (some ⟨g, 0, none⟩) 32 32] 32) := ⟨_, rfl⟩
  have cB : wA.cell? ⟨w1.heap.size, 0, none⟩ = some (.slice (some ⟨g, 0, none⟩) 32 32) := by rw [hwA, cell_of (heap_alloc_new w1 _)]; rfl
  have HGA : Hid (Gd W wA) := by rw [hwA]; exact HG1.out.alloc _
  have HRA : Hid (RMonth wA (.agg #[.slice (some ⟨g, 0, none⟩) 32 32]) x) := by rw [hwA]; exact HR1.out.below ((Below.refl _ _).alloc (Nat.le_refl _) _)
  rw [← hwA]
  have HCB := hide cB
  clear hwA
  generalize w1.heap.size = p8 at *
  have hg0 : Gd wA wA.drew := (Gd.here HGA.out.tabT).drew
  have KP : Hid (∀ w', Gd wA w' → w'.cell? ⟨p8, 0, none⟩ = some (.slice (some ⟨g, 0, none⟩) 32 32)) := fun w' hw => Below.keeps hw.below (Nat.le_refl _) HCB.out
  go_region_held3 (fun w' => w'.cell? ⟨p8, 0, none⟩ = some (.slice (some ⟨g, 0, none⟩) 32 32)) (first | go_keep | (exact KP.out _ (by assumption)))
    (first
      | (go_at_call 24; refine (Gd.has (W := wA) (by assumption) _ _ hx H1.out).mono ?_; rintro e w' ⟨rfl, hgA⟩)
      | (go_at_call 25; refine (Gd.rhas (W := wA) (by assumption) _ _ _ HRA.out H1.out).mono ?_; rintro e w' ⟨rfl, hgA⟩)
      | (go_at_call 26; refine (Gd.count (W := wA) (by assumption) _ hx H2.out).mono ?_; rintro e w' ⟨rfl, hgA⟩)
      | (go_at_call 27; refine (Gd.rcount (W := wA) (by assumption) _ _ HRA.out H2.out).mono ?_; rintro e w' ⟨rfl, hgA⟩)
      | (go_at_call 28; refine (Gd.nth (W := wA) (by assumption) _ _ hx hk1 hk2 H3.out).mono ?_; rintro e w' ⟨rfl, hgA⟩)
      | (go_at_call 29; refine (Gd.rnth (W := wA) (by assumption) _ _ _ HRA.out hk1 hk2 H3.out).mono ?_; rintro e w' ⟨rfl, hgA⟩)
      | (go_at_call 30; refine (Gd.next (W := wA) (by assumption) _ _ hx H4.out).mono ?_; rintro e w' ⟨rfl, hgA⟩)
      | (go_at_call 31; refine (Gd.rnext (W := wA) (by assumption) _ _ _ HRA.out H4.out).mono ?_; rintro e w' ⟨rfl, hgA⟩)
      | (go_at_call 32; refine (Gd.prev (W := wA) (by assumption) _ _ hx hd1 hd2 H5.out).mono ?_; rintro e w' ⟨rfl, hgA⟩)
      | (go_at_call 33; refine (Gd.rprev (W := wA) (by assumption) _ _ _ HRA.out H5.out).mono ?_; rintro e w' ⟨rfl, hgA⟩)
      | (go_at_call 34; refine (Gd.list1 (W := wA) (by assumption) _ hx).mono ?_; rintro e w' ⟨ao, nn, cap, rfl, hrd, hgA⟩; have HU := hide hrd; clear hrd)
      | (go_at_call 35; refine (Gd.rlist1 (W := wA) (by assumption) _ _ HRA.out _ _ HU.out).mono ?_; rintro e w' ⟨ao2, nn2, cap2, rfl, hrd, hgA⟩; have HU2 := hide hrd; clear hrd)
      | (go_at_call 21; refine (Gd.same (W := wA) (by assumption) _ _ _ HU2.out H6.out).mono ?_; rintro e w' ⟨rfl, hgA⟩)
      | (go_at_call 22; refine (Gd.known (W := wA) (by assumption)).mono ?_; rintro e w' ⟨rfl, hgA⟩))
  all_goals go_wp2
  go_ret
  refine ⟨rfl, ?_⟩
  exact (HGA.out.more (Gd.below (by assumption))).below
theorem asks_walk (a0 a1 a2 : Int) (W : World) (ht : TabT W) (h0 : 0 ≤ a0 ∧ a0 ≤ 4294967295) (h1 : -9223372036854775808 ≤ a1 ∧ a1 ≤ 9223372036854775807) (h2 : -9223372036854775808 ≤ a2 ∧ a2 ≤ 9223372036854775807) :
    Calls Tryd.prog 4 #[.int .u32 a0, .int .i64 a1, .int .i64 a2] W fun e w' => e = .returned (.bool true) ∧ Below W.heap.size W w' := by
  obtain ⟨x, rfl⟩ := Int.eq_ofNat_of_zero_le h0.1
  exact asks_walk0 x _ _ _ _ a1 a2 _ W ht (by omega) h1.1 h1.2 h2.1 h2.2 rfl rfl rfl rfl rfl (by show _ ≤ _; rw [ints_len]; exact dl_le x)
end Go.Proofs.YtjalachjmmojhaaDoor
