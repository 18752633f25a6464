/- The walk of dayshiftref02.Nth: the weekdays of a month, listed. -/
import Derived.Test.YtbkjcnkjlkjknaaDoorWeekD
namespace Go.Proofs.YtbkjcnkjlkjknaaDoor
open Go.ChangeShapes Go.WideShapes Go.ChangeAt Go.RowKit

theorem pairQ_of {a b : Int} {p : Int × Int} {Q : Prop} (h : p = (a, b)) (hq : Q) : Ending.returned (.tuple #[.int .i64 a, .int .i64 b]) = .returned (.tuple #[.int .i64 p.1, .int .i64 p.2]) ∧ Q := by
  rw [h]; exact ⟨rfl, hq⟩
theorem info2 : (Tryd.prog.info? 2).map (fun i => (i.zero, i.size, i.bytes)) = some (some (.int .i64 0), 1, 8) := by kernel_rfl
theorem one_i64 (x : Int) : ∀ u ∈ [Value.int .i64 x], u.oneCell' = true := by
  intro u hu; simp at hu; subst hu; rfl
theorem rel_push64 {B k : Nat} {w wr w1 : World} {v v' : Value} {xs : List Int} {x : Int} {o : Obj} (hB : B ≤ wr.heap.size)
    (hown : wr.ownsRow B 2 1 v k (xs.map (Value.int .i64))) (hnx : Below B w wr)
    (hown' : w1.ownsRow B 2 1 v' (k + 1) (xs.map (Value.int .i64) ++ [.int .i64 x])) (hgrow : (wr.alloc o).grownBy w1 v.ownBlock) :
    w1.ownsRow B 2 1 v' (k + 1) ((xs ++ [x]).map (Value.int .i64)) ∧ Below B w w1 :=
  ⟨by simpa using hown', (hnx.alloc hB o).grown hgrow (by simp; omega) (fun j hj => (hown.lt j hj).1)⟩
theorem map64_at (l : List Int) (j : Nat) (hj : j < l.length) : (l.map (Value.int .i64))[j]? = some (.int .i64 (l.getD j 0)) := by
  simp [List.getD, List.getElem?_eq_getElem hj]

set_option maxHeartbeats 2000000 in
theorem refNth_yes (y m wd k : Int) (w : World) (h : DsCal.vld y m 1) (ha : DsCal.okA wd k) :
    Calls Tryd.prog 40 #[.int .i64 y, .int .i64 m, .int .i64 wd, .int .i64 k] w fun e w' => e = .returned (.tuple #[.int .i64 (DsCal.nres (DsCal.num y m 1) (DsCal.dlen y m) wd k).1, .int .i64 (DsCal.nres (DsCal.num y m 1) (DsCal.dlen y m) wd k).2]) ∧ Below w.heap.size w w' := by
  have H := hide h
  have hb := DsCal.num_bd h
  have hm := DsCal.vld_bd h
  have hd := DsCal.dlen_bd (y := y) (m := m) (by omega) (by omega)
  have IM := hide (fun (i : Int) (h0 : 0 ≤ i) (h1 : i < DsCal.dlen y m) => DsCal.in_month h h0 h1)
  obtain ⟨hb1, hb2⟩ := hb
  obtain ⟨hd1, hd2⟩ := hd
  obtain ⟨w0, w6, k0, k1, k5⟩ := ha
  have kz : (k == 0) = false := by simpa using k0
  have KZ := hide k0
  clear h hm k0
  obtain ⟨i0, hi, hz0, hz1, hz2⟩ := info_parts info2
  go_enter Tryd.func40, Tryd.ntmps40
  go_wp2_with (go_at_call 16; refine (refDays_yes _ _ _ _ H.out).mono ?_; rintro e w' ⟨rfl, rfl⟩)
  generalize hbe : DsCal.num y m 1 = b at hb1 hb2 IM ⊢
  have HBE := hide hbe
  clear hbe
  rename World => wB
  obtain ⟨z0, z6⟩ := DsCal.a0_bd b wd
  go_loopw [12, 13] (fun l t wr => ∃ i c : Nat, (i : Int) ≤ DsCal.dlen y m ∧ t = .int .i64 i ∧ (c : Int) = ((i : Int) + 6 - DsCal.a0 b wd) / 7 ∧ wr.ownsRow wB.heap.size 2 1 l c ((DsCal.wl b (DsCal.a0 b wd) c).map (Value.int .i64)) ∧ Below wB.heap.size wB wr) (fun _ t _ => (DsCal.dlen y m - intOf t).toNat)
  case atStart => exact ⟨0, 0, by omega, rfl, by omega, World.ownsRow_nil _ _ _ _, Below.refl _ _⟩
  case round =>
    obtain ⟨i, c, hil, rfl, hc, hown, hnx⟩ := hrel
    obtain ⟨ao, cap, rfl⟩ := owns_shape hown
    have hcb : c ≤ 5 := by omega
    have HC := hide hc
    clear hc
    by_cases hlt : (i : Int) < DsCal.dlen y m
    · obtain ⟨n1, n2⟩ := IM.out i (by omega) hlt
      have hit := DsCal.hit_iff (b := b) (wd := wd) (i := i) (c := c) w0 w6 HC.out
      by_cases hh : (b + i - 1) % 7 = wd
      · have hx := hit.1 hh
        have HX := hide hx
        have hhB : ((b + i - 1) % 7 == wd) = true := by simpa using hh
        clear hit hh hx
        go_wp2_with (first
          | (go_at_call 20; refine (refLen_any _ _ _).mono ?_; rintro e w' ⟨rfl, rfl⟩)
          | (go_at_call 25; refine (refWeekday_yes _ _ n1 n2).mono ?_; rintro e w' ⟨rfl, rfl⟩)
          | (at_builtin; refine wpList_append_own _ rfl _ _ 52 rfl wB.heap.size 2 i0 (.int .i64 0) 1 8 Tryd.underlying52 hi hz0 hz1 hz2 rfl (by decide) _ _ _ rfl (hown.alloc _) ⟨_, 0, none⟩ 1 1 [.int .i64 (b + i)] rfl rfl (cell_one_new _ _ _) (one_i64 _) (by unfold maxLen; omega) (by omega) (by have := hnx.size; simp; omega) ?_))
        intro v' w1 hown' hgrow _
        obtain ⟨R1, R2⟩ := rel_push64 hnx.size hown hnx hown' hgrow
        rw [show b + (i : Int) = b + DsCal.a0 b wd + 7 * c by have := HX.out; omega] at R1
        clear hown' hgrow hown
        go_wp2
        go_roundw
        case rel => exact ⟨i + 1, c + 1, by omega, by go_num, by have := HX.out; omega, R1, R2⟩
        case measure => simp [intOf]; omega
      · have hx : ¬ (i : Int) = DsCal.a0 b wd + 7 * c := fun q => hh (hit.2 q)
        have HX := hide hx
        have hhB : ((b + i - 1) % 7 == wd) = false := by simpa using hh
        clear hit hh hx
        go_wp2_with (first
          | (go_at_call 20; refine (refLen_any _ _ _).mono ?_; rintro e w' ⟨rfl, rfl⟩)
          | (go_at_call 25; refine (refWeekday_yes _ _ n1 n2).mono ?_; rintro e w' ⟨rfl, rfl⟩))
        go_roundw
        case rel => exact ⟨i + 1, c, by omega, by go_num, by have := HX.out; have := HC.out; omega, hown, hnx⟩
        case measure => simp [intOf]; omega
    · have hcn : (c : Int) = DsCal.cnt b (DsCal.dlen y m) wd := by have := HC.out; unfold DsCal.cnt; omega
      have hc4 : 4 ≤ c := by have := HC.out; omega
      obtain ⟨g, cp, hv, hg1, hg2⟩ := owns_some hown (by omega)
      simp only [Value.slice.injEq] at hv
      obtain ⟨rfl, _, rfl⟩ := hv
      have HCELL := hide (fun (j : Nat) (hj : j < c) => (show wr.cell? ⟨g, j, none⟩ = some (.int .i64 (b + DsCal.a0 b wd + 7 * j)) from by
        rw [hown.cellAt j (by omega), map64_at _ j (by rw [DsCal.wl_len]; exact hj), DsCal.wl_at _ _ _ _ hj]))
      have HCN := hide hcn
      clear hcn
      by_cases kp : 0 < k
      · have e : DsCal.nix b (DsCal.dlen y m) wd k = DsCal.a0 b wd + (k - 1) * 7 := DsCal.nix_pos kp
        by_cases q : k - 1 < c
        · have r := DsCal.nres_yes (b := b) (size := DsCal.dlen y m) (wd := wd) (k := k) (by rw [e]; omega) (by rw [e]; have := HC.out; omega)
          rw [e] at r
          have R := hide r
          have hcell := HCELL.out (k.toNat - 1) (by omega)
          rw [show b + DsCal.a0 b wd + 7 * ((k.toNat - 1 : Nat) : Int) = b + (DsCal.a0 b wd + (k - 1) * 7) by omega] at hcell
          clear r e
          go_wp2_with (go_at_call 20; refine (refLen_any _ _ _).mono ?_; rintro e w' ⟨rfl, rfl⟩)
          go_ret2
          exact pairQ_of ((congrArg (fun x => DsCal.nres x (DsCal.dlen y m) wd k) HBE.out).trans R.out) hnx
        · have R := hide (DsCal.nres_no (b := b) (size := DsCal.dlen y m) (wd := wd) (k := k) (by rw [e]; have := HC.out; omega))
          clear e
          go_wp2_with (go_at_call 20; refine (refLen_any _ _ _).mono ?_; rintro e w' ⟨rfl, rfl⟩)
          go_ret2
          exact pairQ_of ((congrArg (fun x => DsCal.nres x (DsCal.dlen y m) wd k) HBE.out).trans R.out) hnx
      · have kn : k < 0 := by have := KZ.out; omega
        have e : DsCal.nix b (DsCal.dlen y m) wd k = DsCal.a0 b wd + ((c : Int) + k) * 7 := by rw [DsCal.nix_neg kp, HCN.out]
        by_cases q : (c : Int) + k < 0
        · have R := hide (DsCal.nres_no (b := b) (size := DsCal.dlen y m) (wd := wd) (k := k) (by rw [e]; omega))
          clear e
          go_wp2_with (go_at_call 20; refine (refLen_any _ _ _).mono ?_; rintro e w' ⟨rfl, rfl⟩)
          go_ret2
          exact pairQ_of ((congrArg (fun x => DsCal.nres x (DsCal.dlen y m) wd k) HBE.out).trans R.out) hnx
        · have r := DsCal.nres_yes (b := b) (size := DsCal.dlen y m) (wd := wd) (k := k) (by rw [e]; omega) (by rw [e]; have := HC.out; omega)
          rw [e] at r
          have R := hide r
          have hcell := HCELL.out ((c : Int) + k).toNat (by omega)
          rw [show b + DsCal.a0 b wd + 7 * ((((c : Int) + k).toNat : Nat) : Int) = b + (DsCal.a0 b wd + ((c : Int) + k) * 7) by omega] at hcell
          clear r e
          go_wp2_with (go_at_call 20; refine (refLen_any _ _ _).mono ?_; rintro e w' ⟨rfl, rfl⟩)
          go_ret2
          exact pairQ_of ((congrArg (fun x => DsCal.nres x (DsCal.dlen y m) wd k) HBE.out).trans R.out) hnx
end Go.Proofs.YtbkjcnkjlkjknaaDoor
