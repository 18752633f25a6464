/- Months of package cal: the walks of nth and fiscal. -/
import Derived.Test.YthbfjkdklnffjaaDoorCbA
namespace Go.DsMk
/-- the weeks of a fiscal period -/
def wk (p : Int) (i : Nat) : Int := if i % 3 = 0 then p / 100 else if i % 3 = 1 then p / 10 % 10 else p % 10
/-- the weeks ahead of a fiscal period -/
def cumW (p : Int) : Nat → Int
  | 0 => 0
  | i + 1 => cumW p i + wk p i
/-- the first Monday of the month b of the year y -/
def fm (b y : Int) : Int := DsCal.num y b 1 + DsCal.a0 (DsCal.num y b 1) 0
/-- the first day of a fiscal period -/
def fday (b p y : Int) (i : Nat) : Int := fm b y + cumW p i * 7
def okP (p : Int) : Prop := p = 445 ∨ p = 454 ∨ p = 544
theorem wk_bd {p : Int} (h : okP p) (i : Nat) : 4 ≤ wk p i ∧ wk p i ≤ 5 := by
  unfold wk okP at *
  rcases h with rfl | rfl | rfl <;> (repeat' split) <;> omega
theorem cumW_bd {p : Int} (h : okP p) : ∀ i, 0 ≤ cumW p i ∧ cumW p i ≤ 5 * i
  | 0 => by simp [cumW]
  | i + 1 => by have := cumW_bd h i; have := wk_bd h i; unfold cumW; omega
theorem fm_bd {b y : Int} (h : DsCal.vld y b 1) : 1 ≤ fm b y ∧ fm b y ≤ 3652065 := by
  have := DsCal.num_bd h
  unfold fm DsCal.a0; omega
theorem fm_nres {b y : Int} (h : DsCal.vld y b 1) : DsCal.nres (DsCal.num y b 1) (DsCal.dlen y b) 0 1 = (fm b y, 0) := by
  have hb := DsCal.vld_bd h
  have hd := DsCal.dlen_bd (y := y) (m := b) (by omega) (by omega)
  have e : DsCal.nix (DsCal.num y b 1) (DsCal.dlen y b) 0 1 = DsCal.a0 (DsCal.num y b 1) 0 := by rw [DsCal.nix_pos (by omega)]; omega
  have h0 : 0 ≤ DsCal.a0 (DsCal.num y b 1) 0 ∧ DsCal.a0 (DsCal.num y b 1) 0 < 7 := by unfold DsCal.a0; omega
  rw [DsCal.nres_yes (by rw [e]; omega) (by rw [e]; omega), e]; rfl
/-- the days of a year's first periods, beside d0 -/
def fiI (f s b p y : Int) (d0 : Nat) : Nat → Nat
  | 0 => d0
  | i + 1 => fiI f s b p y d0 i ||| theseN f s [fday b p y i]
/-- .. of j years from lo on -/
def fiY (f s b p lo : Int) : Nat → Nat
  | 0 => 0
  | j + 1 => fiI f s b p (lo + j) (fiY f s b p lo j) 12
def fisN (year f s p b : Int) : Nat := fiY f s b p (max (year - 1) 1) (year - max (year - 1) 1 + 1).toNat
theorem fiI_lt (f s b p y : Int) (d0 : Nat) (h : d0 < 2147483648) : ∀ i, fiI f s b p y d0 i < 2147483648
  | 0 => h
  | i + 1 => Nat.or_lt_two_pow (n := 31) (fiI_lt f s b p y d0 h i) (theseN_lt _ _ _)
theorem fiY_lt (f s b p lo : Int) : ∀ j, fiY f s b p lo j < 2147483648
  | 0 => by simp [fiY]
  | j + 1 => fiI_lt _ _ _ _ _ _ (fiY_lt f s b p lo j) 12
theorem fiI_bit (f s b p y : Int) (d0 i : Nat) : ∀ n, (fiI f s b p y d0 n).testBit i = true ↔ (d0.testBit i = true ∨ ∃ k, k < n ∧ (theseN f s [fday b p y k]).testBit i = true)
  | 0 => by simp [fiI]
  | n + 1 => by
    unfold fiI
    rw [Nat.testBit_or, Bool.or_eq_true, fiI_bit f s b p y d0 i n]
    constructor
    · rintro ((h | ⟨k, h1, h2⟩) | h)
      · exact .inl h
      · exact .inr ⟨k, by omega, h2⟩
      · exact .inr ⟨n, by omega, h⟩
    · rintro (h | ⟨k, h1, h2⟩)
      · exact .inl (.inl h)
      · by_cases e : k = n
        · subst e; exact .inr h2
        · exact .inl (.inr ⟨k, by omega, h2⟩)
theorem fiY_bit (f s b p lo : Int) (i : Nat) : ∀ n, (fiY f s b p lo n).testBit i = true ↔ ∃ j k : Nat, j < n ∧ k < 12 ∧ (theseN f s [fday b p (lo + j) k]).testBit i = true
  | 0 => by simp [fiY]
  | n + 1 => by
    unfold fiY
    rw [fiI_bit, fiY_bit f s b p lo i n]
    constructor
    · rintro (⟨j, k, h1, h2, h3⟩ | ⟨k, h1, h2⟩)
      · exact ⟨j, k, by omega, h2, h3⟩
      · exact ⟨n, k, by omega, h1, h2⟩
    · rintro ⟨j, k, h1, h2, h3⟩
      by_cases e : j = n
      · subst e; exact .inr ⟨k, h2, h3⟩
      · exact .inl ⟨j, k, by omega, h2, h3⟩
end Go.DsMk
namespace Go.Proofs.YthbfjkdklnffjaaDoor
open Go.ChangeShapes Go.WideShapes Go.ChangeAt Go.RowKit Go.DsMem Go.DsMk
set_option linter.unusedVariables false

theorem rdi_one {w : World} (x : Int) (t : TypeId) : RdI (w.alloc (.cells #[.int .i64 x] t)) (.slice (some ⟨w.heap.size, 0, none⟩) 1 1) [x] := RdI.new1 w x t
/-- the month's value as the walk reads it back -/
theorem moV_eq (y m f s : Int) : moV y m f s = .agg #[.int .i64 y, .int .i64 m, .int .i64 f, .int .i64 s] := rfl

theorem nres_bd {y m wd k : Int} (h : DsCal.vld y m 1) : 0 ≤ (DsCal.nres (DsCal.num y m 1) (DsCal.dlen y m) wd k).1 ∧ (DsCal.nres (DsCal.num y m 1) (DsCal.dlen y m) wd k).1 ≤ 3652100 := by
  have h1 := DsCal.num_bd h
  have h2 := DsCal.vld_bd h
  have h3 := DsCal.dlen_bd (y := y) (m := m) (by omega) (by omega)
  unfold DsCal.nres
  split <;> simp <;> omega

set_option maxHeartbeats 2000000 in
set_option maxRecDepth 20000 in
/-- cal.month.nth -/
theorem Gc.nthDays {W w : World} (h : Gc W w) (y m f s wd k : Int) (hm : IsMo y m f s) (ha : DsCal.okA wd k) :
    Calls Tryd.prog 38 #[moV y m f s, .int .i64 wd, .int .i64 k] w fun e w' => e = .returned (.int .u32 (theseN f s [(DsCal.nres f s wd k).1])) ∧ Gc W w' := by
  obtain ⟨b1, b2, b3, b4, b5, b6, b7, b8⟩ := isMo_bd hm
  have HG := hide h
  obtain ⟨hv, hf, hs⟩ := hm
  have HV := hide hv
  have HA := hide ha
  have hnb := nres_bd (wd := wd) (k := k) hv
  rw [← hf, ← hs] at hnb
  have HFS : Hid (DsCal.nres (DsCal.num y m 1) (DsCal.dlen y m) wd k = DsCal.nres f s wd k) := by show _ = _; rw [hf, hs]
  clear h hv hf hs ha
  unfold moV
  go_enter Tryd.func38, Tryd.ntmps38
  go_wp2_with fail
  obtain ⟨wA, hwA⟩ : ∃ wA, wA = w.alloc (.cells #[.int .i64 y, .int .i64 m, .int .i64 f, .int .i64 s] 67) := ⟨_, rfl⟩
  have hblk : wA.heap[w.heap.size]? = some (.cells #[.int .i64 y, .int .i64 m, .int .i64 f, .int .i64 s] 67 (0, 0)) := by rw [hwA]; exact heap_alloc_new w _
  have HGA : Hid (Gc W wA) := by rw [hwA]; exact HG.out.alloc _
  rw [← hwA]
  have c0 : wA.cell? ⟨w.heap.size, 0, none⟩ = some (.int .i64 y) := by rw [cell_of hblk]; rfl
  have c1 : wA.cell? ⟨w.heap.size, 1, none⟩ = some (.int .i64 m) := by rw [cell_of hblk]; rfl
  have c2 : wA.cell? ⟨w.heap.size, 2, none⟩ = some (.int .i64 f) := by rw [cell_of hblk]; rfl
  have c3 : wA.cell? ⟨w.heap.size, 3, none⟩ = some (.int .i64 s) := by rw [cell_of hblk]; rfl
  clear hwA hblk
  refine (Dt.nth_yes y m wd k _ HGA.out.lens HV.out HA.out).mono ?_
  rw [HFS.out]
  rintro e w1 ⟨rfl, rfl⟩
  generalize hde : (DsCal.nres f s wd k).1 = d at *
  have HDE := hide hde
  clear hde
  go_wp2_with fail
  refine (Gc.these (HGA.out.alloc _) y m f s [d] _ (rdi_one d _) (by simp) (by intro k hk; simp at hk; subst hk; omega) b5 b6 (by omega) b8).mono ?_
  rintro e w2 ⟨rfl, hg⟩
  have HG2 := hide hg
  clear hg
  go_wp2
  go_ret
  exact ⟨ret_int (by rw [HDE.out]), HG2.out⟩
end Go.Proofs.YthbfjkdklnffjaaDoor
