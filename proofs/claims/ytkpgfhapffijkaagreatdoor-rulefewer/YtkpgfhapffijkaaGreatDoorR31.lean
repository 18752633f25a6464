/- Months of package cal: the walks of monthOf, place, weekdays, these. -/
import Derived.Test.YtkpgfhapffijkaaGreatDoorR28
import Derived.Test.YtkpgfhapffijkaaGreatDoorR30
import Derived.Deep.RegionHeld3
namespace Go.DsMk
/-- a month: its year and number, its first day, how many it has -/
def IsMo (y m f s : Int) : Prop := DsCal.vld y m 1 ∧ f = DsCal.num y m 1 ∧ s = DsCal.dlen y m
/-- those of some days that are in the month -/
def placesOf (f : Int) (l : List Int) : List Int := (l.filter fun d => decide (f ≤ d)).map fun d => d - f + 1
def theseN (f s : Int) (l : List Int) : Nat := daysN s (placesOf f l)
theorem placesOf_snoc (f : Int) (l : List Int) (d : Int) : placesOf f (l ++ [d]) = placesOf f l ++ if f ≤ d then [d - f + 1] else [] := by
  unfold placesOf
  rw [List.filter_append, List.map_append]
  by_cases h : f ≤ d <;> simp [h]
theorem placesOf_len (f : Int) (l : List Int) : (placesOf f l).length ≤ l.length := by
  unfold placesOf; rw [List.length_map]; exact List.length_filter_le _ _
theorem placesOf_mem (f : Int) (l : List Int) (k : Int) : k ∈ placesOf f l ↔ ∃ d ∈ l, f ≤ d ∧ k = d - f + 1 := by
  unfold placesOf
  rw [List.mem_map]
  constructor
  · rintro ⟨d, hd, rfl⟩
    rw [List.mem_filter, decide_eq_true_eq] at hd
    exact ⟨d, hd.1, hd.2, rfl⟩
  · rintro ⟨d, hd, hf, rfl⟩
    exact ⟨d, by rw [List.mem_filter, decide_eq_true_eq]; exact ⟨hd, hf⟩, rfl⟩
theorem theseN_lt (f s : Int) (l : List Int) : theseN f s l < 2147483648 := daysN_lt _ _
end Go.DsMk
namespace Go.Proofs.YtkpgfhapffijkaaGreatDoor
open Go.ChangeShapes Go.WideShapes Go.ChangeAt Go.RowKit Go.DsMem Go.DsMk
set_option linter.unusedVariables false
/-- package cal's table of shapes -/
def cshpRow (k : Nat) : List Value := match k with
  | 1 => [.int .i64 1, .int .i64 1, .int .i64 0, .int .i64 0, .bool false]
  | 2 => [.int .i64 0, .int .i64 64, .int .i64 0, .int .i64 0, .bool false]
  | 3 => [.int .i64 0, .int .i64 64, .int .i64 0, .int .i64 0, .bool false]
  | 4 => [.int .i64 2, .int .i64 2, .int .i64 0, .int .i64 0, .bool false]
  | 5 => [.int .i64 1, .int .i64 1, .int .i64 0, .int .i64 0, .bool true]
  | 6 => [.int .i64 2, .int .i64 2, .int .i64 0, .int .i64 0, .bool false]
  | 7 => [.int .i64 0, .int .i64 0, .int .i64 1, .int .i64 8, .bool false]
  | 8 => [.int .i64 0, .int .i64 0, .int .i64 1, .int .i64 8, .bool false]
  | 9 => [.int .i64 0, .int .i64 0, .int .i64 1, .int .i64 1, .bool false]
  | 10 => [.int .i64 0, .int .i64 0, .int .i64 0, .int .i64 0, .bool true]
  | _ => [.int .i64 0, .int .i64 0, .int .i64 0, .int .i64 0, .bool false]
def TabS (w : World) : Prop := ∀ k i v, k < 11 → (cshpRow k)[i]? = some v → w.cell? ⟨4, k * 5 + i, none⟩ = some v
/-- out of W, with its three tables, has come w: nothing old has turned -/
structure Gc (W w : World) : Prop where
  bits : TabT W
  len : Dt.Tab W
  shp : TabS W
  below : Below W.heap.size W w
theorem Gc.gd {W w : World} (h : Gc W w) : Gd W w := ⟨h.bits, h.below⟩
theorem Gc.more {W w w' : World} (h : Gc W w) (hb : Below w.heap.size w w') : Gc W w' := ⟨h.bits, h.len, h.shp, h.below.trans (hb.mono h.below.size)⟩
theorem Gc.alloc {W w : World} (h : Gc W w) (o : Obj) : Gc W (w.alloc o) := h.more ((Below.refl _ _).alloc (Nat.le_refl _) o)
theorem Gc.drew {W w : World} (h : Gc W w) : Gc W w.drew := h.more (Below.refl _ _).drew
theorem Gc.drewN {W w : World} (h : Gc W w) (n : Nat) : Gc W (w.drewN n) := h.more (below_drewN _ _)
theorem Gc.lens {W w : World} (h : Gc W w) : Dt.Tab w := ⟨Nat.lt_of_lt_of_le h.len.1 h.below.size, fun m h1 h2 => Below.keeps h.below (Nat.le_refl _) (h.len.2 m h1 h2)⟩
theorem Gc.shps {W w : World} (h : Gc W w) : TabS w := fun k i v hk hv => Below.keeps h.below (Nat.le_refl _) (h.shp k i v hk hv)
theorem Gc.here {W w : World} (h : Gc W w) : Gc w w := ⟨h.gd.tabT, h.lens, h.shps, Below.refl _ _⟩
def moV (y m f s : Int) : Value := .agg #[.int .i64 y, .int .i64 m, .int .i64 f, .int .i64 s]
theorem isMo_bd {y m f s : Int} (h : IsMo y m f s) : 1 ≤ y ∧ y ≤ 9999 ∧ 1 ≤ m ∧ m ≤ 12 ∧ 1 ≤ f ∧ f ≤ 3652059 ∧ 28 ≤ s ∧ s ≤ 31 := by
  obtain ⟨hv, rfl, rfl⟩ := h
  have h1 := DsCal.num_bd hv
  have h2 := DsCal.vld_bd hv
  have h3 := DsCal.dlen_bd (y := y) (m := m) (by omega) (by omega)
  omega
/-- what monthOf answers -/
def MoOf (day : Int) (e : Ending) : Prop := ∃ y m f s, e = .returned (moV y m f s) ∧ IsMo y m f s ∧ f ≤ day ∧ day < f + s
set_option maxHeartbeats 1000000 in
/-- cal.monthOf -/
theorem Gc.monthOf {W w : World} (h : Gc W w) (day : Int) (h1 : 1 ≤ day) (h2 : day ≤ 3652059) :
    Calls Tryz.prog 126 #[.int .i64 day] w fun e w' => MoOf day e ∧ Gc W w' := by
  have HG := hide h
  have HT := hide (h.alloc (.cells #[.int .i64 0, .int .i64 0, .int .i64 0, .int .i64 0] 222)).lens
  clear h
  go_enter Tryz.func126, Tryz.ntmps126
  go_wp2_with fail
  refine (Dt.date_yes day _ (by exact HT.out) h1 h2).mono ?_
  rintro e w1 ⟨y, m, d, rfl, hv, hn, rfl⟩
  have hb := DsCal.vld_bd hv
  have hd31 := hv.2.2
  have hnum : day - d + 1 = DsCal.num y m 1 := by rw [← hn]; unfold DsCal.num; omega
  have HM : Hid (IsMo y m (day - d + 1) (DsCal.dlen y m) ∧ day - d + 1 ≤ day ∧ day < day - d + 1 + DsCal.dlen y m) := ⟨⟨⟨hb.1, hb.2.1, by omega, by have := DsCal.dlen_bd (y := y) (m := m) (by omega) (by omega); omega⟩, hnum, rfl⟩, by omega, by omega⟩
  have hd1 : 1 ≤ d := by omega
  have hd2 : d ≤ 31 := by omega
  clear hv hn hb hd31 hnum
  go_wp2_with fail
  refine (Dt.len_any y m _ (by exact HT.out)).mono ?_
  rintro e w2 ⟨rfl, rfl⟩
  go_wp2
  refine bodyPost_ret (v := moV y m (day - d + 1) (DsCal.dlen y m)) (by simp [results, Tryz.results126, go_sem, moV]) rfl ⟨⟨y, m, _, _, rfl, HM.out⟩, ?_⟩
  exact HG.out.more ((Below.refl _ _).alloc (Nat.le_refl _) _)
set_option maxHeartbeats 1000000 in
/-- cal.month.place -/
theorem Gc.place {W w : World} (h : Gc W w) (y m f s day : Int) (h1 : -10000000 ≤ day) (h2 : day ≤ 10000000) (h3 : 1 ≤ f) (h4 : f ≤ 3652059) :
    Calls Tryz.prog 129 #[moV y m f s, .int .i64 day] w fun e w' => e = .returned (.int .i64 (day - f + 1)) ∧ Gc W w' := by
  have HG := hide h
  clear h
  unfold moV
  go_enter Tryz.func129, Tryz.ntmps129
  go_wp2
  go_ret
  exact ⟨rfl, HG.out.alloc _⟩
set_option maxHeartbeats 1000000 in
/-- cal.month.weekdays -/
theorem Gc.weekdays {W w : World} (h : Gc W w) (y m f s : Int) (bits : Nat) (hb : bits < 128) (h3 : 1 ≤ f) (h4 : f ≤ 3652059) :
    Calls Tryz.prog 150 #[moV y m f s, .int .i64 bits] w fun e w' => e = .returned (.int .u32 (weekN bits ((f - 1) % 7) s)) ∧ Gc W w' := by
  have HG := hide (h.alloc (.cells #[.int .i64 y, .int .i64 m, .int .i64 f, .int .i64 s] 222))
  clear h
  unfold moV
  have hc : IntKind.u8.wrap (bits : Int) = (bits : Int) := by rw [IntKind.wrap_u8]; omega
  go_enter Tryz.func150, Tryz.ntmps150
  go_wp2_with fail
  refine (Dt.weekday_yes f _ h3 h4).mono ?_
  rintro e w1 ⟨rfl, rfl⟩
  go_wp2_with fail
  refine (week_any bits ((f - 1) % 7) s _ (by omega) (by omega) (by omega)).mono ?_
  rintro e w2 ⟨rfl, rfl⟩
  go_wp2
  go_ret
  exact ⟨rfl, HG.out⟩
set_option maxHeartbeats 2000000 in
set_option maxRecDepth 20000 in
/-- cal.month.these -/
theorem Gc.these {W w : World} (h : Gc W w) (y m f s : Int) (l : List Int) (sl : Value) (hr : RdI w sl l) (hl : l.length ≤ 1000000) (hk : ∀ k ∈ l, -10000000 ≤ k ∧ k ≤ 10000000) (h3 : 1 ≤ f) (h4 : f ≤ 3652059) (hs1 : 0 ≤ s) (hs2 : s ≤ 31) :
    Calls Tryz.prog 151 #[moV y m f s, sl] w fun e w' => e = .returned (.int .u32 (theseN f s l)) ∧ Gc W w' := by
  have HG := hide h
  have HK := hide hk
  have HRD := hide hr
  obtain ⟨ao, cap, rfl, hlc, hnil, -⟩ := hr
  clear h hk
  have HPB : Hid (∀ k ∈ placesOf f l, -9223372036854775808 ≤ k ∧ k ≤ 9223372036854775807) := fun k hk => by
    obtain ⟨d, hd, h1, rfl⟩ := (placesOf_mem f l k).1 hk
    have := HK.out d hd
    omega
  obtain ⟨i0, hi, hz0, hz1, hz2⟩ := info_parts info64
  unfold moV
  go_enter Tryz.func151, Tryz.ntmps151
  go_wp2
  obtain ⟨wA, hwA⟩ : ∃ wA, wA = w.alloc (.cells #[.int .i64 y, .int .i64 m, .int .i64 f, .int .i64 s] 222) := ⟨_, rfl⟩
  have hblk : wA.heap[w.heap.size]? = some (.cells #[.int .i64 y, .int .i64 m, .int .i64 f, .int .i64 s] 222 (0, 0)) := by rw [hwA]; exact heap_alloc_new w _
  have HB : Hid (Below w.heap.size w wA) := by rw [hwA]; exact (Below.refl _ _).alloc (Nat.le_refl _) _
  have HRA := hide (HRD.out.below HB.out)
  have HGA : Hid (Gc wA wA) := (HG.out.more HB.out).here
  rw [← hwA]
  have HCB := hide hblk
  clear hwA hblk
  go_loopw [5, 10] (fun u t wr => ∃ i : Nat, i ≤ l.length ∧ t = .int .i64 i ∧ wr.ownsRow wA.heap.size 2 1 u (placesOf f (l.take i)).length (i64s (placesOf f (l.take i))) ∧ Gc wA wr) (fun _ t _ => l.length - (intOf t).toNat)
  case atStart => exact ⟨0, Nat.zero_le _, rfl, World.ownsRow_nil _ _ _ _, HGA.out⟩
  case round =>
    obtain ⟨i, hi', rfl, hown, hg⟩ := hrel
    obtain ⟨uo, ucap, rfl, -⟩ := own_shape hown
    have hple := placesOf_len f (l.take i)
    rw [List.length_take] at hple
    have hblk : wr.heap[w.heap.size]? = some (.cells #[.int .i64 y, .int .i64 m, .int .i64 f, .int .i64 s] 222 (0, 0)) := by rw [hg.below.block _ (block_lt HCB.out)]; exact HCB.out
    have c0 : wr.cell? ⟨w.heap.size, 0, none⟩ = some (.int .i64 y) := by rw [cell_of hblk]; rfl
    have c1 : wr.cell? ⟨w.heap.size, 1, none⟩ = some (.int .i64 m) := by rw [cell_of hblk]; rfl
    have c2 : wr.cell? ⟨w.heap.size, 2, none⟩ = some (.int .i64 f) := by rw [cell_of hblk]; rfl
    have c3 : wr.cell? ⟨w.heap.size, 3, none⟩ = some (.int .i64 s) := by rw [cell_of hblk]; rfl
    clear hblk
    by_cases hlt : i < l.length
    · obtain ⟨ao', cap', hv, -, -, hrd⟩ := HRA.out
      simp only [Value.slice.injEq] at hv
      obtain ⟨rfl, -, rfl⟩ := hv
      obtain ⟨a, rfl⟩ : ∃ a, ao = some a := by
        cases ao with
        | none => have := hnil rfl; omega
        | some a => exact ⟨a, rfl⟩
      have hcl := Below.keeps hg.below (Nat.le_refl _) (hrd a rfl i l[i] (List.getElem?_eq_getElem hlt))
      clear hrd
      obtain ⟨hx1, hx2⟩ := HK.out l[i] (List.getElem_mem hlt)
      have HS : Hid (placesOf f (l.take (i + 1)) = placesOf f (l.take i) ++ if f ≤ l[i] then [l[i] - f + 1] else []) := by show _ = _; rw [List.take_succ_eq_append_getElem hlt, placesOf_snoc]
      generalize l[i] = x at *
      generalize hqe : placesOf f (l.take i) = q at *
      have HQ := hide hqe
      have HO := hide hown
      have HGr := hide hg
      clear hqe hown hg
      by_cases hfx : f ≤ x
      · go_wp2_with fail
        refine (Gc.place HGr.out.here y m f s x hx1 hx2 h3 h4).mono ?_
        rintro e w1 ⟨rfl, g1⟩
        have hown := own_below HO.out g1.below
        have hnx := (HGr.out.more g1.below).below
        have HG1 := hide (HGr.out.more g1.below)
        clear g1
        go_wp2_with (at_builtin; refine Hid.out ?_)
        refine hide ?_
        refine wpList_append_own _ rfl _ _ 46 rfl wA.heap.size 2 i0 (.int .i64 0) 1 8 Tryz.underlying46 hi hz0 hz1 hz2 rfl (by decide) _ _ _ rfl (hown.alloc _) ⟨_, 0, none⟩ 1 1 [.int .i64 (x - f + 1)] rfl rfl (cell_one_new _ _ _) (one_i64 _) (by unfold maxLen; omega) (by omega) (by have := hnx.size; simp; omega) ?_
        intro v' w2 hown' hgrow _
        obtain ⟨R1, R2⟩ := rel_push64 hnx.size hown hnx hown' hgrow
        have HR1 := hide R1
        have HR2 : Hid (Gc wA w2) := ⟨HGA.out.bits, HGA.out.len, HGA.out.shp, R2⟩
        clear hown' hgrow hown hnx R1 R2
        go_wp2
        go_roundw
        case rel =>
          refine ⟨i + 1, by omega, by go_num, ?_, HR2.out⟩
          rw [HS.out, if_pos hfx, List.length_append]
          exact HR1.out
        case measure => simp [intOf]; omega
      · go_wp2
        go_roundw
        case rel => exact ⟨i + 1, by omega, by go_num, by rw [HS.out, if_neg hfx, List.append_nil]; exact HO.out, HGr.out⟩
        case measure => simp [intOf]; omega
    · have HE : Hid (placesOf f (l.take i) = placesOf f l) := by show _ = _; rw [List.take_of_length_le (by omega)]
      have HO := hide (RdI.own hown)
      have HGr := hide hg
      have hpl := placesOf_len f l
      clear hown hg
      go_wp2_with fail
      refine (mlist_any (placesOf f l) s _ _ (by have := HO.out; rw [HE.out] at this ⊢; exact this) (by omega) (by omega) (by omega) HPB.out).mono ?_
      rintro e w1 ⟨rfl, rfl⟩
      go_wp2
      go_ret
      exact ⟨rfl, ⟨HG.out.bits, HG.out.len, HG.out.shp, ((HG.out.more HB.out).more HGr.out.below).below⟩⟩
end Go.Proofs.YtkpgfhapffijkaaGreatDoor

/- Months of package cal: the walks of nth and fiscal. -/
namespace Go.DsMk
/-- the weeks of a fiscal period -/
def wk (p : Int) (i : Nat) : Int := if i % 3 = 0 then p / 100 else if i % 3 = 1 then p / 10 % 10 else p % 10
/-- the weeks ahead of a fiscal period -/
def cumW (p : Int) : Nat → Int
  | 0 => 0
  | i + 1 => cumW p i + wk p i
/-- the first Monday of the month b of the year y -/
def fm (b y : Int) : Int := DsCal.num y b 1 + DsCal.a0 (DsCal.num y b 1) 0
/-- the first day of a fiscal period -/
def fday (b p y : Int) (i : Nat) : Int := fm b y + cumW p i * 7
def okP (p : Int) : Prop := p = 445 ∨ p = 454 ∨ p = 544
theorem wk_bd {p : Int} (h : okP p) (i : Nat) : 4 ≤ wk p i ∧ wk p i ≤ 5 := by
  unfold wk okP at *
  rcases h with rfl | rfl | rfl <;> (repeat' split) <;> omega
theorem cumW_bd {p : Int} (h : okP p) : ∀ i, 0 ≤ cumW p i ∧ cumW p i ≤ 5 * i
  | 0 => by simp [cumW]
  | i + 1 => by have := cumW_bd h i; have := wk_bd h i; unfold cumW; omega
theorem fm_bd {b y : Int} (h : DsCal.vld y b 1) : 1 ≤ fm b y ∧ fm b y ≤ 3652065 := by
  have := DsCal.num_bd h
  unfold fm DsCal.a0; omega
theorem fm_nres {b y : Int} (h : DsCal.vld y b 1) : DsCal.nres (DsCal.num y b 1) (DsCal.dlen y b) 0 1 = (fm b y, 0) := by
  have hb := DsCal.vld_bd h
  have hd := DsCal.dlen_bd (y := y) (m := b) (by omega) (by omega)
  have e : DsCal.nix (DsCal.num y b 1) (DsCal.dlen y b) 0 1 = DsCal.a0 (DsCal.num y b 1) 0 := by rw [DsCal.nix_pos (by omega)]; omega
  have h0 : 0 ≤ DsCal.a0 (DsCal.num y b 1) 0 ∧ DsCal.a0 (DsCal.num y b 1) 0 < 7 := by unfold DsCal.a0; omega
  rw [DsCal.nres_yes (by rw [e]; omega) (by rw [e]; omega), e]; rfl
/-- the days of a year's first periods, beside d0 -/
def fiI (f s b p y : Int) (d0 : Nat) : Nat → Nat
  | 0 => d0
  | i + 1 => fiI f s b p y d0 i ||| theseN f s [fday b p y i]
/-- .. of j years from lo on -/
def fiY (f s b p lo : Int) : Nat → Nat
  | 0 => 0
  | j + 1 => fiI f s b p (lo + j) (fiY f s b p lo j) 12
def fisN (year f s p b : Int) : Nat := fiY f s b p (max (year - 1) 1) (year - max (year - 1) 1 + 1).toNat
theorem fiI_lt (f s b p y : Int) (d0 : Nat) (h : d0 < 2147483648) : ∀ i, fiI f s b p y d0 i < 2147483648
  | 0 => h
  | i + 1 => Nat.or_lt_two_pow (n := 31) (fiI_lt f s b p y d0 h i) (theseN_lt _ _ _)
theorem fiY_lt (f s b p lo : Int) : ∀ j, fiY f s b p lo j < 2147483648
  | 0 => by simp [fiY]
  | j + 1 => fiI_lt _ _ _ _ _ _ (fiY_lt f s b p lo j) 12
end Go.DsMk
namespace Go.Proofs.YtkpgfhapffijkaaGreatDoor
open Go.ChangeShapes Go.WideShapes Go.ChangeAt Go.RowKit Go.DsMem Go.DsMk
set_option linter.unusedVariables false
theorem rdi_one {w : World} (x : Int) (t : TypeId) : RdI (w.alloc (.cells #[.int .i64 x] t)) (.slice (some ⟨w.heap.size, 0, none⟩) 1 1) [x] := RdI.new1 w x t
theorem nres_bd {y m wd k : Int} (h : DsCal.vld y m 1) : 0 ≤ (DsCal.nres (DsCal.num y m 1) (DsCal.dlen y m) wd k).1 ∧ (DsCal.nres (DsCal.num y m 1) (DsCal.dlen y m) wd k).1 ≤ 3652100 := by
  have h1 := DsCal.num_bd h
  have h2 := DsCal.vld_bd h
  have h3 := DsCal.dlen_bd (y := y) (m := m) (by omega) (by omega)
  unfold DsCal.nres
  split <;> simp <;> omega
set_option maxHeartbeats 2000000 in
set_option maxRecDepth 20000 in
/-- cal.month.nth -/
theorem Gc.nthDays {W w : World} (h : Gc W w) (y m f s wd k : Int) (hm : IsMo y m f s) (ha : DsCal.okA wd k) :
    Calls Tryz.prog 153 #[moV y m f s, .int .i64 wd, .int .i64 k] w fun e w' => e = .returned (.int .u32 (theseN f s [(DsCal.nres f s wd k).1])) ∧ Gc W w' := by
  obtain ⟨b1, b2, b3, b4, b5, b6, b7, b8⟩ := isMo_bd hm
  have HG := hide h
  obtain ⟨hv, hf, hs⟩ := hm
  have HV := hide hv
  have HA := hide ha
  have hnb := nres_bd (wd := wd) (k := k) hv
  rw [← hf, ← hs] at hnb
  have HFS : Hid (DsCal.nres (DsCal.num y m 1) (DsCal.dlen y m) wd k = DsCal.nres f s wd k) := by show _ = _; rw [hf, hs]
  clear h hv hf hs ha
  unfold moV
  go_enter Tryz.func153, Tryz.ntmps153
  go_wp2_with fail
  obtain ⟨wA, hwA⟩ : ∃ wA, wA = w.alloc (.cells #[.int .i64 y, .int .i64 m, .int .i64 f, .int .i64 s] 222) := ⟨_, rfl⟩
  have hblk : wA.heap[w.heap.size]? = some (.cells #[.int .i64 y, .int .i64 m, .int .i64 f, .int .i64 s] 222 (0, 0)) := by rw [hwA]; exact heap_alloc_new w _
  have HGA : Hid (Gc W wA) := by rw [hwA]; exact HG.out.alloc _
  rw [← hwA]
  have c0 : wA.cell? ⟨w.heap.size, 0, none⟩ = some (.int .i64 y) := by rw [cell_of hblk]; rfl
  have c1 : wA.cell? ⟨w.heap.size, 1, none⟩ = some (.int .i64 m) := by rw [cell_of hblk]; rfl
  have c2 : wA.cell? ⟨w.heap.size, 2, none⟩ = some (.int .i64 f) := by rw [cell_of hblk]; rfl
  have c3 : wA.cell? ⟨w.heap.size, 3, none⟩ = some (.int .i64 s) := by rw [cell_of hblk]; rfl
  clear hwA hblk
  refine (Dt.nth_yes y m wd k _ HGA.out.lens HV.out HA.out).mono ?_
  rw [HFS.out]
  rintro e w1 ⟨rfl, rfl⟩
  generalize hde : (DsCal.nres f s wd k).1 = d at *
  have HDE := hide hde
  clear hde
  go_wp2_with fail
  refine (Gc.these (HGA.out.alloc _) y m f s [d] _ (rdi_one d _) (by simp) (by intro k hk; simp at hk; subst hk; omega) b5 b6 (by omega) b8).mono ?_
  rintro e w2 ⟨rfl, hg⟩
  have HG2 := hide hg
  clear hg
  go_wp2
  go_ret
  exact ⟨ret_int (by rw [HDE.out]), HG2.out⟩
end Go.Proofs.YtkpgfhapffijkaaGreatDoor

/- The walk of package cal's month.fiscal. -/
namespace Go.Proofs.YtkpgfhapffijkaaGreatDoor
open Go.ChangeShapes Go.WideShapes Go.ChangeAt Go.RowKit Go.DsMem Go.DsMk
set_option linter.unusedVariables false
theorem jan_vld {y b : Int} (h1 : 1 ≤ y) (h2 : y ≤ 9999) (h3 : 1 ≤ b) (h4 : b ≤ 12) : DsCal.vld y b 1 := ⟨h1, h2, by omega, by have := DsCal.dlen_bd (y := y) (m := b) h3 h4; omega⟩
theorem fday_bd {b p y : Int} {i : Nat} (h : DsCal.vld y b 1) (hp : okP p) (hi : i ≤ 12) : 1 ≤ fday b p y i ∧ fday b p y i ≤ 3652500 := by
  have h1 := fm_bd h
  have h2 := cumW_bd hp i
  unfold fday; omega
theorem fday_succ (b p y : Int) (i : Nat) : fday b p y (i + 1) = fday b p y i + wk p i * 7 := by unfold fday; rw [show cumW p (i + 1) = cumW p i + wk p i from rfl]; omega
set_option maxHeartbeats 4000000 in
set_option maxRecDepth 20000 in
/-- cal.month.fiscal -/
theorem Gc.fiscal {W w : World} (h : Gc W w) (y m f s p b : Int) (hm : IsMo y m f s) (hp : okP p) (hb1 : 1 ≤ b) (hb2 : b ≤ 12) :
    Calls Tryz.prog 156 #[moV y m f s, .int .i64 p, .int .i64 b] w fun e w' => e = .returned (.int .u32 (fisN y f s p b)) ∧ Gc W w' := by
  obtain ⟨b1, b2, b3, b4, b5, b6, b7, b8⟩ := isMo_bd hm
  have HG := hide h
  have HP := hide hp
  have hp0 : 0 ≤ p ∧ p ≤ 1000 := by unfold okP at hp; omega
  obtain ⟨hp0, hp1⟩ := hp0
  obtain ⟨k0, hk0⟩ : ∃ k0, p / 100 = k0 := ⟨_, rfl⟩
  obtain ⟨k1, hk1⟩ : ∃ k1, p / 10 % 10 = k1 := ⟨_, rfl⟩
  obtain ⟨k2, hk2⟩ : ∃ k2, p % 10 = k2 := ⟨_, rfl⟩
  have WK : Hid (∀ i : Nat, wk p i = if i % 3 = 0 then k0 else if i % 3 = 1 then k1 else k2) := fun i => by unfold wk; rw [hk0, hk1, hk2]
  have WB : Hid (∀ i : Nat, 4 ≤ wk p i ∧ wk p i ≤ 5) := wk_bd hp
  obtain ⟨lo, hlo⟩ : ∃ lo, max (y - 1) 1 = lo := ⟨_, rfl⟩
  have hlo1 : 1 ≤ lo := by omega
  have hlo2 : lo ≤ y := by omega
  have hlo3 : y ≤ lo + 1 := by omega
  have HFN : Hid (fisN y f s p b = fiY f s b p lo (y - lo + 1).toNat) := by show _ = _; unfold fisN; rw [hlo]
  clear h hm hp
  unfold moV
  go_enter Tryz.func156, Tryz.ntmps156
  go_wp2
  obtain ⟨wB, hwB⟩ : ∃ wB, wB = w.alloc (.cells #[.int .i64 y, .int .i64 m, .int .i64 f, .int .i64 s] 222) := ⟨_, rfl⟩
  have hblk : wB.heap[w.heap.size]? = some (.cells #[.int .i64 y, .int .i64 m, .int .i64 f, .int .i64 s] 222 (0, 0)) := by rw [hwB]; exact heap_alloc_new w _
  have HZ : Hid (w.heap.size + 1 = wB.heap.size) := by rw [hwB]; show _ = _; simp
  have HGB : Hid (Gc W wB) := by rw [hwB]; exact HG.out.alloc _
  rw [← hwB, HZ.out]
  clear hwB
  obtain ⟨wA, hwA⟩ : ∃ wA, wA = wB.alloc (.cells #[.int .i64 k0, .int .i64 k1, .int .i64 k2] 282) := ⟨_, rfl⟩
  have hblk3 : wA.heap[wB.heap.size]? = some (.cells #[.int .i64 k0, .int .i64 k1, .int .i64 k2] 282 (0, 0)) := by rw [hwA]; exact heap_alloc_new wB _
  have hblk2 : wA.heap[w.heap.size]? = some (.cells #[.int .i64 y, .int .i64 m, .int .i64 f, .int .i64 s] 222 (0, 0)) := by rw [hwA]; exact heap_keep hblk
  have HGA : Hid (Gc W wA) := by rw [hwA]; exact HGB.out.alloc _
  rw [← hwA]
  clear hwA hblk
  have HB2 := hide hblk2
  have HB3 := hide hblk3
  clear hblk2 hblk3
  generalize wB.heap.size = p7 at *
  generalize w.heap.size = p3 at *
  have HGW : Hid (Gc wA wA) := HGA.out.here
  rw [hk0, hk1, hk2]
  clear hk0 hk1 hk2 hlo
  go_loopw [8, 9] (fun d t wr => ∃ j : Nat, (j : Int) ≤ y - lo + 1 ∧ t = .int .i64 (lo + j) ∧ d = .int .u32 (fiY f s b p lo j) ∧ Gc wA wr) (fun _ t _ => (y + 1 - intOf t).toNat)
  case atStart => exact ⟨0, by omega, by simp, rfl, HGW.out⟩
  case round =>
    obtain ⟨j, hj, rfl, rfl, hg⟩ := hrel
    have hblk : wr.heap[p3]? = some (.cells #[.int .i64 y, .int .i64 m, .int .i64 f, .int .i64 s] 222 (0, 0)) := by rw [hg.below.block _ (block_lt HB2.out)]; exact HB2.out
    have c0 : wr.cell? ⟨p3, 0, none⟩ = some (.int .i64 y) := by rw [cell_of hblk]; rfl
    have HGr := hide hg
    clear hg hblk
    by_cases hlt : lo + j ≤ y
    · have HV : Hid (DsCal.vld (lo + j) b 1) := jan_vld (by omega) (by omega) hb1 hb2
      have HNR := hide (fm_nres HV.out)
      have hfm := fm_bd HV.out
      have HF0 : Hid (fday b p (lo + j) 0 = fm b (lo + j)) := by show _ = _; unfold fday; simp [cumW]
      have HFB : Hid (∀ i : Nat, i ≤ 12 → 1 ≤ fday b p (lo + j) i ∧ fday b p (lo + j) i ≤ 3652500) := fun i hi => fday_bd HV.out HP.out hi
      go_wp2_with fail
      refine (Dt.nth_yes (lo + j) b 0 1 _ HGr.out.lens HV.out ⟨by omega, by omega, by omega, by omega, by omega⟩).mono ?_
      rw [HNR.out]
      rintro e w1 ⟨rfl, rfl⟩
      go_wp2
      go_loopw [8, 10, 37] (fun d t i wz => ∃ k : Nat, k ≤ 12 ∧ i = .int .i64 k ∧ t = .int .i64 (fday b p (lo + j) k) ∧ d = .int .u32 (fiI f s b p (lo + j) (fiY f s b p lo j) k) ∧ Gc wA wz) (fun _ _ i _ => 12 - (intOf i).toNat)
      case atStart => exact ⟨0, by omega, rfl, by rw [HF0.out], rfl, HGr.out⟩
      case round =>
        obtain ⟨k, hk, rfl, rfl, rfl, hg2⟩ := hrel
        have hblk : wr.heap[p3]? = some (.cells #[.int .i64 y, .int .i64 m, .int .i64 f, .int .i64 s] 222 (0, 0)) := by rw [hg2.below.block _ (block_lt HB2.out)]; exact HB2.out
        have c0 : wr.cell? ⟨p3, 0, none⟩ = some (.int .i64 y) := by rw [cell_of hblk]; rfl
        have c1 : wr.cell? ⟨p3, 1, none⟩ = some (.int .i64 m) := by rw [cell_of hblk]; rfl
        have c2 : wr.cell? ⟨p3, 2, none⟩ = some (.int .i64 f) := by rw [cell_of hblk]; rfl
        have c3 : wr.cell? ⟨p3, 3, none⟩ = some (.int .i64 s) := by rw [cell_of hblk]; rfl
        have HG2 := hide hg2
        clear hg2 hblk
        by_cases hlt2 : k < 12
        · have hfb := HFB.out k (by omega)
          have hfb2 := HFB.out (k + 1) (by omega)
          have HFS := hide (fday_succ b p (lo + j) k)
          have hw := WB.out k
          have HWK := hide (WK.out k)
          have hdl := fiI_lt f s b p (lo + j) (fiY f s b p lo j) (fiY_lt f s b p lo j) k
          have hth := theseN_lt f s [fday b p (lo + j) k]
          have eo := or32 (fiI f s b p (lo + j) (fiY f s b p lo j) k) (theseN f s [fday b p (lo + j) k]) (by omega) (by omega)
          have HST : Hid (fiI f s b p (lo + j) (fiY f s b p lo j) (k + 1) = fiI f s b p (lo + j) (fiY f s b p lo j) k ||| theseN f s [fday b p (lo + j) k]) := rfl
          have HTH := hide (rfl : theseN f s [fday b p (lo + j) k] = theseN f s [fday b p (lo + j) k])
          generalize hie : fiI f s b p (lo + j) (fiY f s b p lo j) k = D at *
          generalize hde : fday b p (lo + j) k = dd at *
          generalize hte : theseN f s [dd] = tt at *
          have G1 := hide hie
          have G2 := hide hde
          have G3 := hide hte
          clear hie hde hte
          generalize hwe : wk p k = ww at *
          have G4 := hide hwe
          clear hwe
          go_wp2_with fail
          refine (Gc.these (HG2.out.alloc _) y m f s [dd] _ (rdi_one dd _) (by simp) (by intro k hk; simp at hk; subst hk; omega) b5 b6 (by omega) b8).mono ?_
          rw [G3.out]
          rintro e w2 ⟨rfl, hg⟩
          have HG3 := hide hg
          have hblk3 : w2.heap[p7]? = some (.cells #[.int .i64 k0, .int .i64 k1, .int .i64 k2] 282 (0, 0)) := by rw [hg.below.block _ (block_lt HB3.out)]; exact HB3.out
          have d0 : w2.cell? ⟨p7, 0, none⟩ = some (.int .i64 k0) := by rw [cell_of hblk3]; rfl
          have d1 : w2.cell? ⟨p7, 1, none⟩ = some (.int .i64 k1) := by rw [cell_of hblk3]; rfl
          have d2 : w2.cell? ⟨p7, 2, none⟩ = some (.int .i64 k2) := by rw [cell_of hblk3]; rfl
          have dk : w2.cell? ⟨p7, k % 3, none⟩ = some (.int .i64 ww) := by
            rw [HWK.out]
            have h3 : k % 3 = 0 ∨ k % 3 = 1 ∨ k % 3 = 2 := by omega
            rcases h3 with h3 | h3 | h3 <;> rw [h3] <;> simp [d0, d1, d2]
          clear hg hblk3 d0 d1 d2
          go_wp2
          go_roundw
          case rel => exact ⟨k + 1, by omega, by go_num, by rw [HFS.out], by rw [HST.out], HG3.out⟩
          case measure => simp [intOf]; omega
        · obtain rfl : k = 12 := by omega
          go_wp2
          go_roundw
          case rel => exact ⟨j + 1, by omega, by go_num, rfl, HG2.out⟩
          case measure => simp [intOf]; omega
    · have HE : Hid (fiY f s b p lo j = fisN y f s p b) := by show _ = _; rw [HFN.out]; congr 1; omega
      go_wp2
      go_ret
      exact ⟨ret_int (by rw [HE.out]), HGA.out.more HGr.out.below⟩
end Go.Proofs.YtkpgfhapffijkaaGreatDoor

/- Package cal: the tests of numbers, as functions that are made (written by gen_cc.py). -/
namespace Go.Proofs.YtkpgfhapffijkaaGreatDoor
open Go.ChangeShapes Go.WideShapes Go.ChangeAt Go.RowKit Go.DsMem Go.DsMk
set_option linter.unusedVariables false
def betB (a b k : Int) : Bool := decide (a ≤ k ∧ k ≤ b)
def endB (m k : Int) : Bool := decide (-m ≤ k ∧ k ≤ m ∧ k ≠ 0)
def oneB (l : List Int) (k : Int) : Bool := l.contains k
/-- cal.between$1 -/
theorem betF (a b k : Int) (p q : Nat) (w : World) (hp : w.cell? ⟨p, 0, none⟩ = some (.int .i64 a)) (hq : w.cell? ⟨q, 0, none⟩ = some (.int .i64 b)) :
    Calls Tryz.prog 222 #[.int .i64 k, .pointer (some ⟨p, 0, none⟩), .pointer (some ⟨q, 0, none⟩)] w fun e w' => e = .returned (.bool (betB a b k)) ∧ w' = w := by
  by_cases h1 : a ≤ k
  · have HE : Hid (betB a b k = decide (k ≤ b)) := by show _ = _; unfold betB; simp [h1]
    go_enter Tryz.func222, Tryz.ntmps222
    go_wp2
    go_ret
    exact ⟨ret_bool (by rw [HE.out]), rfl⟩
  · have HE : Hid (betB a b k = false) := by show _ = _; unfold betB; simp [h1]
    go_enter Tryz.func222, Tryz.ntmps222
    go_wp2
    go_ret
    exact ⟨ret_bool (by rw [HE.out]), rfl⟩
/-- cal.fromEitherEnd$1 -/
theorem endF (m k : Int) (p : Nat) (w : World) (h1 : 0 ≤ m) (h2 : m ≤ 100) (hp : w.cell? ⟨p, 0, none⟩ = some (.int .i64 m)) :
    Calls Tryz.prog 223 #[.int .i64 k, .pointer (some ⟨p, 0, none⟩)] w fun e w' => e = .returned (.bool (endB m k)) ∧ w' = w := by
  by_cases c1 : -m ≤ k
  · by_cases c2 : k ≤ m
    · have HE : Hid (endB m k = (k != 0)) := by
        show _ = _; unfold endB; by_cases h0 : k = 0 <;> simp [c1, c2, h0]
      go_enter Tryz.func223, Tryz.ntmps223
      go_wp2
      go_ret
      exact ⟨ret_bool (by rw [HE.out]), rfl⟩
    · have HE : Hid (endB m k = false) := by show _ = _; unfold endB; simp [c2]
      go_enter Tryz.func223, Tryz.ntmps223
      go_wp2
      go_ret
      exact ⟨ret_bool (by rw [HE.out]), rfl⟩
  · have HE : Hid (endB m k = false) := by show _ = _; unfold endB; simp [c1]
    go_enter Tryz.func223, Tryz.ntmps223
    go_wp2
    go_ret
    exact ⟨ret_bool (by rw [HE.out]), rfl⟩
def IdxR (l : List Int) (k r : Int) : Prop := decide (0 ≤ r) = l.contains k ∧ -1 ≤ r ∧ r ≤ 1000000
set_option maxHeartbeats 1000000 in
/-- slices.Index -/
theorem indexF (l : List Int) (k : Int) (sl : Value) (w : World) (h : RdI w sl l) (hl : l.length ≤ 1000000) :
    Calls Tryz.prog 235 #[sl, .int .i64 k] w fun e w' => ∃ r : Int, e = .returned (.int .i64 r) ∧ IdxR l k r ∧ w' = w := by
  obtain ⟨ao, cap, rfl, hlc, hnil, hrd⟩ := h
  have HRD := hide hrd
  clear hrd
  go_enter Tryz.func235, Tryz.ntmps235
  go_wp2
  go_loop [8] (fun t => ∃ i : Nat, i ≤ l.length ∧ t = .int .i64 i ∧ ¬ k ∈ l.take i) (fun t => l.length - (intOf t).toNat)
  case atStart => exact ⟨0, Nat.zero_le _, rfl, by simp⟩
  case round =>
    obtain ⟨i, hi, rfl, hno⟩ := hrel
    by_cases hlt : i < l.length
    · obtain ⟨a, rfl⟩ : ∃ a, ao = some a := by
        cases ao with
        | none => have := hnil rfl; omega
        | some a => exact ⟨a, rfl⟩
      have hc := HRD.out a rfl i l[i] (List.getElem?_eq_getElem hlt)
      have HM : Hid (l[i] ∈ l) := List.getElem_mem hlt
      have HTK : Hid (l.take (i + 1) = l.take i ++ [l[i]]) := List.take_succ_eq_append_getElem hlt
      generalize l[i] = x at *
      have HN := hide hno
      clear hno
      by_cases e1 : k = x
      · have HE : Hid (l.contains k = true) := by show _ = _; rw [List.contains_iff_mem, e1]; exact HM.out
        have b1 : (k == x) = true := by simpa using e1
        clear e1
        go_wp2
        go_ret
        exact ⟨_, rfl, show IdxR l k i from ⟨by rw [HE.out]; simp, by omega, by omega⟩, rfl⟩
      · have HS : Hid (¬ k ∈ l.take (i + 1)) := by show ¬ _; rw [HTK.out]; simp; exact ⟨HN.out, e1⟩
        have b1 : (k == x) = false := by simpa using e1
        clear e1
        go_wp2
        go_round
        case rel => exact ⟨i + 1, by omega, by go_num, HS.out⟩
        case measure => simp [intOf]; omega
    · have HE : Hid (l.contains k = false) := by
        show _ = _
        rw [List.take_of_length_le (by omega)] at hno
        rw [Bool.eq_false_iff]; intro hc; rw [List.contains_iff_mem] at hc; exact hno hc
      clear hno
      go_wp2
      go_ret
      exact ⟨-1, rfl, show IdxR l k (-1) from ⟨by rw [HE.out]; decide, by omega, by omega⟩, rfl⟩
/-- cal.oneOf$1 -/
theorem oneF (l : List Int) (k : Int) (p : Nat) (sl : Value) (w : World) (hp : w.cell? ⟨p, 0, none⟩ = some sl) (h : RdI w sl l) (hl : l.length ≤ 1000000) :
    Calls Tryz.prog 224 #[.int .i64 k, .pointer (some ⟨p, 0, none⟩)] w fun e w' => e = .returned (.bool (oneB l k)) ∧ w' = w := by
  have key : Calls Tryz.prog 225 #[sl, .int .i64 k] w fun e w' => e = .returned (.bool (oneB l k)) ∧ w' = w := by
    have HX := hide (indexF l k sl w h hl)
    obtain ⟨ao, cap, rfl, -, -, -⟩ := h
    go_enter Tryz.func225, Tryz.ntmps225
    go_wp2_with fail
    refine HX.out.mono ?_
    rintro e w1 ⟨r, rfl, ⟨hr, hr1, hr2⟩, rfl⟩
    have HR := hide hr
    clear hr
    go_wp2
    go_ret
    exact ⟨ret_bool (by unfold oneB; rw [← HR.out]), rfl⟩
  have HK := hide key
  clear key
  obtain ⟨ao, cap, rfl, -, -, -⟩ := h
  go_enter Tryz.func224, Tryz.ntmps224
  go_wp2_with fail
  refine HK.out.mono ?_
  rintro e w1 ⟨rfl, rfl⟩
  go_wp2
  go_ret
  exact ⟨rfl, rfl⟩
set_option maxHeartbeats 1000000 in
/-- cal.all, of cal.between$1 -/
theorem Gc.all_bet {W w : World} (h : Gc W w) (l : List Int) (sl : Value) (hr : RdI w sl l) (hl : l.length ≤ 1000000) (p q : Nat) (P : Int → Bool)
    (HF : Hid (∀ k w', Gc w w' → Calls Tryz.prog 222 #[.int .i64 k, .pointer (some ⟨p, 0, none⟩), .pointer (some ⟨q, 0, none⟩)] w' fun e w'' => e = .returned (.bool (P k)) ∧ Gc w w'')) :
    Calls Tryz.prog 204 #[sl, .func (.func 222) #[] #[.pointer (some ⟨p, 0, none⟩), .pointer (some ⟨q, 0, none⟩)]] w fun e w' => e = .returned (.bool (l.all P)) ∧ Gc W w' := by
  have HG := hide h
  have HRD := hide hr
  obtain ⟨ao, cap, rfl, hlc, hnil, -⟩ := hr
  clear h
  go_enter Tryz.func204, Tryz.ntmps204
  go_wp2
  go_loopw [9] (fun t wr => ∃ i : Nat, i ≤ l.length ∧ t = .int .i64 i ∧ (l.take i).all P = true ∧ Gc w wr) (fun t _ => l.length - (intOf t).toNat)
  case atStart => exact ⟨0, Nat.zero_le _, rfl, by simp, HG.out.here⟩
  case round =>
    obtain ⟨i, hi, rfl, hall, hg⟩ := hrel
    have HA := hide hall
    have HGr := hide hg
    clear hall hg
    by_cases hlt : i < l.length
    · obtain ⟨ao', cap', hv, -, -, hrd⟩ := HRD.out
      simp only [Value.slice.injEq] at hv
      obtain ⟨rfl, -, rfl⟩ := hv
      obtain ⟨a, rfl⟩ : ∃ a, ao = some a := by
        cases ao with
        | none => have := hnil rfl; omega
        | some a => exact ⟨a, rfl⟩
      have hc := Below.keeps HGr.out.below (Nat.le_refl _) (hrd a rfl i l[i] (List.getElem?_eq_getElem hlt))
      clear hrd
      have HM : Hid (l[i] ∈ l) := List.getElem_mem hlt
      have HTK : Hid (l.take (i + 1) = l.take i ++ [l[i]]) := List.take_succ_eq_append_getElem hlt
      generalize l[i] = x at *
      obtain ⟨b, hb⟩ : ∃ b, P x = b := ⟨_, rfl⟩
      have HB := hide hb
      clear hb
      go_wp2_with fail
      refine (HF.out x _ HGr.out).mono ?_
      rw [HB.out]
      rintro e w1 ⟨rfl, g1⟩
      have HG1 := hide g1
      clear g1
      cases b
      · have HE : Hid (l.all P = false) := by
          show _ = _
          rw [Bool.eq_false_iff]; intro hc
          have := List.all_eq_true.1 hc x HM.out
          rw [HB.out] at this; cases this
        go_wp2
        go_ret
        exact ⟨ret_bool (by rw [HE.out]), HG.out.more HG1.out.below⟩
      · have HS : Hid ((l.take (i + 1)).all P = true) := by show _ = _; rw [HTK.out, List.all_append, HA.out]; simp [HB.out]
        go_wp2
        go_roundw
        case rel => exact ⟨i + 1, by omega, by go_num, HS.out, HG1.out⟩
        case measure => simp [intOf]; omega
    · have HE : Hid (l.all P = true) := by have := HA.out; rwa [List.take_of_length_le (by omega)] at this
      go_wp2
      go_ret
      exact ⟨ret_bool (by rw [HE.out]), HG.out.more HGr.out.below⟩
set_option maxHeartbeats 1000000 in
/-- cal.all, of cal.fromEitherEnd$1 -/
theorem Gc.all_end {W w : World} (h : Gc W w) (l : List Int) (sl : Value) (hr : RdI w sl l) (hl : l.length ≤ 1000000) (p : Nat) (P : Int → Bool)
    (HF : Hid (∀ k w', Gc w w' → Calls Tryz.prog 223 #[.int .i64 k, .pointer (some ⟨p, 0, none⟩)] w' fun e w'' => e = .returned (.bool (P k)) ∧ Gc w w'')) :
    Calls Tryz.prog 204 #[sl, .func (.func 223) #[] #[.pointer (some ⟨p, 0, none⟩)]] w fun e w' => e = .returned (.bool (l.all P)) ∧ Gc W w' := by
  have HG := hide h
  have HRD := hide hr
  obtain ⟨ao, cap, rfl, hlc, hnil, -⟩ := hr
  clear h
  go_enter Tryz.func204, Tryz.ntmps204
  go_wp2
  go_loopw [9] (fun t wr => ∃ i : Nat, i ≤ l.length ∧ t = .int .i64 i ∧ (l.take i).all P = true ∧ Gc w wr) (fun t _ => l.length - (intOf t).toNat)
  case atStart => exact ⟨0, Nat.zero_le _, rfl, by simp, HG.out.here⟩
  case round =>
    obtain ⟨i, hi, rfl, hall, hg⟩ := hrel
    have HA := hide hall
    have HGr := hide hg
    clear hall hg
    by_cases hlt : i < l.length
    · obtain ⟨ao', cap', hv, -, -, hrd⟩ := HRD.out
      simp only [Value.slice.injEq] at hv
      obtain ⟨rfl, -, rfl⟩ := hv
      obtain ⟨a, rfl⟩ : ∃ a, ao = some a := by
        cases ao with
        | none => have := hnil rfl; omega
        | some a => exact ⟨a, rfl⟩
      have hc := Below.keeps HGr.out.below (Nat.le_refl _) (hrd a rfl i l[i] (List.getElem?_eq_getElem hlt))
      clear hrd
      have HM : Hid (l[i] ∈ l) := List.getElem_mem hlt
      have HTK : Hid (l.take (i + 1) = l.take i ++ [l[i]]) := List.take_succ_eq_append_getElem hlt
      generalize l[i] = x at *
      obtain ⟨b, hb⟩ : ∃ b, P x = b := ⟨_, rfl⟩
      have HB := hide hb
      clear hb
      go_wp2_with fail
      refine (HF.out x _ HGr.out).mono ?_
      rw [HB.out]
      rintro e w1 ⟨rfl, g1⟩
      have HG1 := hide g1
      clear g1
      cases b
      · have HE : Hid (l.all P = false) := by
          show _ = _
          rw [Bool.eq_false_iff]; intro hc
          have := List.all_eq_true.1 hc x HM.out
          rw [HB.out] at this; cases this
        go_wp2
        go_ret
        exact ⟨ret_bool (by rw [HE.out]), HG.out.more HG1.out.below⟩
      · have HS : Hid ((l.take (i + 1)).all P = true) := by show _ = _; rw [HTK.out, List.all_append, HA.out]; simp [HB.out]
        go_wp2
        go_roundw
        case rel => exact ⟨i + 1, by omega, by go_num, HS.out, HG1.out⟩
        case measure => simp [intOf]; omega
    · have HE : Hid (l.all P = true) := by have := HA.out; rwa [List.take_of_length_le (by omega)] at this
      go_wp2
      go_ret
      exact ⟨ret_bool (by rw [HE.out]), HG.out.more HGr.out.below⟩
set_option maxHeartbeats 1000000 in
/-- cal.all, of date.Right -/
theorem Gc.all_right {W w : World} (h : Gc W w) (l : List Int) (sl : Value) (hr : RdI w sl l) (hl : l.length ≤ 1000000)  (P : Int → Bool)
    (HF : Hid (∀ k w', Gc w w' → Calls Tryz.prog 42 #[.int .i64 k] w' fun e w'' => e = .returned (.bool (P k)) ∧ Gc w w'')) :
    Calls Tryz.prog 204 #[sl, .func (.func 42) #[] #[]] w fun e w' => e = .returned (.bool (l.all P)) ∧ Gc W w' := by
  have HG := hide h
  have HRD := hide hr
  obtain ⟨ao, cap, rfl, hlc, hnil, -⟩ := hr
  clear h
  go_enter Tryz.func204, Tryz.ntmps204
  go_wp2
  go_loopw [9] (fun t wr => ∃ i : Nat, i ≤ l.length ∧ t = .int .i64 i ∧ (l.take i).all P = true ∧ Gc w wr) (fun t _ => l.length - (intOf t).toNat)
  case atStart => exact ⟨0, Nat.zero_le _, rfl, by simp, HG.out.here⟩
  case round =>
    obtain ⟨i, hi, rfl, hall, hg⟩ := hrel
    have HA := hide hall
    have HGr := hide hg
    clear hall hg
    by_cases hlt : i < l.length
    · obtain ⟨ao', cap', hv, -, -, hrd⟩ := HRD.out
      simp only [Value.slice.injEq] at hv
      obtain ⟨rfl, -, rfl⟩ := hv
      obtain ⟨a, rfl⟩ : ∃ a, ao = some a := by
        cases ao with
        | none => have := hnil rfl; omega
        | some a => exact ⟨a, rfl⟩
      have hc := Below.keeps HGr.out.below (Nat.le_refl _) (hrd a rfl i l[i] (List.getElem?_eq_getElem hlt))
      clear hrd
      have HM : Hid (l[i] ∈ l) := List.getElem_mem hlt
      have HTK : Hid (l.take (i + 1) = l.take i ++ [l[i]]) := List.take_succ_eq_append_getElem hlt
      generalize l[i] = x at *
      obtain ⟨b, hb⟩ : ∃ b, P x = b := ⟨_, rfl⟩
      have HB := hide hb
      clear hb
      go_wp2_with fail
      refine (HF.out x _ HGr.out).mono ?_
      rw [HB.out]
      rintro e w1 ⟨rfl, g1⟩
      have HG1 := hide g1
      clear g1
      cases b
      · have HE : Hid (l.all P = false) := by
          show _ = _
          rw [Bool.eq_false_iff]; intro hc
          have := List.all_eq_true.1 hc x HM.out
          rw [HB.out] at this; cases this
        go_wp2
        go_ret
        exact ⟨ret_bool (by rw [HE.out]), HG.out.more HG1.out.below⟩
      · have HS : Hid ((l.take (i + 1)).all P = true) := by show _ = _; rw [HTK.out, List.all_append, HA.out]; simp [HB.out]
        go_wp2
        go_roundw
        case rel => exact ⟨i + 1, by omega, by go_num, HS.out, HG1.out⟩
        case measure => simp [intOf]; omega
    · have HE : Hid (l.all P = true) := by have := HA.out; rwa [List.take_of_length_le (by omega)] at this
      go_wp2
      go_ret
      exact ⟨ret_bool (by rw [HE.out]), HG.out.more HGr.out.below⟩
end Go.Proofs.YtkpgfhapffijkaaGreatDoor

/- Package cal: each, between, fromEitherEnd, oneOf; numbersCanBe. -/
namespace Go.Proofs.YtkpgfhapffijkaaGreatDoor
open Go.ChangeShapes Go.WideShapes Go.ChangeAt Go.RowKit Go.DsMem Go.DsMk
set_option linter.unusedVariables false
theorem plain_addr {W : World} {a : Addr} {v : Value} (h : W.cell? a = some v) : a = ⟨a.block, a.off, none⟩ := by
  have : a.spot = none := by
    unfold World.cell? at h
    cases hs : a.spot with
    | none => rfl
    | some s => rw [hs] at h; revert h; cases W.heap[a.block]? with
      | none => simp
      | some o => cases o <;> simp
  cases a; simp_all
/-- a made function stands: a cell of its own -/
theorem Gc.between {W w : World} (h : Gc W w) (a b : Int) :
    Calls Tryz.prog 205 #[.int .i64 a, .int .i64 b] w fun e w' => ∃ p q : Nat, e = .returned (.func (.func 222) #[] #[.pointer (some ⟨p, 0, none⟩), .pointer (some ⟨q, 0, none⟩)]) ∧ (w'.cell? ⟨p, 0, none⟩ = some (.int .i64 a) ∧ w'.cell? ⟨q, 0, none⟩ = some (.int .i64 b)) ∧ Gc w w' := by
  have HG := hide h
  clear h
  go_enter Tryz.func205, Tryz.ntmps205
  go_wp2
  go_ret
  refine ⟨w.heap.size, w.heap.size + 1, rfl, ⟨?_, ?_⟩, (HG.out.here.alloc _).alloc _⟩
  · rw [cell_of (heap_keep (heap_alloc_new w _))]; rfl
  · have := heap_alloc_new (w.alloc (.cells #[.int .i64 a] 2)) (.cells #[.int .i64 b] 2)
    rw [show (w.alloc (.cells #[.int .i64 a] 2)).heap.size = w.heap.size + 1 by simp] at this
    rw [cell_of this]; rfl
theorem Gc.fromEnd {W w : World} (h : Gc W w) (a : Int) :
    Calls Tryz.prog 206 #[.int .i64 a] w fun e w' => ∃ p : Nat, e = .returned (.func (.func 223) #[] #[.pointer (some ⟨p, 0, none⟩)]) ∧ w'.cell? ⟨p, 0, none⟩ = some (.int .i64 a) ∧ Gc w w' := by
  have HG := hide h
  clear h
  go_enter Tryz.func206, Tryz.ntmps206
  go_wp2
  go_ret
  refine ⟨w.heap.size, rfl, ?_, HG.out.here.alloc _⟩
  rw [cell_of (heap_alloc_new w _)]; rfl
theorem Gc.oneOf {W w : World} (h : Gc W w) (ao : Option Addr) (n cap : Nat) :
    Calls Tryz.prog 208 #[.slice ao n cap] w fun e w' => ∃ p : Nat, e = .returned (.func (.func 224) #[] #[.pointer (some ⟨p, 0, none⟩)]) ∧ w'.cell? ⟨p, 0, none⟩ = some (.slice ao n cap) ∧ Gc w w' := by
  have HG := hide h
  clear h
  go_enter Tryz.func208, Tryz.ntmps208
  go_wp2
  go_ret
  refine ⟨w.heap.size, rfl, ?_, HG.out.here.alloc _⟩
  rw [cell_of (heap_alloc_new w _)]; rfl
set_option maxHeartbeats 2000000 in
/-- cal.each, of cal.between$1 and cal.fromEitherEnd$1 -/
theorem Gc.each_nth {W w : World} (h : Gc W w) (x0 x1 : Int) (sl : Value) (hr : RdI w sl [x0, x1]) (t : Nat) (p q r : Nat) (P0 P1 : Int → Bool)
    (ht0 : w.cell? ⟨t, 0, none⟩ = some (.func (.func 222) #[] #[.pointer (some ⟨p, 0, none⟩), .pointer (some ⟨q, 0, none⟩)])) (ht1 : w.cell? ⟨t, 1, none⟩ = some (.func (.func 223) #[] #[.pointer (some ⟨r, 0, none⟩)]))
    (HF0 : Hid (∀ k w', Gc w w' → Calls Tryz.prog 222 #[.int .i64 k, .pointer (some ⟨p, 0, none⟩), .pointer (some ⟨q, 0, none⟩)] w' fun e w'' => e = .returned (.bool (P0 k)) ∧ Gc w w''))
    (HF1 : Hid (∀ k w', Gc w w' → Calls Tryz.prog 223 #[.int .i64 k, .pointer (some ⟨r, 0, none⟩)] w' fun e w'' => e = .returned (.bool (P1 k)) ∧ Gc w w'')) :
    Calls Tryz.prog 207 #[sl, .slice (some ⟨t, 0, none⟩) 2 2] w fun e w' => e = .returned (.bool (P0 x0 && P1 x1)) ∧ Gc W w' := by
  have HG := hide h
  obtain ⟨ao, cap, rfl, hlc, hnil, hrd⟩ := hr
  obtain ⟨a, rfl⟩ : ∃ a, ao = some a := by
    cases ao with
    | none => have := (hnil rfl).1; simp at this
    | some a => exact ⟨a, rfl⟩
  have k0 := hrd a rfl 0 x0 rfl
  have k1 := hrd a rfl 1 x1 rfl
  have ad0 : a.add 0 = a := by cases a; simp [Addr.add]
  rw [ad0] at k0
  have hpl := plain_addr k0
  obtain ⟨ag, ao2, asp⟩ := a
  simp only [Addr.mk.injEq, true_and] at hpl
  subst hpl
  rw [add_mk] at k1
  have HT1 := hide ht1
  have HK1 := hide k1
  simp only [List.length_cons, List.length_nil] at *
  clear h hrd hnil ht1 k1 ad0
  obtain ⟨b0, hb0⟩ : ∃ b, P0 x0 = b := ⟨_, rfl⟩
  obtain ⟨b1, hb1⟩ : ∃ b, P1 x1 = b := ⟨_, rfl⟩
  have HB0 := hide hb0
  have HB1 := hide hb1
  clear hb0 hb1
  go_enter Tryz.func207, Tryz.ntmps207
  go_wp2
  refine wp_loop_rounds 3 ?_
  rw [rounds_succ]
  go_wp2_with fail
  refine (HF0.out x0 _ HG.out.here).mono ?_
  rw [HB0.out]
  rintro e w1 ⟨rfl, g1⟩
  have HG1 := hide g1
  have t1 := Below.keeps g1.below (Nat.le_refl _) HT1.out
  have k1 := Below.keeps g1.below (Nat.le_refl _) HK1.out
  clear g1 ht0 k0
  cases b0
  · go_wp2
    go_ret
    exact ⟨ret_bool (by rw [HB0.out]; rfl), HG.out.more HG1.out.below⟩
  · go_wp2
    rw [rounds_succ]
    go_wp2_with fail
    refine (HF1.out x1 _ HG1.out).mono ?_
    rw [HB1.out]
    rintro e w2 ⟨rfl, g2⟩
    have HG2 := hide g2
    clear g2
    cases b1
    · go_wp2
      go_ret
      exact ⟨ret_bool (by rw [HB0.out, HB1.out]; rfl), HG.out.more HG2.out.below⟩
    · go_wp2
      rw [rounds_succ]
      go_wp2
      go_ret
      exact ⟨ret_bool (by rw [HB0.out, HB1.out]; rfl), HG.out.more HG2.out.below⟩
set_option maxHeartbeats 2000000 in
/-- cal.each, of cal.oneOf$1 and cal.between$1 -/
theorem Gc.each_fis {W w : World} (h : Gc W w) (x0 x1 : Int) (sl : Value) (hr : RdI w sl [x0, x1]) (t : Nat) (p q r : Nat) (P0 P1 : Int → Bool)
    (ht0 : w.cell? ⟨t, 0, none⟩ = some (.func (.func 224) #[] #[.pointer (some ⟨p, 0, none⟩)])) (ht1 : w.cell? ⟨t, 1, none⟩ = some (.func (.func 222) #[] #[.pointer (some ⟨q, 0, none⟩), .pointer (some ⟨r, 0, none⟩)]))
    (HF0 : Hid (∀ k w', Gc w w' → Calls Tryz.prog 224 #[.int .i64 k, .pointer (some ⟨p, 0, none⟩)] w' fun e w'' => e = .returned (.bool (P0 k)) ∧ Gc w w''))
    (HF1 : Hid (∀ k w', Gc w w' → Calls Tryz.prog 222 #[.int .i64 k, .pointer (some ⟨q, 0, none⟩), .pointer (some ⟨r, 0, none⟩)] w' fun e w'' => e = .returned (.bool (P1 k)) ∧ Gc w w'')) :
    Calls Tryz.prog 207 #[sl, .slice (some ⟨t, 0, none⟩) 2 2] w fun e w' => e = .returned (.bool (P0 x0 && P1 x1)) ∧ Gc W w' := by
  have HG := hide h
  obtain ⟨ao, cap, rfl, hlc, hnil, hrd⟩ := hr
  obtain ⟨a, rfl⟩ : ∃ a, ao = some a := by
    cases ao with
    | none => have := (hnil rfl).1; simp at this
    | some a => exact ⟨a, rfl⟩
  have k0 := hrd a rfl 0 x0 rfl
  have k1 := hrd a rfl 1 x1 rfl
  have ad0 : a.add 0 = a := by cases a; simp [Addr.add]
  rw [ad0] at k0
  have hpl := plain_addr k0
  obtain ⟨ag, ao2, asp⟩ := a
  simp only [Addr.mk.injEq, true_and] at hpl
  subst hpl
  rw [add_mk] at k1
  have HT1 := hide ht1
  have HK1 := hide k1
  simp only [List.length_cons, List.length_nil] at *
  clear h hrd hnil ht1 k1 ad0
  obtain ⟨b0, hb0⟩ : ∃ b, P0 x0 = b := ⟨_, rfl⟩
  obtain ⟨b1, hb1⟩ : ∃ b, P1 x1 = b := ⟨_, rfl⟩
  have HB0 := hide hb0
  have HB1 := hide hb1
  clear hb0 hb1
  go_enter Tryz.func207, Tryz.ntmps207
  go_wp2
  refine wp_loop_rounds 3 ?_
  rw [rounds_succ]
  go_wp2_with fail
  refine (HF0.out x0 _ HG.out.here).mono ?_
  rw [HB0.out]
  rintro e w1 ⟨rfl, g1⟩
  have HG1 := hide g1
  have t1 := Below.keeps g1.below (Nat.le_refl _) HT1.out
  have k1 := Below.keeps g1.below (Nat.le_refl _) HK1.out
  clear g1 ht0 k0
  cases b0
  · go_wp2
    go_ret
    exact ⟨ret_bool (by rw [HB0.out]; rfl), HG.out.more HG1.out.below⟩
  · go_wp2
    rw [rounds_succ]
    go_wp2_with fail
    refine (HF1.out x1 _ HG1.out).mono ?_
    rw [HB1.out]
    rintro e w2 ⟨rfl, g2⟩
    have HG2 := hide g2
    clear g2
    cases b1
    · go_wp2
      go_ret
      exact ⟨ret_bool (by rw [HB0.out, HB1.out]; rfl), HG.out.more HG2.out.below⟩
    · go_wp2
      rw [rounds_succ]
      go_wp2
      go_ret
      exact ⟨ret_bool (by rw [HB0.out, HB1.out]; rfl), HG.out.more HG2.out.below⟩
end Go.Proofs.YtkpgfhapffijkaaGreatDoor
