/- Months of package cal: the walks of monthOf, place, weekdays, these. -/
import Derived.Test.YthbfjkdklnffjaaDoorJ2
import Derived.Test.YthbfjkdklnffjaaDoorJ3
namespace Go.DsMk
/-- a month: its year and number, its first day, how many it has -/
def IsMo (y m f s : Int) : Prop := DsCal.vld y m 1 ∧ f = DsCal.num y m 1 ∧ s = DsCal.dlen y m
/-- those of some days that are in the month -/
def placesOf (f : Int) (l : List Int) : List Int := (l.filter fun d => decide (f ≤ d)).map fun d => d - f + 1
def theseN (f s : Int) (l : List Int) : Nat := daysN s (placesOf f l)
theorem placesOf_snoc (f : Int) (l : List Int) (d : Int) : placesOf f (l ++ [d]) = placesOf f l ++ if f ≤ d then [d - f + 1] else [] := by
  unfold placesOf
  rw [List.filter_append, List.map_append]
  by_cases h : f ≤ d <;> simp [h]
theorem placesOf_len (f : Int) (l : List Int) : (placesOf f l).length ≤ l.length := by
  unfold placesOf; rw [List.length_map]; exact List.length_filter_le _ _
theorem placesOf_mem (f : Int) (l : List Int) (k : Int) : k ∈ placesOf f l ↔ ∃ d ∈ l, f ≤ d ∧ k = d - f + 1 := by
  unfold placesOf
  rw [List.mem_map]
  constructor
  · rintro ⟨d, hd, rfl⟩
    rw [List.mem_filter, decide_eq_true_eq] at hd
    exact ⟨d, hd.1, hd.2, rfl⟩
  · rintro ⟨d, hd, hf, rfl⟩
    exact ⟨d, by rw [List.mem_filter, decide_eq_true_eq]; exact ⟨hd, hf⟩, rfl⟩
/-- a bit of theirs: a day that is one of them -/
theorem theseN_bit (f s : Int) (l : List Int) (i : Nat) (hs : 0 ≤ s ∧ s ≤ 31) (hf : 1 ≤ f ∧ f ≤ 3652059) (hl : ∀ k ∈ l, -10000000 ≤ k ∧ k ≤ 10000000) :
    (theseN f s l).testBit i = decide ((i : Int) < s ∧ f + i ∈ l) := by
  unfold theseN
  have hb : ∀ k ∈ placesOf f l, -9223372036854775808 ≤ k ∧ k ≤ 9223372036854775807 := fun k hk => by
    obtain ⟨d, hd, h1, rfl⟩ := (placesOf_mem f l k).1 hk
    have := hl d hd
    omega
  rw [daysN_bit s _ i (by omega) hb, decide_eq_decide]
  constructor
  · rintro ⟨h1, h2, k, hk, hc⟩
    obtain ⟨d, hd, h3, rfl⟩ := (placesOf_mem f l k).1 hk
    refine ⟨h1, ?_⟩
    rw [show f + (i : Int) = d by omega]; exact hd
  · rintro ⟨h1, h2⟩
    exact ⟨h1, by omega, (i : Int) + 1, (placesOf_mem f l _).2 ⟨_, h2, by omega, by omega⟩, .inl rfl⟩
theorem theseN_lt (f s : Int) (l : List Int) : theseN f s l < 2147483648 := daysN_lt _ _
end Go.DsMk
namespace Go.Proofs.YthbfjkdklnffjaaDoor
open Go.ChangeShapes Go.WideShapes Go.ChangeAt Go.RowKit Go.DsMem Go.DsMk
set_option linter.unusedVariables false

/-- package cal's table of shapes -/
def shpRow (k : Nat) : List Value := match k with
  | 1 => [.int .i64 1, .int .i64 1, .int .i64 0, .int .i64 0, .bool false]
  | 2 => [.int .i64 0, .int .i64 64, .int .i64 0, .int .i64 0, .bool false]
  | 3 => [.int .i64 0, .int .i64 64, .int .i64 0, .int .i64 0, .bool false]
  | 4 => [.int .i64 2, .int .i64 2, .int .i64 0, .int .i64 0, .bool false]
  | 5 => [.int .i64 1, .int .i64 1, .int .i64 0, .int .i64 0, .bool true]
  | 6 => [.int .i64 2, .int .i64 2, .int .i64 0, .int .i64 0, .bool false]
  | 7 => [.int .i64 0, .int .i64 0, .int .i64 1, .int .i64 8, .bool false]
  | 8 => [.int .i64 0, .int .i64 0, .int .i64 1, .int .i64 8, .bool false]
  | 9 => [.int .i64 0, .int .i64 0, .int .i64 1, .int .i64 1, .bool false]
  | 10 => [.int .i64 0, .int .i64 0, .int .i64 0, .int .i64 0, .bool true]
  | _ => [.int .i64 0, .int .i64 0, .int .i64 0, .int .i64 0, .bool false]
def TabS (w : World) : Prop := ∀ k i v, k < 11 → (shpRow k)[i]? = some v → w.cell? ⟨1, k * 5 + i, none⟩ = some v

/-- out of W, with its three tables, has come w: nothing old has turned -/
structure Gc (W w : World) : Prop where
  bits : TabT W
  len : Dt.Tab W
  shp : TabS W
  below : Below W.heap.size W w
theorem Gc.gd {W w : World} (h : Gc W w) : Gd W w := ⟨h.bits, h.below⟩
theorem Gc.more {W w w' : World} (h : Gc W w) (hb : Below w.heap.size w w') : Gc W w' := ⟨h.bits, h.len, h.shp, h.below.trans (hb.mono h.below.size)⟩
theorem Gc.of {W w w' : World} (h : Gc W w) (hg : Gd W w') : Gc W w' := ⟨h.bits, h.len, h.shp, hg.below⟩
theorem Gc.alloc {W w : World} (h : Gc W w) (o : Obj) : Gc W (w.alloc o) := h.more ((Below.refl _ _).alloc (Nat.le_refl _) o)
theorem Gc.drew {W w : World} (h : Gc W w) : Gc W w.drew := h.more (Below.refl _ _).drew
theorem Gc.drewN {W w : World} (h : Gc W w) (n : Nat) : Gc W (w.drewN n) := h.more (below_drewN _ _)
theorem Gc.lens {W w : World} (h : Gc W w) : Dt.Tab w := ⟨Nat.lt_of_lt_of_le h.len.1 h.below.size, fun m h1 h2 => Below.keeps h.below (Nat.le_refl _) (h.len.2 m h1 h2)⟩
theorem Gc.shps {W w : World} (h : Gc W w) : TabS w := fun k i v hk hv => Below.keeps h.below (Nat.le_refl _) (h.shp k i v hk hv)
theorem Gc.here {W w : World} (h : Gc W w) : Gc w w := ⟨h.gd.tabT, h.lens, h.shps, Below.refl _ _⟩

def moV (y m f s : Int) : Value := .agg #[.int .i64 y, .int .i64 m, .int .i64 f, .int .i64 s]
theorem isMo_bd {y m f s : Int} (h : IsMo y m f s) : 1 ≤ y ∧ y ≤ 9999 ∧ 1 ≤ m ∧ m ≤ 12 ∧ 1 ≤ f ∧ f ≤ 3652059 ∧ 28 ≤ s ∧ s ≤ 31 := by
  obtain ⟨hv, rfl, rfl⟩ := h
  have h1 := DsCal.num_bd hv
  have h2 := DsCal.vld_bd hv
  have h3 := DsCal.dlen_bd (y := y) (m := m) (by omega) (by omega)
  omega

/-- what monthOf answers -/
def MoOf (day : Int) (e : Ending) : Prop := ∃ y m f s, e = .returned (moV y m f s) ∧ IsMo y m f s ∧ f ≤ day ∧ day < f + s
set_option maxHeartbeats 1000000 in
/-- cal.monthOf -/
theorem Gc.monthOf {W w : World} (h : Gc W w) (day : Int) (h1 : 1 ≤ day) (h2 : day ≤ 3652059) :
    Calls Tryd.prog 26 #[.int .i64 day] w fun e w' => MoOf day e ∧ Gc W w' := by
  have HG := hide h
  have HT := hide (h.alloc (.cells #[.int .i64 0, .int .i64 0, .int .i64 0, .int .i64 0] 67)).lens
  clear h
  go_enter Tryd.func26, Tryd.ntmps26
  go_wp2_with fail
  refine (Dt.date_yes day _ (by exact HT.out) h1 h2).mono ?_
  rintro e w1 ⟨y, m, d, rfl, hv, hn, rfl⟩
  have hb := DsCal.vld_bd hv
  have hd31 := hv.2.2
  have hnum : day - d + 1 = DsCal.num y m 1 := by rw [← hn]; unfold DsCal.num; omega
  have HM : Hid (IsMo y m (day - d + 1) (DsCal.dlen y m) ∧ day - d + 1 ≤ day ∧ day < day - d + 1 + DsCal.dlen y m) := ⟨⟨⟨hb.1, hb.2.1, by omega, by have := DsCal.dlen_bd (y := y) (m := m) (by omega) (by omega); omega⟩, hnum, rfl⟩, by omega, by omega⟩
  have hd1 : 1 ≤ d := by omega
  have hd2 : d ≤ 31 := by omega
  clear hv hn hb hd31 hnum
  go_wp2_with fail
  refine (Dt.len_any y m _ (by exact HT.out)).mono ?_
  rintro e w2 ⟨rfl, rfl⟩
  go_wp2
  refine bodyPost_ret (v := moV y m (day - d + 1) (DsCal.dlen y m)) (by simp [results, Tryd.results26, go_sem, moV]) rfl ⟨⟨y, m, _, _, rfl, HM.out⟩, ?_⟩
  exact HG.out.more ((Below.refl _ _).alloc (Nat.le_refl _) _)

set_option maxHeartbeats 1000000 in
/-- cal.month.place -/
theorem Gc.place {W w : World} (h : Gc W w) (y m f s day : Int) (h1 : -10000000 ≤ day) (h2 : day ≤ 10000000) (h3 : 1 ≤ f) (h4 : f ≤ 3652059) :
    Calls Tryd.prog 29 #[moV y m f s, .int .i64 day] w fun e w' => e = .returned (.int .i64 (day - f + 1)) ∧ Gc W w' := by
  have HG := hide h
  clear h
  unfold moV
  go_enter Tryd.func29, Tryd.ntmps29
  go_wp2
  go_ret
  exact ⟨rfl, HG.out.alloc _⟩

set_option maxHeartbeats 1000000 in
/-- cal.month.weekdays -/
theorem Gc.weekdays {W w : World} (h : Gc W w) (y m f s : Int) (bits : Nat) (hb : bits < 128) (h3 : 1 ≤ f) (h4 : f ≤ 3652059) :
    Calls Tryd.prog 35 #[moV y m f s, .int .i64 bits] w fun e w' => e = .returned (.int .u32 (weekN bits ((f - 1) % 7) s)) ∧ Gc W w' := by
  have HG := hide (h.alloc (.cells #[.int .i64 y, .int .i64 m, .int .i64 f, .int .i64 s] 67))
  clear h
  unfold moV
  have hc : IntKind.u8.wrap (bits : Int) = (bits : Int) := by rw [IntKind.wrap_u8]; omega
  go_enter Tryd.func35, Tryd.ntmps35
  go_wp2_with fail
  refine (Dt.weekday_yes f _ h3 h4).mono ?_
  rintro e w1 ⟨rfl, rfl⟩
  go_wp2_with fail
  refine (week_any bits ((f - 1) % 7) s _ (by omega) (by omega) (by omega)).mono ?_
  rintro e w2 ⟨rfl, rfl⟩
  go_wp2
  go_ret
  exact ⟨rfl, HG.out⟩

set_option maxHeartbeats 2000000 in
set_option maxRecDepth 20000 in
/-- cal.month.these -/
theorem Gc.these {W w : World} (h : Gc W w) (y m f s : Int) (l : List Int) (sl : Value) (hr : RdI w sl l) (hl : l.length ≤ 1000000) (hk : ∀ k ∈ l, -10000000 ≤ k ∧ k ≤ 10000000) (h3 : 1 ≤ f) (h4 : f ≤ 3652059) (hs1 : 0 ≤ s) (hs2 : s ≤ 31) :
    Calls Tryd.prog 36 #[moV y m f s, sl] w fun e w' => e = .returned (.int .u32 (theseN f s l)) ∧ Gc W w' := by
  have HG := hide h
  have HK := hide hk
  have HRD := hide hr
  obtain ⟨ao, cap, rfl, hlc, hnil, -⟩ := hr
  clear h hk
  have HPB : Hid (∀ k ∈ placesOf f l, -9223372036854775808 ≤ k ∧ k ≤ 9223372036854775807) := fun k hk => by
    obtain ⟨d, hd, h1, rfl⟩ := (placesOf_mem f l k).1 hk
    have := HK.out d hd
    omega
  obtain ⟨i0, hi, hz0, hz1, hz2⟩ := info_parts info64
  unfold moV
  go_enter Tryd.func36, Tryd.ntmps36
  go_wp2
  obtain ⟨wA, hwA⟩ : ∃ wA, wA = w.alloc (.cells #[.int .i64 y, .int .i64 m, .int .i64 f, .int .i64 s] 67) := ⟨_, rfl⟩
  have hblk : wA.heap[w.heap.size]? = some (.cells #[.int .i64 y, .int .i64 m, .int .i64 f, .int .i64 s] 67 (0, 0)) := by rw [hwA]; exact heap_alloc_new w _
  have HB : Hid (Below w.heap.size w wA) := by rw [hwA]; exact (Below.refl _ _).alloc (Nat.le_refl _) _
  have HRA := hide (HRD.out.below HB.out)
  have HGA : Hid (Gc wA wA) := (HG.out.more HB.out).here
  rw [← hwA]
  have HCB := hide hblk
  clear hwA hblk
  go_loopw [5, 10] (fun u t wr => ∃ i : Nat, i ≤ l.length ∧ t = .int .i64 i ∧ wr.ownsRow wA.heap.size 2 1 u (placesOf f (l.take i)).length (i64s (placesOf f (l.take i))) ∧ Gc wA wr) (fun _ t _ => l.length - (intOf t).toNat)
  case atStart => exact ⟨0, Nat.zero_le _, rfl, World.ownsRow_nil _ _ _ _, HGA.out⟩
  case round =>
    obtain ⟨i, hi', rfl, hown, hg⟩ := hrel
    obtain ⟨uo, ucap, rfl, -⟩ := own_shape hown
    have hple := placesOf_len f (l.take i)
    rw [List.length_take] at hple
    have hblk : wr.heap[w.heap.size]? = some (.cells #[.int .i64 y, .int .i64 m, .int .i64 f, .int .i64 s] 67 (0, 0)) := by rw [hg.below.block _ (block_lt HCB.out)]; exact HCB.out
    have c0 : wr.cell? ⟨w.heap.size, 0, none⟩ = some (.int .i64 y) := by rw [cell_of hblk]; rfl
    have c1 : wr.cell? ⟨w.heap.size, 1, none⟩ = some (.int .i64 m) := by rw [cell_of hblk]; rfl
    have c2 : wr.cell? ⟨w.heap.size, 2, none⟩ = some (.int .i64 f) := by rw [cell_of hblk]; rfl
    have c3 : wr.cell? ⟨w.heap.size, 3, none⟩ = some (.int .i64 s) := by rw [cell_of hblk]; rfl
    clear hblk
    by_cases hlt : i < l.length
    · obtain ⟨ao', cap', hv, -, -, hrd⟩ := HRA.out
      simp only [Value.slice.injEq] at hv
      obtain ⟨rfl, -, rfl⟩ := hv
      obtain ⟨a, rfl⟩ : ∃ a, ao = some a := by
        cases ao with
        | none => have := hnil rfl; omega
        | some a => exact ⟨a, rfl⟩
      have hcl := Below.keeps hg.below (Nat.le_refl _) (hrd a rfl i l[i] (List.getElem?_eq_getElem hlt))
      clear hrd
      obtain ⟨hx1, hx2⟩ := HK.out l[i] (List.getElem_mem hlt)
      have HS : Hid (placesOf f (l.take (i + 1)) = placesOf f (l.take i) ++ if f ≤ l[i] then [l[i] - f + 1] else []) := by show _ = _; rw [List.take_succ_eq_append_getElem hlt, placesOf_snoc]
      generalize l[i] = x at *
      generalize hqe : placesOf f (l.take i) = q at *
      have HQ := hide hqe
      have HO := hide hown
      have HGr := hide hg
      clear hqe hown hg
      by_cases hfx : f ≤ x
      · go_wp2_with fail
        refine (Gc.place HGr.out.here y m f s x hx1 hx2 h3 h4).mono ?_
        rintro e w1 ⟨rfl, g1⟩
        have hown := own_below HO.out g1.below
        have hnx := (HGr.out.more g1.below).below
        have HG1 := hide (HGr.out.more g1.below)
        clear g1
        go_wp2_with (at_builtin; refine Hid.out ?_)
        refine hide ?_
        refine wpList_append_own _ rfl _ _ 23 rfl wA.heap.size 2 i0 (.int .i64 0) 1 8 Tryd.underlying23 hi hz0 hz1 hz2 rfl (by decide) _ _ _ rfl (hown.alloc _) ⟨_, 0, none⟩ 1 1 [.int .i64 (x - f + 1)] rfl rfl (cell_one_new _ _ _) (one_i64 _) (by unfold maxLen; omega) (by omega) (by have := hnx.size; simp; omega) ?_
        intro v' w2 hown' hgrow _
        obtain ⟨R1, R2⟩ := rel_push64 hnx.size hown hnx hown' hgrow
        have HR1 := hide R1
        have HR2 : Hid (Gc wA w2) := ⟨HGA.out.bits, HGA.out.len, HGA.out.shp, R2⟩
        clear hown' hgrow hown hnx R1 R2
        go_wp2
        go_roundw
        case rel =>
          refine ⟨i + 1, by omega, by go_num, ?_, HR2.out⟩
          rw [HS.out, if_pos hfx, List.length_append]
          exact HR1.out
        case measure => simp [intOf]; omega
      · go_wp2
        go_roundw
        case rel => exact ⟨i + 1, by omega, by go_num, by rw [HS.out, if_neg hfx, List.append_nil]; exact HO.out, HGr.out⟩
        case measure => simp [intOf]; omega
    · have HE : Hid (placesOf f (l.take i) = placesOf f l) := by show _ = _; rw [List.take_of_length_le (by omega)]
      have HO := hide (RdI.own hown)
      have HGr := hide hg
      have hpl := placesOf_len f l
      clear hown hg
      go_wp2_with fail
      refine (days_any (placesOf f l) s _ _ (by have := HO.out; rw [HE.out] at this ⊢; exact this) (by omega) (by omega) (by omega) HPB.out).mono ?_
      rintro e w1 ⟨rfl, rfl⟩
      go_wp2
      go_ret
      exact ⟨rfl, ⟨HG.out.bits, HG.out.len, HG.out.shp, ((HG.out.more HB.out).more HGr.out.below).below⟩⟩
end Go.Proofs.YthbfjkdklnffjaaDoor
