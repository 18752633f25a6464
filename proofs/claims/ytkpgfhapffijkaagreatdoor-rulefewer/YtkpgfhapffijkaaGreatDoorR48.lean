/- What each law's row of package cal gives its walk: the three tables that it lists, cell by cell; and a world that meets the list. -/
import Derived.Test.YtkpgfhapffijkaaGreatDoorR31
import Derived.Test.YtkpgfhapffijkaaGreatDoorRows
import Derived.WalkKit
import Derived.ProofKit
import Derived.OpenShut
import Derived.ShutString
import Derived.ChangeOld
import Derived.Below
import Derived.SizedLaws
import Derived.Deep.Slices
import Derived.Deep.DeepHandedRow
import Derived.Lib.LaidTab
import Derived.Stop.LaidErr
namespace Go.Proofs.YtkpgfhapffijkaaGreatDoor
open Go.ChangeShapes Go.WideShapes Go.ChangeAt Go.RowKit Go.DsMem Go.DsMk
theorem own : ownKnob Tryz.prog.godebug = none := by kernel_rfl
theorem gLen : Tryz.prog.globalNamed (Rows.ruleOrderRow.laid.headD ("", .nil)).1 = some 2 := by kernel_rfl
theorem gLenType : (Tryz.prog.globals[2]?).map (·.type) = some 275 := by kernel_rfl
theorem cellsLen : Tryz.prog.cellsOf 275 = 12 := by kernel_rfl
theorem cells_i64 : Tryz.prog.cellsOf 2 = 1 := by kernel_rfl
theorem gTab : Tryz.prog.globalNamed (Rows.ruleOrderRow.laid.tail.headD ("", .nil)).1 = some 5 := by kernel_rfl
theorem gTabType : (Tryz.prog.globals[5]?).map (·.type) = some 317 := by kernel_rfl
theorem cellsTab : Tryz.prog.cellsOf 317 = 32 := by kernel_rfl
theorem cellsU8 : Tryz.prog.cellsOf 5 = 1 := by kernel_rfl
theorem gShp : Tryz.prog.globalNamed (Rows.ruleOrderRow.laid.tail.tail.headD ("", .nil)).1 = some 4 := by kernel_rfl
theorem gShpType : (Tryz.prog.globals[4]?).map (·.type) = some 303 := by kernel_rfl
theorem cellsShps : Tryz.prog.cellsOf 303 = 55 := by kernel_rfl
theorem cellsShp : Tryz.prog.cellsOf 302 = 5 := by kernel_rfl
theorem cells_int : Tryz.prog.cellsOf 3 = 1 := by kernel_rfl
theorem cells_bool : Tryz.prog.cellsOf 4 = 1 := by kernel_rfl
theorem lens {W : World} (h : laidMetH Tryz.prog Rows.ruleOrderRow.laid W) : Lib.TabIs Tryz.prog W (Rows.ruleOrderRow.laid.headD ("", .nil)).1 .i64 [31, 28, 31, 30, 31, 30, 31, 31, 30, 31, 30, 31] :=
  Lib.tabIs_of_head (rest := Rows.ruleOrderRow.laid.tail) gLen gLenType Tryz.underlying275 Tryz.underlying2 cells_i64 cellsLen h
theorem table {W : World} (h : laidMetH Tryz.prog Rows.ruleOrderRow.laid W) : Lib.TabIs Tryz.prog W (Rows.ruleOrderRow.laid.tail.headD ("", .nil)).1 .u8 [0, 1, 28, 2, 29, 14, 24, 3, 30, 22, 20, 15, 25, 17, 4, 8, 31, 27, 13, 23, 21, 19, 16, 7, 26, 12, 18, 6, 11, 5, 10, 9] :=
  Lib.tabIs_of_head (rest := Rows.ruleOrderRow.laid.tail.tail) gTab gTabType Tryz.underlying317 Tryz.underlying5 cellsU8 cellsTab (laidMet.tail (show laidMet Tryz.prog Rows.ruleOrderRow.laid W from h))
theorem len_of {W : World} (h : laidMetH Tryz.prog Rows.ruleOrderRow.laid W) : Dt.Tab W := by
  have h := lens h
  refine ⟨World.block_lt_of_cell? W _ (h.cell gLen 0 (by decide)), fun m m1 m2 => ?_⟩
  rcases DsCal.months m1 m2 with rfl | rfl | rfl | rfl | rfl | rfl | rfl | rfl | rfl | rfl | rfl | rfl
  · exact h.cell gLen 0 (by decide)
  · exact h.cell gLen 1 (by decide)
  · exact h.cell gLen 2 (by decide)
  · exact h.cell gLen 3 (by decide)
  · exact h.cell gLen 4 (by decide)
  · exact h.cell gLen 5 (by decide)
  · exact h.cell gLen 6 (by decide)
  · exact h.cell gLen 7 (by decide)
  · exact h.cell gLen 8 (by decide)
  · exact h.cell gLen 9 (by decide)
  · exact h.cell gLen 10 (by decide)
  · exact h.cell gLen 11 (by decide)
theorem tab_of {W : World} (h : laidMetH Tryz.prog Rows.ruleOrderRow.laid W) : TabT W := by
  have h := table h
  intro k hk
  match k, hk with
  | 0, _ => exact h.cell gTab 0 (by decide)
  | 1, _ => exact h.cell gTab 1 (by decide)
  | 2, _ => exact h.cell gTab 2 (by decide)
  | 3, _ => exact h.cell gTab 3 (by decide)
  | 4, _ => exact h.cell gTab 4 (by decide)
  | 5, _ => exact h.cell gTab 5 (by decide)
  | 6, _ => exact h.cell gTab 6 (by decide)
  | 7, _ => exact h.cell gTab 7 (by decide)
  | 8, _ => exact h.cell gTab 8 (by decide)
  | 9, _ => exact h.cell gTab 9 (by decide)
  | 10, _ => exact h.cell gTab 10 (by decide)
  | 11, _ => exact h.cell gTab 11 (by decide)
  | 12, _ => exact h.cell gTab 12 (by decide)
  | 13, _ => exact h.cell gTab 13 (by decide)
  | 14, _ => exact h.cell gTab 14 (by decide)
  | 15, _ => exact h.cell gTab 15 (by decide)
  | 16, _ => exact h.cell gTab 16 (by decide)
  | 17, _ => exact h.cell gTab 17 (by decide)
  | 18, _ => exact h.cell gTab 18 (by decide)
  | 19, _ => exact h.cell gTab 19 (by decide)
  | 20, _ => exact h.cell gTab 20 (by decide)
  | 21, _ => exact h.cell gTab 21 (by decide)
  | 22, _ => exact h.cell gTab 22 (by decide)
  | 23, _ => exact h.cell gTab 23 (by decide)
  | 24, _ => exact h.cell gTab 24 (by decide)
  | 25, _ => exact h.cell gTab 25 (by decide)
  | 26, _ => exact h.cell gTab 26 (by decide)
  | 27, _ => exact h.cell gTab 27 (by decide)
  | 28, _ => exact h.cell gTab 28 (by decide)
  | 29, _ => exact h.cell gTab 29 (by decide)
  | 30, _ => exact h.cell gTab 30 (by decide)
  | 31, _ => exact h.cell gTab 31 (by decide)
  | k + 32, hk => omega
set_option maxRecDepth 100000 in
/-- a row of shapes that reads so holds just these cells -/
theorem shape_cells {H : Type} {enc : TypeId × Value → H} {W : World} {sp : Nat → Bool} {held : Bool} {fuel : Nat} {cs : List Value} {a b c d : Int} {e : Bool} {p : List MemPlace}
    (h : DataW.trod enc Tryz.prog W 0 sp held fuel 302 cs = some (.agg [.lit (.int .i64 a), .lit (.int .i64 b), .lit (.int .i64 c), .lit (.int .i64 d), .lit (.bool e)], p)) :
    cs = [.int .i64 a, .int .i64 b, .int .i64 c, .int .i64 d, .bool e] := by
  obtain ⟨xs, m, _, hx, hl, hxl, hf⟩ := DataW.trod_struct Tryz.underlying302 h
  replace hl : cs.length = 5 := hl.trans cellsShp
  clear h
  match xs, hxl with
  | [y0, y1, y2, y3, y4], _ =>
  match cs, hl with
  | [v0, v1, v2, v3, v4], _ =>
  have h0 : DataW.trod enc Tryz.prog W 0 sp held m 3 [v0] = some y0 := by simpa [cells_int] using hf 0 _ rfl
  have h1 : DataW.trod enc Tryz.prog W 0 sp held m 3 [v1] = some y1 := by simpa [cells_int] using hf 1 _ rfl
  have h2 : DataW.trod enc Tryz.prog W 0 sp held m 3 [v2] = some y2 := by simpa [cells_int] using hf 2 _ rfl
  have h3 : DataW.trod enc Tryz.prog W 0 sp held m 3 [v3] = some y3 := by simpa [cells_int] using hf 3 _ rfl
  have h4 : DataW.trod enc Tryz.prog W 0 sp held m 4 [v4] = some y4 := by simpa [cells_bool] using hf 4 _ rfl
  obtain ⟨n0, e0, rfl, _⟩ := DataW.trod_int Tryz.underlying3 h0
  obtain ⟨n1, e1, rfl, _⟩ := DataW.trod_int Tryz.underlying3 h1
  obtain ⟨n2, e2, rfl, _⟩ := DataW.trod_int Tryz.underlying3 h2
  obtain ⟨n3, e3, rfl, _⟩ := DataW.trod_int Tryz.underlying3 h3
  obtain ⟨n4, e4, rfl⟩ := DataW.trod_bool Tryz.underlying4 h4
  simp only [List.map_cons, List.map_nil, Prod.mk.injEq, DataW.agg.injEq, List.cons.injEq, DataW.lit.injEq, Lit.int.injEq, Lit.bool.injEq, true_and, and_true] at hx e0 e1 e2 e3 e4
  obtain ⟨⟨rfl, rfl, rfl, rfl, rfl⟩, _⟩ := hx
  subst e0 e1 e2 e3 e4
  rfl
set_option maxRecDepth 100000 in
theorem shapes_of {W : World} (h : laidMetH Tryz.prog Rows.ruleOrderRow.laid W) : TabS W := by
  have h1 : laidMet Tryz.prog Rows.ruleOrderRow.laid.tail.tail W := laidMet.tail (laidMet.tail (show laidMet Tryz.prog Rows.ruleOrderRow.laid W from h))
  obtain ⟨ps, ⟨g', t', cs, fuel, p, q, hg', ht', hvar, hd, _, _⟩, _⟩ := h1
  obtain rfl := Option.some.inj (gShp.symm.trans hg')
  obtain rfl := Option.some.inj (gShpType.symm.trans ht')
  have hcell : ∀ i, W.cell? ⟨4, i, none⟩ = cs[i]? := World.var?_cell gShp hvar
  cases fuel with
  | zero => simp [DataW.trod] at hd
  | succ fuel =>
  simp only [DataW.trod, Tryz.underlying303, cellsShp, cellsShps] at hd
  split at hd
  case isFalse => cases hd
  rename_i hl
  obtain ⟨xs, hm, hx⟩ := Option.map_eq_some_iff.1 hd
  have hxs := congrArg Prod.fst hx
  simp only [Rows.laid_dayshift_cal_shapes, DataW.agg.injEq] at hxs
  have key : ∀ (k : Nat) (a b c d : Int) (e : Bool), k < 11 → (xs.map (·.1))[k]? = some (.agg [.lit (.int .i64 a), .lit (.int .i64 b), .lit (.int .i64 c), .lit (.int .i64 d), .lit (.bool e)]) →
      ∀ i v, ([.int .i64 a, .int .i64 b, .int .i64 c, .int .i64 d, .bool e] : List Value)[i]? = some v → W.cell? ⟨4, k * 5 + i, none⟩ = some v := fun k a b c d e hk hr i v hv => by
    obtain ⟨y, hy, hf⟩ := Lib.mapM_at hm k k (by simp [hk])
    simp only [List.getElem?_map, hy, Option.map_some, Option.some.injEq] at hr
    obtain ⟨y1, y2⟩ := y
    simp only at hr
    subst hr
    have := shape_cells hf
    rw [hcell, ← Array.getElem?_toList]
    rw [← this] at hv
    rw [List.getElem?_take] at hv
    split at hv
    · rw [List.getElem?_drop] at hv; exact hv
    · cases hv
  intro k i v hk hv
  match k, hk with
  | 0, _ => exact key 0 _ _ _ _ _ (by decide) (by rw [hxs]; rfl) i v hv
  | 1, _ => exact key 1 _ _ _ _ _ (by decide) (by rw [hxs]; rfl) i v hv
  | 2, _ => exact key 2 _ _ _ _ _ (by decide) (by rw [hxs]; rfl) i v hv
  | 3, _ => exact key 3 _ _ _ _ _ (by decide) (by rw [hxs]; rfl) i v hv
  | 4, _ => exact key 4 _ _ _ _ _ (by decide) (by rw [hxs]; rfl) i v hv
  | 5, _ => exact key 5 _ _ _ _ _ (by decide) (by rw [hxs]; rfl) i v hv
  | 6, _ => exact key 6 _ _ _ _ _ (by decide) (by rw [hxs]; rfl) i v hv
  | 7, _ => exact key 7 _ _ _ _ _ (by decide) (by rw [hxs]; rfl) i v hv
  | 8, _ => exact key 8 _ _ _ _ _ (by decide) (by rw [hxs]; rfl) i v hv
  | 9, _ => exact key 9 _ _ _ _ _ (by decide) (by rw [hxs]; rfl) i v hv
  | 10, _ => exact key 10 _ _ _ _ _ (by decide) (by rw [hxs]; rfl) i v hv
  | k + 11, hk => omega
theorem gc_of {W : World} (h : laidMetH Tryz.prog Rows.ruleOrderRow.laid W) : Gc W W := ⟨tab_of h, len_of h, shapes_of h, Below.refl _ _⟩
/-- what a variable's block holds, laid -/
def laidBlock (cs : Array Value) : Obj → Obj
  | .cells _ t frozen => .cells cs t frozen
  | o => o
/-- A world for the witness: the settled one, the three tables holding what their initialisers lay. -/
def laidWorld1 (P : Program) (os : Os) : World :=
  { World.holding P os ⟨#[], #[], []⟩ with heap := (((World.holding P os ⟨#[], #[], []⟩).heap.modify 2 (laidBlock #[.int .i64 31, .int .i64 28, .int .i64 31, .int .i64 30, .int .i64 31, .int .i64 30, .int .i64 31, .int .i64 31, .int .i64 30, .int .i64 31, .int .i64 30, .int .i64 31])).modify 5 (laidBlock #[.int .u8 0, .int .u8 1, .int .u8 28, .int .u8 2, .int .u8 29, .int .u8 14, .int .u8 24, .int .u8 3, .int .u8 30, .int .u8 22, .int .u8 20, .int .u8 15, .int .u8 25, .int .u8 17, .int .u8 4, .int .u8 8, .int .u8 31, .int .u8 27, .int .u8 13, .int .u8 23, .int .u8 21, .int .u8 19, .int .u8 16, .int .u8 7, .int .u8 26, .int .u8 12, .int .u8 18, .int .u8 6, .int .u8 11, .int .u8 5, .int .u8 10, .int .u8 9])).modify 4 (laidBlock #[.int .i64 0, .int .i64 0, .int .i64 0, .int .i64 0, .bool false, .int .i64 1, .int .i64 1, .int .i64 0, .int .i64 0, .bool false, .int .i64 0, .int .i64 64, .int .i64 0, .int .i64 0, .bool false, .int .i64 0, .int .i64 64, .int .i64 0, .int .i64 0, .bool false, .int .i64 2, .int .i64 2, .int .i64 0, .int .i64 0, .bool false, .int .i64 1, .int .i64 1, .int .i64 0, .int .i64 0, .bool true, .int .i64 2, .int .i64 2, .int .i64 0, .int .i64 0, .bool false, .int .i64 0, .int .i64 0, .int .i64 1, .int .i64 8, .bool false, .int .i64 0, .int .i64 0, .int .i64 1, .int .i64 8, .bool false, .int .i64 0, .int .i64 0, .int .i64 1, .int .i64 1, .bool false, .int .i64 0, .int .i64 0, .int .i64 0, .int .i64 0, .bool true]) }
end Go.Proofs.YtkpgfhapffijkaaGreatDoor
