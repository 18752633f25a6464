/- Package need: kinds, their texts, Text of the known needs. -/
import Derived.Test.YtkpambipgcjaiaaNdB
import Derived.Test.YtkpambipgcjaiaaShelf
namespace Go.Proofs.Ytkpambipgcjaiaa
open Go.ChangeShapes Go.WideShapes Go.ChangeAt Go.RowKit Go.DsMem Go.DsCo Go.DsPl Go.DsMap
set_option linter.unusedVariables false
set_option linter.unusedSimpArgs false
/-- internal/strconv.small of 3 -/
theorem small3 (w : World) : Calls Try.prog 149 #[.int .i64 3] w fun e w' => e = .returned (.string ⟨#[51]⟩) ∧ w' = w := by
  go_enter Try.func149, Try.ntmps149
  go_wp2
  go_ret
  exact ⟨rfl, rfl⟩
theorem format3 (w : World) : Calls Try.prog 147 #[.int .i64 3, .int .i64 10] w fun e w' => e = .returned (.string ⟨#[51]⟩) ∧ w' = w := by
  have HF : Hid (∀ w, Calls Try.prog 148 #[.int .i64 3, .int .i64 10] w fun e w' => e = .returned (.string ⟨#[51]⟩) ∧ w' = w) := hide (fun w => by
    have HS := hide (fun w => small3 w)
    go_enter Try.func148, Try.ntmps148
    go_wp2_with fail
    refine (HS.out _).mono ?_
    rintro e w1 ⟨rfl, rfl⟩
    go_wp2
    go_ret
    exact ⟨rfl, rfl⟩)
  go_enter Try.func147, Try.ntmps147
  go_wp2_with fail
  refine (HF.out _).mono ?_
  rintro e w1 ⟨rfl, rfl⟩
  go_wp2
  go_ret
  exact ⟨rfl, rfl⟩
/-- need.units.text of 3 -/
theorem units3 (w : World) : Calls Try.prog 145 #[.agg #[.int .i64 3]] w fun e w' => e = .returned (.string ⟨#[51]⟩) ∧ Below w.heap.size w w' := by
  have HF := hide (fun w => format3 w)
  go_enter Try.func145, Try.ntmps145
  go_wp2_with fail
  refine (HF.out _).mono ?_
  rintro e w1 ⟨rfl, rfl⟩
  go_wp2
  go_ret
  exact ⟨rfl, bel1 _ _⟩
theorem shared_text (w : World) : Calls Try.prog 159 #[.agg #[]] w fun e w' => e = .returned (.string ⟨#[115]⟩) ∧ Below w.heap.size w w' := by
  go_enter Try.func159, Try.ntmps159
  go_wp2
  go_ret
  exact ⟨rfl, bel1 _ _⟩
/-- need.kindOf -/
theorem kindU (n : Int) (w : World) : Calls Try.prog 74 #[.int .i64 0, .int .i64 n] w fun e w' => e = .returned (.iface 143 (.agg #[.int .i64 n])) ∧ w' = w := by
  go_enter Try.func74, Try.ntmps74
  go_wp2
  go_ret
  exact ⟨rfl, rfl⟩
theorem kindS (n : Int) (w : World) : Calls Try.prog 74 #[.int .i64 1, .int .i64 n] w fun e w' => e = .returned (.iface 144 (.agg #[])) ∧ w' = w := by
  go_enter Try.func74, Try.ntmps74
  go_wp2
  go_ret
  exact ⟨rfl, rfl⟩
theorem kindX (n : Int) (w : World) : Calls Try.prog 74 #[.int .i64 2, .int .i64 n] w fun e w' => e = .returned (.iface 145 (.agg #[])) ∧ w' = w := by
  go_enter Try.func74, Try.ntmps74
  go_wp2
  go_ret
  exact ⟨rfl, rfl⟩
theorem infoStrN : (Try.prog.info? 9).map (fun i => (i.zero, i.size, i.bytes)) = some (some (.string ⟨#[]⟩), 1, 16) := by kernel_rfl
def sxRow (xs : List ByteArray) : List Value := xs.map .string
theorem sx_one (x : ByteArray) : ∀ u ∈ [Value.string x], u.oneCell' = true := by
  intro u hu
  simp only [List.mem_cons, List.not_mem_nil, or_false] at hu
  subst hu; rfl
/-- texts of one's own -/
structure SxOwn (w wr : World) (xs : List ByteArray) (uo : Option Addr) (uc : Nat) : Prop where
  row : wr.ownsRow w.heap.size 9 1 (.slice uo xs.length uc) xs.length (sxRow xs)
  below : Below w.heap.size w wr
theorem SxOwn.grew {w wr w' : World} {xs : List ByteArray} {uo : Option Addr} {uc : Nat} (h : SxOwn w wr xs uo uc) (hb : Below wr.heap.size wr w') : SxOwn w w' xs uo uc := by
  refine ⟨⟨h.row.1, ?_⟩, h.below.trans (hb.mono h.below.size)⟩
  rcases h.row.2 with h0 | ⟨g, cap, cur, hv, hbg, hg, r⟩
  · exact .inl h0
  · exact .inr ⟨g, cap, cur, hv, hbg, by rw [hb.block g (block_lt hg)]; exact hg, r⟩
theorem SxOwn.push {w wr w' : World} {xs : List ByteArray} {uo : Option Addr} {uc g cap : Nat} {x : ByteArray} (h : SxOwn w wr xs uo uc)
    (hown : w'.ownsRow w.heap.size 9 1 (.slice (some ⟨g, 0, none⟩) (xs.length + 1) cap) (xs.length + 1) (sxRow xs ++ [.string x])) (hgr : wr.grownBy w' (Value.slice uo xs.length uc).ownBlock) : SxOwn w w' (xs ++ [x]) (some ⟨g, 0, none⟩) cap := by
  have hlt := h.row.lt
  have hl : (xs ++ [x]).length = xs.length + 1 := by simp
  have hbel : Below w.heap.size w w' := h.below.trans ((Only.grown hgr).toBelow h.below.size (fun i hi => by have := (hlt i hi).1; omega))
  have er : sxRow (xs ++ [x]) = sxRow xs ++ [.string x] := by simp [sxRow]
  exact ⟨by rw [hl, er]; exact hown, hbel⟩
theorem SxOwn.cells {w wr : World} {xs : List ByteArray} {uo : Option Addr} {uc : Nat} (h : SxOwn w wr xs uo uc) (h0 : 0 < xs.length) : ∃ g, uo = some ⟨g, 0, none⟩ ∧ xs.length ≤ uc ∧ g < wr.heap.size ∧ ∀ (j : Nat) x, xs[j]? = some x → wr.cell? ⟨g, 0 + j, none⟩ = some (.string x) := by
  rcases h.row.2 with ⟨_, hz⟩ | ⟨g, cap, cur, e, hb, hg, hc, _⟩
  · omega
  · simp only [Value.slice.injEq] at e
    obtain ⟨rfl, -, rfl⟩ := e
    refine ⟨g, rfl, hc, block_lt hg, fun j x hx => ?_⟩
    have := h.row.cells (g := g) rfl j (.string x) (by unfold sxRow; rw [List.getElem?_map, hx]; rfl)
    rw [add_mk] at this
    exact this
def kTN : List Ne := [⟨sCpu, 3, 0⟩, ⟨sDb, 0, 1⟩]
abbrev kW0 : ByteArray := ⟨#[99, 112, 117, 58, 51]⟩
abbrev kW1 : ByteArray := ⟨#[100, 98, 58, 115]⟩
theorem joinK (w wr : World) (uo : Option Addr) (uc : Nat) (h : SxOwn w wr [kW0, kW1] uo uc) :
    Calls Try.prog 90 #[.slice uo 2 uc, .string ⟨#[32]⟩] wr fun e w' => e = .returned (.string ⟨#[99, 112, 117, 58, 51, 32, 100, 98, 58, 115]⟩) ∧ Below wr.heap.size wr w' := by
  obtain ⟨g, rfl, hc, hg, hcells⟩ := h.cells (by decide)
  exact Try.strings_Join g 0 uc [kW0, kW1] ⟨#[32]⟩ wr hcells hg (by decide) hc (by decide)
/-- one word more -/
def wordsK : Nat → List ByteArray
  | 0 => []
  | 1 => [kW0]
  | _ => [kW0, kW1]
set_option maxHeartbeats 8000000 in
set_option maxRecDepth 20000 in
theorem textK (uo : Option Addr) (uc : Nat) (w : World) (hr : NeRd w uo kTN) (hc : 2 ≤ uc) : Calls Try.prog 67 #[.slice uo 2 uc] w fun e w' => e = .returned (.string ⟨#[99, 112, 117, 58, 51, 32, 100, 98, 58, 115]⟩) ∧ Below w.heap.size w w' := by
  obtain ⟨i0, hi0, hz0, hz1, hz2⟩ := info_parts infoStrN
  obtain ⟨gn, hgn, hcells⟩ : ∃ g : Nat, uo = some ⟨g, 0, none⟩ ∧ g < w.heap.size ∧ w.cell? ⟨g, 0, none⟩ = some (.string sCpu) ∧ w.cell? ⟨g, 1, none⟩ = some (.int .i64 3) ∧ w.cell? ⟨g, 2, none⟩ = some (.int .i64 0) ∧ w.cell? ⟨g, 3, none⟩ = some (.string sDb) ∧ w.cell? ⟨g, 4, none⟩ = some (.int .i64 0) ∧ w.cell? ⟨g, 5, none⟩ = some (.int .i64 1) := by
    obtain ⟨g, rfl, hg, hcs⟩ := hr (by decide)
    obtain ⟨a0, a1, a2⟩ := hcs 0 _ rfl
    obtain ⟨a3, a4, a5⟩ := hcs 1 _ rfl
    exact ⟨g, rfl, hg, a0, a1, a2, a3, a4, a5⟩
  obtain ⟨hgw, n0, n1, n2, n3, n4, n5⟩ := hcells
  subst hgn
  clear hr
  go_enter Try.func67, Try.ntmps67
  go_wp2_with (at_make; refine wpList_make_own _ rfl _ _ 136 rfl w.heap.size 9 i0 (.string ⟨#[]⟩) 1 Try.underlying136 hi0 hz0 hz1 _ _ _ 2 rfl rfl (by rfl) (by rw [hz2]; omega) (by unfold maxLen; omega) (Nat.le_refl _) ?_; intro w1 hown1 hgrow1; have HO1 : Hid (SxOwn w w1 [] (some ⟨w.heap.size, 0, none⟩) 2) := hide ⟨hown1, (Below.refl w.heap.size w).grown hgrow1 (Nat.le_refl _) (fun _ h => by cases h)⟩; clear hown1 hgrow1)
  go_loopw [3, 11] (fun tl ti wr => ∃ (k : Nat) (uo' : Option Addr) (uc' : Nat), k ≤ 2 ∧ ti = .int .i64 k ∧ tl = .slice uo' k uc' ∧ SxOwn w wr (wordsK k) uo' uc') (fun _ ti _ => 2 - (intOf ti).toNat)
  case atStart => exact ⟨0, _, _, by omega, rfl, rfl, HO1.out⟩
  case round =>
    obtain ⟨k, uo', uc', hk, rfl, rfl, hst⟩ := hrel
    clear HO1
    obtain rfl | rfl | rfl : k = 0 ∨ k = 1 ∨ k = 2 := by omega
    · have hst : SxOwn w wr [] uo' uc' := hst
      have HST := hide hst
      have m0 := Below.keeps hst.below (Nat.le_refl _) n0
      have m1 := Below.keeps hst.below (Nat.le_refl _) n1
      have m2 := Below.keeps hst.below (Nat.le_refl _) n2
      obtain ⟨x0, hx0⟩ : ∃ x : ByteArray, x = sCpu := ⟨_, rfl⟩
      obtain ⟨x1, hx1⟩ : ∃ x : Int, x = 3 := ⟨_, rfl⟩
      obtain ⟨x2, hx2⟩ : ∃ x : Int, x = 0 := ⟨_, rfl⟩
      rw [← hx0] at m0
      rw [← hx1] at m1
      rw [← hx2] at m2
      have HX0 := hide hx0
      have HX1 := hide hx1
      have HX2 := hide hx2
      clear hx0 hx1 hx2 n0 n1 n2 n3 n4 n5
      obtain ⟨w2, hw2⟩ : ∃ w2, wr.alloc (.cells #[.string x0, .int .i64 x1, .int .i64 x2] 61) = w2 := ⟨_, rfl⟩
      have hb2 : Below wr.heap.size wr w2 := by rw [← hw2]; exact bel1 _ _
      have hblk : w2.heap[wr.heap.size]? = some (.cells #[.string x0, .int .i64 x1, .int .i64 x2] 61 (0, 0)) := by rw [← hw2]; exact heap_alloc_new wr _
      have HBK := hide hblk
      have HB2 := hide hb2
      have HSTW := hide hst
      clear hblk hb2 hst
      go_upto_region 5 with fail
      try rw [hw2]
      clear hw2 m0 m1 m2
      have hst := HSTW.out
      have hb2 := HB2.out
      have hblk := HBK.out
      rw [HX0.out, HX1.out, HX2.out] at hblk
      clear HX0 HX1 HX2 HBK HSTW
      have k0 := cell_of (k := 0) hblk
      have k1 := cell_of (k := 1) hblk
      have k2 := cell_of (k := 2) hblk
      simp at k0 k1 k2
      have HST2 := hide (hst.grew hb2)
      have hDlt : wr.heap.size < w2.heap.size := block_lt hblk
      have hwl : w.heap.size ≤ w2.heap.size := HST2.out.below.size
      have KP : Hid (∀ w', Below w2.drew.heap.size w2.drew w' → w'.cell? ⟨wr.heap.size, 0, none⟩ = some (.string sCpu) ∧ w'.cell? ⟨wr.heap.size, 1, none⟩ = some (.int .i64 3) ∧ w'.cell? ⟨wr.heap.size, 2, none⟩ = some (.int .i64 0)) := hide (fun w' hb =>
        ⟨Below.keeps hb (Nat.le_refl _) (show w2.drew.cell? _ = _ from k0), Below.keeps hb (Nat.le_refl _) (show w2.drew.cell? _ = _ from k1), Below.keeps hb (Nat.le_refl _) (show w2.drew.cell? _ = _ from k2)⟩)
      have KQ : Hid (∀ w3 w4, Below w2.drew.heap.size w2.drew w3 → (w3.alloc (.cells #[.string kW0] 9)).grownBy w4 (Value.slice uo' 0 uc').ownBlock → w4.cell? ⟨wr.heap.size, 0, none⟩ = some (.string sCpu) ∧ w4.cell? ⟨wr.heap.size, 1, none⟩ = some (.int .i64 3) ∧ w4.cell? ⟨wr.heap.size, 2, none⟩ = some (.int .i64 0)) := hide (fun w3 w4 hb hg => by
        have hn : ¬ (Value.slice uo' 0 uc').ownBlock = some wr.heap.size := fun e => by have := (HST.out.row.lt _ e).2; omega
        obtain ⟨q0, q1, q2⟩ := KP.out _ (hb.trans ((bel1 w3 (.cells #[.string kW0] 9)).mono hb.size))
        exact ⟨(Only.grown hg).cell q0 hn, (Only.grown hg).cell q1 hn, (Only.grown hg).cell q2 hn⟩)
      clear hst hb2 hblk
      first
        | (go_region_held3 (fun w' => w'.cell? ⟨wr.heap.size, 0, none⟩ = some (.string sCpu) ∧ w'.cell? ⟨wr.heap.size, 1, none⟩ = some (.int .i64 3) ∧ w'.cell? ⟨wr.heap.size, 2, none⟩ = some (.int .i64 0))
            (first | (exact KQ.out _ _ HB3.out (by assumption)) | (exact KP.out _ (HB3.out.trans ((bel1 w3 _).mono HB3.out.size))) | go_keep)
            (first
              | (go_at_call 74; refine (kindU 3 _).mono ?_; rintro e w' ⟨rfl, rfl⟩)
              | (go_at_call 145; refine (units3 _).mono ?_; rintro e w3 ⟨rfl, hb3⟩; have HB3 := hide hb3; have hs3 : w2.heap.size ≤ w3.heap.size := hb3.size; obtain ⟨q0, q1, q2⟩ := KP.out _ hb3; clear hb3)
              | (refine step_append_lies _ (by rfl) _ _ _ (by rfl) w.heap.size 9 i0 _ 1 16 Try.underlying136 hi0 hz0 hz1 hz2 rfl (by omega) (.slice uo' 0 uc') 0 (sxRow []) (by rfl) (((HST2.out.grew ((Below.refl _ _).drew.trans HB3.out)).grew (bel1 w3 _)).row)
                  ⟨w3.heap.size, 0, none⟩ 1 1 [.string kW0] (by rfl) (by rfl) (World.news_of_block (cs := #[.string kW0]) (t := 9) (fr := (0, 0)) (heap_alloc_new w3 _)) (sx_one _)
                  (by omega) (by unfold maxLen; omega) (by omega) (by simp; omega) (w3.heap.size + 1) (by simp) ?_; intro gg cap w4 hown4 hgrow hat hlt4)))
        | fail
      all_goals
        have HST4 := hide (SxOwn.push ((HST2.out.grew ((Below.refl _ _).drew.trans HB3.out)).grew (bel1 w3 _)) hown4 hgrow)
        clear hown4 hgrow hat hlt4
        go_wp2
        go_roundw
        case rel => exact ⟨1, _, _, by omega, rfl, rfl, HST4.out⟩
        case measure => simp [intOf]
    · have hst : SxOwn w wr [kW0] uo' uc' := hst
      have HST := hide hst
      have m0 := Below.keeps hst.below (Nat.le_refl _) n3
      have m1 := Below.keeps hst.below (Nat.le_refl _) n4
      have m2 := Below.keeps hst.below (Nat.le_refl _) n5
      obtain ⟨x0, hx0⟩ : ∃ x : ByteArray, x = sDb := ⟨_, rfl⟩
      obtain ⟨x1, hx1⟩ : ∃ x : Int, x = 0 := ⟨_, rfl⟩
      obtain ⟨x2, hx2⟩ : ∃ x : Int, x = 1 := ⟨_, rfl⟩
      rw [← hx0] at m0
      rw [← hx1] at m1
      rw [← hx2] at m2
      have HX0 := hide hx0
      have HX1 := hide hx1
      have HX2 := hide hx2
      clear hx0 hx1 hx2 n0 n1 n2 n3 n4 n5
      obtain ⟨w2, hw2⟩ : ∃ w2, wr.alloc (.cells #[.string x0, .int .i64 x1, .int .i64 x2] 61) = w2 := ⟨_, rfl⟩
      have hb2 : Below wr.heap.size wr w2 := by rw [← hw2]; exact bel1 _ _
      have hblk : w2.heap[wr.heap.size]? = some (.cells #[.string x0, .int .i64 x1, .int .i64 x2] 61 (0, 0)) := by rw [← hw2]; exact heap_alloc_new wr _
      have HBK := hide hblk
      have HB2 := hide hb2
      have HSTW := hide hst
      clear hblk hb2 hst
      go_upto_region 5 with fail
      try rw [hw2]
      clear hw2 m0 m1 m2
      have hst := HSTW.out
      have hb2 := HB2.out
      have hblk := HBK.out
      rw [HX0.out, HX1.out, HX2.out] at hblk
      clear HX0 HX1 HX2 HBK HSTW
      have k0 := cell_of (k := 0) hblk
      have k1 := cell_of (k := 1) hblk
      have k2 := cell_of (k := 2) hblk
      simp at k0 k1 k2
      have HST2 := hide (hst.grew hb2)
      have hDlt : wr.heap.size < w2.heap.size := block_lt hblk
      have hwl : w.heap.size ≤ w2.heap.size := HST2.out.below.size
      have KP : Hid (∀ w', Below w2.drew.heap.size w2.drew w' → w'.cell? ⟨wr.heap.size, 0, none⟩ = some (.string sDb) ∧ w'.cell? ⟨wr.heap.size, 1, none⟩ = some (.int .i64 0) ∧ w'.cell? ⟨wr.heap.size, 2, none⟩ = some (.int .i64 1)) := hide (fun w' hb =>
        ⟨Below.keeps hb (Nat.le_refl _) (show w2.drew.cell? _ = _ from k0), Below.keeps hb (Nat.le_refl _) (show w2.drew.cell? _ = _ from k1), Below.keeps hb (Nat.le_refl _) (show w2.drew.cell? _ = _ from k2)⟩)
      have KQ : Hid (∀ w3 w4, Below w2.drew.heap.size w2.drew w3 → (w3.alloc (.cells #[.string kW1] 9)).grownBy w4 (Value.slice uo' 1 uc').ownBlock → w4.cell? ⟨wr.heap.size, 0, none⟩ = some (.string sDb) ∧ w4.cell? ⟨wr.heap.size, 1, none⟩ = some (.int .i64 0) ∧ w4.cell? ⟨wr.heap.size, 2, none⟩ = some (.int .i64 1)) := hide (fun w3 w4 hb hg => by
        have hn : ¬ (Value.slice uo' 1 uc').ownBlock = some wr.heap.size := fun e => by have := (HST.out.row.lt _ e).2; omega
        obtain ⟨q0, q1, q2⟩ := KP.out _ (hb.trans ((bel1 w3 (.cells #[.string kW1] 9)).mono hb.size))
        exact ⟨(Only.grown hg).cell q0 hn, (Only.grown hg).cell q1 hn, (Only.grown hg).cell q2 hn⟩)
      clear hst hb2 hblk
      first
        | (go_region_held3 (fun w' => w'.cell? ⟨wr.heap.size, 0, none⟩ = some (.string sDb) ∧ w'.cell? ⟨wr.heap.size, 1, none⟩ = some (.int .i64 0) ∧ w'.cell? ⟨wr.heap.size, 2, none⟩ = some (.int .i64 1))
            (first | (exact KQ.out _ _ HB3.out (by assumption)) | (exact KP.out _ (HB3.out.trans ((bel1 w3 _).mono HB3.out.size))) | go_keep)
            (first
              | (go_at_call 74; refine (kindS 0 _).mono ?_; rintro e w' ⟨rfl, rfl⟩)
              | (go_at_call 159; refine (shared_text _).mono ?_; rintro e w3 ⟨rfl, hb3⟩; have HB3 := hide hb3; have hs3 : w2.heap.size ≤ w3.heap.size := hb3.size; obtain ⟨q0, q1, q2⟩ := KP.out _ hb3; clear hb3)
              | (refine step_append_lies _ (by rfl) _ _ _ (by rfl) w.heap.size 9 i0 _ 1 16 Try.underlying136 hi0 hz0 hz1 hz2 rfl (by omega) (.slice uo' 1 uc') 1 (sxRow [kW0]) (by rfl) (((HST2.out.grew ((Below.refl _ _).drew.trans HB3.out)).grew (bel1 w3 _)).row)
                  ⟨w3.heap.size, 0, none⟩ 1 1 [.string kW1] (by rfl) (by rfl) (World.news_of_block (cs := #[.string kW1]) (t := 9) (fr := (0, 0)) (heap_alloc_new w3 _)) (sx_one _)
                  (by omega) (by unfold maxLen; omega) (by omega) (by simp; omega) (w3.heap.size + 1) (by simp) ?_; intro gg cap w4 hown4 hgrow hat hlt4)))
        | fail
      all_goals
        have HST4 := hide (SxOwn.push ((HST2.out.grew ((Below.refl _ _).drew.trans HB3.out)).grew (bel1 w3 _)) hown4 hgrow)
        clear hown4 hgrow hat hlt4
        go_wp2
        go_roundw
        case rel => exact ⟨2, _, _, by omega, rfl, rfl, HST4.out⟩
        case measure => simp [intOf]
    · have hst : SxOwn w wr [kW0, kW1] uo' uc' := hst
      have HJ := hide (joinK w wr uo' uc' hst)
      have HST := hide hst
      clear hst n0 n1 n2 n3 n4 n5
      go_wp2_with fail
      refine HJ.out.mono ?_
      rintro e w5 ⟨rfl, hb5⟩
      have HB5 := hide (HST.out.below.trans (hb5.mono HST.out.below.size))
      clear hb5
      go_wp2
      go_ret
      exact ⟨rfl, HB5.out⟩
end Go.Proofs.Ytkpambipgcjaiaa
