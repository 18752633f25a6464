/- Layer 9's law: known. -/
import Derived.Test.YtkpgfhapffijkaaGreatDoorQ45
import Derived.Test.YtkpgfhapffijkaaGreatDoorQ46
namespace Go.Proofs.YtkpgfhapffijkaaGreatDoor
open Go.ChangeShapes Go.WideShapes Go.ChangeAt Go.RowKit Go.DsMem Go.DsLx Go.DsJd Go.DsMk Go.DsMap
set_option linter.unusedVariables false
set_option linter.unusedSimpArgs false
def src91 : ByteArray := ⟨#[106, 111, 98, 32, 97, 32, 123, 32, 110, 101, 101, 100, 32, 99, 112, 117, 32, 49, 59, 32, 125]⟩
def src92 : ByteArray := ⟨#[99, 97, 108, 101, 110, 100, 97, 114, 32, 97, 32, 61, 32, 98, 59, 32, 99, 97, 108, 101, 110, 100, 97, 114, 32, 98, 32, 61, 32, 97, 59]⟩
def src93 : ByteArray := ⟨([99, 97, 108, 101, 110, 100, 97, 114, 32, 119, 32, 61, 32, 119, 101, 101, 107, 40, 109, 111, 110, 41, 59, 32, 114, 101, 115, 111, 117, 114, 99, 101, 32, 99].append [112, 117, 32, 50, 59, 32, 106, 111, 98, 32, 97, 32, 123, 32, 100, 97, 121, 115, 32, 119, 59, 32, 110, 101, 101, 100, 32, 99, 112, 117, 32, 50, 59, 32, 125]).toArray⟩
theorem known91 : ∃ x, parseP src91 = .ok x ∧ checkF x = (3, 0, 21) := by
  obtain ⟨x, h1, h2⟩ := okS_of (s := src91) (p := fun x => decide (checkF x = (3, 0, 21))) (by decide +kernel)
  exact ⟨x, h1, of_decide_eq_true h2⟩
theorem known92 : ∃ x, parseP src92 = .ok x ∧ checkF x = (1, 0, 23) := by
  obtain ⟨x, h1, h2⟩ := okS_of (s := src92) (p := fun x => decide (checkF x = (1, 0, 23))) (by decide +kernel)
  exact ⟨x, h1, of_decide_eq_true h2⟩
theorem known93 : ∃ x, parseP src93 = .ok x ∧ checkF x = (0, 0, 0) := by
  obtain ⟨x, h1, h2⟩ := okS_of (s := src93) (p := fun x => decide (checkF x = (0, 0, 0))) (by decide +kernel)
  exact ⟨x, h1, of_decide_eq_true h2⟩
/-- check of a source whose answer is known -/
theorem lcheck_ok {s : ByteArray} {x : Srcp} {a b c : Int} (hp : parseP s = .ok x) (hc : checkF x = (a, b, c)) {W w : World} (hs : s.size ≤ 140737488355000) (h : Gc W w) :
    Calls Tryz.prog 12 #[.string s] w fun e w' => ∃ (a0 a1 : Int) (o1 : Option Addr) (n1 c1 : Nat) (o2 : Option Addr) (n2 c2 : Nat) (o3 : Option Addr) (n3 c3 : Nat), e = .returned (.tuple #[.agg #[.int .i64 a0, .int .i64 a1, .slice o1 n1 c1, .slice o2 n2 c2, .slice o3 n3 c3], .int .i64 a, .int .i64 b, .int .i64 c, .bool true]) ∧ Below w.heap.size w w' := by
  have := lcheck_any s hs h
  rw [hp] at this
  refine this.mono ?_
  rintro e w' ⟨v, rfl, ⟨sl, rfl, _⟩, hb⟩
  rw [hc]
  exact ⟨_, _, _, _, _, _, _, _, _, _, _, rfl, hb⟩
set_option maxHeartbeats 8000000 in
set_option maxRecDepth 20000 in
/-- dayshiftlaw09.known -/
theorem known9 {W w : World} (h : Gc W w) : Calls Tryz.prog 13 #[] w fun e w' => e = .returned (.bool true) ∧ Below w.heap.size w w' := by
  obtain ⟨x1, p1, c1⟩ := known91
  obtain ⟨x2, p2, c2⟩ := known92
  obtain ⟨x3, p3, c3⟩ := known93
  have HG := hide h
  have H1 := hide (lcheck_ok p1 c1 (by decide +kernel) h)
  have H2 := hide (fun w2 (hb : Below w.heap.size w w2) => lcheck_ok p2 c2 (by decide +kernel) (h.more hb))
  have H3 := hide (fun w2 (hb : Below w.heap.size w w2) => lcheck_ok p3 c3 (by decide +kernel) (h.more hb))
  unfold src91 at H1
  unfold src92 at H2
  unfold src93 at H3
  clear h p1 p2 p3 c1 c2 c3
  go_enter Tryz.func13, Tryz.ntmps13
  go_wp2_with fail
  refine H1.out.mono ?_
  intro e w1 hz
  obtain ⟨a0, a1, o1, n1, c1, o2, n2, c2, o3, n3, c3, rfl, hb1⟩ := hz
  go_upto_region 2 with fail
  obtain ⟨w2, hw2⟩ : ∃ w2, w1.alloc (.cells #[.int .i64 a0, .int .i64 a1, .slice o1 n1 c1, .slice o2 n2 c2, .slice o3 n3 c3] 26) = w2 := ⟨_, rfl⟩
  rw [hw2]
  have hb2 : Below w.heap.size w w2 := by rw [← hw2]; exact hb1.alloc hb1.size _
  have HB2 := hide hb2
  clear hw2 hb1 hb2 H1
  go_wp2_with fail
  refine (H2.out w2 HB2.out).mono ?_
  intro e w3 hz
  obtain ⟨a0, a1, o1, n1, c1, o2, n2, c2, o3, n3, c3, rfl, hb3⟩ := hz
  go_upto_region 3 with fail
  obtain ⟨w4, hw4⟩ : ∃ w4, w3.alloc (.cells #[.int .i64 a0, .int .i64 a1, .slice o1 n1 c1, .slice o2 n2 c2, .slice o3 n3 c3] 26) = w4 := ⟨_, rfl⟩
  rw [hw4]
  have hb4 : Below w.heap.size w w4 := by rw [← hw4]; exact (HB2.out.trans (hb3.mono HB2.out.size)).alloc (by have := HB2.out.size; have := hb3.size; omega) _
  have HB4 := hide hb4
  clear hw4 hb3 hb4 H2
  go_wp2_with fail
  refine (H3.out w4 HB4.out).mono ?_
  intro e w5 hz
  obtain ⟨a0, a1, o1, n1, c1, o2, n2, c2, o3, n3, c3, rfl, hb5⟩ := hz
  go_upto_region 4 with fail
  obtain ⟨w6, hw6⟩ : ∃ w6, w5.alloc (.cells #[.int .i64 a0, .int .i64 a1, .slice o1 n1 c1, .slice o2 n2 c2, .slice o3 n3 c3] 26) = w6 := ⟨_, rfl⟩
  rw [hw6]
  have hb6 : Below w.heap.size w w6 := by rw [← hw6]; exact (HB4.out.trans (hb5.mono HB4.out.size)).alloc (by have := HB4.out.size; have := hb5.size; omega) _
  have HB6 := hide hb6
  clear hw6 hb5 hb6 H3
  go_wp2
  go_ret
  exact ⟨rfl, HB6.out⟩
end Go.Proofs.YtkpgfhapffijkaaGreatDoor

/- Law RuleOrder of layer 9. -/
namespace Go.Proofs.YtkpgfhapffijkaaGreatDoor
open Go.ChangeShapes Go.WideShapes Go.ChangeAt Go.RowKit Go.DsMem Go.DsLx Go.DsJd Go.DsMk Go.DsMap
set_option linter.unusedVariables false
set_option linter.unusedSimpArgs false
abbrev z24 : Array Value := #[.string ⟨#[]⟩, .int .i64 0, .slice none 0 0, .slice none 0 0, .string ⟨#[]⟩, .bool false, .int .i64 0, .int .i64 0, .slice none 0 0, .slice none 0 0, .string ⟨#[]⟩, .int .i64 0, .int .i64 0, .int .i64 0, .string ⟨#[]⟩, .int .i64 0, .slice none 0 0, .slice none 0 0, .slice none 0 0, .int .i64 0, .int .i64 0, .int .i64 0, .int .i64 0, .int .i64 0]
theorem info24 : ∃ (i0 : TypeInfo) (z0 : Value), Tryz.prog.info? 56 = some i0 ∧ i0.size = 24 ∧ i0.bytes = 336 ∧ z0.cells.size = 24 ∧ i0.zero = some z0 := by
  have h1 := infoJob
  have h2 := infoJobZ
  cases hh : Tryz.prog.info? 56 with
  | none => rw [hh] at h1; cases h1
  | some i =>
    rw [hh] at h1 h2
    simp at h1
    exact ⟨i, .agg z24, rfl, h1.1, h1.2, by rfl, h2⟩
theorem srcS_jobs {x : Srcp} (h : SrcS x) {l : List Jb} (hl : l.length ≤ 48) (hm : ∀ j ∈ l, j ∈ x.jobs) : SrcS { x with jobs := l } := ⟨h.cals, h.res, hl, fun j hj => h.jobs.2 j (hm j hj)⟩
/-- a source with other jobs, that lie elsewhere -/
theorem SrcRd.jobs {w w' : World} {x : Srcp} {s : SSl} {gc gr gj oj : Nat} (h : SrcRd w x s gc gr gj oj) (hc : ∀ a u, w.cell? a = some u → w'.cell? a = some u) {l : List Jb} {B : Nat} {bo : Option Addr} {bc : Nat} {K : Nat → JSl}
    (hr : w'.ownsRow B 56 24 (.slice bo l.length bc) l.length (rowJ K 0 l)) (hin : ∀ i (hi : i < l.length), JIn (fun _ => True) w' (K i) l[i]) :
    ∃ g, SrcRd w' { x with jobs := l } { s with jo := bo, jc := bc, KJ := K } gc gr g 0 := by
  obtain ⟨g, j1, j2, j3⟩ : ∃ g, l.length ≤ bc ∧ (0 < l.length → bo = some ⟨g, 0, none⟩) ∧ ∀ k u, (rowJ K 0 l)[k]? = some u → w'.cell? ⟨g, k, none⟩ = some u := by
    rcases hr.2 with ⟨e, h0⟩ | ⟨g, cap, cur, e, hb, hg, hc2, _⟩
    · simp only [Value.slice.injEq] at e
      refine ⟨0, by omega, fun h => by omega, fun k u hu => ?_⟩
      have : l = [] := List.eq_nil_of_length_eq_zero h0
      rw [this] at hu; simp [rowJ] at hu
    · simp only [Value.slice.injEq] at e
      refine ⟨g, by omega, fun _ => e.1, fun k u hu => ?_⟩
      have := hr.cells (g := g) (by rw [e.1]; rfl) k u hu
      rw [add_mk, Nat.zero_add] at this
      exact this
  have h' := h.mono hc
  refine ⟨g, h'.cals, h'.res, j1, j2, fun i hi k u hu => ?_, hin⟩
  have hk : k < 24 := (List.getElem?_eq_some_iff.1 hu).1
  rw [Nat.zero_add]
  exact j3 _ _ (by rw [rowJ_at K 0 l i hi k hk, Nat.zero_add]; exact hu)
theorem rev_take {x : List Jb} {k m : Nat} (h : k + m + 1 = x.length) (hm : m < x.length) : x.reverse.take (k + 1) = x.reverse.take k ++ [x[m]] := by
  have hk : k < x.reverse.length := by rw [List.length_reverse]; omega
  rw [List.take_succ_eq_append_getElem hk, List.getElem_reverse]
  congr 3
  omega
set_option maxHeartbeats 16000000 in
set_option maxRecDepth 20000 in
/-- dayshiftlaw09.RuleOrder -/
theorem rorder_any (s : ByteArray) {W w : World} (hs : s.size ≤ 140737488355000) (h : Gc W w) : Calls Tryz.prog 5 #[.string s] w fun e w' => e = .returned (.bool true) ∧ Below w.heap.size w w' := by
  have HL := hide (lcheck_any s hs h)
  have HK := hide (fun w2 (hb : Below w.heap.size w w2) => known9 (h.more hb))
  have HG := hide h
  have HSM := hide (fun x (e : parseP s = .ok x) => parseP_small e)
  clear h
  generalize parseP s = q at *
  cases q with
  | error f =>
    unfold LC at HL
    dsimp only at HL
    clear HSM HG
    generalize hp : w.heap.size = p at *
    go_enter Tryz.func5, Tryz.ntmps5
    go_wp2_with fail
    refine HL.out.mono ?_
    intro e w1 hz
    obtain ⟨rfl, hb1⟩ : _ ∧ _ := hz
    go_upto_region 2 with fail
    obtain ⟨w2, hw2⟩ : ∃ w2, w1.alloc (.cells #[.int .i64 0, .int .i64 0, .slice none 0 0, .slice none 0 0, .slice none 0 0] 26) = w2 := ⟨_, rfl⟩
    rw [hw2]
    have HB2 : Hid (Below p w w2) := hide (by rw [← hw2]; exact hb1.alloc (by have := hb1.size; omega) _)
    clear hw2 hb1 HL
    go_wp2_with fail
    refine (HK.out w2 HB2.out).mono ?_
    rintro e w3 ⟨rfl, hb3⟩
    have HB3 := hide (HB2.out.trans (hb3.mono (by have := HB2.out.size; omega)))
    clear hb3
    go_wp2
    go_ret
    exact ⟨rfl, HB3.out⟩
  | ok x =>
    unfold LC at HL
    dsimp only at HL
    have hsx := HSM.out x rfl
    have HSX := hide hsx
    have hn48 := hsx.jobs.1
    obtain ⟨F, hF⟩ : ∃ F, checkF x = F := ⟨_, rfl⟩
    obtain ⟨G, hG⟩ : ∃ G, checkF { x with jobs := x.jobs.reverse } = G := ⟨_, rfl⟩
    have hcr := check_rev x
    rw [hF, hG] at hcr
    have HCR := hide hcr
    have HGG := hide hG
    rw [hF] at HL
    clear hsx hF hG hcr HSM
    generalize hp : w.heap.size = p at *
    go_enter Tryz.func5, Tryz.ntmps5
    go_wp2_with fail
    refine HL.out.mono ?_
    intro e w1 hz
    obtain ⟨v, rfl, hv, hb1⟩ : ∃ v, _ ∧ _ ∧ _ := hz
    obtain ⟨sl, gc, gr, gj, rfl, hrd⟩ := hv.rd HSX.out
    have hb1s := hb1.size
    have HRD := hide hrd
    clear hv HL
    unfold sC
    go_upto_region 2 with fail
    obtain ⟨w2, hw2⟩ : ∃ w2, w1.alloc (.cells #[.int .i64 x.start, .int .i64 x.keep, .slice sl.co x.cals.length sl.cc, .slice sl.ro x.res.length sl.rc, .slice sl.jo x.jobs.length sl.jc] 26) = w2 := ⟨_, rfl⟩
    rw [hw2]
    have hb2 : Below w1.heap.size w1 w2 := by rw [← hw2]; exact (Below.refl _ _).alloc (Nat.le_refl _) _
    have hs2 : w2.heap.size = w1.heap.size + 1 := by rw [← hw2]; simp
    have HFX : Hid (w2.heap[w1.heap.size]? = some (.cells #[.int .i64 x.start, .int .i64 x.keep, .slice sl.co x.cals.length sl.cc, .slice sl.ro x.res.length sl.rc, .slice sl.jo x.jobs.length sl.jc] 26 (0, 0))) := hide (by rw [← hw2]; exact heap_alloc_new w1 _)
    have HB12 := hide hb2
    have HB2 : Hid (Below p w w2) := hide (hb1.trans (hb2.mono (by omega)))
    have y4 : w2.cell? ⟨w1.heap.size, 4, none⟩ = some (.slice sl.jo x.jobs.length sl.jc) := by rw [cell_of HFX.out]; rfl
    have hsub : IntKind.i64.wrap ((x.jobs.length : Int) - 1) = (x.jobs.length : Int) - 1 := by rw [IntKind.wrap_i64]; omega
    clear hw2 hb1 hb2 hrd
    generalize hX : w1.heap.size = X at *
    go_wp2
    clear y4 hsub
    go_loopw [8, 9] (fun t u wr => ∃ (k : Nat) (bo : Option Addr) (bc : Nat), k ≤ x.jobs.length ∧ t = .slice bo k bc ∧ u = .int .i64 ((x.jobs.length : Int) - 1 - (k : Int)) ∧ wr.ownsRow (X + 1) 56 24 (.slice bo k bc) k (rowJ (fun i => sl.KJ (x.jobs.length - 1 - i)) 0 (x.jobs.reverse.take k)) ∧ Below (X + 1) w2 wr) (fun _ u _ => (intOf u + 1).toNat)
    case atStart => exact ⟨0, none, 0, Nat.zero_le _, rfl, by simp, World.ownsRow_nil _ _ _ _, Below.refl _ _⟩
    case round =>
      obtain ⟨k, bo, bc, hk, rfl, rfl, hrow, hbr⟩ := hrel
      have HROW := hide hrow
      have HBR := hide hbr
      have hbr2 : Below w2.heap.size w2 wr := by rw [hs2]; exact hbr
      have hsr := hbr2.size
      have HFR := hide ((hbr2.block X (by omega)).trans HFX.out)
      have y4 : wr.cell? ⟨X, 4, none⟩ = some (.slice sl.jo x.jobs.length sl.jc) := by rw [cell_of HFR.out]; rfl
      by_cases hlt : k < x.jobs.length
      · obtain ⟨m, hm⟩ : ∃ m : Nat, (x.jobs.length : Int) - 1 - (k : Int) = (m : Int) := ⟨x.jobs.length - 1 - k, by omega⟩
        have hmk : k + m + 1 = x.jobs.length := by omega
        have hml : m < x.jobs.length := by omega
        rw [hm]
        clear hm
        have hrd2 := (HRD.out.grew (by rw [hX]; exact HB12.out)).grew hbr2
        have hat := hrd2.jat (by omega)
        have hcap := hrd2.jcap
        have HRG := hide (hrd2.jrow m hml)
        rw [Nat.zero_add] at HRG
        obtain ⟨i0, z0, hi0, hz1, hz2, hzc, hz0⟩ := info24
        have HSZ : Hid ((jC x.jobs[m] (sl.KJ m)).size = 24) := hide (by kernel_rfl)
        have HONE : Hid (∀ u ∈ (jC x.jobs[m] (sl.KJ m)).toList, u.oneCell' = true) := hide (jC_one _ _)
        have HNEW : Hid (rowJ (fun i => sl.KJ (x.jobs.length - 1 - i)) 0 (x.jobs.reverse.take k) ++ (jC x.jobs[m] (sl.KJ m)).toList = rowJ (fun i => sl.KJ (x.jobs.length - 1 - i)) 0 (x.jobs.reverse.take (k + 1))) := hide (by
          rw [rev_take hmk hml, rowJ_snoc]
          congr 3
          simp only [List.length_take, List.length_reverse]
          congr 1
          omega)
        rw [hat] at y4
        generalize jC x.jobs[m] (sl.KJ m) = J at *
        have hfold := fold24 J z24 HSZ.out rfl
        have hm0 : (0 : Int) ≤ (m : Int) := Int.natCast_nonneg _
        have hm1 : (m : Int) < (x.jobs.length : Int) := by omega
        have hsub : IntKind.i64.wrap ((m : Int) - 1) = (m : Int) - 1 := by rw [IntKind.wrap_i64]; omega
        have hX1 : X + 1 ≤ wr.heap.size := by omega
        clear hrd2 hat hbr hrow hbr2
        go_upto_region 8 with fail
        refine wp_region_list ?_
        iterate 5
          refine wpList_plain rfl (fun K hK => ?_)
          go_simp
          refine hK _ _ ?_
          clear hK K
        refine wpList_load_mid rfl 56 (.tmp 36) rfl gj (m * 24) rfl J.toList _ HRG.out Tryz.underlying56 rfl (by rw [show J.toList.length = 24 from HSZ.out]; kernel_rfl) ?_
        simp only [Array.toArray_toList]
        have hcz := HSZ.out
        refine wpList_plain rfl (fun K hK => ?_)
        go_simp
        refine hK _ _ ?_
        clear hK K hcz hfold
        have hown : (wr.alloc (.cells J 56)).ownsRow (X + 1) 56 24 (.slice bo k bc) k (rowJ (fun i => sl.KJ (x.jobs.length - 1 - i)) 0 (x.jobs.reverse.take k)) := own_sameK HROW.out (fun b hb => by
          have := HROW.out.lt b hb
          exact ((Below.refl wr.heap.size wr).alloc (Nat.le_refl _) _).block b this.2)
        refine wpList_append_lies _ rfl _ _ 24 rfl (X + 1) 56 i0 z0 24 336 Tryz.underlying24 hi0 hz0 hz1 hz2 hzc (by omega) (.slice bo k bc) k _ rfl hown ⟨wr.heap.size, 0, none⟩ 1 1 J.toList rfl (by simpa using HSZ.out) (World.news_of_block (cs := J) (t := 56) (fr := (0, 0)) (heap_alloc_new wr _)) HONE.out (by omega) (by unfold maxLen; omega) (by omega) (by simp; omega) (wr.heap.size + 1) (by simp) ?_
        intro gg cap w3 hown3 hgrow hat hlt3
        rw [HNEW.out] at hown3
        have HO3 := hide hown3
        have HB3 : Hid (Below (X + 1) w2 w3) := hide (by
          have hA : Below (X + 1) wr (wr.alloc (.cells J 56)) := (Below.refl _ _).alloc hX1 _
          have hC : Below (X + 1) (wr.alloc (.cells J 56)) w3 := (Only.grown hgrow).toBelow (by simp; omega) (fun i hi => (HROW.out.lt i hi).1)
          exact HBR.out.trans (hA.trans hC))
        clear hown hown3 hgrow hat hlt3
        go_wp2
        go_roundw
        case rel => exact ⟨k + 1, some ⟨gg, 0, none⟩, cap, by omega, rfl, by congr 1 <;> omega, HO3.out, HB3.out⟩
        case measure => simp [intOf] <;> omega
      · obtain rfl : k = x.jobs.length := by omega
        have hneg : (x.jobs.length : Int) - 1 - (x.jobs.length : Int) = -1 := by omega
        rw [hneg]
        have y0 : wr.cell? ⟨X, 0, none⟩ = some (.int .i64 x.start) := by rw [cell_of HFR.out]; rfl
        have y1 : wr.cell? ⟨X, 1, none⟩ = some (.int .i64 x.keep) := by rw [cell_of HFR.out]; rfl
        have y2 : wr.cell? ⟨X, 2, none⟩ = some (.slice sl.co x.cals.length sl.cc) := by rw [cell_of HFR.out]; rfl
        have y3 : wr.cell? ⟨X, 3, none⟩ = some (.slice sl.ro x.res.length sl.rc) := by rw [cell_of HFR.out]; rfl
        have yf : wr.frozen? ⟨X, 4, none⟩ = false := frozen_of HFR.out
        have hX0 : X < wr.heap.size := by omega
        obtain ⟨w4, hw4⟩ : ∃ w4, wr.setCell ⟨X, 4, none⟩ (.slice bo x.jobs.length bc) = w4 := ⟨_, rfl⟩
        have hO4 : Only (· = X) wr w4 := by rw [← hw4]; exact Only.set wr X 4 _
        have hF4 : w4.heap[X]? = some (.cells #[.int .i64 x.start, .int .i64 x.keep, .slice sl.co x.cals.length sl.cc, .slice sl.ro x.res.length sl.rc, .slice bo x.jobs.length bc] 26 (0, 0)) := by
          rw [← hw4]
          have := hset_same HFR.out (k := 4) (.slice bo x.jobs.length bc)
          simpa using this
        have v0 : w4.cell? ⟨X, 0, none⟩ = some (.int .i64 x.start) := by rw [cell_of hF4]; rfl
        have v1 : w4.cell? ⟨X, 1, none⟩ = some (.int .i64 x.keep) := by rw [cell_of hF4]; rfl
        have v2 : w4.cell? ⟨X, 2, none⟩ = some (.slice sl.co x.cals.length sl.cc) := by rw [cell_of hF4]; rfl
        have v3 : w4.cell? ⟨X, 3, none⟩ = some (.slice sl.ro x.res.length sl.rc) := by rw [cell_of hF4]; rfl
        have v4 : w4.cell? ⟨X, 4, none⟩ = some (.slice bo x.jobs.length bc) := by rw [cell_of hF4]; rfl
        have hB14 : Below X w1 w4 := by
          have a1 : Below X w1 w2 := HB12.out
          exact (a1.trans (HBR.out.mono (by omega))).trans (hO4.toBelow (by omega) (fun i h => by omega))
        have HB4 : Hid (Below p w w4) := hide ((HB2.out.trans (hbr2.mono (by omega))).trans (hO4.toBelow (by omega) (fun i h => by omega)))
        have hkeep : ∀ a u, w1.cell? a = some u → w4.cell? a = some u := fun a u hc => Below.keeps (by rw [hX]; exact hB14) (Nat.le_refl _) hc
        have hrow4 : w4.ownsRow (X + 1) 56 24 (.slice bo x.jobs.reverse.length bc) x.jobs.reverse.length (rowJ (fun i => sl.KJ (x.jobs.length - 1 - i)) 0 x.jobs.reverse) := by
          have e1 : x.jobs.reverse.take x.jobs.length = x.jobs.reverse := List.take_of_length_le (by rw [List.length_reverse]; exact Nat.le_refl _)
          have := own_sameK (w' := w4) HROW.out (fun b hb => by
            have := HROW.out.lt b hb
            exact hO4.block b this.2 (by omega))
          rw [e1] at this
          rw [List.length_reverse]
          exact this
        obtain ⟨g4, hrd4⟩ := HRD.out.jobs (l := x.jobs.reverse) hkeep hrow4 (fun i hi => by
          rw [List.length_reverse] at hi
          rw [List.getElem_reverse]
          exact (HRD.out.jin (x.jobs.length - 1 - i) (by omega)).mono (fun b _ => trivial) (fun a u _ hc => hkeep a u hc))
        have hCk := check_any (HG.out.more (by rw [hp]; exact HB4.out)) hrd4 (srcS_jobs HSX.out (l := x.jobs.reverse) (by rw [List.length_reverse]; exact hn48) (fun j hj => List.mem_reverse.1 hj))
        rw [HGG.out] at hCk
        simp only [List.length_reverse] at hCk
        have HCK := hide hCk
        clear hbr hrow hbr2 hO4 hF4 hB14 hkeep hrow4 hrd4 hCk HROW HRD HSX HGG hneg
        obtain ⟨fa, fb, fe⟩ := F
        obtain ⟨ga, gb, ge⟩ := G
        obtain ⟨e1, e2, e3⟩ := HCR.out
        have e1 : fa = ga := e1
        have e2 : (fe = 0 ↔ ge = 0) := e2
        have e3 : fa = 3 ∨ fe = ge := e3
        dsimp only at HCK
        subst e1
        obtain ⟨bb, hbb⟩ : ∃ bb, (fe == 0) = bb := ⟨_, rfl⟩
        have hgb : (ge == 0) = bb := by
          rw [← hbb, Bool.eq_iff_iff, beq_iff_eq, beq_iff_eq]
          exact e2.symm
        have hor : (fa == 3) = true ∨ ((fa == 3) = false ∧ (fe == ge) = true) := by
          by_cases h : fa = 3
          · exact .inl (beq_iff_eq.2 h)
          · exact .inr ⟨beq_eq_false_iff_ne.2 h, beq_iff_eq.2 (e3.resolve_left h)⟩
        clear e2 e3 HCR
        go_wp2_with fail
        refine HCK.out.mono ?_
        rintro e w5 ⟨rfl, hb5⟩
        have HB5 := hide (HB4.out.trans (hb5.mono (by have := HB4.out.size; omega)))
        have HK5 := hide (HK.out w5 HB5.out)
        clear hb5 HCK HK v0 v1 v2 v3 v4
        have hee : (fa == fa) = true := by simp
        rcases hor with h3 | ⟨h3, h5⟩
        all_goals
          cases bb
          all_goals
            go_wp2_with fail
            refine HK5.out.mono ?_
            rintro e w6 ⟨rfl, hb6⟩
            have HB6 := hide (HB5.out.trans (hb6.mono (by have := HB5.out.size; omega)))
            clear hb6 HK5
            go_wp2
            go_ret
            exact ⟨rfl, HB6.out⟩
end Go.Proofs.YtkpgfhapffijkaaGreatDoor
