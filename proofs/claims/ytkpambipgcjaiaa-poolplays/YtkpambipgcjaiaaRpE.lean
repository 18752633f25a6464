/- Package dayshiftref13: put. Written by gen_rpe.py. -/
import Derived.Test.YtkpambipgcjaiaaRpD
namespace Go.Proofs.Ytkpambipgcjaiaa
open Go.ChangeShapes Go.WideShapes Go.ChangeAt Go.RowKit Go.DsMem Go.DsCo Go.DsPl Go.DsMap
set_option linter.unusedVariables false
set_option linter.unusedSimpArgs false
theorem infoRH : (Try.prog.info? 40).map (fun i => (i.zero, i.size, i.bytes)) = some (some (.agg #[.int .i64 0, .string ⟨#[]⟩, .int .i64 0, .int .i64 0]), 4, 40) := by kernel_rfl
theorem own4_same {w w' : World} {B : Nat} {e : TypeId} {v : Value} {n : Nat} {xs : List Value} (h : w.ownsRow B e 4 v n xs) (hk : ∀ k, v.ownBlock = some k → w'.heap[k]? = w.heap[k]?) : w'.ownsRow B e 4 v n xs := by
  refine ⟨h.1, ?_⟩
  rcases h.2 with h0 | ⟨g, cap, cur, hv, hbg, hg, r⟩
  · exact .inl h0
  · exact .inr ⟨g, cap, cur, hv, hbg, by rw [hk g (by rw [hv]; rfl)]; exact hg, r⟩
theorem ownP_base {w : World} {B B' : Nat} {e : TypeId} {k : Nat} {v : Value} {n : Nat} {xs : List Value} (h : w.ownsRow B e k v n xs) (hB : B' ≤ B) : w.ownsRow B' e k v n xs := by
  refine ⟨h.1, ?_⟩
  rcases h.2 with h0 | ⟨g, cap, cur, hv, hb, r⟩
  · exact .inl h0
  · exact .inr ⟨g, cap, cur, hv, by omega, r⟩
/-- a list of the call's own that grows -/
structure OutH (w wr : World) (out : List Hd) (vo : Option Addr) (vc : Nat) : Prop where
  row : wr.ownsRow w.heap.size 40 4 (.slice vo out.length vc) out.length (hdRows out)
  below : Below w.heap.size w wr
theorem OutH.start {w wr : World} (hb : Below w.heap.size w wr) : OutH w wr [] none 0 := ⟨World.ownsRow_nil _ _ _ _, hb⟩
theorem OutH.keep {w wr w' : World} {out : List Hd} {vo : Option Addr} {vc : Nat} (h : OutH w wr out vo vc) (hb : Below wr.heap.size wr w') : OutH w w' out vo vc :=
  ⟨own4_same h.row (fun k hk => hb.block k (h.row.lt k hk).2), h.below.trans (hb.mono h.below.size)⟩
theorem OutH.step {w wr w2 w3 : World} {out : List Hd} {vo : Option Addr} {vc : Nat} {x : Hd} {g cap : Nat} (h : OutH w wr out vo vc) (hb : Below wr.heap.size wr w2)
    (hown : w3.ownsRow w.heap.size 40 4 (.slice (some ⟨g, 0, none⟩) (out.length + 1) cap) (out.length + 1) (hdRows out ++ encH x)) (hgr : w2.grownBy w3 (Value.slice vo out.length vc).ownBlock) : OutH w w3 (out ++ [x]) (some ⟨g, 0, none⟩) cap := by
  have hlt := h.row.lt
  refine ⟨by rw [hdRows_snoc]; simpa using hown, ?_⟩
  exact (h.below.trans (hb.mono h.below.size)).trans ((Only.grown hgr).toBelow (by have := h.below.size; have := hb.size; omega) fun i e => (hlt i e).1)
/-- the cells of a block that is not the list's own stay -/
theorem OutH.cell {w wr w2 w3 : World} {out : List Hd} {vo : Option Addr} {vc : Nat} (h : OutH w wr out vo vc) (hgr : w2.grownBy w3 (Value.slice vo out.length vc).ownBlock) {D k : Nat} {v : Value} (hD : wr.heap.size ≤ D) (hc : w2.cell? ⟨D, k, none⟩ = some v) : w3.cell? ⟨D, k, none⟩ = some v :=
  (Only.grown hgr).cell hc (fun e => by have := (h.row.lt D e).2; omega)
theorem RpAt.setH {w w0 wr : World} {pr b0 : Nat} {X : List Rt} {H out : List Hd} {uo vo wo : Option Addr} {uc vc wc : Nat} (hp : RpAt w pr b0 X H uo vo uc vc) (h0 : Below w.heap.size w w0) (hb : b0 ≤ w.heap.size) (h : RpAt wr pr b0 X H uo vo uc vc) (ho : OutH w0 wr out wo wc) :
    RpAt (wr.setCell ⟨pr, 1, none⟩ (.slice wo out.length wc)) pr b0 X out uo wo uc wc ∧ Only (· = pr) w (wr.setCell ⟨pr, 1, none⟩ (.slice wo out.length wc)) := by
  have ho' : Only (· = pr) wr (wr.setCell ⟨pr, 1, none⟩ (.slice wo out.length wc)) := Only.set _ pr 1 _
  have hpw := block_lt hp.blk
  have hs0 := h0.size
  refine ⟨⟨?_, own3_same h.rs (fun k hk => ho'.block k (h.rs.lt k hk).2 (h.nx k hk)), own4_same (ownP_base ho.row (by omega)) (fun k hk => ho'.block k (ho.row.lt k hk).2 (fun e => by have := (ho.row.lt k hk).1; have : k = pr := e; omega)), h.nx, fun k hk e => by have := (ho.row.lt k hk).1; omega⟩, ?_⟩
  · rw [hset_same h.blk]; rfl
  · exact (Only.below (h0.trans (ho.below.mono hs0))).trans ho' (fun _ _ e => e)
open Classical in
theorem insH_cons (h x : Hd) (r : List Hd) : insH h (x :: r) = if aheadH h.1 x.1 then h :: x :: r else x :: insH h r := by rw [insH]
set_option maxHeartbeats 16000000 in
set_option maxRecDepth 20000 in
/-- (*dayshiftref13.Pool).put -/
theorem rput_any (h : Hd) (pr b0 : Nat) (X : List Rt) (H : List Hd) (uo vo : Option Addr) (uc vc : Nat) (w : World) (hp : RpAt w pr b0 X H uo vo uc vc) (hH : H.length ≤ 1000000) (hb0 : b0 ≤ w.heap.size) :
    Calls Try.prog 63 #[ptr pr, .agg #[.int .i64 h.1.1, .string h.1.2, .int .i64 h.2.1, .int .i64 h.2.2]] w fun e w' => e = .returned (.tuple #[]) ∧ (∃ vo' vc', RpAt w' pr b0 X (insH h H) uo vo' uc vc') ∧ Only (· = pr) w w' := by
  obtain ⟨i0, hi0, hz0, hz1, hz2⟩ := info_parts infoRH
  obtain ⟨w0, hw0⟩ : ∃ w0, w.alloc (.cells #[.int .i64 h.1.1, .string h.1.2, .int .i64 h.2.1, .int .i64 h.2.2] 40) = w0 := ⟨_, rfl⟩
  have hb1 : Below w.heap.size w w0 := by rw [← hw0]; exact bel1 _ _
  have HP0 := hide (hp.below hb1)
  have HPW := hide hp
  have HB0 := hide hb1
  obtain ⟨D0, hD0⟩ : ∃ D0, w.heap.size = D0 := ⟨_, rfl⟩
  have q0 : w0.cell? ⟨D0, 0, none⟩ = some (.int .i64 h.1.1) := by rw [← hw0, ← hD0]; simp [go_sem]
  have q1 : w0.cell? ⟨D0, 1, none⟩ = some (.string h.1.2) := by rw [← hw0, ← hD0]; simp [go_sem]
  have q2 : w0.cell? ⟨D0, 2, none⟩ = some (.int .i64 h.2.1) := by rw [← hw0, ← hD0]; simp [go_sem]
  have q3 : w0.cell? ⟨D0, 3, none⟩ = some (.int .i64 h.2.2) := by rw [← hw0, ← hD0]; simp [go_sem]
  have hz0' : w0.heap.size = D0 + 1 := by rw [← hw0, ← hD0]; simp
  have HQ := hide (And.intro q0 (And.intro q1 (And.intro q2 q3)))
  have HD0 := hide hD0
  have c1 := HP0.out.c1
  clear hp hb1 q0 q1 q2 q3
  unfold ptr
  go_enter Try.func63, Try.ntmps63
  go_wp2_with fail
  first
  | rw [hw0]
  | skip
  try rw [hD0]
  clear hw0 hD0
  go_wp2
  clear c1
  clear hz0'
  go_loopw [4, 5, 6] (fun sl tb ti wr => ∃ (k : Nat) (out : List Hd) (inb : Bool) (wo : Option Addr) (wc : Nat), k ≤ H.length ∧ sl = .slice wo out.length wc ∧ tb = .bool inb ∧ ti = .int .i64 k ∧ out.length ≤ k + 1 ∧ out ++ (if inb = true then H.drop k else insH h (H.drop k)) = insH h H ∧ OutH w0 wr out wo wc) (fun _ _ ti _ => H.length - (intOf ti).toNat)
  case atStart => exact ⟨0, [], false, none, 0, Nat.zero_le _, rfl, rfl, rfl, by simp, by simp, OutH.start (Below.refl _ _)⟩
  case round =>
    obtain ⟨k, out, inb, wo, wc, hk, rfl, rfl, rfl, hol, hout, hos⟩ := hrel
    have HOUT := hide hout
    have HOS := hide hos
    have HPR := hide (HP0.out.below hos.below)
    have c1 := HPR.out.c1
    have hsw := hos.below.size
    obtain ⟨q0, q1, q2, q3⟩ := HQ.out
    have y0 := Below.keeps hos.below (Nat.le_refl _) q0
    have y1 := Below.keeps hos.below (Nat.le_refl _) q1
    have y2 := Below.keeps hos.below (Nat.le_refl _) q2
    have y3 := Below.keeps hos.below (Nat.le_refl _) q3
    clear hout hos q0 q1 q2 q3
    by_cases hlt : k < H.length
    · have HLT := hide hlt
      have hk0 : (0 : Int) ≤ (k : Int) := by omega
      have hk1 : (k : Int) < ((H.length : Nat) : Int) := by omega
      obtain ⟨g, rfl, hg, hcells⟩ := HPR.out.rdH (by omega)
      obtain ⟨x0, x1, x2, x3⟩ := hcells k hlt
      have HO2 := hide HOUT.out
      rw [drop_cons hlt, insH_cons] at HO2
      clear hcells HOUT
      generalize H[k] = x at *
      obtain ⟨w1, hw1⟩ : ∃ w1, wr.alloc (.cells #[.int .i64 x.1.1, .string x.1.2, .int .i64 x.2.1, .int .i64 x.2.2] 40) = w1 := ⟨_, rfl⟩
      have hb1 : Below wr.heap.size wr w1 := by rw [← hw1]; exact bel1 _ _
      obtain ⟨D, hD⟩ : ∃ D, wr.heap.size = D := ⟨_, rfl⟩
      have z0 : w1.cell? ⟨D, 0, none⟩ = some (.int .i64 x.1.1) := by rw [← hw1, ← hD]; simp [go_sem]
      have z1 : w1.cell? ⟨D, 1, none⟩ = some (.string x.1.2) := by rw [← hw1, ← hD]; simp [go_sem]
      have z2 : w1.cell? ⟨D, 2, none⟩ = some (.int .i64 x.2.1) := by rw [← hw1, ← hD]; simp [go_sem]
      have z3 : w1.cell? ⟨D, 3, none⟩ = some (.int .i64 x.2.2) := by rw [← hw1, ← hD]; simp [go_sem]
      have hs1 : w1.heap.size = D + 1 := by rw [← hw1, ← hD]; simp
      have y0 := Below.keeps hb1 (Nat.le_refl _) y0
      have y1 := Below.keeps hb1 (Nat.le_refl _) y1
      have y2 := Below.keeps hb1 (Nat.le_refl _) y2
      have y3 := Below.keeps hb1 (Nat.le_refl _) y3
      have HOS1 := hide (HOS.out.keep hb1)
      have hDown : ¬ (Value.slice wo out.length wc).ownBlock = some D := fun e => by have := (HOS.out.row.lt D e).2; omega
      have HDO := hide hDown
      clear hb1 hDown
      have hcase : (inb = true ∨ (inb = false ∧ ¬ aheadH h.1 x.1 ∧ ¬ h.1.1 < x.1.1 ∧ ((h.1.1 == x.1.1) = false ∨ ((h.1.1 == x.1.1) = true ∧ Op.bytesLess h.1.2.toList x.1.2.toList = false)))) ∨ (inb = false ∧ aheadH h.1 x.1 ∧ (h.1.1 < x.1.1 ∨ (¬ h.1.1 < x.1.1 ∧ (h.1.1 == x.1.1) = true ∧ Op.bytesLess h.1.2.toList x.1.2.toList = true))) := by
        cases inb
        · by_cases ha : aheadH h.1 x.1
          · refine .inr ⟨rfl, ha, ?_⟩
            by_cases hl : h.1.1 < x.1.1
            · exact .inl hl
            · rcases ha with ha | ⟨ha, hb⟩
              · exact absurd ha hl
              · exact .inr ⟨hl, by simpa using ha, by rw [bl_ltC]; exact @decide_eq_true _ (Classical.propDecidable _) hb⟩
          · refine .inl (.inr ⟨rfl, ha, fun hl => ha (.inl hl), ?_⟩)
            by_cases he : h.1.1 = x.1.1
            · exact .inr ⟨by simpa using he, by rw [bl_ltC]; exact @decide_eq_false _ (Classical.propDecidable _) (fun hl => ha (.inr ⟨he, hl⟩))⟩
            · exact .inl (by simpa using he)
        · exact .inl (.inl rfl)
      clear hs1
      rcases hcase with (rfl | ⟨rfl, ha, hl, hc | ⟨hc, hc2⟩⟩) | ⟨rfl, ha, hc | ⟨hl, hc, hc2⟩⟩
      · have NEW : Hid ((out ++ [x]) ++ (if true = true then H.drop (k + 1) else insH h (H.drop (k + 1))) = insH h H) := hide (by have := HO2.out; simpa using this)
        go_upto_region 6 with fail
        have HROW4 : Hid (∀ ob, (w1.alloc ob).ownsRow w0.heap.size 40 4 (.slice wo out.length wc) out.length (hdRows out)) := hide (fun ob => own4_same HOS1.out.row (fun k hk => ((Below.refl _ _).alloc (Nat.le_refl _) ob).block k (HOS1.out.row.lt k hk).2))
        go_wp2_with (at_builtin; refine Hid.out ?_)
        refine hide ?_
        refine wpList_append_lies _ rfl _ _ 35 rfl w0.heap.size 40 i0 _ 4 40 Try.underlying35 hi0 hz0 hz1 hz2 rfl (by decide) _ (out.length) _ rfl (HROW4.out _) ⟨w1.heap.size, 0, none⟩ 1 1 (encH x) rfl rfl (World.news_of_block (cs := (encH x).toArray) (t := 40) (fr := (0, 0)) (by exact heap_alloc_new w1 _)) (encH_one x) (by omega) (by unfold maxLen; omega) (by omega) (by have := HOS1.out.below.size; simp; omega) (w1.heap.size + 1) (by simp) ?_
        intro g4 cap4 w4 hown4 hgr4 _ _
        have HOS4 := hide (HOS1.out.step (show Below w1.heap.size w1 (w1.alloc (.cells (encH x).toArray 40)) from bel1 _ _) hown4 hgr4)
        clear hown4 hgr4
        go_wp2
        go_roundw
        case rel => exact ⟨k + 1, out ++ [x], true, _, _, by have := HLT.out; omega, by simp, rfl, by go_num, by simp; omega, NEW.out, HOS4.out⟩
        case measure => have := HLT.out; simp [intOf]; omega
      · have NEW : Hid ((out ++ [x]) ++ (if false = true then H.drop (k + 1) else insH h (H.drop (k + 1))) = insH h H) := hide (by have := HO2.out; simpa [ha] using this)
        have HLn : Hid (out.length ≤ k) := hide (by have := congrArg List.length HO2.out; simp [ha, len_insH] at this; omega)
        clear ha
        go_upto_region 6 with fail
        have HROW4 : Hid (∀ ob, (w1.alloc ob).ownsRow w0.heap.size 40 4 (.slice wo out.length wc) out.length (hdRows out)) := hide (fun ob => own4_same HOS1.out.row (fun k hk => ((Below.refl _ _).alloc (Nat.le_refl _) ob).block k (HOS1.out.row.lt k hk).2))
        go_wp2_with (at_builtin; refine Hid.out ?_)
        refine hide ?_
        refine wpList_append_lies _ rfl _ _ 35 rfl w0.heap.size 40 i0 _ 4 40 Try.underlying35 hi0 hz0 hz1 hz2 rfl (by decide) _ (out.length) _ rfl (HROW4.out _) ⟨w1.heap.size, 0, none⟩ 1 1 (encH x) rfl rfl (World.news_of_block (cs := (encH x).toArray) (t := 40) (fr := (0, 0)) (by exact heap_alloc_new w1 _)) (encH_one x) (by omega) (by unfold maxLen; omega) (by omega) (by have := HOS1.out.below.size; simp; omega) (w1.heap.size + 1) (by simp) ?_
        intro g4 cap4 w4 hown4 hgr4 _ _
        have HOS4 := hide (HOS1.out.step (show Below w1.heap.size w1 (w1.alloc (.cells (encH x).toArray 40)) from bel1 _ _) hown4 hgr4)
        clear hown4 hgr4
        go_wp2
        go_roundw
        case rel => exact ⟨k + 1, out ++ [x], false, _, _, by have := HLT.out; omega, by simp, rfl, by go_num, by simp; omega, NEW.out, HOS4.out⟩
        case measure => have := HLT.out; simp [intOf]; omega
      · have NEW : Hid ((out ++ [x]) ++ (if false = true then H.drop (k + 1) else insH h (H.drop (k + 1))) = insH h H) := hide (by have := HO2.out; simpa [ha] using this)
        have HLn : Hid (out.length ≤ k) := hide (by have := congrArg List.length HO2.out; simp [ha, len_insH] at this; omega)
        clear ha
        go_upto_region 6 with fail
        have HROW4 : Hid (∀ ob, (w1.alloc ob).ownsRow w0.heap.size 40 4 (.slice wo out.length wc) out.length (hdRows out)) := hide (fun ob => own4_same HOS1.out.row (fun k hk => ((Below.refl _ _).alloc (Nat.le_refl _) ob).block k (HOS1.out.row.lt k hk).2))
        go_wp2_with (at_builtin; refine Hid.out ?_)
        refine hide ?_
        refine wpList_append_lies _ rfl _ _ 35 rfl w0.heap.size 40 i0 _ 4 40 Try.underlying35 hi0 hz0 hz1 hz2 rfl (by decide) _ (out.length) _ rfl (HROW4.out _) ⟨w1.heap.size, 0, none⟩ 1 1 (encH x) rfl rfl (World.news_of_block (cs := (encH x).toArray) (t := 40) (fr := (0, 0)) (by exact heap_alloc_new w1 _)) (encH_one x) (by omega) (by unfold maxLen; omega) (by omega) (by have := HOS1.out.below.size; simp; omega) (w1.heap.size + 1) (by simp) ?_
        intro g4 cap4 w4 hown4 hgr4 _ _
        have HOS4 := hide (HOS1.out.step (show Below w1.heap.size w1 (w1.alloc (.cells (encH x).toArray 40)) from bel1 _ _) hown4 hgr4)
        clear hown4 hgr4
        go_wp2
        go_roundw
        case rel => exact ⟨k + 1, out ++ [x], false, _, _, by have := HLT.out; omega, by simp, rfl, by go_num, by simp; omega, NEW.out, HOS4.out⟩
        case measure => have := HLT.out; simp [intOf]; omega
      · have NEW : Hid ((out ++ [h] ++ [x]) ++ (if true = true then H.drop (k + 1) else insH h (H.drop (k + 1))) = insH h H) := hide (by have := HO2.out; simpa [ha] using this)
        have HLn : Hid (out.length ≤ k) := hide (by have := congrArg List.length HO2.out; simp [ha, len_insH] at this; omega)
        clear ha
        go_upto_region 6 with fail
        have HROW4 : Hid (∀ ob, (w1.alloc ob).ownsRow w0.heap.size 40 4 (.slice wo out.length wc) out.length (hdRows out)) := hide (fun ob => own4_same HOS1.out.row (fun k hk => ((Below.refl _ _).alloc (Nat.le_refl _) ob).block k (HOS1.out.row.lt k hk).2))
        go_wp2_with (at_builtin; refine Hid.out ?_)
        refine hide ?_
        refine wpList_append_lies _ rfl _ _ 35 rfl w0.heap.size 40 i0 _ 4 40 Try.underlying35 hi0 hz0 hz1 hz2 rfl (by decide) _ (out.length) _ rfl (HROW4.out _) ⟨w1.heap.size, 0, none⟩ 1 1 (encH h) rfl rfl (World.news_of_block (cs := (encH h).toArray) (t := 40) (fr := (0, 0)) (by exact heap_alloc_new w1 _)) (encH_one h) (by omega) (by unfold maxLen; omega) (by omega) (by have := HOS1.out.below.size; simp; omega) (w1.heap.size + 1) (by simp) ?_
        intro g4 cap4 w4 hown4 hgr4 _ _
        have HOS4 := hide (HOS1.out.step (show Below w1.heap.size w1 (w1.alloc (.cells (encH h).toArray 40)) from bel1 _ _) hown4 hgr4)
        have z0 := (Only.grown hgr4).cell (Below.keeps (bel1 w1 (.cells (encH h).toArray 40)) (Nat.le_refl _) z0) HDO.out
        have z1 := (Only.grown hgr4).cell (Below.keeps (bel1 w1 (.cells (encH h).toArray 40)) (Nat.le_refl _) z1) HDO.out
        have z2 := (Only.grown hgr4).cell (Below.keeps (bel1 w1 (.cells (encH h).toArray 40)) (Nat.le_refl _) z2) HDO.out
        have z3 := (Only.grown hgr4).cell (Below.keeps (bel1 w1 (.cells (encH h).toArray 40)) (Nat.le_refl _) z3) HDO.out
        have HL6 : Hid ((out ++ [h]).length = out.length + 1) := hide (by simp)
        have hs6 := HOS4.out.below.size
        clear hown4 hgr4 y0 y1 y2 y3
        have HROW5 : Hid (∀ ob, (w4.alloc ob).ownsRow w0.heap.size 40 4 (.slice (some ⟨g4, 0, none⟩) (out.length + 1) cap4) (out.length + 1) (hdRows (out ++ [h]))) := hide (fun ob => by rw [← HL6.out]; exact own4_same HOS4.out.row (fun k hk => ((Below.refl _ _).alloc (Nat.le_refl _) ob).block k (HOS4.out.row.lt k hk).2))
        go_wp2_with (at_builtin; refine Hid.out ?_)
        refine hide ?_
        refine wpList_append_lies _ rfl _ _ 35 rfl w0.heap.size 40 i0 _ 4 40 Try.underlying35 hi0 hz0 hz1 hz2 rfl (by decide) _ ((out.length + 1)) _ rfl (HROW5.out _) ⟨w4.heap.size, 0, none⟩ 1 1 (encH x) rfl rfl (World.news_of_block (cs := (encH x).toArray) (t := 40) (fr := (0, 0)) (by exact heap_alloc_new w4 _)) (encH_one x) (by omega) (by unfold maxLen; omega) (by omega) (by have := HOS4.out.below.size; simp; omega) (w4.heap.size + 1) (by simp) ?_
        intro g5 cap5 w5 hown5 hgr5 _ _
        have HOS5 := hide (HOS4.out.step (show Below w4.heap.size w4 (w4.alloc (.cells (encH x).toArray 40)) from bel1 _ _) (by rw [HL6.out]; exact hown5) (by rw [HL6.out]; exact hgr5))
        clear hown5 hgr5
        go_wp2
        go_roundw
        case rel => exact ⟨k + 1, out ++ [h] ++ [x], true, _, _, by have := HLT.out; omega, by simp, rfl, by go_num, by have := HLn.out; simp; omega, NEW.out, HOS5.out⟩
        case measure => have := HLT.out; simp [intOf]; omega
      · have NEW : Hid ((out ++ [h] ++ [x]) ++ (if true = true then H.drop (k + 1) else insH h (H.drop (k + 1))) = insH h H) := hide (by have := HO2.out; simpa [ha] using this)
        have HLn : Hid (out.length ≤ k) := hide (by have := congrArg List.length HO2.out; simp [ha, len_insH] at this; omega)
        clear ha
        go_upto_region 6 with fail
        have HROW4 : Hid (∀ ob, (w1.alloc ob).ownsRow w0.heap.size 40 4 (.slice wo out.length wc) out.length (hdRows out)) := hide (fun ob => own4_same HOS1.out.row (fun k hk => ((Below.refl _ _).alloc (Nat.le_refl _) ob).block k (HOS1.out.row.lt k hk).2))
        go_wp2_with (at_builtin; refine Hid.out ?_)
        refine hide ?_
        refine wpList_append_lies _ rfl _ _ 35 rfl w0.heap.size 40 i0 _ 4 40 Try.underlying35 hi0 hz0 hz1 hz2 rfl (by decide) _ (out.length) _ rfl (HROW4.out _) ⟨w1.heap.size, 0, none⟩ 1 1 (encH h) rfl rfl (World.news_of_block (cs := (encH h).toArray) (t := 40) (fr := (0, 0)) (by exact heap_alloc_new w1 _)) (encH_one h) (by omega) (by unfold maxLen; omega) (by omega) (by have := HOS1.out.below.size; simp; omega) (w1.heap.size + 1) (by simp) ?_
        intro g4 cap4 w4 hown4 hgr4 _ _
        have HOS4 := hide (HOS1.out.step (show Below w1.heap.size w1 (w1.alloc (.cells (encH h).toArray 40)) from bel1 _ _) hown4 hgr4)
        have z0 := (Only.grown hgr4).cell (Below.keeps (bel1 w1 (.cells (encH h).toArray 40)) (Nat.le_refl _) z0) HDO.out
        have z1 := (Only.grown hgr4).cell (Below.keeps (bel1 w1 (.cells (encH h).toArray 40)) (Nat.le_refl _) z1) HDO.out
        have z2 := (Only.grown hgr4).cell (Below.keeps (bel1 w1 (.cells (encH h).toArray 40)) (Nat.le_refl _) z2) HDO.out
        have z3 := (Only.grown hgr4).cell (Below.keeps (bel1 w1 (.cells (encH h).toArray 40)) (Nat.le_refl _) z3) HDO.out
        have HL6 : Hid ((out ++ [h]).length = out.length + 1) := hide (by simp)
        have hs6 := HOS4.out.below.size
        clear hown4 hgr4 y0 y1 y2 y3
        have HROW5 : Hid (∀ ob, (w4.alloc ob).ownsRow w0.heap.size 40 4 (.slice (some ⟨g4, 0, none⟩) (out.length + 1) cap4) (out.length + 1) (hdRows (out ++ [h]))) := hide (fun ob => by rw [← HL6.out]; exact own4_same HOS4.out.row (fun k hk => ((Below.refl _ _).alloc (Nat.le_refl _) ob).block k (HOS4.out.row.lt k hk).2))
        go_wp2_with (at_builtin; refine Hid.out ?_)
        refine hide ?_
        refine wpList_append_lies _ rfl _ _ 35 rfl w0.heap.size 40 i0 _ 4 40 Try.underlying35 hi0 hz0 hz1 hz2 rfl (by decide) _ ((out.length + 1)) _ rfl (HROW5.out _) ⟨w4.heap.size, 0, none⟩ 1 1 (encH x) rfl rfl (World.news_of_block (cs := (encH x).toArray) (t := 40) (fr := (0, 0)) (by exact heap_alloc_new w4 _)) (encH_one x) (by omega) (by unfold maxLen; omega) (by omega) (by have := HOS4.out.below.size; simp; omega) (w4.heap.size + 1) (by simp) ?_
        intro g5 cap5 w5 hown5 hgr5 _ _
        have HOS5 := hide (HOS4.out.step (show Below w4.heap.size w4 (w4.alloc (.cells (encH x).toArray 40)) from bel1 _ _) (by rw [HL6.out]; exact hown5) (by rw [HL6.out]; exact hgr5))
        clear hown5 hgr5
        go_wp2
        go_roundw
        case rel => exact ⟨k + 1, out ++ [h] ++ [x], true, _, _, by have := HLT.out; omega, by simp, rfl, by go_num, by have := HLn.out; simp; omega, NEW.out, HOS5.out⟩
        case measure => have := HLT.out; simp [intOf]; omega
    · have hk1 : ¬ (k : Int) < ((H.length : Nat) : Int) := by omega
      have hd : H.drop k = [] := List.drop_eq_nil_of_le (by omega)
      have HO2 := hide HOUT.out
      rw [hd] at HO2
      cases inb with
      | true =>
        have ho : out = insH h H := by simpa using HO2.out
        have HSET := hide (RpAt.setH HPW.out HB0.out hb0 HPR.out HOS.out)
        rw [ho] at HSET
        have hfz := frozen_of (k := 1) HPR.out.blk
        clear hd HO2 HOUT
        subst ho
        go_wp2
        go_end0
        exact ⟨rfl, ⟨wo, wc, HSET.out.1⟩, HSET.out.2⟩
      | false =>
        have ho : out ++ [h] = insH h H := by simpa [insH] using HO2.out
        have HLn : Hid (out.length ≤ H.length) := hide (by have := congrArg List.length ho; simp [len_insH] at this; omega)
        have HHO := hide ho
        clear hd HO2 HOUT ho
        go_upto_region 11 with fail
        have HROW4 : Hid (∀ ob, (wr.alloc ob).ownsRow w0.heap.size 40 4 (.slice wo out.length wc) out.length (hdRows out)) := hide (fun ob => own4_same HOS.out.row (fun k hk => ((Below.refl _ _).alloc (Nat.le_refl _) ob).block k (HOS.out.row.lt k hk).2))
        go_wp2_with (at_builtin; refine Hid.out ?_)
        refine hide ?_
        refine wpList_append_lies _ rfl _ _ 35 rfl w0.heap.size 40 i0 _ 4 40 Try.underlying35 hi0 hz0 hz1 hz2 rfl (by decide) _ (out.length) _ rfl (HROW4.out _) ⟨wr.heap.size, 0, none⟩ 1 1 (encH h) rfl rfl (World.news_of_block (cs := (encH h).toArray) (t := 40) (fr := (0, 0)) (by exact heap_alloc_new wr _)) (encH_one h) (by omega) (by unfold maxLen; have := HLn.out; omega) (by have := HLn.out; omega) (by have := HOS.out.below.size; simp; omega) (wr.heap.size + 1) (by simp) ?_
        intro g4 cap4 w4 hown4 hgr4 _ _
        have HOS4 := hide (HOS.out.step (show Below wr.heap.size wr (wr.alloc (.cells (encH h).toArray 40)) from bel1 _ _) hown4 hgr4)
        have HPR4 := hide (HP0.out.below HOS4.out.below)
        have HSET := hide (RpAt.setH HPW.out HB0.out hb0 HPR4.out HOS4.out)
        have hfz := frozen_of (k := 1) HPR4.out.blk
        have c1 := HPR4.out.c1
        have hl4 : (out ++ [h]).length = out.length + 1 := by simp
        rw [hl4, HHO.out] at HSET
        clear hown4 hgr4 hl4
        go_wp2
        go_end0
        exact ⟨rfl, ⟨_, _, HSET.out.1⟩, HSET.out.2⟩
end Go.Proofs.Ytkpambipgcjaiaa
