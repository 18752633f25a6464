/- Layer 14's laws: known. -/
import Derived.Test.YtkpambipgcjaiaaNdT
import Derived.Test.YtkpambipgcjaiaaPmA
namespace Go.Proofs.Ytkpambipgcjaiaa
open Go.ChangeShapes Go.WideShapes Go.ChangeAt Go.RowKit Go.DsMem Go.DsCo Go.DsPl Go.DsMap
set_option linter.unusedVariables false
set_option linter.unusedSimpArgs false
def n3 : List Ne := [⟨sCpu, 3, 0⟩]
def n2 : List Ne := [⟨sCpu, 2, 0⟩]
def n1 : List Ne := [⟨sCpu, 1, 0⟩]
theorem n3_take : takeF kR [] 1 n3 = ([((1, sCpu), (3, 0))], 0) := by
  unfold takeF
  rw [if_neg (by rw [show mayF kR [] 1 n3 = 0 from by decide +kernel]; simp)]
  have e : takeL kR 1 [] n3 = [((1, sCpu), shareF ((findK kR sCpu).getD .lock) ⟨sCpu, 3, 0⟩)] := rfl
  rw [e]
  have e2 : shareF ((findK kR sCpu).getD .lock) ⟨sCpu, 3, 0⟩ = (3, 0) := by kernel_rfl
  rw [e2]
theorem both32 : bothF kR n3 n2 = false := by
  unfold bothF
  rw [n3_take, Bool.and_eq_false_iff]
  refine .inr (decide_eq_false ?_)
  rw [take_zero]
  show ¬ mayF kR [((1, sCpu), (3, 0))] 2 n2 = 0
  decide +kernel
theorem both31 : bothF kR n3 n1 = true := by
  unfold bothF
  rw [n3_take, Bool.and_eq_true]
  refine ⟨rfl, decide_eq_true ?_⟩
  rw [take_zero]
  show mayF kR [((1, sCpu), (3, 0))] 2 n1 = 0
  decide +kernel
theorem may3 : mayF kR [] 1 n3 = 0 := by decide +kernel
set_option maxHeartbeats 8000000 in
set_option maxRecDepth 20000 in
/-- dayshiftlaw14.known -/
theorem known14 (w : World) : Calls Try.prog 31 #[] w fun e w' => e = .returned (.bool true) ∧ Below w.heap.size w w' := by
  have HN := hide (fun w (uo : Option Addr) h => new_any kT uo 2 w h (fun n hn => by simp [kT] at hn; rcases hn with rfl | rfl <;> decide) (by decide))
  rw [kT_new] at HN
  have HB := hide (fun w p a b (uo vo : Option Addr) (h : PoAt w p a b kR []) hr hs => nboth_any n3 n2 uo vo 1 1 p a b kR [] w h hr hs (fitK _ (by decide)) (fitK _ (by decide)) (by decide) (by decide) (by decide) (by decide))
  rw [both32] at HB
  have HC := hide (fun w p a b (uo vo : Option Addr) (h : PoAt w p a b kR []) hr hs => nboth_any n3 n1 uo vo 1 1 p a b kR [] w h hr hs (fitK _ (by decide)) (fitK _ (by decide)) (by decide) (by decide) (by decide) (by decide))
  rw [both31] at HC
  have HF := hide (fun w p a b (uo : Option Addr) (h : PoAt w p a b kR []) hr => nfits_any n3 uo 1 p a b kR [] w h hr (fitK _ (by decide)) (by decide) (by decide) (by decide))
  rw [may3] at HF
  have HT := hide (fun w (uo : Option Addr) hr => textK uo 2 w hr (by decide))
  have e1 : n3.length = 1 ∧ n2.length = 1 ∧ n1.length = 1 ∧ kT.length = 2 := by decide
  obtain ⟨e1, e2, e3, e4⟩ := e1
  rw [e1] at HF
  rw [e1, e2] at HB
  rw [e1, e3] at HC
  rw [e4] at HN
  clear e1 e2 e3 e4
  unfold ptr at *
  go_enter Try.func31, Try.ntmps31
  go_wp2_with fail
  refine (HN.out _ _ (by exact rt_lit2 w (sCpu, 4, false) (sDb, 0, true) _)).mono ?_
  rintro e w1 ⟨rfl, hp1, hb1⟩
  have hz : (w.alloc (.cells #[.string sCpu, .int .i64 4, .bool false, .string sDb, .int .i64 0, .bool true] 72)).heap.size = w.heap.size + 1 := by simp
  have HB1 : Hid (Below w.heap.size w w1) := hide ((bel1 w _).trans (hb1.mono (by simp)))
  rw [hz] at hp1 ⊢
  obtain ⟨p, hp⟩ : ∃ p, p = w.heap.size + 1 + 2 := ⟨_, rfl⟩
  obtain ⟨b, hb⟩ : ∃ b, b = w.heap.size + 1 + 1 := ⟨_, rfl⟩
  obtain ⟨a, ha⟩ : ∃ a, a = w.heap.size + 1 := ⟨_, rfl⟩
  rw [← hp, ← hb] at hp1
  rw [← hp]
  have HP1 : Hid (PoAt w1 p a b kR []) := hide (by rw [ha]; exact hp1)
  clear hz hp1 hb1 hp hb ha HN
  have L3 : ∀ w : World, NeRd (w.alloc (.cells #[.string sCpu, .int .i64 3, .int .i64 0] 61)) (some ⟨w.heap.size, 0, none⟩) n3 := fun w => ne_lit1 w ⟨sCpu, 3, 0⟩ _
  have L2 : ∀ w : World, NeRd (w.alloc (.cells #[.string sCpu, .int .i64 2, .int .i64 0] 61)) (some ⟨w.heap.size, 0, none⟩) n2 := fun w => ne_lit1 w ⟨sCpu, 2, 0⟩ _
  have L1 : ∀ w : World, NeRd (w.alloc (.cells #[.string sCpu, .int .i64 1, .int .i64 0] 61)) (some ⟨w.heap.size, 0, none⟩) n1 := fun w => ne_lit1 w ⟨sCpu, 1, 0⟩ _
  have LT : ∀ w : World, NeRd (w.alloc (.cells #[.string sCpu, .int .i64 3, .int .i64 0, .string sDb, .int .i64 0, .int .i64 1] 61)) (some ⟨w.heap.size, 0, none⟩) kTN := fun w => ne_lit2 w ⟨sCpu, 3, 0⟩ ⟨sDb, 0, 1⟩ _
  have L3 := hide L3
  have L2 := hide L2
  have L1 := hide L1
  have LT := hide LT
  go_upto_region 3 with fail
  obtain ⟨w2, hw2⟩ : ∃ w2, w1.alloc (.cells #[.string sCpu, .int .i64 3, .int .i64 0] 61) = w2 := ⟨_, rfl⟩
  rw [hw2]
  have hb2 : Below w1.heap.size w1 w2 := by rw [← hw2]; exact bel1 _ _
  have hn2 : NeRd w2 (some ⟨w1.heap.size, 0, none⟩) n3 := by rw [← hw2]; exact L3.out w1
  have HP2 := hide (HP1.out.below hb2)
  have HN2 := hide hn2
  have HB2 := hide (HB1.out.trans (hb2.mono HB1.out.size))
  generalize w1.heap.size = g at *
  clear hw2 hb2 hn2 HB1 HP1
  go_wp2_with fail
  refine (HB.out _ _ _ _ _ _ (HP2.out.below (bel1 _ _)) (HN2.out.below (bel1 _ _)) (by exact L2.out w2)).mono ?_
  rintro e w3 ⟨rfl, hb⟩
  have H3 := hide ((bel1 w2 (.cells #[.string sCpu, .int .i64 2, .int .i64 0] 61)).trans (hb.mono (by simp)))
  have HP3 := hide (HP2.out.below H3.out)
  have HN3 := hide (HN2.out.below H3.out)
  have HB3 := hide (HB2.out.trans (H3.out.mono HB2.out.size))
  clear hb H3 HP2 HN2 HB2
  go_wp2_with fail
  refine (HC.out _ _ _ _ _ _ (HP3.out.below (bel1 _ _)) (HN3.out.below (bel1 _ _)) (by exact L1.out w3)).mono ?_
  rintro e w4 ⟨rfl, hb⟩
  have H4 := hide ((bel1 w3 (.cells #[.string sCpu, .int .i64 1, .int .i64 0] 61)).trans (hb.mono (by simp)))
  have HP4 := hide (HP3.out.below H4.out)
  have HN4 := hide (HN3.out.below H4.out)
  have HB4 := hide (HB3.out.trans (H4.out.mono HB3.out.size))
  clear hb H4 HP3 HN3 HB3
  go_wp2_with fail
  refine (HT.out _ _ (by exact LT.out w4)).mono ?_
  rintro e w5 ⟨rfl, hb⟩
  have H5 := hide ((bel1 w4 (.cells #[.string sCpu, .int .i64 3, .int .i64 0, .string sDb, .int .i64 0, .int .i64 1] 61)).trans (hb.mono (by simp)))
  have HP5 := hide (HP4.out.below H5.out)
  have HN5 := hide (HN4.out.below H5.out)
  have HB5 := hide (HB4.out.trans (H5.out.mono HB4.out.size))
  clear hb H5 HP4 HN4 HB4
  go_wp2_with fail
  refine (HF.out _ _ _ _ _ HP5.out HN5.out).mono ?_
  rintro e w6 ⟨rfl, hb⟩
  have HB6 := hide (HB5.out.trans (hb.mono HB5.out.size))
  clear hb
  go_wp2
  go_ret
  exact ⟨rfl, HB6.out⟩
end Go.Proofs.Ytkpambipgcjaiaa
