/- Layer 13's laws: known; PoolNil. -/
import Derived.Test.YtkpambipgcjaiaaPlQ
namespace Go.Proofs.Ytkpambipgcjaiaa
open Go.ChangeShapes Go.WideShapes Go.ChangeAt Go.RowKit Go.DsMem Go.DsCo Go.DsPl Go.DsMap
set_option linter.unusedVariables false
set_option linter.unusedSimpArgs false
theorem ne_lit1 (w : World) (n : Ne) (t : TypeId) : NeRd (w.alloc (.cells #[.string n.nm, .int .i64 n.n, .int .i64 n.md] t)) (some ⟨w.heap.size, 0, none⟩) [n] := fun _ => by
  refine ⟨_, rfl, by simp, fun j x hj => ?_⟩
  match j, hj with
  | 0, hj => simp at hj; subst hj; exact ⟨by rw [World.cell?_alloc_mark]; rfl, by rw [World.cell?_alloc_mark]; rfl, by rw [World.cell?_alloc_mark]; rfl⟩
  | j + 1, hj => simp at hj
theorem ne_lit2 (w : World) (n m : Ne) (t : TypeId) : NeRd (w.alloc (.cells #[.string n.nm, .int .i64 n.n, .int .i64 n.md, .string m.nm, .int .i64 m.n, .int .i64 m.md] t)) (some ⟨w.heap.size, 0, none⟩) [n, m] := fun _ => by
  refine ⟨_, rfl, by simp, fun j x hj => ?_⟩
  match j, hj with
  | 0, hj => simp at hj; subst hj; exact ⟨by rw [World.cell?_alloc_mark]; rfl, by rw [World.cell?_alloc_mark]; rfl, by rw [World.cell?_alloc_mark]; rfl⟩
  | 1, hj => simp at hj; subst hj; exact ⟨by rw [World.cell?_alloc_mark]; rfl, by rw [World.cell?_alloc_mark]; rfl, by rw [World.cell?_alloc_mark]; rfl⟩
  | j + 2, hj => simp at hj
theorem rt_lit2 (w : World) (n m : Rt) (t : TypeId) : RtRd (w.alloc (.cells #[.string n.1, .int .i64 n.2.1, .bool n.2.2, .string m.1, .int .i64 m.2.1, .bool m.2.2] t)) (some ⟨w.heap.size, 0, none⟩) [n, m] := fun _ => by
  refine ⟨_, rfl, by simp, fun j x hj => ?_⟩
  match j, hj with
  | 0, hj => simp at hj; subst hj; exact ⟨by rw [World.cell?_alloc_mark]; rfl, by rw [World.cell?_alloc_mark]; rfl, by rw [World.cell?_alloc_mark]; rfl⟩
  | 1, hj => simp at hj; subst hj; exact ⟨by rw [World.cell?_alloc_mark]; rfl, by rw [World.cell?_alloc_mark]; rfl, by rw [World.cell?_alloc_mark]; rfl⟩
  | j + 2, hj => simp at hj
theorem holdsB_perm {H H' : List Hd} (h : H.Perm H') (o : Int) : holdsB H o = holdsB H' o := by
  rw [Bool.eq_iff_iff, holdsB_iff, holdsB_iff]
  exact ⟨fun ⟨x, hx, e⟩ => ⟨x, h.mem_iff.1 hx, e⟩, fun ⟨x, hx, e⟩ => ⟨x, h.mem_iff.2 hx, e⟩⟩
theorem roomF_perm {R : List Rk} {H H' : List Hd} (h : H.Perm H') : ∀ l : List Ne, roomF R H l = roomF R H' l
  | [] => rfl
  | n :: r => by unfold roomF; rw [useF_perm h, roomF_perm h r]
theorem mayF_perm {R : List Rk} {H H' : List Hd} (h : H.Perm H') (o : Int) (l : List Ne) : mayF R H o l = mayF R H' o l := by
  unfold mayF
  rw [holdsB_perm h, roomF_perm h]
theorem freeF_perm {R : List Rk} {H H' : List Hd} (h : H.Perm H') (nm : ByteArray) : freeF R H nm = freeF R H' nm := by
  unfold freeF
  rw [useF_perm h]
abbrev sCpu : ByteArray := ⟨#[99, 112, 117]⟩
abbrev sDb : ByteArray := ⟨#[100, 98]⟩
def kT : List Rt := [(sCpu, 4, false), (sDb, 0, true)]
def kR : List Rk := [(sCpu, .units 4), (sDb, .lock)]
def kA : List Ne := [⟨sCpu, 3, 0⟩, ⟨sDb, 0, 1⟩]
def kB : List Ne := [⟨sCpu, 2, 0⟩]
def kC : List Ne := [⟨sDb, 0, 2⟩]
def kH : List Hd := [((1, sDb), (0, 1)), ((1, sCpu), (3, 0))]
theorem kT_new : newF kT = kR := by kernel_rfl
theorem kA_may : mayF kR [] 1 kA = 0 := by decide +kernel
theorem kB_may : mayF kR kH 2 kB = 32 := by decide +kernel
theorem kC_may : mayF kR kH 3 kC = 32 := by decide +kernel
theorem kB_may2 : mayF kR [] 2 kB = 0 := by decide +kernel
theorem kFree : freeF kR [((2, sCpu), (2, 0))] sCpu = (2, 0) := by decide +kernel
theorem kGive : giveF kH 1 = [] := by decide +kernel
noncomputable def kH1 : List Hd := (takeF kR [] 1 kA).1
theorem kH1_perm : kH1.Perm kH := by
  unfold kH1 takeF
  rw [if_neg (by rw [kA_may]; simp)]
  have e : takeL kR 1 [] kA = insH ((1, sDb), shareF ((findK kR sDb).getD .lock) ⟨sDb, 0, 1⟩) (insH ((1, sCpu), shareF ((findK kR sCpu).getD .lock) ⟨sCpu, 3, 0⟩) []) := rfl
  show (takeL kR 1 [] kA).Perm kH
  rw [e]
  have e1 : shareF ((findK kR sDb).getD .lock) ⟨sDb, 0, 1⟩ = (0, 1) := by kernel_rfl
  have e2 : shareF ((findK kR sCpu).getD .lock) ⟨sCpu, 3, 0⟩ = (3, 0) := by kernel_rfl
  rw [e1, e2]
  exact (insH_perm _ _).trans ((insH_perm _ _).cons _)
theorem kT1 : (takeF kR [] 1 kA).2 = 0 := by unfold takeF; rw [if_neg (by rw [kA_may]; simp)]
theorem kT2 : takeF kR kH1 2 kB = (kH1, 32) := by unfold takeF; rw [mayF_perm kH1_perm, kB_may, if_pos (by decide)]
theorem kT3 : takeF kR kH1 3 kC = (kH1, 32) := by unfold takeF; rw [mayF_perm kH1_perm, kC_may, if_pos (by decide)]
theorem kG : giveF kH1 1 = [] := by
  have := (kH1_perm.filter (fun h => decide (h.1.1 ≠ 1)))
  have e : giveF kH1 1 = List.filter (fun h => decide (h.1.1 ≠ 1)) kH1 := rfl
  rw [e]
  have e2 : List.filter (fun h => decide (h.1.1 ≠ 1)) kH = [] := kGive
  rw [e2] at this
  exact List.perm_nil.1 this
theorem kL : kH1.length = 2 := by rw [kH1_perm.length_eq]; rfl
theorem kT4 : takeF kR [] 2 kB = ([((2, sCpu), (2, 0))], 0) := by
  unfold takeF
  rw [if_neg (by rw [kB_may2]; simp)]
  have e : takeL kR 2 [] kB = [((2, sCpu), shareF ((findK kR sCpu).getD .lock) ⟨sCpu, 2, 0⟩)] := rfl
  rw [e]
  have e2 : shareF ((findK kR sCpu).getD .lock) ⟨sCpu, 2, 0⟩ = (2, 0) := by kernel_rfl
  rw [e2]
theorem fitK (l : List Ne) (h : ∀ n ∈ l, n.nm.size ≤ 100) : FitL l := fun n hn => by have := h n hn; unfold FitN; omega
set_option maxHeartbeats 8000000 in
set_option maxRecDepth 20000 in
/-- dayshiftlaw13.known -/
theorem known13 (w : World) : Calls Try.prog 14 #[] w fun e w' => e = .returned (.bool true) ∧ Below w.heap.size w w' := by
  have HN := hide (fun w (uo : Option Addr) h => new_any kT uo 2 w h (fun n hn => by simp [kT] at hn; rcases hn with rfl | rfl <;> decide) (by decide))
  rw [kT_new] at HN
  have HTA := hide (fun w p a b (uo : Option Addr) (h : PoAt w p a b kR []) hr => take_any kA uo 2 1 (by decide) p a b kR [] w h hr (fitK _ (by decide)) (by decide) (by decide))
  rw [kT1] at HTA
  have HTB := hide (fun w p a b (uo : Option Addr) (h : PoAt w p a b kR kH1) hr => take_any kB uo 1 2 (by decide) p a b kR kH1 w h hr (fitK _ (by decide)) (by decide) (by rw [kL]; decide))
  rw [kT2] at HTB
  have HTC := hide (fun w p a b (uo : Option Addr) (h : PoAt w p a b kR kH1) hr => take_any kC uo 1 3 (by decide) p a b kR kH1 w h hr (fitK _ (by decide)) (by decide) (by rw [kL]; decide))
  rw [kT3] at HTC
  have HG := hide (fun w p a b (h : PoAt w p a b kR kH1) => give_any 1 (by decide) p a b kR kH1 w h (by rw [kL]; decide))
  rw [kG, kL] at HG
  have HTD := hide (fun w p a b (uo : Option Addr) (h : PoAt w p a b kR []) hr => take_any kB uo 1 2 (by decide) p a b kR [] w h hr (fitK _ (by decide)) (by decide) (by decide))
  rw [kT4] at HTD
  have HFR := hide (fun w p a b (h : PoAt w p a b kR [((2, sCpu), (2, 0))]) => free_any sCpu (by decide) p a b kR _ w h (by decide))
  rw [kFree] at HFR
  have HLS := hide (fun w p a b (h : PoAt w p a b kR [((2, sCpu), (2, 0))]) => plist_any p a b kR _ w h (by decide))
  have e0 : (kT.length = 2) ∧ kA.length = 2 ∧ kB.length = 1 ∧ kC.length = 1 := by decide
  obtain ⟨e1, e2, e3, e4⟩ := e0
  rw [e1] at HN
  rw [e2] at HTA
  rw [e3] at HTB HTD
  rw [e4] at HTC
  clear e1 e2 e3 e4
  unfold ptr ListedH at *
  simp only [List.length_cons, List.length_nil] at HLS HG
  go_enter Try.func14, Try.ntmps14
  go_wp2_with fail
  refine (HN.out _ _ (by exact rt_lit2 w (sCpu, 4, false) (sDb, 0, true) _)).mono ?_
  rintro e w1 ⟨rfl, hp1, hb1⟩
  have hz : (w.alloc (.cells #[.string sCpu, .int .i64 4, .bool false, .string sDb, .int .i64 0, .bool true] 72)).heap.size = w.heap.size + 1 := by simp
  have HB1 : Hid (Below w.heap.size w w1) := hide ((bel1 w _).trans (hb1.mono (by simp)))
  rw [hz] at hp1 ⊢
  obtain ⟨p, hp⟩ : ∃ p, p = w.heap.size + 1 + 2 := ⟨_, rfl⟩
  obtain ⟨b, hb⟩ : ∃ b, b = w.heap.size + 1 + 1 := ⟨_, rfl⟩
  obtain ⟨a, ha⟩ : ∃ a, a = w.heap.size + 1 := ⟨_, rfl⟩
  rw [← hp, ← hb] at hp1
  rw [← hp]
  have HP1 : Hid (PoAt w1 p a b kR []) := hide (by rw [ha]; exact hp1)
  have HBE : Hid (w.heap.size ≤ b) := hide (by omega)
  clear hz hp1 hb1 hp hb ha HN
  have ST : Hid (∀ wa wb o, Below w.heap.size w wa → Only (· = b) (wa.alloc o) wb → Below w.heap.size w wb) := hide (fun wa wb o h ho => (h.alloc h.size o).trans (ho.toBelow (by have := h.size; simp; omega) (fun i e => by rw [e]; exact HBE.out)))
  have ST0 : Hid (∀ wa wb, Below w.heap.size w wa → Only (· = b) wa wb → Below w.heap.size w wb) := hide (fun wa wb h ho => h.trans (ho.toBelow h.size (fun i e => by rw [e]; exact HBE.out)))
  go_wp2_with fail
  refine (HTA.out _ p a b _ (by exact HP1.out.below (bel1 _ _)) (by exact ne_lit2 w1 ⟨sCpu, 3, 0⟩ ⟨sDb, 0, 1⟩ _)).mono ?_
  rintro e w2 ⟨rfl, hp2, ho2⟩
  have HP2 : Hid (PoAt w2 p a b kR kH1) := hide hp2
  have HB2 := hide (ST.out _ _ _ HB1.out ho2)
  clear hp2 ho2 HP1 HB1 HTA
  go_wp2_with fail
  refine (HTB.out _ p a b _ (by exact HP2.out.below (bel1 _ _)) (by exact ne_lit1 w2 ⟨sCpu, 2, 0⟩ _)).mono ?_
  rintro e w3 ⟨rfl, hp3, ho3⟩
  have HP3 : Hid (PoAt w3 p a b kR kH1) := hide hp3
  have HB3 := hide (ST.out _ _ _ HB2.out ho3)
  clear hp3 ho3 HP2 HB2 HTB
  go_wp2_with fail
  refine (HTC.out _ p a b _ (by exact HP3.out.below (bel1 _ _)) (by exact ne_lit1 w3 ⟨sDb, 0, 2⟩ _)).mono ?_
  rintro e w4 ⟨rfl, hp4, ho4⟩
  have HP4 : Hid (PoAt w4 p a b kR kH1) := hide hp4
  have HB4 := hide (ST.out _ _ _ HB3.out ho4)
  clear hp4 ho4 HP3 HB3 HTC
  go_wp2_with fail
  refine (HG.out _ p a b (by exact HP4.out)).mono ?_
  rintro e w5 ⟨rfl, hp5, ho5⟩
  have HP5 : Hid (PoAt w5 p a b kR []) := hide hp5
  have HB5 := hide (ST0.out _ _ HB4.out ho5)
  clear hp5 ho5 HP4 HB4 HG
  go_wp2_with fail
  refine (HTD.out _ p a b _ (by exact HP5.out.below (bel1 _ _)) (by exact ne_lit1 w5 ⟨sCpu, 2, 0⟩ _)).mono ?_
  rintro e w6 ⟨rfl, hp6, ho6⟩
  have HP6 : Hid (PoAt w6 p a b kR [((2, sCpu), (2, 0))]) := hide hp6
  have HB6 := hide (ST.out _ _ _ HB5.out ho6)
  clear hp6 ho6 HP5 HB5 HTD
  go_wp2_with fail
  refine (HFR.out _ p a b (by exact HP6.out)).mono ?_
  rintro e w7 ⟨rfl, hb7⟩
  have HP7 := hide (HP6.out.below hb7)
  have HB7 := hide (HB6.out.trans (hb7.mono HB6.out.size))
  clear hb7 HP6 HB6 HFR
  go_wp2_with fail
  refine (HLS.out _ p a b (by exact HP7.out)).mono ?_
  rintro e w8 ⟨g, cap, rfl, hrow, hb8⟩
  have HB8 := hide (HB7.out.trans (hb8.mono HB7.out.size))
  clear hb8 hrow
  go_wp2
  go_ret
  exact ⟨rfl, HB8.out⟩
end Go.Proofs.Ytkpambipgcjaiaa
