/- Package pool: List. -/
import Derived.Test.YtkpambipgcjaiaaPlN
import Derived.Laws.MakeOwn
namespace Go.Proofs.Ytkpambipgcjaiaa
open Go.ChangeShapes Go.WideShapes Go.ChangeAt Go.RowKit Go.DsMem Go.DsCo Go.DsPl Go.DsMap
set_option linter.unusedVariables false
/-- what List hands back -/
def ListedH (w : World) (H : List Hd) (e : Ending) (w' : World) : Prop := ∃ g cap, e = .returned (.slice (some ⟨g, 0, none⟩) H.length cap) ∧ HdRow w' w.heap.size g cap H ∧ Below w.heap.size w w'
theorem delL_snoc {κ ν : Type} {H T M : List (κ × ν)} {c : κ} {x : ν} (hT : (T.map (·.1)).Nodup) (hx : (c, x) ∈ T) (hp : (M ++ T).Perm H) : ((M ++ [(c, x)]) ++ delL T c).Perm H := by
  refine List.Perm.trans ?_ hp
  rw [List.append_assoc]
  exact (delL_cons hT hx).symm.append_left M
set_option maxHeartbeats 8000000 in
set_option maxRecDepth 20000 in
/-- (*pool.Pool).List -/
theorem plist_any (p a b : Nat) (R : List Rk) (H : List Hd) (w : World) (h : PoAt w p a b R H) (hH : H.length ≤ 1000000) : Calls Try.prog 22 #[ptr p] w (ListedH w H) := by
  have HS := hide h.mhs
  have HF := hide h.fine
  have c1 := h.c1
  have hlt := h.lt
  have HST := hide h
  clear h
  obtain ⟨i0, hi0, hz0, hz1, hz2⟩ := info_parts infoHd
  obtain ⟨wM, hmk, hrw0, hgr⟩ := run_makeSlice_owned (P := Try.prog) (w := w) w.heap.size 43 89 i0 _ 4 Try.underlying43 hi0 hz0 hz1 .i64 .i64 H.length (by omega) (by rw [hz2]; omega) (by unfold maxLen; omega) (Nat.le_refl _)
  have HR0 : Hid (HdRow wM w.heap.size w.heap.size H.length []) := hrw0
  have HBM : Hid (Below w.heap.size w wM) := ⟨hgr.os, hgr.tape, hgr.output, hgr.size, fun i hi => hgr.block i hi (by simp)⟩
  have hsM : w.heap.size < wM.heap.size := HR0.out.lt
  have HSM := hide (HST.out.below HBM.out)
  have c1M := HSM.out.c1
  clear hrw0 hgr
  unfold ptr
  go_enter Try.func22, Try.ntmps22
  go_wp2_with (first
    | (at_len; refine wpList_len_mp _ mkH rfl _ rfl b H rfl HS.out ?_)
    | (at_range; refine wpList_range_mp _ mkH rfl _ rfl b H rfl HSM.out.mhs ?_; intro w1 hr1 hb1 hs1)
    | go_in)
  try go_frame
  have HR1 := hide hr1
  have HB1 : Hid (Below w.heap.size w w1) := HBM.out.trans (hb1.mono (by omega))
  have HR01 : Hid (HdRow w1 w.heap.size w.heap.size H.length []) := HR0.out.same (hb1.block _ HR0.out.lt)
  clear hr1 hb1 hs1
  generalize hrr : wM.heap.size = r at *
  go_loopw [3] (fun sl wr => ∃ (M T : List Hd) (g cap : Nat), sl = .slice (some ⟨g, 0, none⟩) M.length cap ∧ HdRow wr w.heap.size g cap M ∧ Rg Try.prog 85 hkV shV FitH wr b r H T ∧ Below w.heap.size w wr ∧ (M ++ T).Perm H) (fun _ wr => wr.rangeLeft b r)
  case atStart => exact ⟨[], H, w.heap.size, H.length, rfl, HR01.out, HR1.out, HB1.out, List.Perm.refl _⟩
  case round =>
    obtain ⟨M, T, g, cap, rfl, hrow, hrg, hbl, hpm⟩ := hrel
    have HROW := hide hrow
    have HRG := hide hrg
    have HBL := hide hbl
    have HPM := hide hpm
    have hml : M.length + T.length = H.length := by have := hpm.length_eq; simpa using this
    have hsw : w.heap.size ≤ wr.heap.size := hbl.size
    have hgl := hrow.lt
    clear hrow hrg hbl hpm HR01 HR1 HB1
    go_wp2_with (first
      | (at_next; refine wpList_next_mp _ mkH rfl _ rfl b r H T rfl HRG.out ?_ ?_)
      | go_in)
    · intro hT
      subst hT
      have HSRT := hide (psort_any g cap M.toArray wr HROW.out.holds hgl (by simp; omega))
      have hma : M.toArray.size = M.length := by simp
      rw [hma] at HSRT
      clear hma
      go_wp2_with fail
      refine HSRT.out.mono ?_
      rintro e w2 ⟨rfl, d', n, os, hp, hs, rfl⟩
      have hpM : M.Perm H := by have := HPM.out; rw [List.append_nil] at this; exact this
      have hL : d'.toList = H := sorted_is HF.out.up hpM d' (by simpa using hp) (by simpa using hs)
      have hdl : d'.toList.length = M.length := by have := hp.1; simpa using this
      have HRW := hide (sort_row HROW.out (l' := d'.toList) hdl n os)
      have HON := hide (sort_only wr g n d' os)
      rw [Array.toArray_toList] at HRW
      generalize sortWorldK encH 4 wr g 0 n d' os = w2 at *
      have hml2 : M.length = H.length := by rw [← hdl, hL]
      rw [hL] at HRW
      have HB2 : Hid (Below w.heap.size w w2) := HBL.out.trans (HON.out.toBelow hsw (fun i hi => by subst hi; exact HROW.out.ge))
      clear hp hs
      rw [hml2]
      go_wp2
      go_ret
      exact ⟨g, cap, rfl, HRW.out, HB2.out⟩
    · intro o nm n md w2 hcT hrg2 hlt2 ho2 hsz2 hen
      have hTl : 1 ≤ T.length := by
        cases T with
        | nil => simp at hcT
        | cons x y => simp
      have HPM2 := hide (delL_snoc HRG.out.ndT hcT HPM.out)
      have HR2 := hide hrg2
      have HLT := hide hlt2
      have hrgn : ¬ r = g := rg_neRow HRG.out HROW.out
      have HROW2 : Hid (HdRow w2 w.heap.size g cap M) := HROW.out.only ho2 (fun e => hrgn e.symm)
      have HB2 : Hid (Below w.heap.size w w2) := HBL.out.trans (ho2.toBelow hsw (fun i hi => by omega))
      clear hrg2 hlt2 hcT ho2
      obtain ⟨w3, hw3⟩ : ∃ w3, (w2.alloc (.cells #[.int .i64 o, .string nm] 85)).alloc (.cells #[.int .i64 n, .int .i64 md] 87) = w3 := ⟨_, rfl⟩
      have hb3 : Below w2.heap.size w2 w3 := by rw [← hw3]; exact ((Below.refl _ _).alloc (Nat.le_refl _) _).alloc (by simp) _
      have k0 : w3.cell? ⟨w2.heap.size, 0, none⟩ = some (.int .i64 o) := by rw [← hw3]; simp [go_sem]
      have k1 : w3.cell? ⟨w2.heap.size, 1, none⟩ = some (.string nm) := by rw [← hw3]; simp [go_sem]
      have k2 : w3.cell? ⟨w2.heap.size + 1, 0, none⟩ = some (.int .i64 n) := by rw [← hw3]; simp [go_sem]
      have k3 : w3.cell? ⟨w2.heap.size + 1, 1, none⟩ = some (.int .i64 md) := by rw [← hw3]; simp [go_sem]
      have hz3 : w3.heap.size = wr.heap.size + 2 := by rw [← hw3]; simp [hsz2]
      rw [hsz2] at k0 k1 k2 k3
      have HROW3 : Hid (∀ ob, (w3.alloc ob).ownsRow w.heap.size 89 4 (.slice (some ⟨g, 0, none⟩) M.length cap) M.length (hdRows M)) := fun ob =>
        (HROW2.out.same ((hb3.block g (by omega)))).same (((Below.refl _ _).alloc (Nat.le_refl _) ob).block g (by omega))
      have HR3 := hide (HR2.out.below hb3)
      have HB3 : Hid (Below w.heap.size w w3) := HB2.out.trans (hb3.mono (by omega))
      clear hb3
      unfold hkV shV at hen ⊢
      simp only at hen ⊢
      go_wp2_with (at_builtin; refine Hid.out ?_)
      clear k0 k1 k2 k3 hw3
      refine hide ?_
      refine wpList_append_lies _ rfl _ _ 43 rfl w.heap.size 89 i0 _ 4 40 Try.underlying43 hi0 hz0 hz1 hz2 rfl (by decide) _ M.length _ rfl (HROW3.out _) ⟨wr.heap.size + 2, 0, none⟩ 1 1 (encH ((o, nm), (n, md))) rfl rfl (World.news_of_block (cs := (encH ((o, nm), (n, md))).toArray) (t := 89) (fr := (0, 0)) (by rw [← hz3]; exact heap_alloc_new w3 _)) (encH_one ((o, nm), (n, md))) (by omega) (by unfold maxLen; omega) (by omega) (by simp; omega) (wr.heap.size + 3) (by simp [hz3]) ?_
      intro g' cap' w4 hown4 hgr4 hat4 _
      have HROW4 : Hid (HdRow w4 w.heap.size g' cap' (M ++ [((o, nm), (n, md))])) := by
        refine hide ?_
        unfold HdRow
        rw [hdRows_snoc]
        simpa using hown4
      have HOG : Hid (Only (· = g) (w3.alloc (.cells (encH ((o, nm), (n, md))).toArray 89)) w4) := (Only.grown hgr4).mono (fun i hi e => by have e' : some g = some i := e; exact (Option.some.inj e').symm)
      have hBg : ¬ b = g := fun e => by have := HROW.out.ge; omega
      have HR4 : Hid (Rg Try.prog 85 hkV shV FitH w4 b r H (delL T (o, nm)) ∧ w4.rangeLeft b r < wr.rangeLeft b r) := by
        have h1 := HR3.out.1.below ((Below.refl _ _).alloc (Nat.le_refl _) (.cells (encH ((o, nm), (n, md))).toArray 89))
        have h2 := h1.1.only HOG.out hBg hrgn
        refine hide ⟨h2.1, ?_⟩
        rw [h2.2, h1.2, HR3.out.2]
        exact HLT.out
      have HB4 : Hid (Below w.heap.size w w4) := (HB3.out.alloc (by omega) _).trans (HOG.out.toBelow (by simp; omega) (fun i hi => by have := HROW.out.ge; omega))
      clear hown4 hgr4 hat4
      go_wp2
      go_roundw
      case rel => exact ⟨M ++ [((o, nm), (n, md))], delL T (o, nm), g', cap', by simp, HROW4.out, HR4.out.1, HB4.out, HPM2.out⟩
      case measure => exact HR4.out.2
theorem plist_nil (w : World) : Calls Try.prog 22 #[.pointer none] w fun e w' => e = .returned (.slice none 0 0) ∧ w' = w := by
  go_enter Try.func22, Try.ntmps22
  go_wp2
  go_ret
  exact ⟨rfl, rfl⟩
end Go.Proofs.Ytkpambipgcjaiaa
