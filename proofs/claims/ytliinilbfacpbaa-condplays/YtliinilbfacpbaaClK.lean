/- Package cond: List. -/
import Derived.Test.YtliinilbfacpbaaClJ
import Derived.Laws.MakeOwn
namespace Go.Proofs.Ytliinilbfacpbaa
open Go.ChangeShapes Go.WideShapes Go.ChangeAt Go.RowKit Go.DsMem Go.DsCo
set_option linter.unusedVariables false
/-- what List hands back -/
def Listed (w : World) (L : List Cn) (e : Ending) (w' : World) : Prop := ∃ g cap, e = .returned (.slice (some ⟨g, 0, none⟩) L.length cap) ∧ CnRow w' w.heap.size g cap L ∧ Below w.heap.size w w'
set_option maxHeartbeats 8000000 in
set_option maxRecDepth 20000 in
/-- cond.Store.List -/
theorem clist_any (p B : Nat) (L : List Cn) (w : World) (h : StAt w p B L) : Calls Try.prog 14 #[ptr p] w (Listed w L) := by
  have HS := hide h.sto
  have HF := hide h.fine
  have c0 := h.c0
  have hB := h.ltB
  have hlp := h.ltp
  have h128 := h.fine.le
  have HST := hide h
  obtain ⟨D, hown, hsz, _⟩ := h.sto
  have HSZ := hide hsz
  have HO := hide hown
  clear hsz hown h
  obtain ⟨i0, hi0, hz0, hz1, hz2⟩ := info_parts infoCn
  obtain ⟨wM, hmk, hrw0, hgr⟩ := run_makeSlice_owned (P := Try.prog) (w := w) w.heap.size 35 24 i0 _ 2 Try.underlying35 hi0 hz0 hz1 .i64 .i64 L.length (by omega) (by rw [hz2]; omega) (by unfold maxLen; omega) (Nat.le_refl _)
  have HR0 : Hid (CnRow wM w.heap.size w.heap.size L.length []) := hrw0
  have HBM : Hid (Below w.heap.size w wM) := ⟨hgr.os, hgr.tape, hgr.output, hgr.size, fun i hi => hgr.block i hi (by simp)⟩
  have hsM : w.heap.size < wM.heap.size := HR0.out.lt
  have HSM := hide (HST.out.below HBM.out)
  have c0M := HSM.out.c0
  clear hrw0 hgr
  unfold ptr
  go_enter Try.func14, Try.ntmps14
  go_wp2_with (first
    | (at_len; refine wpList_len_own _ rfl _ _ rfl 24 53 Try.underlying49 _ B _ D rfl HO.out ?_; rw [HSZ.out])
    | (at_range; refine wpList_range_cn _ rfl _ rfl B L rfl HSM.out.sto ?_; intro w1 hr1 hb1)
    | go_in)
  try go_frame
  have HR1 := hide hr1
  have HB1 : Hid (Below w.heap.size w w1) := HBM.out.trans (hb1.mono (by omega))
  have HR01 : Hid (CnRow w1 w.heap.size w.heap.size L.length []) := HR0.out.same (hb1.block _ HR0.out.lt)
  have hr0 : w.heap.size ≤ wM.heap.size := by omega
  clear hr1 hb1
  generalize hrr : wM.heap.size = r at *
  go_loopw [3, 4] (fun sl _ wr => ∃ (M T : List Cn) (g cap : Nat), sl = .slice (some ⟨g, 0, none⟩) M.length cap ∧ CnRow wr w.heap.size g cap M ∧ Rng wr B r L T ∧ Below w.heap.size w wr ∧ M.Nodup ∧ M.length ≤ 128 ∧ (∀ c, c ∈ L ↔ c ∈ M ∨ c ∈ T) ∧ ∀ c ∈ M, c ∉ T) (fun _ _ wr => wr.rangeLeft B r)
  case atStart => exact ⟨[], L, w.heap.size, L.length, rfl, HR01.out, HR1.out, HB1.out, List.nodup_nil, by simp, fun c => by simp, fun c hc => by simp at hc⟩
  case round =>
    obtain ⟨M, T, g, cap, rfl, hrow, hrg, hbl, hnd, hml, hmem, hnot⟩ := hrel
    have HROW := hide hrow
    have HRG := hide hrg
    have HBL := hide hbl
    have HND := hide hnd
    have HMEM := hide hmem
    have HNOT := hide hnot
    have hsw : w.heap.size ≤ wr.heap.size := hbl.size
    have hgl := hrow.lt
    clear hrow hrg hbl hnd hmem hnot
    go_wp2_with (first
      | (at_next; refine wpList_next_cn _ rfl _ rfl B r L T rfl HRG.out HF.out.ok ?_ ?_)
      | go_in)
    · intro hT
      subst hT
      have HSRT := hide (csort_any g cap M.toArray wr HROW.out.holds hgl (by simp; omega))
      have hma : M.toArray.size = M.length := by simp
      rw [hma] at HSRT
      clear hma
      go_wp2_with fail
      refine HSRT.out.mono ?_
      rintro e w2 ⟨rfl, d', n, os, hp, hs, rfl⟩
      have hL : d'.toList = L := sorted_is HF.out.up HND.out (fun c => by rw [HMEM.out c]; simp) d' (by simpa using hp) (by simpa using hs)
      have hdl : d'.toList.length = M.length := by have := hp.1; simpa using this
      have HRW := hide (sort_row HROW.out (l' := d'.toList) hdl n os)
      have HON := hide (sort_only wr g n d' os)
      rw [Array.toArray_toList] at HRW
      generalize sortWorldK encC 2 wr g 0 n d' os = w2 at *
      have hml2 : M.length = L.length := by rw [← hdl, hL]
      rw [hL] at HRW
      have HB2 : Hid (Below w.heap.size w w2) := HBL.out.trans (HON.out.toBelow hsw (fun i hi => by subst hi; exact HROW.out.ge))
      clear hp hs
      rw [hml2]
      go_wp2
      go_ret
      exact ⟨g, cap, rfl, HRW.out, HB2.out⟩
    · intro c w2 hc hr2 hlt ho2 hs2 hen
      have HR2 := hide hr2
      have HLT := hide hlt
      have HC := hide hc
      have hnM : Hid (c ∉ M) := fun hm => HNOT.out c hm hc
      have HROW2 : Hid (CnRow w2 w.heap.size g cap M) := HROW.out.only ho2 (fun e => HRG.out.neRow HROW.out e.symm)
      have HB2 : Hid (Below w.heap.size w w2) := HBL.out.trans (ho2.toBelow hsw (fun i hi => by omega))
      clear hr2 hlt hc ho2
      have HBX : Hid (Below w2.heap.size w2 (w2.alloc (.cells #[.string c.nm, .int .i64 c.day] 24))) := (Below.refl _ _).alloc (Nat.le_refl _) _
      have hsx : (w2.alloc (.cells #[.string c.nm, .int .i64 c.day] 24)).heap.size = wr.heap.size + 1 := by simp [hs2]
      have hbl : w2.heap.size = wr.heap.size := hs2
      have HROW3 : Hid (∀ ob, ((w2.alloc (.cells #[.string c.nm, .int .i64 c.day] 24)).alloc ob).ownsRow w.heap.size 24 2 (.slice (some ⟨g, 0, none⟩) M.length cap) M.length (cnRows M)) := fun ob =>
        (HROW2.out.same ((HBX.out.block g (by omega)))).same (((Below.refl _ _).alloc (Nat.le_refl _) ob).block g (by omega))
      have HR3 := hide (HR2.out.below HBX.out)
      have HB3 : Hid (Below w.heap.size w (w2.alloc (.cells #[.string c.nm, .int .i64 c.day] 24))) := HB2.out.trans (HBX.out.mono (by omega))
      have hMT : Hid (M.length + 1 ≤ 128) := by
        have : (M ++ [c]).length ≤ L.length := List.Nodup.length_le_of_subset (List.nodup_append.2 ⟨HND.out, by simp, fun a ha b hb => by simp at hb; subst hb; exact fun e => hnM.out (e ▸ ha)⟩) (fun x hx => by
          rcases List.mem_append.1 hx with h | h
          · exact (HMEM.out x).2 (.inl h)
          · simp at h; subst h; exact HRG.out.sub x HC.out)
        simp at this
        exact Nat.le_trans this h128
      obtain ⟨bx0, bx1⟩ := BoxC.new w2 c 24
      rw [hbl] at bx0 bx1
      generalize hw3 : w2.alloc (.cells #[.string c.nm, .int .i64 c.day] 24) = w3 at *
      go_wp2_with (at_builtin; refine Hid.out ?_)
      clear bx0 bx1
      refine hide ?_
      refine wpList_append_lies _ rfl _ _ 35 rfl w.heap.size 24 i0 _ 2 24 Try.underlying35 hi0 hz0 hz1 hz2 rfl (by decide) _ M.length _ rfl (HROW3.out _) ⟨wr.heap.size + 1, 0, none⟩ 1 1 (encC c) rfl rfl (World.news_of_block (cs := (encC c).toArray) (t := 24) (fr := (0, 0)) (by rw [← hsx]; exact heap_alloc_new w3 _)) (encC_one c) (by omega) (by unfold maxLen; have := hMT.out; omega) (by have := hMT.out; omega) (by simp; omega) (wr.heap.size + 1 + 1) (by simp [hsx]) ?_
      intro g' cap' w4 hown4 hgr4 hat4 _
      have HROW4 : Hid (CnRow w4 w.heap.size g' cap' (M ++ [c])) := by
        refine hide ?_
        unfold CnRow
        rw [cnRows_snoc]
        simpa using hown4
      have HOG : Hid (Only (· = g) (w3.alloc (.cells (encC c).toArray 24)) w4) := (Only.grown hgr4).mono (fun i hi e => by have e' : some g = some i := e; exact (Option.some.inj e').symm)
      have hBg : ¬ B = g := fun e => by have := HROW.out.ge; omega
      have hrg : ¬ r = g := HRG.out.neRow HROW.out
      have HR4 : Hid (Rng w4 B r L (dropF T c) ∧ w4.rangeLeft B r < wr.rangeLeft B r) := by
        have h1 := HR3.out.1.below ((Below.refl _ _).alloc (Nat.le_refl _) (.cells (encC c).toArray 24))
        have h2 := h1.1.only HOG.out hBg hrg
        refine hide ⟨h2.1, ?_⟩
        rw [h2.2, h1.2, HR3.out.2]
        exact HLT.out
      have HB4 : Hid (Below w.heap.size w w4) := (HB3.out.alloc (by omega) _).trans (HOG.out.toBelow (by simp; omega) (fun i hi => by have := HROW.out.ge; omega))
      clear hown4 hgr4 hat4
      go_wp2
      go_roundw
      case rel =>
        refine ⟨M ++ [c], dropF T c, g', cap', by simp, HROW4.out, HR4.out.1, HB4.out, ?_, by have := hMT.out; simpa using this, fun d => ?_, fun d hd => ?_⟩
        · exact List.nodup_append.2 ⟨HND.out, by simp, fun a ha b hb => by simp at hb; subst hb; exact fun e => hnM.out (e ▸ ha)⟩
        · rw [HMEM.out d, mem_drop, List.mem_append, List.mem_singleton]
          constructor
          · rintro (h | h)
            · exact .inl (.inl h)
            · by_cases e : d = c
              · exact .inl (.inr e)
              · exact .inr ⟨h, e⟩
          · rintro ((h | h) | h)
            · exact .inl h
            · subst h; exact .inr HC.out
            · exact .inr h.1
        · rw [mem_drop]
          rcases List.mem_append.1 hd with h | h
          · exact fun hx => HNOT.out d h hx.1
          · simp at h; subst h; exact fun hx => hx.2 rfl
      case measure => exact HR4.out.2
theorem clist_nil (w : World) : Calls Try.prog 14 #[.pointer none] w fun e w' => e = .returned (.slice none 0 0) ∧ w' = w := by
  go_enter Try.func14, Try.ntmps14
  go_wp2
  go_ret
  exact ⟨rfl, rfl⟩
end Go.Proofs.Ytliinilbfacpbaa
