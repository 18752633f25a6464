/- Package cond: Copy. -/
import Derived.Test.YtliinilbfacpbaaClK
namespace Go.Proofs.Ytliinilbfacpbaa
open Go.ChangeShapes Go.WideShapes Go.ChangeAt Go.RowKit Go.DsMem Go.DsCo
set_option linter.unusedVariables false
set_option maxHeartbeats 8000000 in
set_option maxRecDepth 20000 in
/-- maps.Copy, into an empty map -/
theorem mcopy_any (Bd Bs : Nat) (L : List Cn) (w : World) (hd : Sto w Bd []) (hs : Sto w Bs L) (hL : Fine L) (hne : ¬ Bd = Bs) :
    Calls Try.prog 24 #[.map (some Bd), .map (some Bs)] w fun e w' => e = .returned (.tuple #[]) ∧ Sto w' Bd L ∧ Only (· = Bd) w w' := by
  have HD := hide hd
  have HS := hide hs
  have HF := hide hL
  have hBd := hd.lt
  have hBs := hs.lt
  clear hd hs hL
  go_enter Try.func24, Try.ntmps24
  go_wp2_with (first
    | (at_range; refine wpList_range_cn _ rfl _ rfl Bs L rfl HS.out ?_; intro w1 hr1 hb1)
    | go_in)
  try go_frame
  have HR1 := hide hr1
  have HD1 := hide (HD.out.below hb1)
  have HB1 := hide hb1
  clear hr1 hb1
  go_loopw [4, 5] (fun _ _ wr => ∃ M T : List Cn, Sto wr Bd M ∧ Rng wr Bs w.heap.size L T ∧ Only (· = Bd) w wr ∧ Up M ∧ (∀ c, c ∈ L ↔ c ∈ M ∨ c ∈ T) ∧ ∀ c ∈ M, c ∉ T) (fun _ _ wr => wr.rangeLeft Bs w.heap.size)
  case atStart => exact ⟨[], L, HD1.out, HR1.out, Only.below HB1.out, List.Pairwise.nil, fun c => by simp, fun c hc => by simp at hc⟩
  case round =>
    obtain ⟨M, T, hst, hrg, hon, hup, hmem, hnot⟩ := hrel
    have HST := hide hst
    have HRG := hide hrg
    have HON := hide hon
    have HUP := hide hup
    have HMEM := hide hmem
    have HNOT := hide hnot
    have hsw := hon.size
    clear hst hrg hon hup hmem hnot
    go_wp2_with (first
      | (at_next; refine wpList_next_cn _ rfl _ rfl Bs w.heap.size L T rfl HRG.out HF.out.ok ?_ ?_)
      | go_in)
    · intro hT
      subst hT
      have hM : M = L := up_ext HUP.out HF.out.up (fun c => by rw [HMEM.out c]; simp)
      have HSL : Hid (Sto wr Bd L) := by rw [← hM]; exact HST.out
      go_wp2
      go_end0
      exact ⟨rfl, HSL.out, HON.out⟩
    · intro c w2 hc hr2 hlt ho2 hs2 hen
      have HR2 := hide hr2
      have HLT := hide hlt
      have HC := hide hc
      have hcM : c ∉ M := fun hm => HNOT.out c hm hc
      have hok := HF.out.ok c (HRG.out.sub c hc)
      have hml : M.length ≤ 1000 := by
        have h1 : M.length ≤ L.length := List.Nodup.length_le_of_subset HUP.out.nodup (fun x hx => (HMEM.out x).2 (.inl hx))
        have := HF.out.le
        omega
      have HON2 : Hid (Only (· = Bd) w w2) := HON.out.trans ho2 (fun i hi e => by omega)
      have HST2 : Hid (Sto w2 Bd M) := HST.out.only ho2 (by omega)
      clear hr2 hlt hc ho2
      obtain ⟨w3, hw3⟩ : ∃ w3, w3 = (w2.alloc (.cells #[.string c.nm, .int .i64 c.day] 24)).alloc (.cells #[] 53) := ⟨_, rfl⟩
      have HB3 : Hid (Below w2.heap.size w2 w3) := by rw [hw3]; exact ((Below.refl _ _).alloc (Nat.le_refl _) _).alloc (by simp) _
      have bx := (BoxC.new w2 c 24).below ((Below.refl _ _).alloc (Nat.le_refl _) (.cells #[] 53))
      rw [← hw3] at bx
      obtain ⟨bx0, bx1⟩ := bx
      rw [hs2] at bx0 bx1
      obtain ⟨hrun, hsto, honly⟩ := (HST2.out.below HB3.out).putw (okC.fit hok) hcM hml
      unfold cvl at hrun
      have HSTO := hide hsto
      have HONL := hide honly
      have HR3 := hide (HR2.out.below HB3.out)
      have HR4 := hide (HR3.out.1.only HONL.out (fun e => hne e.symm) (fun e => by omega))
      have HON4 : Hid (Only (· = Bd) w (putW Bd c w3)) := (HON2.out.trans (Only.below HB3.out) (fun _ _ h => h)).trans HONL.out (fun _ _ h => h)
      clear hsto honly
      rw [hw3] at hrun
      go_wp2
      rw [← hw3]
      go_roundw
      case rel =>
        refine ⟨insL c M, dropF T c, HSTO.out, HR4.out.1, HON4.out, HUP.out.ins hcM, fun d => ?_, fun d hd => ?_⟩
        · rw [HMEM.out d, mem_drop, mem_insL]
          constructor
          · rintro (h | h)
            · exact .inl (.inr h)
            · by_cases e : d = c
              · exact .inl (.inl e)
              · exact .inr ⟨h, e⟩
          · rintro ((h | h) | h)
            · subst h; exact .inr HC.out
            · exact .inl h
            · exact .inr h.1
        · rw [mem_drop]
          rcases (mem_insL c d M).1 hd with h | h
          · exact fun hx => hx.2 h
          · exact fun hx => HNOT.out d h hx.1
      case measure => rw [HR4.out.2, HR3.out.2]; exact HLT.out
set_option maxHeartbeats 8000000 in
set_option maxRecDepth 20000 in
/-- cond.Store.Copy -/
theorem ccopy_any (p B : Nat) (L : List Cn) (w : World) (h : StAt w p B L) : Calls Try.prog 10 #[ptr p] w fun e w' => ∃ p' B', e = .returned (ptr p') ∧ StAt w' p' B' L ∧ w.heap.size ≤ p' ∧ w.heap.size ≤ B' ∧ Below w.heap.size w w' := by
  have H := hide h
  have hB := h.ltB
  have hp := h.ltp
  clear h
  unfold ptr at *
  go_enter Try.func10, Try.ntmps10
  go_wp2_with fail
  refine (cnew_any w).mono ?_
  rintro e w1 ⟨rfl, hs1, hb1⟩
  have HS1 := hide hs1
  have HB1 := hide hb1
  have HH := hide (H.out.below hb1)
  have c0 := HH.out.c0
  have c1 := HS1.out.c0
  have HC := hide (fun w' h1 h2 => mcopy_any w.heap.size B L w' h1 h2 H.out.fine (by omega))
  have KP : Hid (∀ w', Only (· = w.heap.size) w1.drew w' → w'.cell? ⟨p, 0, none⟩ = some (.map (some B)) ∧ w'.cell? ⟨w.heap.size + 1, 0, none⟩ = some (.map (some w.heap.size))) := fun w' ho => ⟨ho.cell (w := w1.drew) c0 (by show ¬ p = w.heap.size; omega), ho.cell (w := w1.drew) c1 (by show ¬ w.heap.size + 1 = w.heap.size; omega)⟩
  clear hs1 hb1
  unfold ptr
  go_wp2
  first
    | (go_region_held3 (fun w' => w'.cell? ⟨p, 0, none⟩ = some (.map (some B)) ∧ w'.cell? ⟨w.heap.size + 1, 0, none⟩ = some (.map (some w.heap.size)))
        (first | go_keep | (exact KP.out _ (by assumption)))
        ((go_at_call 24; refine (HC.out _ (by exact HS1.out.sto) (by exact HH.out.sto)).mono ?_; rintro e w2 ⟨rfl, hst, hon⟩)))
    | fail
  all_goals
    have HST := hide hst
    have HON := hide hon
    obtain ⟨d0, d1⟩ := KP.out w2 hon
    clear hst hon
    go_wp2
    go_ret
    exact ⟨w.heap.size + 1, w.heap.size, rfl, ⟨d1, HST.out, H.out.fine⟩, by omega, Nat.le_refl _, HB1.out.trans ((show Only (· = w.heap.size) w1 w2 from ⟨HON.out.os, HON.out.tape, HON.out.output, HON.out.size, HON.out.block⟩).toBelow HB1.out.size (fun i hi => by omega))⟩
theorem ccopy_nil (w : World) : Calls Try.prog 10 #[.pointer none] w fun e w' => e = .returned (.pointer none) ∧ w' = w := by
  go_enter Try.func10, Try.ntmps10
  go_wp2
  go_ret
  exact ⟨rfl, rfl⟩
end Go.Proofs.Ytliinilbfacpbaa
