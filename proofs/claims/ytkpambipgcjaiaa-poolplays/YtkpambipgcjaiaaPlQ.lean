/- Package pool: Copy, Resize. Written by gen_plq.py. -/
import Derived.Test.YtkpambipgcjaiaaPlP
namespace Go.Proofs.Ytkpambipgcjaiaa
open Go.ChangeShapes Go.WideShapes Go.ChangeAt Go.RowKit Go.DsMem Go.DsCo Go.DsPl Go.DsMap
set_option linter.unusedVariables false
set_option linter.unusedSimpArgs false
set_option maxHeartbeats 4000000 in
set_option maxRecDepth 20000 in
theorem copyK_any (d s : Nat) (L : List Rk) (w : World) (hd : MpK w d []) (hs : MpK w s L) (hne : d ≠ s) (hl : L.length ≤ 1000000) : Calls Try.prog 52 #[.map (some d), .map (some s)] w fun e w' => e = .returned (.tuple #[]) ∧ MpK w' d L ∧ Only (· = d) w w' := by
  have HD := hide hd
  have HS := hide hs
  have hdl := hd.lt
  clear hd hs
  go_enter Try.func52, Try.ntmps52
  go_wp2_with (first
    | (at_range; refine wpList_range_mp _ mkK rfl _ rfl s L rfl HS.out ?_; intro w1 hr1 hb1 hs1)
    | go_in)
  try go_frame
  have HR1 := hide hr1
  have HD1 := hide (HD.out.below hb1)
  have HO1 : Hid (Only (· = d) w w1) := hide (Only.below hb1)
  obtain ⟨r, hr⟩ : ∃ r, r = w.heap.size := ⟨_, rfl⟩
  rw [← hr] at HR1
  rw [← hr]
  have HRE := hide hr
  clear hr1 hb1 hr hs1
  go_loopw [] (fun wr => ∃ (T Dn : List Rk), Rg Try.prog 9 (fun s : ByteArray => Value.string s) kdV FitN wr s r L T ∧ MpK wr d Dn ∧ (Dn ++ T).Perm L ∧ Only (· = d) w wr) (fun wr => wr.rangeLeft s r)
  case atStart => exact ⟨L, [], HR1.out, HD1.out, List.Perm.refl _, HO1.out⟩
  case round =>
    obtain ⟨T, Dn, hrg, hmd, hpm, hon⟩ := hrel
    have HRG := hide hrg
    have HMD := hide hmd
    have HPM := hide hpm
    have HON := hide hon
    have hll : Dn.length + T.length = L.length := by have := hpm.length_eq; simpa using this
    clear hrg hmd hpm hon HR1 HD1 HO1
    go_wp2_with (first
      | (at_next; refine wpList_next_mp _ mkK rfl _ rfl s r L T rfl HRG.out ?_ ?_)
      | go_in)
    · intro hT
      subst hT
      have hp := HPM.out
      rw [List.append_nil] at hp
      have HMD2 := hide (HMD.out.perm hp.symm)
      go_wp2
      go_end0
      exact ⟨rfl, HMD2.out, HON.out⟩
    · intro nm k w2 hcT hrg2 hlt2 ho2 hsz2 hen
      have hrd : ¬ d = r := by have := HRE.out; omega
      have hfit := HRG.out.ok _ (HRG.out.sub _ hcT)
      have hnot : ∀ x, (nm, x) ∉ Dn := fun x hx => by
        have hn : ((Dn ++ T).map (·.1)).Nodup := ((HPM.out.map _).nodup_iff).2 HRG.out.nd
        rw [List.map_append, List.nodup_append] at hn
        exact hn.2.2 _ (List.mem_map.2 ⟨_, hx, rfl⟩) _ (List.mem_map.2 ⟨_, hcT, rfl⟩) rfl
      have HPM2 := hide (delL_snoc HRG.out.ndT hcT HPM.out)
      have HM2 := hide (HMD.out.only ho2 hrd)
      have HO2 : Hid (Only (· = d) w w2) := hide (HON.out.trans (ho2.mono (T := fun i => i = r) (fun _ _ e => e)) (fun i hi e => absurd e (by have := HRE.out; omega)))
      obtain ⟨w3, hrun, hm3, ho3⟩ := (HM2.out).put mkK (c := nm) hfit hnot k (by omega)
      obtain ⟨hg3, hl3⟩ := hrg2.only ho3 (fun e => hne e.symm) (fun e => hrd e.symm)
      have HG3 := hide hg3
      have HM3 := hide hm3
      have HO3 := hide (HO2.out.trans ho3 (fun _ _ h => h))
      have hl : w3.rangeLeft s r < wr.rangeLeft s r := by rw [hl3]; exact hlt2
      have HLT := hide hl
      clear hrg2 ho2 hnot hm3 ho3 hg3 hl3 hlt2 hcT hl
      go_wp2
      go_roundw
      case rel => exact ⟨_, _, HG3.out, HM3.out, HPM2.out, HO3.out⟩
      case measure => exact HLT.out
set_option maxHeartbeats 4000000 in
set_option maxRecDepth 20000 in
theorem copyH_any (d s : Nat) (L : List Hd) (w : World) (hd : MpH w d []) (hs : MpH w s L) (hne : d ≠ s) (hl : L.length ≤ 1000000) : Calls Try.prog 53 #[.map (some d), .map (some s)] w fun e w' => e = .returned (.tuple #[]) ∧ MpH w' d L ∧ Only (· = d) w w' := by
  have HD := hide hd
  have HS := hide hs
  have hdl := hd.lt
  clear hd hs
  go_enter Try.func53, Try.ntmps53
  go_wp2_with (first
    | (at_range; refine wpList_range_mp _ mkH rfl _ rfl s L rfl HS.out ?_; intro w1 hr1 hb1 hs1)
    | go_in)
  try go_frame
  have HR1 := hide hr1
  have HD1 := hide (HD.out.below hb1)
  have HO1 : Hid (Only (· = d) w w1) := hide (Only.below hb1)
  obtain ⟨r, hr⟩ : ∃ r, r = w.heap.size := ⟨_, rfl⟩
  rw [← hr] at HR1
  rw [← hr]
  have HRE := hide hr
  clear hr1 hb1 hr hs1
  go_loopw [] (fun wr => ∃ (T Dn : List Hd), Rg Try.prog 85 hkV shV FitH wr s r L T ∧ MpH wr d Dn ∧ (Dn ++ T).Perm L ∧ Only (· = d) w wr) (fun wr => wr.rangeLeft s r)
  case atStart => exact ⟨L, [], HR1.out, HD1.out, List.Perm.refl _, HO1.out⟩
  case round =>
    obtain ⟨T, Dn, hrg, hmd, hpm, hon⟩ := hrel
    have HRG := hide hrg
    have HMD := hide hmd
    have HPM := hide hpm
    have HON := hide hon
    have hll : Dn.length + T.length = L.length := by have := hpm.length_eq; simpa using this
    clear hrg hmd hpm hon HR1 HD1 HO1
    go_wp2_with (first
      | (at_next; refine wpList_next_mp _ mkH rfl _ rfl s r L T rfl HRG.out ?_ ?_)
      | go_in)
    · intro hT
      subst hT
      have hp := HPM.out
      rw [List.append_nil] at hp
      have HMD2 := hide (HMD.out.perm hp.symm)
      go_wp2
      go_end0
      exact ⟨rfl, HMD2.out, HON.out⟩
    · intro o nm m md w2 hcT hrg2 hlt2 ho2 hsz2 hen
      have hrd : ¬ d = r := by have := HRE.out; omega
      have hfit := HRG.out.ok _ (HRG.out.sub _ hcT)
      have hnot : ∀ x, ((o, nm), x) ∉ Dn := fun x hx => by
        have hn : ((Dn ++ T).map (·.1)).Nodup := ((HPM.out.map _).nodup_iff).2 HRG.out.nd
        rw [List.map_append, List.nodup_append] at hn
        exact hn.2.2 _ (List.mem_map.2 ⟨_, hx, rfl⟩) _ (List.mem_map.2 ⟨_, hcT, rfl⟩) rfl
      have HPM2 := hide (delL_snoc HRG.out.ndT hcT HPM.out)
      have HM2 := hide (HMD.out.only ho2 hrd)
      have HO2 : Hid (Only (· = d) w w2) := hide (HON.out.trans (ho2.mono (T := fun i => i = r) (fun _ _ e => e)) (fun i hi e => absurd e (by have := HRE.out; omega)))
      have hbx : Below w2.heap.size w2 ((w2.alloc (.cells #[.int .i64 o, .string nm] 85)).alloc (.cells #[.int .i64 m, .int .i64 md] 87)) := bel2 _ _ _
      obtain ⟨hgx, hlx⟩ := hrg2.below hbx
      rw [hsz2] at hbx
      obtain ⟨w3, hrun, hm3, ho3⟩ := (HM2.out.below (by rw [hsz2]; exact hbx)).put mkH (c := (o, nm)) hfit hnot (m, md) (by omega)
      obtain ⟨hg3, hl3⟩ := hgx.only ho3 (fun e => hne e.symm) (fun e => hrd e.symm)
      have HG3 := hide hg3
      have HM3 := hide hm3
      have HO3 := hide ((HO2.out.trans (Only.below (by rw [hsz2]; exact hbx)) (fun _ _ h => h)).trans ho3 (fun _ _ h => h))
      have hl : w3.rangeLeft s r < wr.rangeLeft s r := by rw [hl3, hlx]; exact hlt2
      have HLT := hide hl
      clear hrg2 ho2 hnot hm3 ho3 hg3 hl3 hlt2 hcT hl
      unfold hkV shV at hen hrun ⊢
      simp only at hen hrun ⊢
      go_wp2
      go_roundw
      case rel => exact ⟨_, _, HG3.out, HM3.out, HPM2.out, HO3.out⟩
      case measure => exact HLT.out
set_option maxHeartbeats 4000000 in
set_option maxRecDepth 20000 in
/-- (*pool.Pool).Copy -/
theorem pcopy_any (p a b : Nat) (R : List Rk) (H : List Hd) (w : World) (h : PoAt w p a b R H) (hH : H.length ≤ 1000000) (hR : R.length ≤ 1000000) : Calls Try.prog 18 #[ptr p] w fun e w' => e = .returned (ptr (w.heap.size + 2)) ∧ PoAt w' (w.heap.size + 2) w.heap.size (w.heap.size + 1) R H ∧ Below w.heap.size w w' := by
  have hlt := h.lt
  have HP := hide h
  have HNW := hide (new_any [] none 0 w (fun h0 => by simp at h0) (fun n hn => by simp at hn) (by simp))
  simp only [List.length_nil] at HNW
  obtain ⟨a', ha⟩ : ∃ a', a' = w.heap.size := ⟨_, rfl⟩
  obtain ⟨b', hb⟩ : ∃ b', b' = w.heap.size + 1 := ⟨_, rfl⟩
  obtain ⟨p', hp⟩ : ∃ p', p' = w.heap.size + 2 := ⟨_, rfl⟩
  have HE : Hid (a' = w.heap.size ∧ b' = w.heap.size + 1 ∧ p' = w.heap.size + 2) := hide ⟨ha, hb, hp⟩
  rw [← hp, ← hb] at HNW ⊢
  have HNW2 : Hid (Calls Try.prog 15 #[.slice none 0 0] w fun e w' => e = .returned (ptr p') ∧ PoAt w' p' a' b' [] [] ∧ Below w.heap.size w w') := hide (by rw [ha]; exact HNW.out)
  clear h ha hb hp HNW
  unfold ptr at HNW2 ⊢
  go_enter Try.func18, Try.ntmps18
  go_wp2_with fail
  refine HNW2.out.mono ?_
  rintro e w1 ⟨rfl, hq1, hb1⟩
  obtain ⟨he1, he2, he3⟩ := HE.out
  have hP1 := HP.out.below hb1
  have c0 := hP1.c0
  have c1 := hP1.c1
  have d0 := hq1.c0
  have d1 := hq1.c1
  have hs1 := hb1.size
  have hl1 := hq1.lt
  have hqa := hq1.pa
  have hqb := hq1.pb
  have hqab := hq1.ab
  have HP1 := hide hP1
  have HQ1 := hide hq1
  have HB1 := hide hb1
  have n1 : ¬ p = a' := by omega
  have n2 : ¬ p = b' := by omega
  have n3 : ¬ a = a' := by omega
  have n4 : ¬ b = b' := by omega
  have n5 : ¬ b = a' := by omega
  have n6 : ¬ a = b' := by omega
  have HCK := hide (fun w' (hm : MpK w' a' []) (hs : MpK w' a R) => copyK_any a' a R w' hm hs (fun e => n3 e.symm) hR)
  have HCH := hide (fun w' (hm : MpH w' b' []) (hs : MpH w' b H) => copyH_any b' b H w' hm hs (fun e => n4 e.symm) hH)
  clear hP1 hq1 hb1 he1 he2 he3
  have HGO : Hid (∀ w2, MpK w2 a' R → Only (· = a') w1.drew w2 → (w2.cell? ⟨p, 0, none⟩ = some (.map (some a)) ∧ w2.cell? ⟨p, 1, none⟩ = some (.map (some b)) ∧ w2.cell? ⟨p', 0, none⟩ = some (.map (some a')) ∧ w2.cell? ⟨p', 1, none⟩ = some (.map (some b'))) ∧ MpH w2 b' [] ∧ MpH w2 b H) := hide (fun w2 hm ho => by
    have h1 := HP1.out.drew
    have h2 := HQ1.out.drew
    exact ⟨⟨ho.cell h1.c0 n1, ho.cell h1.c1 n1, ho.cell h2.c0 hqa, ho.cell h2.c1 hqa⟩, h2.mhs.only ho (fun e => hqab e.symm), h1.mhs.only ho n5⟩)
  have HEND : Hid (∀ w2 w3, MpK w2 a' R → Only (· = a') w1.drew w2 → MpH w3 b' H → Only (· = b') w2.drew w3 → PoAt w3 p' a' b' R H ∧ Below w.heap.size w w3 ∧ (w3.cell? ⟨p, 0, none⟩ = some (.map (some a)) ∧ w3.cell? ⟨p, 1, none⟩ = some (.map (some b)) ∧ w3.cell? ⟨p', 0, none⟩ = some (.map (some a')) ∧ w3.cell? ⟨p', 1, none⟩ = some (.map (some b')))) := hide (fun w2 w3 hm ho hm3 ho3 => by
    obtain ⟨e1, e2, e3⟩ := HE.out
    obtain ⟨⟨f0, f1, f2, f3⟩, _, _⟩ := HGO.out w2 hm ho
    have hz := ho.size
    have hz1 : w1.drew.heap.size = w1.heap.size := rfl
    have hz2 : w2.drew.heap.size = w2.heap.size := rfl
    refine ⟨⟨?_, hm.drew.only ho3 hqab, hm3, hqab, HP1.out.fine⟩, ?_, ho3.cell (w := w2.drew) f0 n2, ho3.cell (w := w2.drew) f1 n2, ho3.cell (w := w2.drew) f2 hqb, ho3.cell (w := w2.drew) f3 hqb⟩
    · rw [ho3.block p' (by omega) hqb]
      show w2.heap[p']? = _
      rw [ho.block p' (by omega) hqa]; exact HQ1.out.blk
    · exact ((HB1.out.drew).trans (ho.toBelow (by omega) (fun i e => by omega))).drew.trans (ho3.toBelow (by omega) (fun i e => by omega)))
  go_wp2_with fail
  first
  | (go_region_held3 (fun w' => w'.cell? ⟨p, 0, none⟩ = some (.map (some a)) ∧ w'.cell? ⟨p, 1, none⟩ = some (.map (some b)) ∧ w'.cell? ⟨p', 0, none⟩ = some (.map (some a')) ∧ w'.cell? ⟨p', 1, none⟩ = some (.map (some b')))
      (go_keep)
      (first
        | (go_at_call 52; refine (HCK.out _ (by exact HQ1.out.mks.drew) (by exact HP1.out.mks.drew)).mono ?_; rintro e w2 ⟨rfl, hm2, ho2⟩; obtain ⟨⟨q0, q1, q2, q3⟩, q4, q5⟩ := HGO.out _ hm2 ho2; have HM2 := hide hm2; have HO2 := hide ho2; have Q4 := hide q4; have Q5 := hide q5; clear hm2 ho2 q4 q5)))
  | fail
  all_goals
    go_wp2_with fail
    first
    | (go_region_held3 (fun w' => w'.cell? ⟨p, 0, none⟩ = some (.map (some a)) ∧ w'.cell? ⟨p, 1, none⟩ = some (.map (some b)) ∧ w'.cell? ⟨p', 0, none⟩ = some (.map (some a')) ∧ w'.cell? ⟨p', 1, none⟩ = some (.map (some b')))
        (go_keep)
        (first
          | (go_at_call 53; refine (HCH.out _ (by exact Q4.out.drew) (by exact Q5.out.drew)).mono ?_; rintro e w3 ⟨rfl, hm3, ho3⟩; obtain ⟨hp3, hb3, r0, r1, r2, r3⟩ := HEND.out _ _ HM2.out HO2.out hm3 ho3; have HP3 := hide hp3; have HB3 := hide hb3; clear hm3 ho3 hp3 hb3)))
    | fail
    all_goals
      go_wp2
      go_ret
      exact ⟨rfl, by have := HP3.out; rw [HE.out.1] at this; exact this, HB3.out⟩
theorem pcopy_nil (w : World) : Calls Try.prog 18 #[.pointer none] w fun e w' => e = .returned (.pointer none) ∧ w' = w := by
  go_enter Try.func18, Try.ntmps18
  go_wp2
  go_ret
  exact ⟨rfl, rfl⟩
end Go.Proofs.Ytkpambipgcjaiaa
