/- Package dayshiftref11: DropAll, Clean, Drop (written by gencn.py). -/
import Derived.Test.YtliinilbfacpbaaCnB
import Derived.Deep.AppendLies
namespace Go.Proofs.Ytliinilbfacpbaa
open Go.ChangeShapes Go.WideShapes Go.ChangeAt Go.RowKit Go.DsMem Go.DsCo
set_option linter.unusedVariables false
set_option maxHeartbeats 16000000 in
set_option maxRecDepth 20000 in
/-- DropAll -/
theorem rdropall_any (s : ByteArray) (p b : Nat) (uo : Option Addr) (uc : Nat) (L : List Cn) (w : World) (h : RfSt w p b uo uc L) (hb : b ≤ w.heap.size) (F : List Cn) (hF : dropN L s = F) : Calls Try.prog 30 #[ptr p, .string s] w (Moved w p b F (.int .i64 (L.length - F.length : Int))) := by
  have hff : Fine F := by rw [← hF]; exact h.fine.filter _
  have hfl : F.length ≤ L.length := by rw [← hF]; exact List.length_filter_le _ _
  have HFF := hide hff
  have HF : Hid (L.filter (fun x => decide (x.nm ≠ s)) = F) := hF
  unfold ptr
  have h128 := h.fine.le
  have hcap := h.cap
  have hp := h.lt
  have HP := hide hp
  have HBW := hide hb
  have H := hide h
  clear hff hF h hb
  obtain ⟨i0, hi0, hz0, hz1, hz2⟩ := info_parts infoCn
  go_enter Try.func30, Try.ntmps30
  have c0 := H.out.c0
  go_wp2
  clear c0
  go_loopw [6, 7] (fun sl i wr => ∃ (k : Nat) (out : List Cn) (vo : Option Addr) (vc : Nat), k ≤ L.length ∧ i = .int .i64 k ∧ sl = .slice vo out.length vc ∧ out.length ≤ k ∧ (L.take k).filter (fun x => decide (x.nm ≠ s)) = out ∧ OutSt w wr out vo vc ∧ RfSt wr p b uo uc L) (fun _ i _ => L.length - (intOf i).toNat)
  case atStart => exact ⟨0, [], none, 0, Nat.zero_le _, rfl, rfl, Nat.le_refl _, by simp, OutSt.start (Below.refl _ _), H.out⟩
  case round =>
    obtain ⟨k, out, vo, vc, hk, rfl, rfl, hol, hout, hos, hst⟩ := hrel
    have HOUT := hide hout
    have HOS := hide hos
    have HST := hide hst
    have c0 := hst.c0
    have hsw := hos.below.size
    clear hout hos hst
    by_cases hlt : k < L.length
    · obtain ⟨g, o, rfl, hin⟩ := HST.out.rd k hlt
      have HTK : Hid (L.take (k + 1) = L.take k ++ [L[k]]) := List.take_succ_eq_append_getElem hlt
      obtain ⟨x0, x1⟩ := hin
      generalize L[k] = x at *
      have hk0 : (0 : Int) ≤ (k : Int) := by omega
      have hk1 : (k : Int) < ((L.length : Nat) : Int) := by omega
      by_cases hxs : x.nm = s
      · have HY : Hid (decide (x.nm ≠ s) = false) := by refine hide ?_; simp [hxs]
        rw [hxs] at x0
        have HO2 : Hid ((L.take (k + 1)).filter (fun x => decide (x.nm ≠ s)) = out) := by
          refine hide ?_
          rw [HTK.out, List.filter_append, HOUT.out]
          simp only [List.filter_cons, List.filter_nil, HY.out]
          simp
        go_wp2
        go_roundw
        case rel => exact ⟨k + 1, out, vo, vc, by omega, by go_num, rfl, by omega, HO2.out, HOS.out, HST.out⟩
        case measure => simp [intOf]; omega
      · have HY : Hid (decide (x.nm ≠ s) = true) := by refine hide ?_; simp [hxs]
        have hne := str_neC hxs

        have HROW : Hid (∀ ob, (wr.alloc ob).ownsRow w.heap.size 24 2 (.slice vo out.length vc) out.length (cnRows out)) := fun ob => own2_same HOS.out.row (fun k hk => ((Below.refl _ _).alloc (Nat.le_refl _) ob).block k (HOS.out.row.lt k hk).2)
        go_wp2_with (at_builtin; refine Hid.out ?_)
        refine hide ?_
        refine wpList_append_lies _ rfl _ _ 35 rfl w.heap.size 24 i0 _ 2 24 Try.underlying35 hi0 hz0 hz1 hz2 rfl (by decide) _ out.length _ rfl (HROW.out _) ⟨wr.heap.size, 0, none⟩ 1 1 (encC x) rfl rfl (World.news_of_block (cs := (encC x).toArray) (t := 24) (fr := (0, 0)) (by exact heap_alloc_new wr _)) (encC_one x) (by omega) (by unfold maxLen; omega) (by omega) (by simp; omega) (wr.heap.size + 1) (by simp) ?_
        intro g' cap' w4 hown4 hgr4 _ _
        have HOS4 := hide (HOS.out.step (show Below wr.heap.size wr (wr.alloc (.cells (encC x).toArray 24)) from ((Below.refl _ _).alloc (Nat.le_refl _) _)) hown4 hgr4)
        have HON4 : Hid (Only (fun k => (Value.slice vo out.length vc).ownBlock = some k) wr w4) := ((Only.alloc _ wr (.cells (encC x).toArray 24))).trans (Only.grown hgr4) (fun _ _ h => h)
        have HST4 := hide (HST.out.only HON4.out (fun e => by have := (HOS.out.row.lt p e).1; have := HP.out; omega) (fun g'' o'' e e2 => by
          have h1 := (HOS.out.row.lt g'' e2).1
          rcases H.out.own with ⟨e3, _⟩ | ⟨g3, e3, hr3⟩
          · rw [e3] at e; cases e
          · rw [e3] at e; have : g3 = g'' := by simpa using congrArg (fun x : Option Addr => x.map Addr.block) e
            have := hr3.lt; omega))
        have HO2 : Hid ((L.take (k + 1)).filter (fun x => decide (x.nm ≠ s)) = out ++ [x]) := by
          refine hide ?_
          rw [HTK.out, List.filter_append, HOUT.out]
          simp only [List.filter_cons, List.filter_nil, HY.out, if_true]
        clear hown4 hgr4
        go_wp2
        go_roundw
        case rel => exact ⟨k + 1, out ++ [x], _, _, by omega, by go_num, by simp, by simp; omega, HO2.out, HOS4.out, HST4.out⟩
        case measure => simp [intOf]; omega
    · have hE : out = F := by have h := HOUT.out; rw [List.take_of_length_le (by omega), HF.out] at h; exact h.symm
      have hset := HST.out.set HBW.out HP.out HOS.out (by rw [hE]; exact HFF.out)
      have HSET := hide hset
      have f0 := frozen_of (k := 0) HST.out.hd
      rw [hE] at HSET
      subst hE
      clear hset
      go_wp2
      go_ret
      exact Moved.of ⟨rfl, ⟨vo, vc, HSET.out.1⟩, HSET.out.2⟩
set_option maxHeartbeats 16000000 in
set_option maxRecDepth 20000 in
/-- Clean -/
theorem rclean_any (d : Int) (p b : Nat) (uo : Option Addr) (uc : Nat) (L : List Cn) (w : World) (h : RfSt w p b uo uc L) (hb : b ≤ w.heap.size) (F : List Cn) (hF : cleanF L d = F) : Calls Try.prog 31 #[ptr p, .int .i64 d] w (Moved w p b F (.int .i64 (L.length - F.length : Int))) := by
  have hff : Fine F := by rw [← hF]; exact h.fine.filter _
  have hfl : F.length ≤ L.length := by rw [← hF]; exact List.length_filter_le _ _
  have HFF := hide hff
  have HF : Hid (L.filter (fun x => decide (d ≤ x.day)) = F) := hF
  unfold ptr
  have h128 := h.fine.le
  have hcap := h.cap
  have hp := h.lt
  have HP := hide hp
  have HBW := hide hb
  have H := hide h
  clear hff hF h hb
  obtain ⟨i0, hi0, hz0, hz1, hz2⟩ := info_parts infoCn
  go_enter Try.func31, Try.ntmps31
  have c0 := H.out.c0
  go_wp2
  clear c0
  go_loopw [6, 7] (fun sl i wr => ∃ (k : Nat) (out : List Cn) (vo : Option Addr) (vc : Nat), k ≤ L.length ∧ i = .int .i64 k ∧ sl = .slice vo out.length vc ∧ out.length ≤ k ∧ (L.take k).filter (fun x => decide (d ≤ x.day)) = out ∧ OutSt w wr out vo vc ∧ RfSt wr p b uo uc L) (fun _ i _ => L.length - (intOf i).toNat)
  case atStart => exact ⟨0, [], none, 0, Nat.zero_le _, rfl, rfl, Nat.le_refl _, by simp, OutSt.start (Below.refl _ _), H.out⟩
  case round =>
    obtain ⟨k, out, vo, vc, hk, rfl, rfl, hol, hout, hos, hst⟩ := hrel
    have HOUT := hide hout
    have HOS := hide hos
    have HST := hide hst
    have c0 := hst.c0
    have hsw := hos.below.size
    clear hout hos hst
    by_cases hlt : k < L.length
    · obtain ⟨g, o, rfl, hin⟩ := HST.out.rd k hlt
      have HTK : Hid (L.take (k + 1) = L.take k ++ [L[k]]) := List.take_succ_eq_append_getElem hlt
      obtain ⟨x0, x1⟩ := hin
      generalize L[k] = x at *
      have hk0 : (0 : Int) ≤ (k : Int) := by omega
      have hk1 : (k : Int) < ((L.length : Nat) : Int) := by omega
      by_cases hxs : d ≤ x.day
      · have HY : Hid (decide (d ≤ x.day) = true) := by refine hide ?_; simp [hxs]

        have HROW : Hid (∀ ob, (wr.alloc ob).ownsRow w.heap.size 24 2 (.slice vo out.length vc) out.length (cnRows out)) := fun ob => own2_same HOS.out.row (fun k hk => ((Below.refl _ _).alloc (Nat.le_refl _) ob).block k (HOS.out.row.lt k hk).2)
        go_wp2_with (at_builtin; refine Hid.out ?_)
        refine hide ?_
        refine wpList_append_lies _ rfl _ _ 35 rfl w.heap.size 24 i0 _ 2 24 Try.underlying35 hi0 hz0 hz1 hz2 rfl (by decide) _ out.length _ rfl (HROW.out _) ⟨wr.heap.size, 0, none⟩ 1 1 (encC x) rfl rfl (World.news_of_block (cs := (encC x).toArray) (t := 24) (fr := (0, 0)) (by exact heap_alloc_new wr _)) (encC_one x) (by omega) (by unfold maxLen; omega) (by omega) (by simp; omega) (wr.heap.size + 1) (by simp) ?_
        intro g' cap' w4 hown4 hgr4 _ _
        have HOS4 := hide (HOS.out.step (show Below wr.heap.size wr (wr.alloc (.cells (encC x).toArray 24)) from ((Below.refl _ _).alloc (Nat.le_refl _) _)) hown4 hgr4)
        have HON4 : Hid (Only (fun k => (Value.slice vo out.length vc).ownBlock = some k) wr w4) := ((Only.alloc _ wr (.cells (encC x).toArray 24))).trans (Only.grown hgr4) (fun _ _ h => h)
        have HST4 := hide (HST.out.only HON4.out (fun e => by have := (HOS.out.row.lt p e).1; have := HP.out; omega) (fun g'' o'' e e2 => by
          have h1 := (HOS.out.row.lt g'' e2).1
          rcases H.out.own with ⟨e3, _⟩ | ⟨g3, e3, hr3⟩
          · rw [e3] at e; cases e
          · rw [e3] at e; have : g3 = g'' := by simpa using congrArg (fun x : Option Addr => x.map Addr.block) e
            have := hr3.lt; omega))
        have HO2 : Hid ((L.take (k + 1)).filter (fun x => decide (d ≤ x.day)) = out ++ [x]) := by
          refine hide ?_
          rw [HTK.out, List.filter_append, HOUT.out]
          simp only [List.filter_cons, List.filter_nil, HY.out, if_true]
        clear hown4 hgr4
        go_wp2
        go_roundw
        case rel => exact ⟨k + 1, out ++ [x], _, _, by omega, by go_num, by simp, by simp; omega, HO2.out, HOS4.out, HST4.out⟩
        case measure => simp [intOf]; omega
      · have HY : Hid (decide (d ≤ x.day) = false) := by refine hide ?_; simp; omega
        have HO2 : Hid ((L.take (k + 1)).filter (fun x => decide (d ≤ x.day)) = out) := by
          refine hide ?_
          rw [HTK.out, List.filter_append, HOUT.out]
          simp only [List.filter_cons, List.filter_nil, HY.out]
          simp
        go_wp2
        go_roundw
        case rel => exact ⟨k + 1, out, vo, vc, by omega, by go_num, rfl, by omega, HO2.out, HOS.out, HST.out⟩
        case measure => simp [intOf]; omega
    · have hE : out = F := by have h := HOUT.out; rw [List.take_of_length_le (by omega), HF.out] at h; exact h.symm
      have hset := HST.out.set HBW.out HP.out HOS.out (by rw [hE]; exact HFF.out)
      have HSET := hide hset
      have f0 := frozen_of (k := 0) HST.out.hd
      rw [hE] at HSET
      subst hE
      clear hset
      go_wp2
      go_ret
      exact Moved.of ⟨rfl, ⟨vo, vc, HSET.out.1⟩, HSET.out.2⟩
set_option maxHeartbeats 16000000 in
set_option maxRecDepth 20000 in
/-- Drop -/
theorem rdrop_any (c : Cn) (p b : Nat) (uo : Option Addr) (uc : Nat) (L : List Cn) (w : World) (h : RfSt w p b uo uc L) (hb : b ≤ w.heap.size) (F : List Cn) (hF : dropF L c = F) : Calls Try.prog 29 #[ptr p, cvl c] w (Moved w p b F (.bool (inB c L))) := by
  have hff : Fine F := by rw [← hF]; exact h.fine.filter _
  have hfl : F.length ≤ L.length := by rw [← hF]; exact List.length_filter_le _ _
  have HFF := hide hff
  have HF : Hid (L.filter (fun x => decide (x ≠ c)) = F) := hF
  unfold ptr
  have h128 := h.fine.le
  have hcap := h.cap
  have hp := h.lt
  have HP := hide hp
  have HBW := hide hb
  have H := hide h
  clear hff hF h hb
  obtain ⟨i0, hi0, hz0, hz1, hz2⟩ := info_parts infoCn
  have BX0 := BoxC.new w c 24
  have HBL0 : Below w.heap.size w (w.alloc (.cells #[.string c.nm, .int .i64 c.day] 24)) := (Below.refl _ _).alloc (Nat.le_refl _) _
  have hs0 : (w.alloc (.cells #[.string c.nm, .int .i64 c.day] 24)).heap.size = w.heap.size + 1 := by simp
  obtain ⟨w0, hw0⟩ : ∃ w0, w0 = w.alloc (.cells #[.string c.nm, .int .i64 c.day] 24) := ⟨_, rfl⟩
  rw [← hw0] at BX0 HBL0 hs0
  have H0 := hide (H.out.below HBL0)
  have BX := hide BX0
  have HB := hide HBL0
  have HS0 := hide hs0
  have HHAS := hide (rhas_any c p b uo uc L w0 H0.out)
  unfold ptr cvl at HHAS
  unfold cvl
  clear BX0 HBL0 hs0
  obtain ⟨y0, y1⟩ := BX.out
  go_enter Try.func29, Try.ntmps29
  go_wp2_with fail
  rw [← hw0]
  go_wp2_with fail
  clear hw0 y0 y1
  refine HHAS.out.mono ?_
  rintro e w2 ⟨rfl, hb2⟩
  have H2 := hide (H0.out.below hb2)
  have BX2 := hide (BX.out.below hb2)
  have HB2 := hide (HB.out.trans (hb2.mono HB.out.size))
  have HQ : Hid (w.heap.size < w2.heap.size) := by have := hb2.size; have := HS0.out; refine hide ?_; omega
  clear hb2 HHAS
  generalize hq : w.heap.size = q at *
  have HBW2 : Hid (b ≤ w2.heap.size) := by have := HBW.out; have := HQ.out; refine hide ?_; omega
  have HP2 : Hid (p < w2.heap.size) := H2.out.lt
  have c0 := H2.out.c0
  go_wp2
  clear c0
  go_loopw [6, 7] (fun sl i wr => ∃ (k : Nat) (out : List Cn) (vo : Option Addr) (vc : Nat), k ≤ L.length ∧ i = .int .i64 k ∧ sl = .slice vo out.length vc ∧ out.length ≤ k ∧ (L.take k).filter (fun x => decide (x ≠ c)) = out ∧ OutSt w2 wr out vo vc ∧ RfSt wr p b uo uc L ∧ BoxC wr q c) (fun _ i _ => L.length - (intOf i).toNat)
  case atStart => exact ⟨0, [], none, 0, Nat.zero_le _, rfl, rfl, Nat.le_refl _, by simp, OutSt.start (Below.refl _ _), H2.out, BX2.out⟩
  case round =>
    obtain ⟨k, out, vo, vc, hk, rfl, rfl, hol, hout, hos, hst, hbx⟩ := hrel
    have HOUT := hide hout
    have HOS := hide hos
    have HST := hide hst
    have c0 := hst.c0
    have hsw := hos.below.size
    clear hout hos hst
    have HBX := hide hbx
    obtain ⟨y0, y1⟩ := hbx
    by_cases hlt : k < L.length
    · obtain ⟨g, o, rfl, hin⟩ := HST.out.rd k hlt
      have HTK : Hid (L.take (k + 1) = L.take k ++ [L[k]]) := List.take_succ_eq_append_getElem hlt
      obtain ⟨x0, x1⟩ := hin
      generalize L[k] = x at *
      have hk0 : (0 : Int) ≤ (k : Int) := by omega
      have hk1 : (k : Int) < ((L.length : Nat) : Int) := by omega
      have HSTD := hide HST.out.drew
      have HOSD := hide (HOS.out.keep (show Below wr.heap.size wr wr.drew from (Below.refl _ _).drew))
      have HBXD : Hid (BoxC wr.drew q c) := ⟨y0, y1⟩
      by_cases hxs : x = c
      · have HY : Hid (decide (x ≠ c) = false) := by refine hide ?_; simp [hxs]
        subst hxs
        go_wp2
        first
          | (go_region_held3 (fun w' => w'.cell? ⟨p, 0, none⟩ = some (.slice (some ⟨g, o, none⟩) L.length uc) ∧ w'.cell? ⟨g, o + k * 2, none⟩ = some (.string x.nm) ∧ w'.cell? ⟨g, o + k * 2 + 1, none⟩ = some (.int .i64 x.day) ∧ w'.cell? ⟨q, 0, none⟩ = some (.string x.nm) ∧ w'.cell? ⟨q, 1, none⟩ = some (.int .i64 x.day))
              (go_keep)
              (fail))
          | fail
        have HO2 : Hid ((L.take (k + 1)).filter (fun x_ => decide (x_ ≠ x)) = out) := by
          refine hide ?_
          rw [HTK.out, List.filter_append, HOUT.out]
          simp only [List.filter_cons, List.filter_nil, HY.out]
          simp
        go_wp2
        go_roundw
        case rel => exact ⟨k + 1, out, vo, vc, by omega, by go_num, rfl, by omega, HO2.out, HOSD.out, HSTD.out, HBXD.out⟩
        case measure => simp [intOf]; omega
      · have HY : Hid (decide (x ≠ c) = true) := by refine hide ?_; simp [hxs]
        rcases cn_ne hxs with hd | ⟨he, hd⟩
        · skip
          have HYB : Hid (∀ w4 : World, Only (fun k => (Value.slice vo out.length vc).ownBlock = some k) wr w4 → BoxC w4 q c) := fun w4 ho => (show BoxC wr q c from ⟨y0, y1⟩).only' ho (fun e => by have := (HOS.out.row.lt q e).1; have := HQ.out; omega)

          have HROW : Hid (∀ ob, (wr.alloc ob).drew.ownsRow w2.heap.size 24 2 (.slice vo out.length vc) out.length (cnRows out)) := fun ob => own2_same HOS.out.row (fun k hk => ((Below.refl _ _).alloc (Nat.le_refl _) ob).block k (HOS.out.row.lt k hk).2)
          go_wp2
          first
            | (go_region_held3 (fun w' => w'.cell? ⟨p, 0, none⟩ = some (.slice (some ⟨g, o, none⟩) L.length uc) ∧ w'.cell? ⟨g, o + k * 2, none⟩ = some (.string x.nm) ∧ w'.cell? ⟨g, o + k * 2 + 1, none⟩ = some (.int .i64 x.day) ∧ w'.cell? ⟨q, 0, none⟩ = some (.string c.nm) ∧ w'.cell? ⟨q, 1, none⟩ = some (.int .i64 c.day))
                (go_keep)
                (fail))
            | fail
          go_wp2_with (at_builtin; refine Hid.out ?_)
          refine hide ?_
          refine wpList_append_lies _ rfl _ _ 35 rfl w2.heap.size 24 i0 _ 2 24 Try.underlying35 hi0 hz0 hz1 hz2 rfl (by decide) _ out.length _ rfl (HROW.out _) ⟨wr.heap.size, 0, none⟩ 1 1 (encC x) rfl rfl (World.news_of_block (cs := (encC x).toArray) (t := 24) (fr := (0, 0)) (by exact heap_alloc_new wr _)) (encC_one x) (by omega) (by unfold maxLen; omega) (by omega) (by simp; omega) (wr.heap.size + 1) (by simp) ?_
          intro g' cap' w4 hown4 hgr4 _ _
          have HOS4 := hide (HOS.out.step (show Below wr.heap.size wr (wr.alloc (.cells (encC x).toArray 24)).drew from ((Below.refl _ _).alloc (Nat.le_refl _) _).drew) hown4 hgr4)
          have HON4 : Hid (Only (fun k => (Value.slice vo out.length vc).ownBlock = some k) wr w4) := ((Only.alloc _ wr (.cells (encC x).toArray 24)).drew).trans (Only.grown hgr4) (fun _ _ h => h)
          have HST4 := hide (HST.out.only HON4.out (fun e => by have := (HOS.out.row.lt p e).1; have := HP2.out; omega) (fun g'' o'' e e2 => by
            have h1 := (HOS.out.row.lt g'' e2).1
            rcases H2.out.own with ⟨e3, _⟩ | ⟨g3, e3, hr3⟩
            · rw [e3] at e; cases e
            · rw [e3] at e; have : g3 = g'' := by simpa using congrArg (fun x : Option Addr => x.map Addr.block) e
              have := hr3.lt; omega))
          have HO2 : Hid ((L.take (k + 1)).filter (fun x => decide (x ≠ c)) = out ++ [x]) := by
            refine hide ?_
            rw [HTK.out, List.filter_append, HOUT.out]
            simp only [List.filter_cons, List.filter_nil, HY.out, if_true]
          clear hown4 hgr4
          go_wp2
          go_roundw
          case rel => exact ⟨k + 1, out ++ [x], _, _, by omega, by go_num, by simp, by simp; omega, HO2.out, HOS4.out, HST4.out, HYB.out _ HON4.out⟩
          case measure => simp [intOf]; omega
        · skip
          have HYB : Hid (∀ w4 : World, Only (fun k => (Value.slice vo out.length vc).ownBlock = some k) wr w4 → BoxC w4 q c) := fun w4 ho => (show BoxC wr q c from ⟨y0, y1⟩).only' ho (fun e => by have := (HOS.out.row.lt q e).1; have := HQ.out; omega)
          rw [← he] at y0
          clear he

          have HROW : Hid (∀ ob, (wr.alloc ob).drew.ownsRow w2.heap.size 24 2 (.slice vo out.length vc) out.length (cnRows out)) := fun ob => own2_same HOS.out.row (fun k hk => ((Below.refl _ _).alloc (Nat.le_refl _) ob).block k (HOS.out.row.lt k hk).2)
          go_wp2
          first
            | (go_region_held3 (fun w' => w'.cell? ⟨p, 0, none⟩ = some (.slice (some ⟨g, o, none⟩) L.length uc) ∧ w'.cell? ⟨g, o + k * 2, none⟩ = some (.string x.nm) ∧ w'.cell? ⟨g, o + k * 2 + 1, none⟩ = some (.int .i64 x.day) ∧ w'.cell? ⟨q, 0, none⟩ = some (.string x.nm) ∧ w'.cell? ⟨q, 1, none⟩ = some (.int .i64 c.day))
                (go_keep)
                (fail))
            | fail
          go_wp2_with (at_builtin; refine Hid.out ?_)
          refine hide ?_
          refine wpList_append_lies _ rfl _ _ 35 rfl w2.heap.size 24 i0 _ 2 24 Try.underlying35 hi0 hz0 hz1 hz2 rfl (by decide) _ out.length _ rfl (HROW.out _) ⟨wr.heap.size, 0, none⟩ 1 1 (encC x) rfl rfl (World.news_of_block (cs := (encC x).toArray) (t := 24) (fr := (0, 0)) (by exact heap_alloc_new wr _)) (encC_one x) (by omega) (by unfold maxLen; omega) (by omega) (by simp; omega) (wr.heap.size + 1) (by simp) ?_
          intro g' cap' w4 hown4 hgr4 _ _
          have HOS4 := hide (HOS.out.step (show Below wr.heap.size wr (wr.alloc (.cells (encC x).toArray 24)).drew from ((Below.refl _ _).alloc (Nat.le_refl _) _).drew) hown4 hgr4)
          have HON4 : Hid (Only (fun k => (Value.slice vo out.length vc).ownBlock = some k) wr w4) := ((Only.alloc _ wr (.cells (encC x).toArray 24)).drew).trans (Only.grown hgr4) (fun _ _ h => h)
          have HST4 := hide (HST.out.only HON4.out (fun e => by have := (HOS.out.row.lt p e).1; have := HP2.out; omega) (fun g'' o'' e e2 => by
            have h1 := (HOS.out.row.lt g'' e2).1
            rcases H2.out.own with ⟨e3, _⟩ | ⟨g3, e3, hr3⟩
            · rw [e3] at e; cases e
            · rw [e3] at e; have : g3 = g'' := by simpa using congrArg (fun x : Option Addr => x.map Addr.block) e
              have := hr3.lt; omega))
          have HO2 : Hid ((L.take (k + 1)).filter (fun x => decide (x ≠ c)) = out ++ [x]) := by
            refine hide ?_
            rw [HTK.out, List.filter_append, HOUT.out]
            simp only [List.filter_cons, List.filter_nil, HY.out, if_true]
          clear hown4 hgr4
          go_wp2
          go_roundw
          case rel => exact ⟨k + 1, out ++ [x], _, _, by omega, by go_num, by simp, by simp; omega, HO2.out, HOS4.out, HST4.out, HYB.out _ HON4.out⟩
          case measure => simp [intOf]; omega
    · have hE : out = F := by have h := HOUT.out; rw [List.take_of_length_le (by omega), HF.out] at h; exact h.symm
      have hset := HST.out.set HBW2.out HP2.out HOS.out (by rw [hE]; exact HFF.out)
      have HSET := hide hset
      have f0 := frozen_of (k := 0) HST.out.hd
      rw [hE] at HSET
      subst hE
      clear hset
      go_wp2
      go_ret
      exact Moved.of ⟨rfl, ⟨vo, vc, HSET.out.1⟩, (Only.below (by rw [hq]; exact HB2.out)).trans HSET.out.2 (fun _ _ h => h)⟩
end Go.Proofs.Ytliinilbfacpbaa
