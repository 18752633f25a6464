/- Package dayshiftref11: Add (written by gencd.py). -/
import Derived.Test.YtliinilbfacpbaaCnC
namespace Go.Proofs.Ytliinilbfacpbaa
open Go.ChangeShapes Go.WideShapes Go.ChangeAt Go.RowKit Go.DsMem Go.DsCo
set_option linter.unusedVariables false
open Classical in
/-- one round of Add -/
noncomputable def insS (c : Cn) (a : List Cn × Bool) (x : Cn) : List Cn × Bool := if a.2 = false ∧ DsCo.ahead c x then (a.1 ++ [c] ++ [x], true) else (a.1 ++ [x], a.2)
theorem insS_all (c : Cn) : ∀ (l : List Cn) (acc : List Cn) (inn : Bool), (l.foldl (insS c) (acc, inn)).1 ++ (if (l.foldl (insS c) (acc, inn)).2 = true then [] else [c]) = acc ++ (if inn = true then l else insL c l)
  | [], acc, inn => by cases inn <;> simp [insL]
  | x :: r, acc, inn => by
    rw [List.foldl_cons]
    cases inn with
    | true =>
      have e : insS c (acc, true) x = (acc ++ [x], true) := by unfold insS; simp
      rw [e, insS_all c r]
      simp
    | false =>
      by_cases h : DsCo.ahead c x
      · have e : insS c (acc, false) x = (acc ++ [c] ++ [x], true) := by unfold insS; simp [h]
        rw [e, insS_all c r]
        simp [insL, h]
      · have e : insS c (acc, false) x = (acc ++ [x], false) := by unfold insS; simp [h]
        rw [e, insS_all c r]
        simp [insL, h]
/-- the loop of Add under way -/
structure AddSt (w2 wr : World) (out : List Cn) (vo : Option Addr) (vc : Nat) (p b : Nat) (uo : Option Addr) (uc : Nat) (L : List Cn) (q : Nat) (c : Cn) : Prop where
  os : OutSt w2 wr out vo vc
  rf : RfSt wr p b uo uc L
  bx : BoxC wr q c
  hp : p < w2.heap.size
  hq : q < w2.heap.size
  hg : ∀ g o, uo = some ⟨g, o, none⟩ → g < w2.heap.size
theorem AddSt.keep {w2 wr w' : World} {out : List Cn} {vo : Option Addr} {vc : Nat} {p b : Nat} {uo : Option Addr} {uc : Nat} {L : List Cn} {q : Nat} {c : Cn} (h : AddSt w2 wr out vo vc p b uo uc L q c) (hb : Below wr.heap.size wr w') : AddSt w2 w' out vo vc p b uo uc L q c :=
  ⟨h.os.keep hb, h.rf.below hb, h.bx.below hb, h.hp, h.hq, h.hg⟩
theorem AddSt.step {w2 wr w3 w4 : World} {out : List Cn} {vo : Option Addr} {vc : Nat} {p b : Nat} {uo : Option Addr} {uc : Nat} {L : List Cn} {q : Nat} {c x : Cn} {g cap : Nat} (h : AddSt w2 wr out vo vc p b uo uc L q c) (hb : Below wr.heap.size wr w3)
    (hown : w4.ownsRow w2.heap.size 24 2 (.slice (some ⟨g, 0, none⟩) (out.length + 1) cap) (out.length + 1) (cnRows out ++ encC x)) (hgr : w3.grownBy w4 (Value.slice vo out.length vc).ownBlock) : AddSt w2 w4 (out ++ [x]) (some ⟨g, 0, none⟩) cap p b uo uc L q c := by
  have ho : Only (fun k => (Value.slice vo out.length vc).ownBlock = some k) wr w4 := (Only.below hb).trans (Only.grown hgr) (fun _ _ h => h)
  have hlt : ∀ k, (Value.slice vo out.length vc).ownBlock = some k → w2.heap.size ≤ k := fun k hk => (h.os.row.lt k hk).1
  refine ⟨h.os.step hb hown hgr, h.rf.only ho (fun e => ?_) (fun g o e e2 => ?_), h.bx.only' ho (fun e => ?_), h.hp, h.hq, h.hg⟩
  · have := hlt p e; have := h.hp; omega
  · have := hlt g e2; have := h.hg g o e; omega
  · have := hlt q e; have := h.hq; omega
set_option maxHeartbeats 32000000 in
set_option maxRecDepth 20000 in
/-- Add -/
theorem radd_any (c : Cn) (p b : Nat) (uo : Option Addr) (uc : Nat) (L : List Cn) (w : World) (h : RfSt w p b uo uc L) (hb : b ≤ w.heap.size) (hc : fitC c) (F : List Cn) (e0 : Int) (hF : addF L c = (F, e0)) : Calls Try.prog 28 #[ptr p, cvl c] w (Moved w p b F (.int .i64 e0)) := by
  have HFF : Hid (Fine F) := by have := h.fine.add c; rw [hF] at this; exact this
  have h128 := h.fine.le
  have hcap := h.cap
  have HRI := hide (fun w => rright_any c w hc.1)
  have H := hide h
  have HBW := hide hb
  have BX0 := BoxC.new w c 24
  have HBL0 : Below w.heap.size w (w.alloc (.cells #[.string c.nm, .int .i64 c.day] 24)) := (Below.refl _ _).alloc (Nat.le_refl _) _
  have hs0 : (w.alloc (.cells #[.string c.nm, .int .i64 c.day] 24)).heap.size = w.heap.size + 1 := by simp
  obtain ⟨w0, hw0⟩ : ∃ w0, w0 = w.alloc (.cells #[.string c.nm, .int .i64 c.day] 24) := ⟨_, rfl⟩
  rw [← hw0] at BX0 HBL0 hs0
  have H0 := hide (h.below HBL0)
  have BX := hide BX0
  have HB := hide HBL0
  have HS0 := hide hs0
  clear h hb BX0 HBL0 hs0
  unfold ptr cvl at *
  by_cases hok : okC c
  · rw [okB_true hok] at HRI
    have HHAS := hide (fun w h => rhas_any c p b uo uc L w h)
    unfold ptr cvl at HHAS
    by_cases hin : c ∈ L
    · obtain ⟨rfl, rfl⟩ : L = F ∧ 0 = e0 := by have h := hF; unfold addF at h; rw [if_neg (by simpa using hok), if_pos hin] at h; simpa using h
      rw [inB_true hin] at HHAS
      obtain ⟨y0, y1⟩ := BX.out
      go_enter Try.func28, Try.ntmps28
      go_wp2_with fail
      rw [← hw0]
      go_wp2_with fail
      clear hw0 y0 y1
      refine (HRI.out w0).mono ?_
      rintro e w1 ⟨rfl, hb1⟩
      have H1 := hide (H0.out.below hb1)
      have HB1 := hide (HB.out.trans (hb1.mono HB.out.size))
      obtain ⟨y0, y1⟩ := BX.out.below hb1
      clear hb1
      go_wp2_with fail
      refine (HHAS.out w1 H1.out).mono ?_
      rintro e w2 ⟨rfl, hb2⟩
      have H2 := hide (H1.out.below hb2)
      have HB2 := hide (HB1.out.trans (hb2.mono HB1.out.size))
      clear hb2
      go_wp2
      go_ret
      exact Moved.of ⟨rfl, ⟨uo, uc, H2.out⟩, Only.below HB2.out⟩
    · rw [inB_false hin] at HHAS
      obtain ⟨y0, y1⟩ := BX.out
      by_cases hfull : 128 ≤ L.length
      · obtain ⟨rfl, rfl⟩ : L = F ∧ 4 = e0 := by have h := hF; unfold addF at h; rw [if_neg (by simpa using hok), if_neg hin, if_pos hfull] at h; simpa using h
        go_enter Try.func28, Try.ntmps28
        go_wp2_with fail
        rw [← hw0]
        go_wp2_with fail
        clear hw0 y0 y1
        refine (HRI.out w0).mono ?_
        rintro e w1 ⟨rfl, hb1⟩
        have H1 := hide (H0.out.below hb1)
        have HB1 := hide (HB.out.trans (hb1.mono HB.out.size))
        obtain ⟨y0, y1⟩ := BX.out.below hb1
        clear hb1
        go_wp2_with fail
        refine (HHAS.out w1 H1.out).mono ?_
        rintro e w2 ⟨rfl, hb2⟩
        have H2 := hide (H1.out.below hb2)
        have HB2 := hide (HB1.out.trans (hb2.mono HB1.out.size))
        have c0 := H2.out.c0
        clear hb2
        go_wp2
        go_ret
        exact Moved.of ⟨rfl, ⟨uo, uc, H2.out⟩, Only.below HB2.out⟩
      · obtain ⟨hFi, rfl⟩ : insL c L = F ∧ 0 = e0 := by have h := hF; unfold addF at h; rw [if_neg (by simpa using hok), if_neg hin, if_neg hfull] at h; simpa using h
        have HFI := hide hFi
        clear hFi
        obtain ⟨i0, hi0, hz0, hz1, hz2⟩ := info_parts infoCn
        go_enter Try.func28, Try.ntmps28
        go_wp2_with fail
        rw [← hw0]
        go_wp2_with fail
        clear hw0 y0 y1
        refine (HRI.out w0).mono ?_
        rintro e w1 ⟨rfl, hb1⟩
        have H1 := hide (H0.out.below hb1)
        have HB1 := hide (HB.out.trans (hb1.mono HB.out.size))
        have BX1 := hide (BX.out.below hb1)
        obtain ⟨y0, y1⟩ := BX1.out
        have HS1 : Hid (w.heap.size < w1.heap.size) := by have := hb1.size; have := HS0.out; refine hide ?_; omega
        clear hb1
        go_wp2_with fail
        refine (HHAS.out w1 H1.out).mono ?_
        rintro e w2 ⟨rfl, hb2⟩
        have H2 := hide (H1.out.below hb2)
        have HB2 := hide (HB1.out.trans (hb2.mono HB1.out.size))
        have hsq : w.heap.size < w2.heap.size := Nat.lt_of_lt_of_le HS1.out hb2.size
        have HA0 : Hid (AddSt w2 w2 [] none 0 p b uo uc L w.heap.size c) := ⟨OutSt.start (Below.refl _ _), H2.out, BX1.out.below hb2, H2.out.lt, hsq, fun g o e => by
          rcases H2.out.own with ⟨e3, _⟩ | ⟨g3, e3, hr3⟩
          · rw [e3] at e; cases e
          · rw [e3] at e
            have : g3 = g := by simpa using congrArg (fun x : Option Addr => x.map Addr.block) e
            have := hr3.lt; omega⟩
        have HBW2 : Hid (b ≤ w2.heap.size) := by have := HBW.out; refine hide ?_; omega
        have c0 := H2.out.c0
        generalize hqq : w.heap.size = q at *
        clear hb2 y0 y1
        go_wp2
        clear c0
        go_loopw [5, 6, 7] (fun sl bl i wr => ∃ (k : Nat) (out : List Cn) (inn : Bool) (vo : Option Addr) (vc : Nat), k ≤ L.length ∧ i = .int .i64 k ∧ bl = .bool inn ∧ sl = .slice vo out.length vc ∧ out.length ≤ k + 1 ∧ (inn = false → out.length ≤ k) ∧ (L.take k).foldl (insS c) ([], false) = (out, inn) ∧ AddSt w2 wr out vo vc p b uo uc L q c) (fun _ _ i _ => L.length - (intOf i).toNat)
        case atStart => exact ⟨0, [], false, none, 0, Nat.zero_le _, rfl, rfl, rfl, by simp, by simp, by simp, HA0.out⟩
        case round =>
          obtain ⟨k, out, inn, vo, vc, hk, rfl, rfl, rfl, hol, hol2, hout, hst⟩ := hrel
          have HOUT := hide hout
          have HST := hide hst
          have c0 := hst.rf.c0
          have hsw := hst.os.below.size
          clear hout hst
          obtain ⟨y0, y1⟩ := HST.out.bx
          by_cases hlt : k < L.length
          · obtain ⟨g, o, hgo, hin'⟩ := HST.out.rf.rd k hlt
            subst hgo
            have HTK : Hid (L.take (k + 1) = L.take k ++ [L[k]]) := List.take_succ_eq_append_getElem hlt
            have HRX := hide (show ∀ w', RfSt w' p b (some ⟨g, o, none⟩) uc L → CnIn w' g (o + k * 2) L[k] from fun w' h' => by
              obtain ⟨g', o', e', h2⟩ := h'.rd k hlt
              obtain ⟨rfl, rfl⟩ : g = g' ∧ o = o' := by simpa using e'
              exact h2)
            obtain ⟨x0, x1⟩ := hin'
            have HAH := hide (rahead_any c L[k])
            have HINS : Hid (∀ o2 i2, insS c (out, inn) L[k] = (o2, i2) → (L.take (k + 1)).foldl (insS c) ([], false) = (o2, i2)) := fun o2 i2 h => by
              rw [HTK.out, List.foldl_append, HOUT.out]
              exact h
            unfold cvl at HAH
            generalize L[k] = x at *
            have hk0 : (0 : Int) ≤ (k : Int) := by omega
            have hk1 : (k : Int) < ((L.length : Nat) : Int) := by omega
            have HSTD := hide (HST.out.keep (show Below wr.heap.size wr wr.drew from (Below.refl _ _).drew))
            cases inn with
            | true =>
              have HI2 := hide (HINS.out (out ++ [x]) true (by unfold insS; simp))
              clear HAH HINS
              go_wp2
              go_region
              have HROWHA1 : Hid (∀ ob, (wr.alloc ob).drew.ownsRow w2.heap.size 24 2 (.slice vo (out.length) vc) (out.length) (cnRows out)) := fun ob => own2_same HST.out.os.row (fun k hk => ((Below.refl _ _).alloc (Nat.le_refl _) ob).block k (HST.out.os.row.lt k hk).2)
              go_wp2_with (at_builtin; refine Hid.out ?_)
              refine hide ?_
              refine wpList_append_lies _ rfl _ _ 35 rfl w2.heap.size 24 i0 _ 2 24 Try.underlying35 hi0 hz0 hz1 hz2 rfl (by decide) _ (out.length) _ rfl (HROWHA1.out _) ⟨wr.heap.size, 0, none⟩ 1 1 (encC x) rfl rfl (World.news_of_block (cs := (encC x).toArray) (t := 24) (fr := (0, 0)) (by exact heap_alloc_new wr _)) (encC_one x) (by omega) (by unfold maxLen; omega) (by omega) (by have := HST.out.os.below.size; simp; omega) (wr.heap.size + 1) (by simp) ?_
              intro gHA1 capHA1 wHA1 hownHA1 hgrHA1 _ _
              have HA1 := hide (HST.out.step (show Below wr.heap.size wr (wr.alloc (.cells (encC x).toArray 24)).drew from ((Below.refl _ _).alloc (Nat.le_refl _) _).drew) hownHA1 hgrHA1)
              clear hownHA1 hgrHA1
              go_wp2
              go_roundw
              case rel => exact ⟨k + 1, out ++ [x], true, _, _, by omega, by go_num, rfl, by simp, by simp; omega, (fun h => nomatch h), HI2.out, HA1.out⟩
              case measure => simp [intOf]; omega
            | false =>
              have hol3 := hol2 rfl
              by_cases hah : DsCo.ahead c x
              · have HI2 := hide (HINS.out (out ++ [c] ++ [x]) true (by unfold insS; simp [hah]))
                rw [ahB_true hah] at HAH
                clear HINS
                go_wp2
                have KP : Hid (∀ w', Below wr.drew.heap.size wr.drew w' → w'.cell? ⟨p, 0, none⟩ = some (.slice (some ⟨g, o, none⟩) L.length uc) ∧ w'.cell? ⟨g, o + k * 2, none⟩ = some (.string x.nm) ∧ w'.cell? ⟨g, o + k * 2 + 1, none⟩ = some (.int .i64 x.day) ∧ w'.cell? ⟨q, 0, none⟩ = some (.string c.nm) ∧ w'.cell? ⟨q, 1, none⟩ = some (.int .i64 c.day)) := fun w' h => ⟨Below.keeps h (Nat.le_refl _) c0, Below.keeps h (Nat.le_refl _) x0, Below.keeps h (Nat.le_refl _) x1, Below.keeps h (Nat.le_refl _) y0, Below.keeps h (Nat.le_refl _) y1⟩
                first
                  | (go_region_held3 (fun w' => w'.cell? ⟨p, 0, none⟩ = some (.slice (some ⟨g, o, none⟩) L.length uc) ∧ w'.cell? ⟨g, o + k * 2, none⟩ = some (.string x.nm) ∧ w'.cell? ⟨g, o + k * 2 + 1, none⟩ = some (.int .i64 x.day) ∧ w'.cell? ⟨q, 0, none⟩ = some (.string c.nm) ∧ w'.cell? ⟨q, 1, none⟩ = some (.int .i64 c.day))
                      (go_keep)
                      ((go_at_call 37; refine (HAH.out _).mono ?_; rintro e w5 ⟨rfl, hb5⟩; obtain ⟨k0, k1, k2, k3, k4⟩ := KP.out _ hb5)))
                  | fail
                clear k0 k1 k2 k3 k4
                have HST5 := hide (HSTD.out.keep hb5)
                obtain ⟨z0, z1⟩ := HST5.out.bx
                have c5 := HST5.out.rf.c0
                clear hb5
                have HROWHA2 : Hid (∀ ob, (w5.alloc ob).ownsRow w2.heap.size 24 2 (.slice vo (out.length) vc) (out.length) (cnRows out)) := fun ob => own2_same HST5.out.os.row (fun k hk => ((Below.refl _ _).alloc (Nat.le_refl _) ob).block k (HST5.out.os.row.lt k hk).2)
                go_wp2_with (at_builtin; refine Hid.out ?_)
                refine hide ?_
                refine wpList_append_lies _ rfl _ _ 35 rfl w2.heap.size 24 i0 _ 2 24 Try.underlying35 hi0 hz0 hz1 hz2 rfl (by decide) _ (out.length) _ rfl (HROWHA2.out _) ⟨w5.heap.size, 0, none⟩ 1 1 (encC c) rfl rfl (World.news_of_block (cs := (encC c).toArray) (t := 24) (fr := (0, 0)) (by exact heap_alloc_new w5 _)) (encC_one c) (by omega) (by unfold maxLen; omega) (by omega) (by have := HST5.out.os.below.size; simp; omega) (w5.heap.size + 1) (by simp) ?_
                intro gHA2 capHA2 wHA2 hownHA2 hgrHA2 _ _
                have HA2 := hide (HST5.out.step (show Below w5.heap.size w5 (w5.alloc (.cells (encC c).toArray 24)) from ((Below.refl _ _).alloc (Nat.le_refl _) _)) hownHA2 hgrHA2)
                clear hownHA2 hgrHA2
                obtain ⟨x0, x1⟩ := HRX.out _ HA2.out.rf
                have c6 := HA2.out.rf.c0
                have hs6 := HA2.out.os.below.size
                have hl6 : (out ++ [c]).length = out.length + 1 := by simp
                have HL6 := hide hl6
                clear hl6
                have HROWHA3 : Hid (∀ ob, (wHA2.alloc ob).ownsRow w2.heap.size 24 2 (.slice (some ⟨gHA2, 0, none⟩) (out.length + 1) capHA2) (out.length + 1) (cnRows (out ++ [c]))) := fun ob => by rw [← HL6.out]; exact own2_same HA2.out.os.row (fun k hk => ((Below.refl _ _).alloc (Nat.le_refl _) ob).block k (HA2.out.os.row.lt k hk).2)
                go_wp2_with (at_builtin; refine Hid.out ?_)
                refine hide ?_
                refine wpList_append_lies _ rfl _ _ 35 rfl w2.heap.size 24 i0 _ 2 24 Try.underlying35 hi0 hz0 hz1 hz2 rfl (by decide) _ (out.length + 1) _ rfl (HROWHA3.out _) ⟨wHA2.heap.size, 0, none⟩ 1 1 (encC x) rfl rfl (World.news_of_block (cs := (encC x).toArray) (t := 24) (fr := (0, 0)) (by exact heap_alloc_new wHA2 _)) (encC_one x) (by omega) (by unfold maxLen; omega) (by omega) (by have := HA2.out.os.below.size; simp; omega) (wHA2.heap.size + 1) (by simp) ?_
                intro gHA3 capHA3 wHA3 hownHA3 hgrHA3 _ _
                have HA3 := hide (HA2.out.step (show Below wHA2.heap.size wHA2 (wHA2.alloc (.cells (encC x).toArray 24)) from ((Below.refl _ _).alloc (Nat.le_refl _) _)) (by rw [HL6.out]; exact hownHA3) hgrHA3)
                clear hownHA3 hgrHA3
                go_wp2
                go_roundw
                case rel => exact ⟨k + 1, out ++ [c] ++ [x], true, _, _, by omega, by go_num, rfl, by simp, by simp; omega, (fun h => nomatch h), HI2.out, HA3.out⟩
                case measure => simp [intOf]; omega
              · have HI2 := hide (HINS.out (out ++ [x]) false (by unfold insS; simp [hah]))
                rw [ahB_false hah] at HAH
                clear HINS
                go_wp2
                have KP : Hid (∀ w', Below wr.drew.heap.size wr.drew w' → w'.cell? ⟨p, 0, none⟩ = some (.slice (some ⟨g, o, none⟩) L.length uc) ∧ w'.cell? ⟨g, o + k * 2, none⟩ = some (.string x.nm) ∧ w'.cell? ⟨g, o + k * 2 + 1, none⟩ = some (.int .i64 x.day) ∧ w'.cell? ⟨q, 0, none⟩ = some (.string c.nm) ∧ w'.cell? ⟨q, 1, none⟩ = some (.int .i64 c.day)) := fun w' h => ⟨Below.keeps h (Nat.le_refl _) c0, Below.keeps h (Nat.le_refl _) x0, Below.keeps h (Nat.le_refl _) x1, Below.keeps h (Nat.le_refl _) y0, Below.keeps h (Nat.le_refl _) y1⟩
                first
                  | (go_region_held3 (fun w' => w'.cell? ⟨p, 0, none⟩ = some (.slice (some ⟨g, o, none⟩) L.length uc) ∧ w'.cell? ⟨g, o + k * 2, none⟩ = some (.string x.nm) ∧ w'.cell? ⟨g, o + k * 2 + 1, none⟩ = some (.int .i64 x.day) ∧ w'.cell? ⟨q, 0, none⟩ = some (.string c.nm) ∧ w'.cell? ⟨q, 1, none⟩ = some (.int .i64 c.day))
                      (go_keep)
                      ((go_at_call 37; refine (HAH.out _).mono ?_; rintro e w5 ⟨rfl, hb5⟩; obtain ⟨k0, k1, k2, k3, k4⟩ := KP.out _ hb5)))
                  | fail
                clear k0 k1 k2 k3 k4
                have HST5 := hide (HSTD.out.keep hb5)
                obtain ⟨x0, x1⟩ := HRX.out _ HST5.out.rf
                have c5 := HST5.out.rf.c0
                clear hb5
                have HROWHA4 : Hid (∀ ob, (w5.alloc ob).ownsRow w2.heap.size 24 2 (.slice vo (out.length) vc) (out.length) (cnRows out)) := fun ob => own2_same HST5.out.os.row (fun k hk => ((Below.refl _ _).alloc (Nat.le_refl _) ob).block k (HST5.out.os.row.lt k hk).2)
                go_wp2_with (at_builtin; refine Hid.out ?_)
                refine hide ?_
                refine wpList_append_lies _ rfl _ _ 35 rfl w2.heap.size 24 i0 _ 2 24 Try.underlying35 hi0 hz0 hz1 hz2 rfl (by decide) _ (out.length) _ rfl (HROWHA4.out _) ⟨w5.heap.size, 0, none⟩ 1 1 (encC x) rfl rfl (World.news_of_block (cs := (encC x).toArray) (t := 24) (fr := (0, 0)) (by exact heap_alloc_new w5 _)) (encC_one x) (by omega) (by unfold maxLen; omega) (by omega) (by have := HST5.out.os.below.size; simp; omega) (w5.heap.size + 1) (by simp) ?_
                intro gHA4 capHA4 wHA4 hownHA4 hgrHA4 _ _
                have HA4 := hide (HST5.out.step (show Below w5.heap.size w5 (w5.alloc (.cells (encC x).toArray 24)) from ((Below.refl _ _).alloc (Nat.le_refl _) _)) hownHA4 hgrHA4)
                clear hownHA4 hgrHA4
                go_wp2
                go_roundw
                case rel => exact ⟨k + 1, out ++ [x], false, _, _, by omega, by go_num, rfl, by simp, by simp; omega, (fun _ => by simp; omega), HI2.out, HA4.out⟩
                case measure => simp [intOf]; omega
          · have hall := insS_all c L [] false
            have hout := HOUT.out
            rw [List.take_of_length_le (by omega)] at hout
            rw [hout] at hall
            simp only [List.nil_append, Bool.false_eq_true, if_false, HFI.out] at hall
            have f0 := frozen_of (k := 0) HST.out.rf.hd
            cases inn with
            | true =>
              simp only [if_true, List.append_nil] at hall
              subst hall
              have HSET := hide (HST.out.rf.set HBW2.out HST.out.hp HST.out.os HFF.out)
              clear hout
              go_wp2
              go_ret
              exact Moved.of ⟨rfl, ⟨vo, vc, HSET.out.1⟩, (Only.below (by rw [hqq]; exact HB2.out)).trans HSET.out.2 (fun _ _ h => h)⟩
            | false =>
              simp only [Bool.false_eq_true, if_false] at hall
              clear hout
              have HROWHA5 : Hid (∀ ob, (wr.alloc ob).ownsRow w2.heap.size 24 2 (.slice vo (out.length) vc) (out.length) (cnRows out)) := fun ob => own2_same HST.out.os.row (fun k hk => ((Below.refl _ _).alloc (Nat.le_refl _) ob).block k (HST.out.os.row.lt k hk).2)
              go_wp2_with (at_builtin; refine Hid.out ?_)
              refine hide ?_
              refine wpList_append_lies _ rfl _ _ 35 rfl w2.heap.size 24 i0 _ 2 24 Try.underlying35 hi0 hz0 hz1 hz2 rfl (by decide) _ (out.length) _ rfl (HROWHA5.out _) ⟨wr.heap.size, 0, none⟩ 1 1 (encC c) rfl rfl (World.news_of_block (cs := (encC c).toArray) (t := 24) (fr := (0, 0)) (by exact heap_alloc_new wr _)) (encC_one c) (by omega) (by unfold maxLen; omega) (by omega) (by have := HST.out.os.below.size; simp; omega) (wr.heap.size + 1) (by simp) ?_
              intro gHA5 capHA5 wHA5 hownHA5 hgrHA5 _ _
              have HA5 := hide (HST.out.step (show Below wr.heap.size wr (wr.alloc (.cells (encC c).toArray 24)) from ((Below.refl _ _).alloc (Nat.le_refl _) _)) hownHA5 hgrHA5)
              clear hownHA5 hgrHA5
              have f6 := frozen_of (k := 0) HA5.out.rf.hd
              have c6 := HA5.out.rf.c0
              have hl6 : (out ++ [c]).length = out.length + 1 := by simp
              have HSET := hide (HA5.out.rf.set HBW2.out HA5.out.hp HA5.out.os (by rw [hall]; exact HFF.out))
              rw [hl6, hall] at HSET
              clear hl6
              go_wp2
              go_ret
              exact Moved.of ⟨rfl, ⟨_, _, HSET.out.1⟩, (Only.below (by rw [hqq]; exact HB2.out)).trans HSET.out.2 (fun _ _ h => h)⟩
  · obtain ⟨rfl, rfl⟩ : L = F ∧ 1 = e0 := by have h := hF; unfold addF at h; rw [if_pos hok] at h; simpa using h
    rw [okB_false hok] at HRI
    obtain ⟨y0, y1⟩ := BX.out
    go_enter Try.func28, Try.ntmps28
    go_wp2_with fail
    rw [← hw0]
    go_wp2_with fail
    clear hw0 y0 y1
    refine (HRI.out w0).mono ?_
    rintro e w1 ⟨rfl, hb1⟩
    have H1 := hide (H0.out.below hb1)
    have HB1 := hide (HB.out.trans (hb1.mono HB.out.size))
    clear hb1
    go_wp2
    go_ret
    exact Moved.of ⟨rfl, ⟨uo, uc, H1.out⟩, Only.below HB1.out⟩
end Go.Proofs.Ytliinilbfacpbaa
