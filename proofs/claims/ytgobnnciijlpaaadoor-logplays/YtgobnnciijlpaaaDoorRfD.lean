/- The walk of Append of dayshiftref03. -/
import Derived.Test.YtgobnnciijlpaaaDoorRfB
namespace Go.Proofs.YtgobnnciijlpaaaDoor
open Go.ChangeShapes Go.WideShapes Go.ChangeAt Go.RowKit Go.DsMem Go.DsDk
set_option linter.unusedVariables false

/-- a row that a call has made, elsewhere than some blocks -/
theorem own_inT {w : World} {B n : Nat} {e : TypeId} {x : Value} {xs : List Value} {T : Nat → Prop} (h : w.ownsRow B e 1 x n xs) (hT : ∀ k, B ≤ k → k < w.heap.size → T k) : InT T x := by
  intro a m c hx
  subst hx
  rcases h.2 with ⟨h0, _⟩ | ⟨g, cap, cur, h0, hb, hg, _⟩
  · cases h0
  · simp only [Value.slice.injEq, Option.some.injEq] at h0
    rw [h0.1]
    exact hT g hb (block_lt hg)

theorem rd_only0 {w w' : World} {S T : Nat → Prop} {x : Value} {l : List UInt8} (h : Rd w x l) (hT : 0 < l.length → InT T x) (ho : Only S w w') (hn : ∀ k, T k → ¬ S k) : Rd w' x l := by
  by_cases h0 : 0 < l.length
  · exact Rd.onlyT h (hT h0) ho hn
  · obtain rfl : l = [] := List.eq_nil_of_length_eq_zero (by omega)
    obtain ⟨ao, cap, hs, hl, hnil, _⟩ := h
    exact ⟨ao, cap, hs, hl, hnil, fun a _ j u hu => by simp at hu⟩
theorem called_with (D : Dk) (B : Nat → List UInt8) : ({ D with b := B } : Dk).called = { D.called with b := B } := by
  unfold Dk.called
  split <;> rfl
theorem err_with (D : Dk) : D.err = if D.left = 1 then 13 else 0 := rfl

set_option maxHeartbeats 4000000 in
set_option maxRecDepth 20000 in
/-- Append -/
theorem rappend_any (S : Nat → Prop) (r g : Nat) (v : Nat → Value) (D : Dk) (f : Int) (sl : Value) (b : List UInt8) (w : World) (h : RefAt w S r g v D) (hrd : Rd w sl b) (hT : 0 < b.length → InT (fun k => k ≠ r ∧ k ≠ g) sl) (hbl : b.length ≤ 140737488351232) :
    Calls Tryd.prog 24 #[.pointer (some ⟨r, 0, none⟩), .int .i64 f, sl] w fun e w' => e = .returned (.int .i64 (D.append f b).2) ∧ ∃ v', RMoved w S r g w' v' (D.append f b).1 := by
  have hd := h.hd.deadC
  have HRD := hide hrd
  have HT := hide hT
  obtain ⟨ao, cap, rfl, hlc, _, _⟩ := hrd
  clear hT
  cases hok : okf f
  · have HE := hide (appends_no (D := D) (b := b) hok)
    have HO := hide hok
    clear hok
    go_enter Tryd.func24, Tryd.ntmps24
    go_wp2_with (go_at_call 56; refine (right_any _ _).mono ?_; rintro e w' ⟨rfl, rfl⟩; rw [HO.out])
    go_ret
    rw [HE.out]
    exact ⟨rfl, v, RMoved.refl h⟩
  obtain ⟨hf0, hf8⟩ := okf_bd hok
  obtain ⟨k, rfl⟩ := Int.eq_ofNat_of_zero_le hf0
  have hk : k < 8 := by omega
  cases hdd : D.dead
  · rw [hdd] at hd
    have hlen := (h.ok k hk).2
    obtain ⟨fc, hfc, hc0⟩ := h.hd.filesC
    have hcb := h.fl.bytes hk
    have hrk := h.rd k hk
    obtain ⟨ao2, cap2, hv, hcap, -⟩ := id hrk
    have HV := hide hv
    rw [hv] at hcb
    have HO := hide hok
    by_cases hbig : 1048576 < b.length + (D.b k).length
    · have HE := hide (appends_full (b := b) hok hdd hbig)
      clear hok hdd hrk hv
      go_enter Tryd.func24, Tryd.ntmps24
      go_wp2_with (go_at_call 56; refine (right_any _ _).mono ?_; rintro e w' ⟨rfl, rfl⟩; rw [HO.out])
      go_ret
      rw [HE.out]
      exact ⟨rfl, v, RMoved.refl h⟩
    · have HE := hide (appends_yes (b := b) hok hdd hbig)
      have hrh := h.hd
      rw [hdd] at hrh
      have HC := hide (counts_any r g D w hrh hdd h.few)
      clear hok hdd hrk hv hrh
      go_enter Tryd.func24, Tryd.ntmps24
      go_wp2_with (first
        | (go_at_call 56; refine (right_any _ _).mono ?_; rintro e w' ⟨rfl, rfl⟩; rw [HO.out])
        | (go_at_call 57; refine HC.out.mono ?_; rintro e w1 ⟨rfl, hh1, ho1⟩; have HRD1 := hide (rd_only0 HRD.out HT.out ho1 (fun k hk e => hk.1 e)); have hM1 := h.calledTo hh1 ho1; clear hc0 hcb; obtain ⟨fc, hfc, hc0⟩ := hM1.dk.hd.filesC; have hcb := hM1.dk.fl.bytes hk; rw [HV.out] at hcb; have hcs := hM1.dk.fl.safe hk; have HM1 := hide hM1; clear hM1 hh1 ho1))
      clear hd
      have hg1 := HM1.out.dk.fl.lt
      have hr1 := HM1.out.dk.hd.lt
      have hrg := h.ne
      generalize hn0 : w1.heap.size = n0 at *
      generalize hsk : D.called.s k = sk at *
      obtain ⟨wa, hwa⟩ : ∃ wa, wa = w1.alloc (.cells #[.slice none 0 0, .int .i64 sk] 95) := ⟨_, rfl⟩
      rw [← hwa]
      have hXa : wa.heap[n0]? = some (.cells #[.slice none 0 0, .int .i64 sk] 95 (0, 0)) := by rw [hwa, ← hn0]; exact heap_alloc_new w1 _
      have hBa : Below n0 w1 wa := by rw [hwa]; exact (Below.refl _ _).alloc (by omega) _
      have hsa : wa.heap.size = n0 + 1 := by rw [hwa]; simp [hn0]
      have HRA := hide (HM1.out.dk.below (hn0 ▸ hBa))
      clear hc0 hcb hcs
      obtain ⟨fc, hfc, hc0⟩ := HRA.out.hd.filesC
      have hcb := HRA.out.fl.bytes hk
      rw [HV.out] at hcb
      have hrk := HRA.out.rd k hk
      rw [HV.out, called_b] at hrk
      have HRK := hide hrk
      have hx0 := cell_of (k := 0) hXa
      simp only [List.getElem?_toArray, List.getElem?_cons_zero] at hx0
      have hne1 : ¬ r = n0 := by omega
      have hne2 : ¬ g = n0 := by omega
      have HXA := hide hXa
      have HBA := hide hBa
      have HSA := hide hsa
      have HN0 := hide hn0
      have HSK := hide hsk
      clear hXa hBa hsa hwa hn0 hsk hrk
      go_region_law (refine step_append_rd (by rfl) (.tmp 41) (.tmp 49) 28 (by rfl) 5 (by exact Tryd.underlying28) (by exact info5) (n0 + 1) (.slice none 0 0) 0 [] (by rfl) (by exact empty_own _ _) (.slice ao2 (D.b k).length cap2) (D.b k) (by rfl) (by exact Rd.drew HRK.out) (by omega) (by rw [show wa.drew.heap.size = wa.heap.size from rfl, HSA.out]; exact Nat.le_refl _) ?_; intro v2 w2 hown2 hgrow2 _; have hB2 : Below (n0 + 1) wa w2 := (Below.drew (Below.refl (n0 + 1) wa)).grown hgrow2 (by rw [show wa.drew.heap.size = wa.heap.size from rfl, HSA.out]; exact Nat.le_refl _) (fun _ h => by cases h); have hX2 : w2.heap[n0]? = some (.cells #[.slice none 0 0, .int .i64 sk] 95 (0, 0)) := (hB2.block n0 (by omega)).trans HXA.out; have hc2 := cell_of (k := 0) hX2; simp only [List.getElem?_toArray, List.getElem?_cons_zero] at hc2; have hf2 := frozen_of (k := 0) hX2; rw [Nat.zero_add, List.nil_append] at hown2; obtain ⟨ao3, cap3, rfl, _⟩ := own_shape hown2; have HX2 := hide hX2; have HB2 := hide hB2; have HO2 := hide hown2; clear hgrow2 hX2 hB2 hown2)
      all_goals
        obtain ⟨wb, hwb⟩ : ∃ wb, wb = w2.setCell ⟨n0, 0, none⟩ (.slice ao3 (D.b k).length cap3) := ⟨_, rfl⟩
        rw [← hwb]
        have hob : Only (· = n0) w2 wb := by rw [hwb]; exact Only.set _ _ _ _
        have hXb : wb.heap[n0]? = some (.cells #[.slice ao3 (D.b k).length cap3, .int .i64 sk] 95 (0, 0)) := by rw [hwb, hset_same HX2.out]; rfl
        have hOb := own_only HO2.out hob (fun i hi e => by have := (HO2.out.lt i hi).1; omega)
        have hs2 : n0 + 1 ≤ w2.heap.size := by have := HB2.out.size; have := HSA.out; omega
        have hBb : Below n0 w1 wb := (HBA.out.trans (HB2.out.mono (by omega))).trans (hob.toBelow (by omega) (fun i hi => by omega))
        have hRb := rd_in HRD1.out hBb (by have := HN0.out; omega)
        have hsb : n0 + 1 ≤ wb.heap.size := Nat.le_trans hs2 hob.size
        have hb0 := cell_of (k := 0) hXb
        simp only [List.getElem?_toArray, List.getElem?_cons_zero] at hb0
        have HXB := hide hXb
        have HOB := hide hOb
        have HBB := hide hBb
        have HRB := hide hRb
        have HSB := hide hsb
        clear hwb hob hXb hOb hs2 hBb hRb hsb hc2 hf2 hx0
        go_wp2_with (at_builtin; refine wpList_append_rd rfl _ _ 28 rfl 5 Tryd.underlying28 info5 (n0 + 1) _ _ _ rfl HOB.out _ b rfl HRB.out (by omega) HSB.out ?_; intro v3 w3 hown3 hgrow3 _; have hB3 : Below (n0 + 1) wb w3 := (Below.refl (n0 + 1) wb).grown hgrow3 HSB.out (fun i hi => (HOB.out.lt i hi).1); have hX3 : w3.heap[n0]? = some (.cells #[.slice ao3 (D.b k).length cap3, .int .i64 sk] 95 (0, 0)) := (hB3.block n0 (by omega)).trans HXB.out; have hc3 := cell_of (k := 0) hX3; simp only [List.getElem?_toArray, List.getElem?_cons_zero] at hc3; have hf3 := frozen_of (k := 0) hX3; obtain ⟨ao4, cap4, rfl, _⟩ := own_shape hown3; have HX3 := hide hX3; have HB3 := hide hB3; have HO3 := hide hown3; clear hgrow3 hX3 hB3 hown3)
        obtain ⟨wc, hwc⟩ : ∃ wc, wc = w3.setCell ⟨n0, 0, none⟩ (.slice ao4 ((D.b k).length + b.length) cap4) := ⟨_, rfl⟩
        rw [← hwc]
        have hoc : Only (· = n0) w3 wc := by rw [hwc]; exact Only.set _ _ _ _
        have hXc : wc.heap[n0]? = some (.cells #[.slice ao4 ((D.b k).length + b.length) cap4, .int .i64 sk] 95 (0, 0)) := by rw [hwc, hset_same HX3.out]; rfl
        have hOc := own_only HO3.out hoc (fun i hi e => by have := (HO3.out.lt i hi).1; omega)
        have hs3 : n0 + 1 ≤ w3.heap.size := Nat.le_trans HSB.out HB3.out.size
        have hBc : Below n0 w1 wc := (HBB.out.trans (HB3.out.mono (by omega))).trans (hoc.toBelow (by omega) (fun i hi => by omega))
        have hAc := HM1.out.dk.below (by rw [HN0.out]; exact hBc)
        obtain ⟨fc, hfc, hc0⟩ := hAc.hd.filesC
        have hcb := hAc.fl.bytes hk
        have hcs := hAc.fl.safe hk
        have hfb := hAc.fl.free (k * 2)
        have hfz := hAc.fl.free (k * 2 + 1)
        have he0 := cell_of (k := 0) hXc
        have he1 := cell_of (k := 1) hXc
        simp only [List.getElem?_toArray, List.getElem?_cons_zero, List.getElem?_cons_succ] at he0 he1
        have HOC := hide hOc
        have HBC := hide hBc
        have HAC := hide hAc
        clear hwc hoc hXc hOc hs3 hBc hAc hc3 hf3 hb0
        go_wp2
        go_region
        all_goals
          have HFIN : Hid (RMoved w' S r g ((wc.setCell ⟨g, k * 2, none⟩ (.slice ao4 ((D.b k).length + b.length) cap4)).setCell ⟨g, k * 2 + 1, none⟩ (.int .i64 sk)).drew (upd v k (.slice ao4 ((D.b k).length + b.length) cap4)) (D.append k b).1) := by
            have hon : Only (· = g) wc ((wc.setCell ⟨g, k * 2, none⟩ (.slice ao4 ((D.b k).length + b.length) cap4)).setCell ⟨g, k * 2 + 1, none⟩ (.int .i64 sk)) := (Only.set _ _ _ _).trans (Only.set _ _ _ _) fun _ _ e => e
            have hok2 := h.ok.append (k : Int) b
            have hfw2 := h.few.append (k : Int) b
            rw [HE.out, called_with] at hok2 hfw2
            have hon1 : Only (fun i => i = r ∨ i = g) w1 ((wc.setCell ⟨g, k * 2, none⟩ (.slice ao4 ((D.b k).length + b.length) cap4)).setCell ⟨g, k * 2 + 1, none⟩ (.int .i64 sk)) :=
              (Only.below (S := fun i => i = r ∨ i = g) (by rw [HN0.out]; exact HBC.out)).trans hon (fun _ _ e => .inr e)
            have hown := own_only HOC.out hon (fun i hi e => by have := (HOC.out.lt i hi).1; omega)
            show RMoved _ _ _ _ _ _ _
            rw [HE.out, called_with]
            refine HM1.out.trans (RMoved.mk' HM1.out.dk hon1.drew (HAC.out.hd.only (S := (· = g)) hon.drew hrg) ?_ (fun i hi => ?_) (fun i hi => ?_) hok2 hfw2)
            · have := (HAC.out.fl.setBytes hk (.slice ao4 ((D.b k).length + b.length) cap4)).setSafe hk sk
              rw [← HSK.out] at this ⊢
              have e : upd D.called.s k (D.called.s k) = D.called.s := by funext x; by_cases e : x = k; subst e; rw [upd_same]; rw [upd_ne _ _ e]
              rw [e] at this
              exact this
            · show Rd _ _ (upd D.b k (D.b k ++ b) i)
              by_cases e : i = k
              · subst e
                rw [upd_same, upd_same]
                have := Rd.own (l := D.b i ++ b) (n := (D.b i).length + b.length) hown
                exact this
              · rw [upd_ne _ _ e, upd_ne _ _ e]
                have := HM1.out.dk.rows hon1 hi
                rw [called_b] at this
                exact this
            · by_cases e : i = k
              · subst e
                rw [upd_same]
                refine own_inT hown (fun j h1 h2 => ⟨.inr ⟨?_, h2⟩, ?_, ?_⟩)
                · rw [HN0.out]; omega
                · omega
                · omega
              · rw [upd_ne _ _ e]; exact (HM1.out.dk.inn i hi).mono fun i hi => ⟨.inl hi.1, hi.2⟩
          clear hc0 hcb hcs hfb hfz he0 he1 HOC HBC HAC
          generalize ((wc.setCell ⟨g, k * 2, none⟩ (.slice ao4 ((D.b k).length + b.length) cap4)).setCell ⟨g, k * 2 + 1, none⟩ (.int .i64 sk)).drew = wd at *
          by_cases hl1 : D.left = 1
          · have HER : Hid ((D.append (k : Int) b).2 = 13) := by show _ = _; rw [HE.out]; exact err_one hl1
            have hdl : decide (D.left = 1) = true := by simp [hl1]
            rw [hdl]
            clear hl1 hdl
            go_wp2
            go_ret
            exact ⟨by (rw [HER.out]) <;> rfl, _, HFIN.out⟩
          · have HER : Hid ((D.append (k : Int) b).2 = 0) := by show _ = _; rw [HE.out]; exact err_no hl1
            have hdl : decide (D.left = 1) = false := by simp [hl1]
            rw [hdl]
            clear hl1 hdl
            go_wp2
            go_ret
            exact ⟨by (rw [HER.out]) <;> rfl, _, HFIN.out⟩
  · have HE := hide (appends_dead (b := b) hok hdd)
    have HO := hide hok
    rw [hdd] at hd
    clear hok hdd
    go_enter Tryd.func24, Tryd.ntmps24
    go_wp2_with (go_at_call 56; refine (right_any _ _).mono ?_; rintro e w' ⟨rfl, rfl⟩; rw [HO.out])
    go_ret
    rw [HE.out]
    exact ⟨rfl, v, RMoved.refl h⟩
end Go.Proofs.YtgobnnciijlpaaaDoor
