/- The walk of Rename of dayshiftref03. -/
import Derived.Test.YtgobnnciijlpaaaDoorRfB
namespace Go.Proofs.YtgobnnciijlpaaaDoor
open Go.ChangeShapes Go.WideShapes Go.ChangeAt Go.RowKit Go.DsMem Go.DsDk
set_option linter.unusedVariables false

set_option maxHeartbeats 2000000 in
theorem rrename_not (S : Nat → Prop) (r g : Nat) (v : Nat → Value) (D : Dk) (f t : Int) (w : World) (h : RefAt w S r g v D) (h0 : ¬ (D.start (okf f && okf t)).2 = 0) :
    Calls Tryd.prog 49 #[.pointer (some ⟨r, 0, none⟩), .int .i64 f, .int .i64 t] w fun e w' => e = .returned (.int .i64 (D.rename f t).2) ∧ ∃ v', RMoved w S r g w' v' (D.rename f t).1 := by
  have hd := h.hd.deadC
  have HE : Hid (D.rename f t = D.start (okf f && okf t)) := by show _ = _; unfold Dk.rename; rw [if_neg h0]
  rcases start_not h0 with ⟨hok, hst⟩ | ⟨hok, hdd, hst⟩ | ⟨hok, hdd, hl1, hst⟩
  · have HST := hide hst
    cases hok1 : okf f
    · have HO1 := hide hok1
      clear hok hst h0 hok1
      go_enter Tryd.func49, Tryd.ntmps49
      go_wp2_with (go_at_call 56; refine (right_any f _).mono ?_; rintro e w' ⟨rfl, rfl⟩; rw [HO1.out])
      go_ret
      rw [HE.out, HST.out]
      exact ⟨rfl, v, RMoved.refl h⟩
    · have HO2 : Hid (okf t = false) := by show _ = _; rw [hok1] at hok; simpa using hok
      have HO1 := hide hok1
      have HFT : Hid (f ≠ t) := by
        intro e
        rw [e, HO2.out] at hok1
        cases hok1
      obtain ⟨hf0, hf8⟩ := okf_bd hok1
      obtain ⟨k, rfl⟩ := Int.eq_ofNat_of_zero_le hf0
      clear hok hst h0 hok1
      go_enter Tryd.func49, Tryd.ntmps49
      go_wp2_with (first
        | (go_at_call 56; refine (right_any (k : Int) _).mono ?_; rintro e w' ⟨rfl, rfl⟩; rw [HO1.out])
        | (go_at_call 56; refine (right_any t _).mono ?_; rintro e w' ⟨rfl, rfl⟩; rw [HO2.out]))
      go_ret
      rw [HE.out, HST.out]
      exact ⟨rfl, v, RMoved.refl h⟩
  · rw [hdd] at hd
    rw [Bool.and_eq_true] at hok
    have HO1 := hide hok.1
    have HO2 := hide hok.2
    obtain ⟨hf0, hf8⟩ := okf_bd hok.1
    obtain ⟨k, rfl⟩ := Int.eq_ofNat_of_zero_le hf0
    obtain ⟨ht0, ht8⟩ := okf_bd hok.2
    obtain ⟨j, rfl⟩ := Int.eq_ofNat_of_zero_le ht0
    have HST := hide hst
    clear hok hst h0 hdd
    go_enter Tryd.func49, Tryd.ntmps49
    go_wp2_with (first
      | (go_at_call 56; refine (right_any (k : Int) _).mono ?_; rintro e w' ⟨rfl, rfl⟩; rw [HO1.out])
      | (go_at_call 56; refine (right_any (j : Int) _).mono ?_; rintro e w' ⟨rfl, rfl⟩; rw [HO2.out]))
    go_ret
    rw [HE.out, HST.out]
    exact ⟨rfl, v, RMoved.refl h⟩
  · have hrh := h.hd
    rw [hdd] at hrh
    have HC := hide (counts_any r g D w hrh hdd h.few)
    have HL : Hid (decide (D.left = 1) = true) := by show _ = _; simp [hl1]
    rw [hdd] at hd
    rw [Bool.and_eq_true] at hok
    have HO1 := hide hok.1
    have HO2 := hide hok.2
    obtain ⟨hf0, hf8⟩ := okf_bd hok.1
    obtain ⟨k, rfl⟩ := Int.eq_ofNat_of_zero_le hf0
    obtain ⟨ht0, ht8⟩ := okf_bd hok.2
    obtain ⟨j, rfl⟩ := Int.eq_ofNat_of_zero_le ht0
    have HST := hide hst
    clear hok hst h0 hdd hrh
    go_enter Tryd.func49, Tryd.ntmps49
    go_wp2_with (first
      | (go_at_call 56; refine (right_any (k : Int) _).mono ?_; rintro e w' ⟨rfl, rfl⟩; rw [HO1.out])
      | (go_at_call 56; refine (right_any (j : Int) _).mono ?_; rintro e w' ⟨rfl, rfl⟩; rw [HO2.out])
      | (go_at_call 57; refine HC.out.mono ?_; rintro e w1 ⟨rfl, hh1, ho1⟩; rw [HL.out]; have HM1 := hide (h.calledTo hh1 ho1); clear hh1 ho1))
    go_ret
    rw [HE.out, HST.out]
    exact ⟨rfl, v, HM1.out⟩

set_option maxHeartbeats 4000000 in
/-- Rename -/
theorem rrename_any (S : Nat → Prop) (r g : Nat) (v : Nat → Value) (D : Dk) (f t : Int) (w : World) (h : RefAt w S r g v D) :
    Calls Tryd.prog 49 #[.pointer (some ⟨r, 0, none⟩), .int .i64 f, .int .i64 t] w fun e w' => e = .returned (.int .i64 (D.rename f t).2) ∧ ∃ v', RMoved w S r g w' v' (D.rename f t).1 := by
  have hd := h.hd.deadC
  by_cases h0 : (D.start (okf f && okf t)).2 = 0
  · obtain ⟨hok, hdd, hl1, hst⟩ := start_zero h0
    rw [Bool.and_eq_true] at hok
    obtain ⟨hok1, hok2⟩ := hok
    obtain ⟨hf0, hf8⟩ := okf_bd hok1
    obtain ⟨k, rfl⟩ := Int.eq_ofNat_of_zero_le hf0
    have hk : k < 8 := by omega
    obtain ⟨ht0, ht8⟩ := okf_bd hok2
    obtain ⟨j, rfl⟩ := Int.eq_ofNat_of_zero_le ht0
    have hj : j < 8 := by omega
    have HL : Hid (decide (D.left = 1) = false) := by show _ = _; simp [hl1]
    have hrh := h.hd
    rw [hdd] at hrh
    have HC := hide (counts_any r g D w hrh hdd h.few)
    rw [hdd] at hd
    have HO1 := hide hok1
    have HO2 := hide hok2
    by_cases hkj : k = j
    · have HE : Hid (D.rename (k : Int) (j : Int) = (D.called, 0)) := by
        show D.rename (k : Int) (j : Int) = _
        unfold Dk.rename
        rw [if_pos h0, if_pos (by rw [hkj])]
        exact Prod.ext hst h0
      have hne : ((k : Int) != (j : Int)) = false := by simp [hkj]
      clear hok1 hok2 h0 hst hrh hdd hkj
      go_enter Tryd.func49, Tryd.ntmps49
      go_wp2_with (first
        | (go_at_call 56; refine (right_any (k : Int) _).mono ?_; rintro e w' ⟨rfl, rfl⟩; rw [HO1.out])
        | (go_at_call 56; refine (right_any (j : Int) _).mono ?_; rintro e w' ⟨rfl, rfl⟩; rw [HO2.out])
        | (go_at_call 57; refine HC.out.mono ?_; rintro e w1 ⟨rfl, hh1, ho1⟩; rw [HL.out]; have HM1 := hide (h.calledTo hh1 ho1); clear hh1 ho1))
      go_ret
      rw [HE.out]
      exact ⟨rfl, v, HM1.out⟩
    · have HE : Hid (D.rename (k : Int) (j : Int) = ({ D.called with b := upd (upd D.b j (D.b k)) k [], s := upd (upd D.s j (D.s k)) k 0 }, 0)) := by
        show D.rename (k : Int) (j : Int) = _
        unfold Dk.rename
        rw [if_pos h0, if_neg (by omega), hst]
        simp
      have hne : ((k : Int) != (j : Int)) = true := by simp; omega
      have HKJ := hide hkj
      obtain ⟨ao, cap, hv, -⟩ := h.rd k hk
      have HV := hide hv
      clear hv
      have hrg := h.ne
      have HOK := hide (h.ok.rename (k : Int) (j : Int))
      clear hok1 hok2 h0 hst hrh hdd
      go_enter Tryd.func49, Tryd.ntmps49
      go_wp2_with (first
        | (go_at_call 56; refine (right_any (k : Int) _).mono ?_; rintro e w' ⟨rfl, rfl⟩; rw [HO1.out])
        | (go_at_call 56; refine (right_any (j : Int) _).mono ?_; rintro e w' ⟨rfl, rfl⟩; rw [HO2.out])
        | (go_at_call 57; refine HC.out.mono ?_; rintro e w1 ⟨rfl, hh1, ho1⟩; rw [HL.out]; have hM1 := h.calledTo hh1 ho1; obtain ⟨fc, hfc, hc0⟩ := hM1.dk.hd.filesC; have hcb := hM1.dk.fl.bytes hk; rw [HV.out] at hcb; have hcs := hM1.dk.fl.safe hk; have hfb := hM1.dk.fl.free (k * 2); have hfz := hM1.dk.fl.free (k * 2 + 1); have hdb := hM1.dk.fl.bytes hj; have hds := hM1.dk.fl.safe hj; have hgb := hM1.dk.fl.free (j * 2); have hgz := hM1.dk.fl.free (j * 2 + 1); have HM1 := hide hM1; clear hM1 hh1 ho1))
      go_region
      all_goals go_wp2
      go_ret
      rw [HE.out]
      have hM := HM1.out.dk
      have hon : Only (· = g) w1 ((((w1.setCell ⟨g, j * 2, none⟩ (.slice ao (D.b k).length cap)).setCell ⟨g, j * 2 + 1, none⟩ (.int .i64 (D.called.s k))).setCell ⟨g, k * 2, none⟩ (.slice none 0 0)).setCell ⟨g, k * 2 + 1, none⟩ (.int .i64 0)) :=
        (((Only.set _ _ _ _).trans (Only.set _ _ _ _) fun _ _ e => e).trans (Only.set _ _ _ _) fun _ _ e => e).trans (Only.set _ _ _ _) fun _ _ e => e
      refine ⟨rfl, upd (upd v j (v k)) k (.slice none 0 0), HM1.out.trans (RMoved.mk' hM (hon.mono fun _ _ e => .inr e).drew (hM.hd.only (S := (· = g)) hon.drew hM.ne) ?_ (fun i hi => ?_) (fun i hi => ?_) ?_ hM.few)⟩
      · have := (((hM.fl.setBytes hj (.slice ao (D.b k).length cap)).setSafe hj (D.called.s k)).setBytes hk (.slice none 0 0)).setSafe hk 0
        rw [called_s, ← HV.out] at this
        rw [called_s, ← HV.out]
        exact this
      · show Rd _ _ (upd (upd D.b j (D.b k)) k [] i)
        by_cases e : i = k
        · subst e; rw [upd_same, upd_same]; exact Rd.nil _
        · rw [upd_ne _ _ e, upd_ne _ _ e]
          by_cases e2 : i = j
          · subst e2; rw [upd_same, upd_same]
            have := hM.rows (hon.mono fun _ _ e => .inr e) hk
            rw [called_b] at this
            exact this
          · rw [upd_ne _ _ e2, upd_ne _ _ e2]
            have := hM.rows (hon.mono fun _ _ e => .inr e) hi
            rw [called_b] at this
            exact this
      · by_cases e : i = k
        · subst e; rw [upd_same]; exact InT.nil _ _ _
        · rw [upd_ne _ _ e]
          by_cases e2 : i = j
          · subst e2; rw [upd_same]; exact (hM.inn k hk).mono fun i hi => ⟨.inl hi.1, hi.2⟩
          · rw [upd_ne _ _ e2]; exact (hM.inn i hi).mono fun i hi => ⟨.inl hi.1, hi.2⟩
      · have := HOK.out
        rw [HE.out] at this; exact this
  · exact rrename_not S r g v D f t w h h0
end Go.Proofs.YtgobnnciijlpaaaDoor
