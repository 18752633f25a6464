/- The walks of Sync, Clear, Rename of dayshiftref03. -/
import Derived.Test.YtgobnnciijlpaaaDoorRfA
namespace Go.Proofs.YtgobnnciijlpaaaDoor
open Go.ChangeShapes Go.WideShapes Go.ChangeAt Go.RowKit Go.DsMem Go.DsDk
set_option linter.unusedVariables false

theorem start_zero {D : Dk} {ok : Bool} (h : (D.start ok).2 = 0) : ok = true ∧ D.dead = false ∧ D.left ≠ 1 ∧ (D.start ok).1 = D.called := by
  unfold Dk.start at h ⊢
  cases ok with
  | false => simp at h
  | true =>
    cases hd : D.dead with
    | true => simp [hd] at h
    | false =>
      simp only [if_true, hd, Bool.false_eq_true, if_false] at h ⊢
      refine ⟨trivial, trivial, fun e => ?_, trivial⟩
      simp [Dk.err, e] at h
theorem start_not {D : Dk} {ok : Bool} (h : ¬ (D.start ok).2 = 0) : (ok = false ∧ D.start ok = (D, 1)) ∨ (ok = true ∧ D.dead = true ∧ D.start ok = (D, 13)) ∨ (ok = true ∧ D.dead = false ∧ D.left = 1 ∧ D.start ok = (D.called, 13)) := by
  unfold Dk.start at h ⊢
  cases ok with
  | false => exact .inl ⟨rfl, rfl⟩
  | true =>
    cases hd : D.dead with
    | true => exact .inr (.inl ⟨rfl, rfl, by simp⟩)
    | false =>
      refine .inr (.inr ⟨rfl, rfl, ?_, ?_⟩)
      · simp only [if_true, hd, Bool.false_eq_true, if_false] at h
        by_cases e : D.left = 1
        · exact e
        · exact absurd (err_no e) h
      · simp only [if_true, Bool.false_eq_true, if_false]
        by_cases e : D.left = 1
        · rw [err_one e]
        · simp only [if_true, hd, Bool.false_eq_true, if_false] at h
          exact absurd (err_no e) h
/-- the disk of the reference behind a call that is counted -/
theorem RefAt.calledTo {w w' : World} {S : Nat → Prop} {r g : Nat} {v : Nat → Value} {D : Dk} (h : RefAt w S r g v D) (hh : RH w' r g D.called.left D.called.dead) (ho : Only (· = r) w w') : RMoved w S r g w' v D.called :=
  RMoved.same h (ho.mono fun _ _ e => .inl e) (called_b D) hh (by rw [called_s]; exact h.fl.only ho (fun e => h.ne e.symm)) h.ok.called h.few.called

set_option maxHeartbeats 1000000 in
/-- Sync -/
theorem rsync_any (S : Nat → Prop) (r g : Nat) (v : Nat → Value) (D : Dk) (f : Int) (w : World) (h : RefAt w S r g v D) :
    Calls Tryd.prog 48 #[.pointer (some ⟨r, 0, none⟩), .int .i64 f] w fun e w' => e = .returned (.int .i64 (D.sync f).2) ∧ RMoved w S r g w' v (D.sync f).1 := by
  have hd := h.hd.deadC
  by_cases h0 : (D.start (okf f)).2 = 0
  · obtain ⟨hok, hdd, hl1, hst⟩ := start_zero h0
    obtain ⟨hf0, hf8⟩ := okf_bd hok
    obtain ⟨k, rfl⟩ := Int.eq_ofNat_of_zero_le hf0
    have hk : k < 8 := by omega
    have HE : Hid (D.sync (k : Int) = ({ D.called with s := upd D.s k (D.b k).length }, 0)) := by
      show D.sync (k : Int) = _
      unfold Dk.sync; rw [if_pos h0, hst]; simp
    have HL : Hid (decide (D.left = 1) = false) := by show _ = _; simp [hl1]
    have hlen := (h.ok k hk).2
    have hrh := h.hd
    rw [hdd] at hrh
    have HC := hide (counts_any r g D w hrh hdd h.few)
    have hbc := h.fl.bytes hk
    obtain ⟨ao, cap, hv, hcap, -⟩ := h.rd k hk
    rw [hdd] at hd
    have HO := hide hok
    have HV := hide hv
    clear hok h0 hst hv hrh hbc hdd
    go_enter Tryd.func48, Tryd.ntmps48
    go_wp2_with (first
      | (go_at_call 56; refine (right_any _ _).mono ?_; rintro e w' ⟨rfl, rfl⟩; rw [HO.out])
      | (go_at_call 57; refine HC.out.mono ?_; rintro e w1 ⟨rfl, hh1, ho1⟩; rw [HL.out]; have hM1 := h.calledTo hh1 ho1; obtain ⟨fc, hfc, hc0⟩ := hM1.dk.hd.filesC; have hcb := hM1.dk.fl.bytes hk; rw [HV.out] at hcb; have hcs := hM1.dk.fl.safe hk; have hfz := hM1.dk.fl.free (k * 2 + 1); have HM1 := hide hM1; clear hM1 hh1 ho1))
    go_region
    all_goals go_wp2
    go_ret
    rw [HE.out]
    have hM := HM1.out.dk
    refine ⟨rfl, HM1.out.trans (RMoved.same hM ((Only.set _ _ _ _).mono fun _ _ e => .inr e).drew rfl ?_ ?_ ?_ hM.few)⟩
    · exact hM.hd.only (S := (· = g)) (Only.set _ _ _ _).drew hM.ne
    · have := hM.fl.setSafe hk (D.b k).length
      rw [called_s] at this
      exact this
    · have := h.ok.sync (k : Int)
      rw [HE.out] at this; exact this
  · have HE : Hid (D.sync f = D.start (okf f)) := by show _ = _; unfold Dk.sync; rw [if_neg h0]
    rcases start_not h0 with ⟨hok, hst⟩ | ⟨hok, hdd, hst⟩ | ⟨hok, hdd, hl1, hst⟩
    · have HO := hide hok
      have HST := hide hst
      clear hok hst h0
      go_enter Tryd.func48, Tryd.ntmps48
      go_wp2_with (go_at_call 56; refine (right_any _ _).mono ?_; rintro e w' ⟨rfl, rfl⟩; rw [HO.out])
      go_ret
      rw [HE.out, HST.out]
      exact ⟨rfl, RMoved.refl h⟩
    · rw [hdd] at hd
      have HO := hide hok
      have HST := hide hst
      clear hok hst h0 hdd
      go_enter Tryd.func48, Tryd.ntmps48
      go_wp2_with (go_at_call 56; refine (right_any _ _).mono ?_; rintro e w' ⟨rfl, rfl⟩; rw [HO.out])
      go_ret
      rw [HE.out, HST.out]
      exact ⟨rfl, RMoved.refl h⟩
    · have hrh := h.hd
      rw [hdd] at hrh
      have HC := hide (counts_any r g D w hrh hdd h.few)
      have HL : Hid (decide (D.left = 1) = true) := by show _ = _; simp [hl1]
      rw [hdd] at hd
      have HO := hide hok
      have HST := hide hst
      clear hok hst h0 hdd hrh
      go_enter Tryd.func48, Tryd.ntmps48
      go_wp2_with (first
        | (go_at_call 56; refine (right_any _ _).mono ?_; rintro e w' ⟨rfl, rfl⟩; rw [HO.out])
        | (go_at_call 57; refine HC.out.mono ?_; rintro e w1 ⟨rfl, hh1, ho1⟩; rw [HL.out]; have HM1 := hide (h.calledTo hh1 ho1); clear hh1 ho1))
      go_ret
      rw [HE.out, HST.out]
      exact ⟨rfl, HM1.out⟩

set_option maxHeartbeats 1000000 in
/-- Clear -/
theorem rclear_any (S : Nat → Prop) (r g : Nat) (v : Nat → Value) (D : Dk) (f : Int) (w : World) (h : RefAt w S r g v D) :
    Calls Tryd.prog 47 #[.pointer (some ⟨r, 0, none⟩), .int .i64 f] w fun e w' => e = .returned (.int .i64 (D.clear f).2) ∧ ∃ v', RMoved w S r g w' v' (D.clear f).1 := by
  have hd := h.hd.deadC
  by_cases h0 : (D.start (okf f)).2 = 0
  · obtain ⟨hok, hdd, hl1, hst⟩ := start_zero h0
    obtain ⟨hf0, hf8⟩ := okf_bd hok
    obtain ⟨k, rfl⟩ := Int.eq_ofNat_of_zero_le hf0
    have hk : k < 8 := by omega
    have HE : Hid (D.clear (k : Int) = ({ D.called with b := upd D.b k [], s := upd D.s k 0 }, 0)) := by
      show D.clear (k : Int) = _
      unfold Dk.clear; rw [if_pos h0, hst]; simp
    have HL : Hid (decide (D.left = 1) = false) := by show _ = _; simp [hl1]
    have hrh := h.hd
    rw [hdd] at hrh
    have HC := hide (counts_any r g D w hrh hdd h.few)
    rw [hdd] at hd
    have HO := hide hok
    clear hok h0 hst hrh hdd
    go_enter Tryd.func47, Tryd.ntmps47
    go_wp2_with (first
      | (go_at_call 56; refine (right_any _ _).mono ?_; rintro e w' ⟨rfl, rfl⟩; rw [HO.out])
      | (go_at_call 57; refine HC.out.mono ?_; rintro e w1 ⟨rfl, hh1, ho1⟩; rw [HL.out]; have hM1 := h.calledTo hh1 ho1; obtain ⟨fc, hfc, hc0⟩ := hM1.dk.hd.filesC; have hcb := hM1.dk.fl.bytes hk; have hcs := hM1.dk.fl.safe hk; have hfb := hM1.dk.fl.free (k * 2); have hfz := hM1.dk.fl.free (k * 2 + 1); have HM1 := hide hM1; clear hM1 hh1 ho1))
    go_ret
    rw [HE.out]
    have hM := HM1.out.dk
    have hon : Only (· = g) w1 ((w1.setCell ⟨g, k * 2, none⟩ (.slice none 0 0)).setCell ⟨g, k * 2 + 1, none⟩ (.int .i64 0)) := (Only.set _ _ _ _).trans (Only.set _ _ _ _) fun _ _ e => e
    refine ⟨rfl, upd v k (.slice none 0 0), HM1.out.trans (RMoved.mk' hM (hon.mono fun _ _ e => .inr e) (hM.hd.only hon hM.ne) ?_ (fun j hj => ?_) (fun j hj => ?_) ?_ hM.few)⟩
    · have := (hM.fl.setBytes hk (.slice none 0 0)).setSafe hk 0
      rw [called_s] at this
      exact this
    · by_cases e : j = k
      · subst e; rw [upd_same]; show Rd _ _ (upd D.b j [] j); rw [upd_same]; exact Rd.nil _
      · rw [upd_ne _ _ e]; show Rd _ _ (upd D.b k [] j); rw [upd_ne _ _ e]
        have := hM.rows (hon.mono fun _ _ e => .inr e) hj
        rw [called_b] at this
        exact this
    · by_cases e : j = k
      · subst e; rw [upd_same]; exact InT.nil _ _ _
      · rw [upd_ne _ _ e]; exact (hM.inn j hj).mono fun i hi => ⟨.inl hi.1, hi.2⟩
    · have := h.ok.clear (k : Int)
      rw [HE.out] at this; exact this
  · have HE : Hid (D.clear f = D.start (okf f)) := by show _ = _; unfold Dk.clear; rw [if_neg h0]
    rcases start_not h0 with ⟨hok, hst⟩ | ⟨hok, hdd, hst⟩ | ⟨hok, hdd, hl1, hst⟩
    · have HO := hide hok
      have HST := hide hst
      clear hok hst h0
      go_enter Tryd.func47, Tryd.ntmps47
      go_wp2_with (go_at_call 56; refine (right_any _ _).mono ?_; rintro e w' ⟨rfl, rfl⟩; rw [HO.out])
      go_ret
      rw [HE.out, HST.out]
      exact ⟨rfl, v, RMoved.refl h⟩
    · rw [hdd] at hd
      have HO := hide hok
      have HST := hide hst
      clear hok hst h0 hdd
      go_enter Tryd.func47, Tryd.ntmps47
      go_wp2_with (go_at_call 56; refine (right_any _ _).mono ?_; rintro e w' ⟨rfl, rfl⟩; rw [HO.out])
      go_ret
      rw [HE.out, HST.out]
      exact ⟨rfl, v, RMoved.refl h⟩
    · have hrh := h.hd
      rw [hdd] at hrh
      have HC := hide (counts_any r g D w hrh hdd h.few)
      have HL : Hid (decide (D.left = 1) = true) := by show _ = _; simp [hl1]
      rw [hdd] at hd
      have HO := hide hok
      have HST := hide hst
      clear hok hst h0 hdd hrh
      go_enter Tryd.func47, Tryd.ntmps47
      go_wp2_with (first
        | (go_at_call 56; refine (right_any _ _).mono ?_; rintro e w' ⟨rfl, rfl⟩; rw [HO.out])
        | (go_at_call 57; refine HC.out.mono ?_; rintro e w1 ⟨rfl, hh1, ho1⟩; rw [HL.out]; have HM1 := hide (h.calledTo hh1 ho1); clear hh1 ho1))
      go_ret
      rw [HE.out, HST.out]
      exact ⟨rfl, v, HM1.out⟩
end Go.Proofs.YtgobnnciijlpaaaDoor
