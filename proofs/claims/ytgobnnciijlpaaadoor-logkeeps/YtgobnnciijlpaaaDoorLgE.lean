/- The walks of replace, snapshot, behind of package log. -/
import Derived.Test.YtgobnnciijlpaaaDoorLgD
namespace Go.Proofs.YtgobnnciijlpaaaDoor
open Go.ChangeShapes Go.WideShapes Go.ChangeAt Go.RowKit Go.DsMem Go.DsDk Go.DsLg
set_option linter.unusedVariables false

theorem rd_only {S : Nat → Prop} {w w' : World} {sl : Value} {b : List UInt8} (h : Rd w sl b) (ho : Only S w w') (hs : 0 < b.length → ∀ k, sl.ownBlock = some k → ¬ S k) : Rd w' sl b := by
  obtain ⟨ao, cap, rfl, hlc, hnil, hrd⟩ := h
  refine ⟨ao, cap, rfl, hlc, hnil, fun a ha j u hu => ?_⟩
  have hj := (List.getElem?_eq_some_iff.1 hu).1
  refine ho.cell (hrd a ha j u hu) ?_
  rw [add_block]
  exact hs (by omega) _ (by rw [ha]; rfl)

set_option maxHeartbeats 1000000 in
/-- log.replace -/
theorem replace_any (p : Nat) (v : Nat → Value) (D : Dk) (f g : Int) (sl : Value) (b : List UInt8) (w : World) (hAt : DiskAt w p v D) (hrd : Rd w sl b) (hs : 0 < b.length → ∀ k, sl.ownBlock = some k → ¬ foot p v k) :
    Calls Tryd.prog 44 #[.pointer (some ⟨p, 0, none⟩), .int .i64 f, .int .i64 g, sl] w fun e w' => e = .returned (.int .i64 (replB D f g b).2) ∧ ∃ v', Moved w p v w' v' (replB D f g b).1 := by
  by_cases h1 : (D.clear f).2 = 0
  · have H1 := hide h1
    by_cases h2 : ((D.clear f).1.append f b).2 = 0
    · have H2 := hide h2
      by_cases h3 : (((D.clear f).1.append f b).1.sync f).2 = 0
      · have H3 := hide h3
        have HE : Hid (replB D f g b = (((D.clear f).1.append f b).1.sync f).1.rename f g) := by show _ = _; unfold replB; rw [if_pos h1, if_pos h2, if_pos h3]
        clear h1 h2 h3
        go_enter Tryd.func44, Tryd.ntmps44
        go_wp2_with (first
          | (go_at_call 67; refine (clear_any p v D f _ hAt).mono ?_; rintro e w1 ⟨rfl, v1, M1⟩; rw [H1.out]; have HR1 := hide (rd_only hrd M1.only hs))
          | (go_at_call 23; refine (append_any p v1 _ f _ b _ M1.dk HR1.out).mono ?_; rintro e w2 ⟨rfl, v2, M2⟩; rw [H2.out])
          | (go_at_call 68; refine (sync_any p v2 _ f _ M2.dk).mono ?_; rintro e w3 ⟨rfl, M3⟩; rw [H3.out])
          | (go_at_call 69; refine (rename_any p v2 _ f g _ M3.dk).mono ?_; rintro e w4 ⟨rfl, v4, M4⟩))
        go_ret
        rw [HE.out]
        exact ⟨rfl, v4, ((M1.trans M2).trans M3).trans M4⟩
      · have hne : ((((D.clear f).1.append f b).1.sync f).2 != 0) = true := by simp [h3]
        have HE : Hid (replB D f g b = ((D.clear f).1.append f b).1.sync f) := by show _ = _; unfold replB; rw [if_pos h1, if_pos h2, if_neg h3]
        clear h1 h2 h3
        go_enter Tryd.func44, Tryd.ntmps44
        go_wp2_with (first
          | (go_at_call 67; refine (clear_any p v D f _ hAt).mono ?_; rintro e w1 ⟨rfl, v1, M1⟩; rw [H1.out]; have HR1 := hide (rd_only hrd M1.only hs))
          | (go_at_call 23; refine (append_any p v1 _ f _ b _ M1.dk HR1.out).mono ?_; rintro e w2 ⟨rfl, v2, M2⟩; rw [H2.out])
          | (go_at_call 68; refine (sync_any p v2 _ f _ M2.dk).mono ?_; rintro e w3 ⟨rfl, M3⟩))
        go_ret
        rw [HE.out]
        exact ⟨rfl, v2, (M1.trans M2).trans M3⟩
    · have hne : (((D.clear f).1.append f b).2 != 0) = true := by simp [h2]
      have HE : Hid (replB D f g b = (D.clear f).1.append f b) := by show _ = _; unfold replB; rw [if_pos h1, if_neg h2]
      clear h1 h2
      go_enter Tryd.func44, Tryd.ntmps44
      go_wp2_with (first
        | (go_at_call 67; refine (clear_any p v D f _ hAt).mono ?_; rintro e w1 ⟨rfl, v1, M1⟩; rw [H1.out]; have HR1 := hide (rd_only hrd M1.only hs))
        | (go_at_call 23; refine (append_any p v1 _ f _ b _ M1.dk HR1.out).mono ?_; rintro e w2 ⟨rfl, v2, M2⟩))
      go_ret
      rw [HE.out]
      exact ⟨rfl, v2, M1.trans M2⟩
  · have hne : ((D.clear f).2 != 0) = true := by simp [h1]
    have HE : Hid (replB D f g b = D.clear f) := by show _ = _; unfold replB; rw [if_neg h1]
    clear h1
    go_enter Tryd.func44, Tryd.ntmps44
    go_wp2_with (go_at_call 67; refine (clear_any p v D f _ hAt).mono ?_; rintro e w1 ⟨rfl, v1, M1⟩)
    go_ret
    rw [HE.out]
    exact ⟨rfl, v1, M1⟩

set_option maxHeartbeats 1000000 in
/-- log.snapshot -/
theorem snapshot_any (b : List UInt8) (sl : Value) (w : World) (ht : Tab w) (h : Rd w sl b) (hl : b.length ≤ 140737488355328) :
    Calls Tryd.prog 42 #[sl] w fun e w' => ∃ x, e = .returned (.tuple #[.int .u64 (snapB b).1, x, .int .i64 (snapB b).2.2]) ∧
      w'.ownsRow w.heap.size 5 1 x (snapB b).2.1.length (bvs (snapB b).2.1) ∧ Below w.heap.size w w' := by
  have HR := hide h
  obtain ⟨ao, cap, rfl, hlc, hnil, hrd⟩ := h
  clear hnil hrd
  by_cases h0 : b.length = 0
  · have HE : Hid (snapB b = (0, [], 0)) := by show _ = _; unfold snapB; rw [if_pos h0]
    have hb0 : ((b.length : Int) == 0) = true := by simp [h0]
    clear h0
    go_enter Tryd.func42, Tryd.ntmps42
    go_wp2
    go_ret3
    rw [HE.out]
    exact ⟨_, rfl, nil_own _ _, Below.refl _ _⟩
  · have hb0 : ((b.length : Int) == 0) = false := by simp; intro h; simp [h] at h0
    cases hun : unfB b with
    | none =>
      have HE : Hid (snapB b = (0, [], 11)) := by show _ = _; unfold snapB; rw [if_neg h0, hun]
      clear h0
      go_enter Tryd.func42, Tryd.ntmps42
      go_wp2_with (go_at_call 65; refine (unframe_any b _ w ht HR.out hl).mono ?_; rintro e w1 ⟨BU, hno, -⟩; obtain rfl := hno hun; clear hno)
      go_ret3
      rw [HE.out]
      exact ⟨_, rfl, nil_own _ _, BU⟩
    | some qr =>
      obtain ⟨q, r⟩ := qr
      obtain ⟨hr1, hr2, hr3⟩ := unf_len hun
      by_cases hfit : 16 + r.length = b.length
      · have HE : Hid (snapB b = (q, r, 0)) := by show _ = _; unfold snapB; rw [if_neg h0, hun]; simp only; rw [if_pos hfit]
        have hne : ((16 : Int) + (r.length : Int) != (b.length : Int)) = false := by simp; omega
        clear h0 hfit
        go_enter Tryd.func42, Tryd.ntmps42
        go_wp2_with (first
          | (go_at_call 65; refine (unframe_any b _ w ht HR.out hl).mono ?_; rintro e w1 ⟨BU, -, hyes⟩; obtain ⟨x, rfl, hx⟩ := hyes q r hun; obtain ⟨xo, xc, rfl, hxc, -, -⟩ := id hx; have HX := hide (hx.below BU); clear hx hyes)
          | (go_at_call 66; refine (lcopied_any r _ _ HX.out (by omega)).mono ?_; rintro e w2 ⟨y, rfl, hy, B2⟩))
        go_ret3
        rw [HE.out]
        exact ⟨_, rfl, own_base hy BU.size, BU.trans (B2.mono BU.size)⟩
      · have HE : Hid (snapB b = (0, [], 11)) := by show _ = _; unfold snapB; rw [if_neg h0, hun]; simp only; rw [if_neg hfit]
        have hne : ((16 : Int) + (r.length : Int) != (b.length : Int)) = true := by simp; omega
        clear h0 hfit
        go_enter Tryd.func42, Tryd.ntmps42
        go_wp2_with (go_at_call 65; refine (unframe_any b _ w ht HR.out hl).mono ?_; rintro e w1 ⟨BU, -, hyes⟩; obtain ⟨x, rfl, hx⟩ := hyes q r hun; obtain ⟨xo, xc, rfl, hxc, -, -⟩ := id hx; have HX := hide (hx.below BU); clear hx hyes)
        go_ret3
        rw [HE.out]
        exact ⟨_, rfl, nil_own _ _, BU⟩
end Go.Proofs.YtgobnnciijlpaaaDoor
