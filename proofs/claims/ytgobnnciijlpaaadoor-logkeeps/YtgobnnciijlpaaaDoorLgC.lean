/- The walk of unframe of package log. -/
import Derived.Test.YtgobnnciijlpaaaDoorLgB
import Derived.BigQuiet
import Derived.Deep.Slices
import Derived.WalkSmall
namespace Go.Proofs.YtgobnnciijlpaaaDoor
open Go.ChangeShapes Go.WideShapes Go.ChangeAt Go.RowKit Go.DsMem Go.DsDk Go.DsLg
set_option linter.unusedVariables false

/-- a part of a slice of bytes -/
theorem rd_cut {w : World} {a : Addr} {cap lo hi n c : Nat} {b : List UInt8} (h : Rd w (.slice (some a) b.length cap) b) (h1 : lo ≤ hi) (h2 : hi ≤ b.length) (hn : n = hi - lo) (hc : n ≤ c) :
    Rd w (.slice (some (a.add lo)) n c) ((b.take hi).drop lo) := by
  obtain ⟨ao, cap', he, hlc, hnil, hrd⟩ := h
  simp only [Value.slice.injEq] at he
  obtain ⟨rfl, _, _⟩ := he
  have hl : ((b.take hi).drop lo).length = n := by simp; omega
  refine ⟨some (a.add lo), c, by rw [hl], by omega, fun h => (by cases h), fun x hx j u hu => ?_⟩
  obtain rfl : a.add lo = x := Option.some.inj hx
  rw [Go.Deep.add_add]
  refine hrd a rfl (lo + j) u ?_
  have hj : j < n := by have := (List.getElem?_eq_some_iff.1 hu).1; omega
  rw [List.getElem?_drop, List.getElem?_take] at hu
  rw [if_pos (by omega)] at hu
  exact hu

set_option maxRecDepth 10000 in
/-- log.unframe of too few bytes -/
theorem unframe_few (b : List UInt8) (sl : Value) (w : World) (h : Rd w sl b) (hb : b.length < 16) :
    Calls Tryd.prog 65 #[sl] w fun e w' => e = .returned (.tuple #[.int .u64 0, .slice none 0 0, .bool false]) ∧ Below w.heap.size w w' := by
  obtain ⟨ao, cap, rfl, hlc, hnil, hrd⟩ := h
  clear hnil hrd
  go_enter Tryd.func65, Tryd.ntmps65
  go_wp2
  go_ret3
  exact ⟨rfl, Below.refl _ _⟩

set_option maxRecDepth 10000 in
set_option maxHeartbeats 2000000 in
/-- log.unframe -/
theorem unframe_more (b : List UInt8) (a : Addr) (cap : Nat) (w : World) (ht : Tab w) (h : Rd w (.slice (some a) b.length cap) b) (hb : ¬ b.length < 16) (hcap : b.length ≤ cap) (hl : b.length ≤ 140737488355328) :
    Calls Tryd.prog 65 #[.slice (some a) b.length cap] w fun e w' => Below w.heap.size w w' ∧
      (unfB b = none → e = .returned (.tuple #[.int .u64 0, .slice none 0 0, .bool false])) ∧
      (∀ q r, unfB b = some (q, r) → ∃ v, e = .returned (.tuple #[.int .u64 q, v, .bool true]) ∧ Rd w v r) := by
  have HR := hide h
  have HT := hide ht
  clear h ht
  obtain ⟨n, hn⟩ : ∃ n, n = getN (b.take 4) := ⟨_, rfl⟩
  have hn4 := get4_lt b
  rw [← hn] at hn4
  have HN := hide hn
  clear hn
  have hnc4 : ¬ cap = 4 := by omega
  have hnc8 : ¬ cap = 8 := by omega
  have HG4 : Hid (∀ c, 4 ≤ c → Calls Tryd.prog 73 #[.slice (some a) 4 c] w fun e w' => e = .returned (.int .u64 n) ∧ w' = w) := fun c hc => by
    have := rd_cut (lo := 0) (hi := 4) (n := 4) (c := c) HR.out (by omega) (by omega) rfl hc
    rw [HN.out]
    exact get_any _ _ w (by simpa [Addr.add] using this) (by simp; omega)
  by_cases hbig : 60000 < n
  · have HU : Hid (unfB b = none) := by show _ = _; unfold unfB; rw [if_neg hb, ← HN.out, if_pos hbig]
    go_enter Tryd.func65, Tryd.ntmps65
    go_wp2_with (go_at_call 73; refine (HG4.out _ (by omega)).mono ?_; rintro e w' ⟨rfl, rfl⟩)
    go_ret3
    exact ⟨Below.refl _ _, fun _ => rfl, fun q r h => by rw [HU.out] at h; cases h⟩
  by_cases hmany : b.length - 16 < n
  · have HU : Hid (unfB b = none) := by show _ = _; unfold unfB; rw [if_neg hb, ← HN.out, if_neg hbig, if_pos hmany]
    have hwr : IntKind.u64.wrap ((b.length : Int) - 16) = (b.length : Int) - 16 := by rw [IntKind.wrap_u64]; omega
    go_enter Tryd.func65, Tryd.ntmps65
    go_wp2_with (go_at_call 73; refine (HG4.out _ (by omega)).mono ?_; rintro e w' ⟨rfl, rfl⟩)
    go_ret3
    exact ⟨Below.refl _ _, fun _ => rfl, fun q r h => by rw [HU.out] at h; cases h⟩
  have hwr : IntKind.u64.wrap ((b.length : Int) - 16) = (b.length : Int) - 16 := by rw [IntKind.wrap_u64]; omega
  obtain ⟨sm, hsm⟩ : ∃ sm, sm = sum32 ((b.take (16 + n)).drop 8) := ⟨_, rfl⟩
  have hsl := sum32_lt ((b.take (16 + n)).drop 8)
  rw [← hsm] at hsl
  obtain ⟨gs, hgs⟩ : ∃ gs, gs = getN ((b.take 8).drop 4) := ⟨_, rfl⟩
  have hgl := get48_lt b
  rw [← hgs] at hgl
  have hw2 : IntKind.u64.wrap (sm : Int) = (sm : Int) := by rw [IntKind.wrap_u64]; omega
  have HSUM : Hid (∀ W : World, (∃ k, W = w.drewN k) → ∀ m c, m = 8 + n → m ≤ c → Calls Tryd.prog 36 #[.slice (some (a.add 8)) m c] W fun e w' => e = .returned (.int .u32 sm) ∧ w' = W) := by
    rintro W ⟨k, rfl⟩ m c hm hc
    rw [hsm]
    exact sum_any _ _ _ HT.out (rd_cut (w := w.drewN k) (lo := 8) (hi := 16 + n) HR.out (by omega) (by omega) (by omega) hc) (by simp; omega)
  have HGET : Hid (∀ W : World, (∃ k, W = w.drewN k) → ∀ c, 4 ≤ c → Calls Tryd.prog 73 #[.slice (some (a.add 4)) 4 c] W fun e w' => e = .returned (.int .u64 gs) ∧ w' = W) := by
    rintro W ⟨k, rfl⟩ c hc
    rw [hgs]
    exact get_any _ _ _ (rd_cut (w := w.drewN k) (lo := 4) (hi := 8) HR.out (by omega) (by omega) rfl hc) (by simp; omega)
  obtain ⟨q, hq⟩ : ∃ q, q = getN ((b.take 16).drop 8) := ⟨_, rfl⟩
  have HQ8 : Hid (∀ W : World, (∃ k, W = w.drewN k) → ∀ c, 8 ≤ c → Calls Tryd.prog 73 #[.slice (some (a.add 8)) 8 c] W fun e w' => e = .returned (.int .u64 q) ∧ w' = W) := by
    rintro W ⟨k, rfl⟩ c hc
    rw [hq]
    exact get_any _ _ _ (rd_cut (w := w.drewN k) (lo := 8) (hi := 16) HR.out (by omega) (by omega) rfl hc) (by simp; omega)
  have HU : Hid (unfB b = if sm = gs then some (q, (b.take (16 + n)).drop 16) else none) := by
    show _ = _; unfold unfB; rw [if_neg hb, ← HN.out, if_neg hbig, if_neg hmany, hsm, hgs, hq]
  have HRR : Hid (∀ c, n ≤ c → Rd w (.slice (some (a.add 16)) n c) ((b.take (16 + n)).drop 16)) := fun c hc => rd_cut HR.out (by omega) (by omega) (by omega) hc
  have HRZ : Hid (cap = 16 → Rd w (.slice (some a) 0 0) ((b.take (16 + n)).drop 16)) := fun h => by
    have e : (b.take (16 + n)).drop 16 = [] := List.drop_eq_nil_of_le (by simp; omega)
    rw [e]
    exact ⟨some a, 0, rfl, Nat.le_refl _, fun h => (by cases h), fun x _ j u hu => by simp at hu⟩
  have HSM := hide hsm
  have HGS := hide hgs
  clear hsm hgs hq
  go_enter Tryd.func65, Tryd.ntmps65
  go_wp2_with (go_at_call 73; refine (HG4.out _ (by omega)).mono ?_; rintro e w' ⟨rfl, rfl⟩)
  go_quiet ((first
    | (go_at_call 36; exact Calls.quiet_of_same (HSUM.out _ ⟨_, rfl⟩ _ _ (by omega) (by omega)))
    | (go_at_call 73; exact Calls.quiet_of_same (HGET.out _ ⟨_, rfl⟩ _ (by omega)))))
  clear HSUM HGET
  by_cases heq : sm = gs
  · have hne : ((sm : Int) != (gs : Int)) = false := by simp [heq]
    have HEQ := hide heq
    clear heq
    rename World => w0
    obtain ⟨w2, hw2e⟩ : ∃ w2, w2 = w0.drewN nq := ⟨_, rfl⟩
    rw [← hw2e]
    have HQ2 : Hid (∀ k c, 8 ≤ c → Calls Tryd.prog 73 #[.slice (some (a.add 8)) 8 c] (w2.drewN k) fun e w' => e = .returned (.int .u64 q) ∧ w' = w2.drewN k) := fun k c hc =>
      HQ8.out _ ⟨nq + k, by rw [hw2e, World.drewN_drewN]⟩ c hc
    have HB2 : Hid (Below w0.heap.size w0 w2) := by show Below _ _ _; rw [hw2e]; exact below_drewN (Below.refl _ _) _
    clear hw2e HQ8
    by_cases hc16 : cap = 16
    all_goals
      go_wp2
      go_quiet ((go_at_call 73; exact Calls.quiet_of_same (HQ2.out _ _ (by omega))))
      go_wp2
      go_ret3
      refine ⟨below_drewN HB2.out _, fun h => (by rw [HU.out, if_pos HEQ.out] at h; cases h), fun q' r h => ?_⟩
      rw [HU.out, if_pos HEQ.out] at h
      simp only [Option.some.injEq, Prod.mk.injEq] at h
      obtain ⟨rfl, rfl⟩ := h
      refine ⟨_, rfl, ?_⟩
      first
        | (show Rd w0 (.slice (some a) (16 + n - 16) 0) _; rw [show 16 + n - 16 = 0 by omega]; exact HRZ.out hc16)
        | (show Rd w0 (.slice (some (a.add 16)) (16 + n - 16) (cap - 16)) _; rw [show 16 + n - 16 = n by omega]; exact HRR.out _ (by omega))
  · have hne : ((sm : Int) != (gs : Int)) = true := by simp; omega
    have HEQ := hide heq
    clear heq
    go_wp2
    go_ret3
    exact ⟨below_drewN (Below.refl _ _) _, fun _ => rfl, fun q r h => by rw [HU.out, if_neg HEQ.out] at h; cases h⟩

/-- log.unframe of any bytes -/
theorem unframe_any (b : List UInt8) (sl : Value) (w : World) (ht : Tab w) (h : Rd w sl b) (hl : b.length ≤ 140737488355328) :
    Calls Tryd.prog 65 #[sl] w fun e w' => Below w.heap.size w w' ∧
      (unfB b = none → e = .returned (.tuple #[.int .u64 0, .slice none 0 0, .bool false])) ∧
      (∀ q r, unfB b = some (q, r) → ∃ v, e = .returned (.tuple #[.int .u64 q, v, .bool true]) ∧ Rd w v r) := by
  by_cases hb : b.length < 16
  · refine (unframe_few b sl w h hb).mono ?_
    rintro e w' ⟨rfl, hbel⟩
    refine ⟨hbel, fun _ => rfl, fun q r hu => ?_⟩
    unfold unfB at hu
    rw [if_pos hb] at hu
    cases hu
  · have h' := h
    obtain ⟨ao, cap, rfl, hlc, hnil, hrd⟩ := h
    cases ao with
    | none => have := hnil rfl; omega
    | some a => exact unframe_more b a cap w ht h' hb hlc hl
end Go.Proofs.YtgobnnciijlpaaaDoor
