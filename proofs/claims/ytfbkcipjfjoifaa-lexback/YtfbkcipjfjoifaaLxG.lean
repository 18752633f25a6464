/- Package lex: the walks of readName, readTime, readNumber. -/
import Derived.Test.YtfbkcipjfjoifaaLxF
namespace Go.DsLx
/-- a word -/
structure Tk where
  kind : Int
  text : ByteArray
  n : Int
  at_ : Nat
def tk0 : Tk := ⟨0, ⟨#[]⟩, 0, 0⟩
def nameF (s : ByteArray) (k : Nat) : Tk × Bool := if 20 < endE inB s k - k then (tk0, false) else (⟨1, foldS (s.extract k (endE inB s k)), 0, k⟩, true)
def numV (s : ByteArray) (k : Nat) : Nat → Int
  | 0 => 0
  | i + 1 => numV s k i * 10 + (bAt s (k + i) - 48)
def numF (s : ByteArray) (k : Nat) : Tk × Bool :=
  if 9 < endE dgB s k - k ∨ (endE dgB s k < s.size ∧ inB (bAt s (endE dgB s k)) = true) then (tk0, false) else (⟨2, s.extract k (endE dgB s k), numV s k (endE dgB s k - k), k⟩, true)
def timeF (s : ByteArray) (k : Nat) : Tk × Bool :=
  if ¬ (DsCal.tmres (s.extract k (min (k + 5) s.size))).2 = 0 ∨ (min (k + 5) s.size < s.size ∧ inB (bAt s (min (k + 5) s.size)) = true) then (tk0, false) else (⟨3, s.extract k (min (k + 5) s.size), (DsCal.tmres (s.extract k (min (k + 5) s.size))).1, k⟩, true)
theorem runE_all {p : Int → Bool} {s : ByteArray} : ∀ (f k j : Nat), k ≤ j → j < runE p s f k → p (bAt s j) = true
  | 0, k, j, h1, h2 => by simp [runE] at h2; omega
  | f + 1, k, j, h1, h2 => by
    rw [runE] at h2
    split at h2
    · rename_i c
      by_cases e : j = k
      · subst e; exact c.2
      · exact runE_all f (k + 1) j (by omega) h2
    · omega
theorem numV_bd {s : ByteArray} {k : Nat} : ∀ i, i ≤ 9 → (∀ j, j < i → dgB (bAt s (k + j)) = true) → 0 ≤ numV s k i ∧ numV s k i < (10 ^ i : Nat)
  | 0, _, _ => by simp [numV]
  | i + 1, hi, h => by
    have := numV_bd (s := s) (k := k) i (by omega) (fun j hj => h j (by omega))
    have hd := h i (by omega)
    have h2 : 48 ≤ bAt s (k + i) ∧ bAt s (k + i) ≤ 57 := by
      unfold dgB clsF at hd
      simp only [decide_eq_true_eq] at hd
      split at hd
      · omega
      · split at hd
        · assumption
        · split at hd
          · omega
          · split at hd <;> omega
    unfold numV
    rw [Nat.pow_succ]
    omega
end Go.DsLx
namespace Go.Proofs.Ytfbkcipjfjoifaa
open Go.ChangeShapes Go.WideShapes Go.ChangeAt Go.RowKit Go.DsMem Go.DsLx
set_option linter.unusedVariables false
/-- what read's parts answer -/
def tkE (r : Tk × Bool) : Ending := .returned (.tuple #[.agg #[.int .i64 r.1.kind, .string r.1.text, .int .i64 r.1.n, .int .i64 r.1.at_], .bool r.2])
/-- the answer's cell, still empty -/
def Res0 (w : World) (p : Nat) : Prop := w.heap[p]? = some (.cells #[.int .i64 0, .string ⟨#[]⟩, .int .i64 0, .int .i64 0] 39 (0, 0))
theorem Res0.all {w : World} {p : Nat} (h : Res0 w p) : (w.cell? ⟨p, 0, none⟩ = some (.int .i64 0) ∧ w.cell? ⟨p, 1, none⟩ = some (.string ⟨#[]⟩) ∧ w.cell? ⟨p, 2, none⟩ = some (.int .i64 0) ∧ w.cell? ⟨p, 3, none⟩ = some (.int .i64 0)) ∧ w.frozen? ⟨p, 0, none⟩ = false ∧ w.frozen? ⟨p, 1, none⟩ = false ∧ w.frozen? ⟨p, 2, none⟩ = false ∧ w.frozen? ⟨p, 3, none⟩ = false :=
  ⟨⟨by rw [cell_of h]; rfl, by rw [cell_of h]; rfl, by rw [cell_of h]; rfl, by rw [cell_of h]; rfl⟩, frozen_of h, frozen_of h, frozen_of h, frozen_of h⟩
theorem Res0.below {w w' : World} {p : Nat} (h : Res0 w p) (hb : Below w.heap.size w w') : Res0 w' p := by unfold Res0; rw [hb.block p (block_lt h)]; exact h
theorem below_set4 {w w' : World} {p : Nat} (hb : Below w.heap.size w w') (hp : w.heap.size ≤ p) (a b c d : Value) : Below w.heap.size w ((((w'.setCell ⟨p, 0, none⟩ a).setCell ⟨p, 1, none⟩ b).setCell ⟨p, 2, none⟩ c).setCell ⟨p, 3, none⟩ d) :=
  (((hb.setCell hp _).setCell hp _).setCell hp _).setCell hp _
set_option maxHeartbeats 2000000 in
/-- lex.readName -/
theorem readName_any (s : ByteArray) (k : Nat) (w : World) (hs : s.size ≤ 100000) (hk : k ≤ s.size) : Calls Try.prog 35 #[.string s, .int .i64 k] w fun e w' => e = tkE (nameF s k) ∧ Below w.heap.size w w' := by
  obtain ⟨r, hr⟩ : ∃ r, endE DsLx.inB s k = r := ⟨_, rfl⟩
  have hbd := endE_bd DsLx.inB s k hk
  have HN : Hid (nameF s k = if 20 < r - k then (tk0, false) else (⟨1, foldS (s.extract k r), 0, k⟩, true)) := by refine hide ?_; unfold nameF; rw [hr]
  rw [hr] at hbd
  have HR := hide hr
  clear hr
  obtain ⟨Z, hZ⟩ : ∃ Z, nameF s k = Z := ⟨_, rfl⟩
  rw [hZ] at HN ⊢
  clear hZ
  go_enter Try.func35, Try.ntmps35
  go_wp2
  obtain ⟨w1, hw1⟩ : ∃ w1, w1 = w.alloc (.cells #[.int .i64 0, .string ⟨#[]⟩, .int .i64 0, .int .i64 0] 39) := ⟨_, rfl⟩
  have HW1 : Hid (Below w.heap.size w w1) := by refine hide ?_; rw [hw1]; exact (Below.refl _ _).alloc (Nat.le_refl _) _
  have hX : w1.heap[w.heap.size]? = some (.cells #[.int .i64 0, .string ⟨#[]⟩, .int .i64 0, .int .i64 0] 39 (0, 0)) := by rw [hw1]; exact heap_alloc_new w _
  have HX := hide hX
  rw [← hw1]
  clear hw1 hX
  go_loopw [6] (fun tt wr => ∃ j : Nat, k ≤ j ∧ j ≤ s.size ∧ tt = .int .i64 j ∧ endE DsLx.inB s j = r ∧ wr = w1) (fun tt _ => s.size - (intOf tt).toNat)
  case atStart => exact ⟨k, Nat.le_refl _, hk, rfl, HR.out, rfl⟩
  case round =>
    obtain ⟨j, hkj, hj, rfl, hjr, rfl⟩ := hrel
    have HJ := hide hjr
    clear hjr
    by_cases hgo : j < s.size ∧ DsLx.inB (bAt s j) = true
    · obtain ⟨hlt, hin⟩ := hgo
      have hb := bAt_bd s j
      have HE := hide (endE_step hlt hin)
      have HC : Hid (∀ w : World, Calls Try.prog 44 #[.int .u8 (s[j].toNat : Int)] w fun e w' => e = .returned (.bool true) ∧ w' = w) := fun w => by
        rw [bAt_eq s j hlt, ← hin]; exact inName_any _ w hb.1 hb.2
      clear hin hb
      go_wp2_with (go_at_call 44; refine (HC.out _).mono ?_; rintro e w' ⟨rfl, rfl⟩)
      go_roundw
      case rel => exact ⟨j + 1, by omega, by omega, by go_num, by rw [← HE.out]; exact HJ.out, trivial⟩
      case measure => simp [intOf]; omega
    · have hjr : j = r := by rw [← HJ.out, endE_stop hgo]
      subst hjr
      have HRS : Hid (Res0 wr w.heap.size) := HX.out
      have hps : w.heap.size < wr.heap.size := block_lt HX.out
      obtain ⟨⟨q0, q1, q2, q3⟩, f0, f1, f2, f3⟩ := HRS.out.all
      have HC : Hid (∀ (hlt : j < s.size) (w : World), Calls Try.prog 44 #[.int .u8 (s[j].toNat : Int)] w fun e w' => e = .returned (.bool false) ∧ w' = w) := fun hlt w => by
        have hb := bAt_bd s j
        have hin : DsLx.inB (bAt s j) = false := by
          cases h : DsLx.inB (bAt s j) with
          | false => rfl
          | true => exact absurd ⟨hlt, h⟩ hgo
        rw [bAt_eq s j hlt, ← hin]; exact inName_any _ w hb.1 hb.2
      clear hgo
      by_cases h20 : 20 < j - k
      · have HZ : Hid (Z = (tk0, false)) := by refine hide ?_; rw [HN.out, if_pos h20]
        have h20' : (20 : Int) < (j : Int) - k := by omega
        by_cases hlt : j < s.size
        · go_wp2_with (go_at_call 44; refine (HC.out hlt _).mono ?_; rintro e w' ⟨rfl, rfl⟩)
          refine bodyPost_ret (v := .tuple #[.agg #[.int .i64 0, .string ⟨#[]⟩, .int .i64 0, .int .i64 0], .bool false]) (by simp [results, Try.results35, go_sem, q0, q1, q2, q3]) rfl ⟨by rw [HZ.out]; rfl, below_set4 HW1.out (Nat.le_refl _) _ _ _ _⟩
        · go_wp2
          refine bodyPost_ret (v := .tuple #[.agg #[.int .i64 0, .string ⟨#[]⟩, .int .i64 0, .int .i64 0], .bool false]) (by simp [results, Try.results35, go_sem, q0, q1, q2, q3]) rfl ⟨by rw [HZ.out]; rfl, below_set4 HW1.out (Nat.le_refl _) _ _ _ _⟩
      · have HZ : Hid (Z = (⟨1, foldS (s.extract k j), 0, k⟩, true)) := by refine hide ?_; rw [HN.out, if_neg h20]
        have h20' : (j : Int) - k ≤ 20 := by omega
        have HFO : Hid (∀ w : World, Calls Try.prog 15 #[.string (s.extract k j)] w fun e w' => e = .returned (.string (foldS (s.extract k j))) ∧ Below w.heap.size w w') := fun w => fold_any _ w (by simp; omega)
        clear q0 q1 q2 q3 f0 f1 f2 f3
        by_cases hlt : j < s.size
        · go_wp2_with (first | (go_at_call 44; refine (HC.out hlt _).mono ?_; rintro e w' ⟨rfl, rfl⟩) | (go_at_call 15; refine (HFO.out _).mono ?_; rintro e w2 ⟨rfl, hb2⟩; have HB2 := hide hb2; obtain ⟨⟨q0, q1, q2, q3⟩, f0, f1, f2, f3⟩ := (HRS.out.below hb2).all; clear hb2))
          refine bodyPost_ret (v := .tuple #[.agg #[.int .i64 1, .string (foldS (s.extract k j)), .int .i64 0, .int .i64 k], .bool true]) (by simp [results, Try.results35, go_sem, q0, q1, q2, q3]) rfl ⟨by rw [HZ.out]; rfl, below_set4 (HW1.out.trans (HB2.out.mono HW1.out.size)) (Nat.le_refl _) _ _ _ _⟩
        · go_wp2_with (go_at_call 15; refine (HFO.out _).mono ?_; rintro e w2 ⟨rfl, hb2⟩; have HB2 := hide hb2; obtain ⟨⟨q0, q1, q2, q3⟩, f0, f1, f2, f3⟩ := (HRS.out.below hb2).all; clear hb2)
          refine bodyPost_ret (v := .tuple #[.agg #[.int .i64 1, .string (foldS (s.extract k j)), .int .i64 0, .int .i64 k], .bool true]) (by simp [results, Try.results35, go_sem, q0, q1, q2, q3]) rfl ⟨by rw [HZ.out]; rfl, below_set4 (HW1.out.trans (HB2.out.mono HW1.out.size)) (Nat.le_refl _) _ _ _ _⟩
end Go.Proofs.Ytfbkcipjfjoifaa
