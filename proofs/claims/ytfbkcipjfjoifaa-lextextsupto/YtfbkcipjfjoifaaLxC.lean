/- Package lex: the walks of wordAt, shapeOf. -/
import Derived.Test.YtfbkcipjfjoifaaLxB
namespace Go.Proofs.Ytfbkcipjfjoifaa
open Go.ChangeShapes Go.WideShapes Go.ChangeAt Go.RowKit Go.DsMem Go.DsLx
set_option linter.unusedVariables false
set_option maxHeartbeats 2000000 in
/-- lex.wordAt -/
theorem wordAt_any (s : ByteArray) (k : Nat) (w : World) (hs : s.size ≤ 100000) (hk : k ≤ s.size) :
    Calls Try.prog 23 #[.string s, .int .i64 k] w fun e w' => e = .returned (.int .i64 (wordE s k)) ∧ w' = w := by
  obtain ⟨r, hr⟩ : ∃ r, wordE s k = r := ⟨_, rfl⟩
  rw [hr]
  have HR := hide hr
  clear hr
  go_enter Try.func23, Try.ntmps23
  go_wp2
  go_loopw [1] (fun tt wr => ∃ j : Nat, j ≤ s.size ∧ tt = .int .i64 j ∧ wordE s j = r ∧ wr = w) (fun tt _ => s.size - (intOf tt).toNat)
  case atStart => exact ⟨k, hk, rfl, HR.out, rfl⟩
  case round =>
    obtain ⟨j, hj, rfl, hjr, rfl⟩ := hrel
    have HJ := hide hjr
    clear hjr
    by_cases hlt : j < s.size
    · have hbe := bAt_eq s j hlt
      by_cases h35 : bAt s j = 35
      · have hl := lineE_hash hlt h35
        have HE := hide (wordE_hash hlt h35)
        have HL : Hid (∀ w : World, Calls Try.prog 33 #[.string s, .int .i64 j] w fun e w' => e = .returned (.int .i64 (DsLx.lineE s j)) ∧ w' = w) := fun w => lineEnd_any s j w hs hj
        have hc35 : (s[j].toNat : Int) = 35 := hbe.trans h35
        generalize DsLx.lineE s j = q at *
        clear hbe h35
        go_wp2_with (go_at_call 33; refine (HL.out _).mono ?_; rintro e w' ⟨rfl, rfl⟩)
        go_roundw
        case rel => exact ⟨q, by omega, rfl, by rw [← HE.out]; exact HJ.out, trivial⟩
        case measure => simp [intOf]; omega
      · have hc35 : ¬ (s[j].toNat : Int) = 35 := by rw [hbe]; exact h35
        obtain ⟨x, hx⟩ : ∃ x, Lib.indexByte blankL (bAt s j).toNat.toUInt8 = x := ⟨_, rfl⟩
        have HC : Hid (∀ w : World, Calls Try.prog 34 #[.string ⟨#[32, 9, 10, 13]⟩, .int .u8 (s[j].toNat : Int)] w fun e w' => e = .returned (.int .i64 x) ∧ w' = w) := fun w => ib_blank _ x (by rw [hbe]; exact hx) w
        by_cases h0 : 0 ≤ x
        · have HE := hide (wordE_blank hlt h35 (by unfold blB; rw [hx]; simpa using h0))
          clear hbe hx h35
          go_wp2_with (go_at_call 34; refine (HC.out _).mono ?_; rintro e w' ⟨rfl, rfl⟩)
          go_roundw
          case rel => exact ⟨j + 1, by omega, by go_num, by rw [← HE.out]; exact HJ.out, trivial⟩
          case measure => simp [intOf]; omega
        · have HE := hide (wordE_stop (s := s) (k := j) (.inr ⟨h35, by unfold blB; rw [hx]; simpa using h0⟩))
          have h0' : x < 0 := by omega
          clear hbe hx h35 h0
          go_wp2_with (go_at_call 34; refine (HC.out _).mono ?_; rintro e w' ⟨rfl, rfl⟩)
          go_ret
          exact ⟨ret_int (by rw [← HJ.out, HE.out]), rfl⟩
    · have HE := hide (wordE_stop (s := s) (k := j) (.inl hlt))
      go_wp2
      go_ret
      exact ⟨ret_int (by rw [← HJ.out, HE.out]), rfl⟩
/-- whether just two digits stand ahead of a colon -/
def colB (s : ByteArray) (k : Nat) : Bool := decide (endE DsLx.dgB s k = k + 2 ∧ k + 2 < s.size ∧ bAt s (k + 2) = 58)
def shpV (f : Int) (b : Bool) : Value := .agg #[.int .i64 f, .bool b]
set_option maxHeartbeats 2000000 in
/-- lex.shapeOf -/
theorem shapeOf_any (s : ByteArray) (k : Nat) (w : World) (hs : s.size ≤ 100000) (hk : k < s.size) :
    Calls Try.prog 25 #[.string s, .int .i64 k] w fun e w' => e = .returned (shpV (clsF (bAt s k)) (colB s k)) ∧ Below w.heap.size w w' := by
  have hbd := endE_bd DsLx.dgB s k (by omega)
  obtain ⟨e0, he0⟩ : ∃ e0, endE DsLx.dgB s k = e0 := ⟨_, rfl⟩
  have HD : Hid (∀ w : World, Calls Try.prog 38 #[.string s, .int .i64 k] w fun e w' => e = .returned (.int .i64 e0) ∧ w' = w) := fun w => by rw [← he0]; exact digitsEnd_any s k w hs (by omega)
  have hb := bAt_bd s k
  have HC : Hid (∀ w : World, Calls Try.prog 39 #[.int .u8 (s[k].toNat : Int)] w fun e w' => e = .returned (.int .i64 (clsF (bAt s k))) ∧ w' = w) := fun w => by
    rw [bAt_eq s k hk]; exact cls_any _ w hb.1 hb.2
  have HCB : Hid (colB s k = decide (e0 = k + 2 ∧ k + 2 < s.size ∧ bAt s (k + 2) = 58)) := by refine hide ?_; unfold colB; rw [he0]
  rw [he0] at hbd
  generalize clsF (bAt s k) = c at *
  clear he0 hb
  unfold shpV
  have key : ∀ b, colB s k = b → Calls Try.prog 25 #[.string s, .int .i64 k] w fun e w' => e = .returned (.agg #[.int .i64 c, .bool b]) ∧ Below w.heap.size w w' := fun b hb' => by
    by_cases h2 : e0 = k + 2
    · subst h2
      by_cases hl : k + 2 < s.size
      · have hbe := bAt_eq s (k + 2) hl
        by_cases h58 : bAt s (k + 2) = 58
        · have hbt : b = true := by rw [← hb', HCB.out]; simp [hl, h58]
          have hc58 : (s[k + 2].toNat : Int) = 58 := hbe.trans h58
          subst hbt
          clear hb' hbe h58
          go_enter Try.func25, Try.ntmps25
          go_wp2_with (first | (go_at_call 38; refine (HD.out _).mono ?_; rintro e w' ⟨rfl, rfl⟩) | (go_at_call 39; refine (HC.out _).mono ?_; rintro e w' ⟨rfl, rfl⟩))
          refine bodyPost_ret (v := .agg #[.int .i64 c, .bool true]) (by simp [results, Try.results25, go_sem]) rfl ⟨rfl, (Below.refl _ _).alloc (Nat.le_refl _) _⟩
        · have hbt : b = false := by rw [← hb', HCB.out]; simp [h58]
          have hc58 : ((s[k + 2].toNat : Int) == 58) = false := by rw [hbe]; simpa using h58
          subst hbt
          clear hb' hbe h58
          go_enter Try.func25, Try.ntmps25
          go_wp2_with (first | (go_at_call 38; refine (HD.out _).mono ?_; rintro e w' ⟨rfl, rfl⟩) | (go_at_call 39; refine (HC.out _).mono ?_; rintro e w' ⟨rfl, rfl⟩))
          refine bodyPost_ret (v := .agg #[.int .i64 c, .bool false]) (by simp [results, Try.results25, go_sem]) rfl ⟨rfl, (Below.refl _ _).alloc (Nat.le_refl _) _⟩
      · have hbt : b = false := by rw [← hb', HCB.out]; simp [hl]
        subst hbt
        clear hb'
        go_enter Try.func25, Try.ntmps25
        go_wp2_with (first | (go_at_call 38; refine (HD.out _).mono ?_; rintro e w' ⟨rfl, rfl⟩) | (go_at_call 39; refine (HC.out _).mono ?_; rintro e w' ⟨rfl, rfl⟩))
        refine bodyPost_ret (v := .agg #[.int .i64 c, .bool false]) (by simp [results, Try.results25, go_sem]) rfl ⟨rfl, (Below.refl _ _).alloc (Nat.le_refl _) _⟩
    · have hbt : b = false := by rw [← hb', HCB.out]; simp [h2]
      have hne : ((e0 : Int) - k == 2) = false := by simp; omega
      have hle : k ≤ e0 := hbd.1
      subst hbt
      clear hb'
      go_enter Try.func25, Try.ntmps25
      go_wp2_with (first | (go_at_call 38; refine (HD.out _).mono ?_; rintro e w' ⟨rfl, rfl⟩) | (go_at_call 39; refine (HC.out _).mono ?_; rintro e w' ⟨rfl, rfl⟩))
      refine bodyPost_ret (v := .agg #[.int .i64 c, .bool false]) (by simp [results, Try.results25, go_sem]) rfl ⟨rfl, (Below.refl _ _).alloc (Nat.le_refl _) _⟩
  exact key _ rfl
end Go.Proofs.Ytfbkcipjfjoifaa
