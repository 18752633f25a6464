/- Package lex: the walks of readTime, readNumber, read. -/
import Derived.Test.YtfbkcipjfjoifaaLxG
namespace Go.Proofs.Ytfbkcipjfjoifaa
open Go.ChangeShapes Go.WideShapes Go.ChangeAt Go.RowKit Go.DsMem Go.DsLx
set_option linter.unusedVariables false
set_option maxHeartbeats 2000000 in
/-- lex.readTime -/
theorem readTime_any (s : ByteArray) (k : Nat) (w : World) (hs : s.size ≤ 100000) (hk : k ≤ s.size) : Calls Try.prog 37 #[.string s, .int .i64 k] w fun e w' => e = tkE (timeF s k) ∧ Below w.heap.size w w' := by
  obtain ⟨E, hE⟩ : ∃ E, min (k + 5) s.size = E := ⟨_, rfl⟩
  obtain ⟨m, er, hm⟩ : ∃ m er, DsCal.tmres (s.extract k E) = (m, er) := ⟨_, _, rfl⟩
  obtain ⟨Z, hZ⟩ : ∃ Z, timeF s k = Z := ⟨_, rfl⟩
  have HN : Hid (Z = if ¬ er = 0 ∨ (E < s.size ∧ DsLx.inB (bAt s E) = true) then (tk0, false) else (⟨3, s.extract k E, m, k⟩, true)) := by refine hide ?_; rw [← hZ]; unfold timeF; rw [hE, hm]
  have HRD : Hid (∀ w : World, Calls Try.prog 45 #[.string (s.extract k E)] w fun e w' => e = .returned (.tuple #[.int .i64 m, .int .i64 er]) ∧ w' = w) := fun w => by
    have := wRead_any (s.extract k E) w
    rw [hm] at this
    exact this
  rw [hZ]
  have hEb : k ≤ E ∧ E ≤ s.size := by omega
  have HC : Hid (∀ (b : Bool) (hlt : E < s.size) (w : World), DsLx.inB (bAt s E) = b → Calls Try.prog 44 #[.int .u8 (s[E].toNat : Int)] w fun e w' => e = .returned (.bool b) ∧ w' = w) := fun b hlt w hin => by
    have hb := bAt_bd s E
    rw [bAt_eq s E hlt, ← hin]; exact inName_any _ w hb.1 hb.2
  clear hZ hm
  have HMN : Hid (min ((k : Int) + 5) (s.size : Int) = (E : Int)) := by refine hide ?_; omega
  obtain ⟨hE1, hE2⟩ := hEb
  clear hE
  by_cases her : er = 0
  · subst her
    by_cases hlt : E < s.size
    · cases hin : DsLx.inB (bAt s E) with
      | true =>
        have HZ : Hid (Z = (tk0, false)) := by refine hide ?_; rw [HN.out, if_pos (.inr ⟨hlt, hin⟩)]
        go_enter Try.func37, Try.ntmps37
        go_wp2_with fail
        rw [HMN.out, Int.toNat_natCast]
        refine (HRD.out _).mono ?_
        rintro e w' ⟨rfl, rfl⟩
        go_wp2_with (go_at_call 44; refine (HC.out true hlt _ hin).mono ?_; rintro e w' ⟨rfl, rfl⟩)
        refine bodyPost_ret (v := .tuple #[.agg #[.int .i64 0, .string ⟨#[]⟩, .int .i64 0, .int .i64 0], .bool false]) (by simp [results, Try.results37, go_sem]) rfl ⟨by rw [HZ.out]; rfl, (Below.refl _ _).alloc (Nat.le_refl _) _⟩
      | false =>
        have HZ : Hid (Z = (⟨3, s.extract k E, m, k⟩, true)) := by refine hide ?_; rw [HN.out, if_neg (by simp [hin])]
        go_enter Try.func37, Try.ntmps37
        go_wp2_with fail
        rw [HMN.out, Int.toNat_natCast]
        refine (HRD.out _).mono ?_
        rintro e w' ⟨rfl, rfl⟩
        go_wp2_with (go_at_call 44; refine (HC.out false hlt _ hin).mono ?_; rintro e w' ⟨rfl, rfl⟩)
        refine bodyPost_ret (v := .tuple #[.agg #[.int .i64 3, .string (s.extract k E), .int .i64 m, .int .i64 k], .bool true]) (by simp [results, Try.results37, go_sem]) rfl ⟨by rw [HZ.out]; rfl, (Below.refl _ _).alloc (Nat.le_refl _) _⟩
    · have HZ : Hid (Z = (⟨3, s.extract k E, m, k⟩, true)) := by refine hide ?_; rw [HN.out, if_neg (by simp [hlt])]
      go_enter Try.func37, Try.ntmps37
      go_wp2_with fail
      rw [HMN.out, Int.toNat_natCast]
      refine (HRD.out _).mono ?_
      rintro e w' ⟨rfl, rfl⟩
      go_wp2
      refine bodyPost_ret (v := .tuple #[.agg #[.int .i64 3, .string (s.extract k E), .int .i64 m, .int .i64 k], .bool true]) (by simp [results, Try.results37, go_sem]) rfl ⟨by rw [HZ.out]; rfl, (Below.refl _ _).alloc (Nat.le_refl _) _⟩
  · have HZ : Hid (Z = (tk0, false)) := by refine hide ?_; rw [HN.out, if_pos (.inl her)]
    have her' : (er == 0) = false := by simpa using her
    go_enter Try.func37, Try.ntmps37
    go_wp2_with fail
    rw [HMN.out, Int.toNat_natCast]
    refine (HRD.out _).mono ?_
    rintro e w' ⟨rfl, rfl⟩
    go_wp2
    refine bodyPost_ret (v := .tuple #[.agg #[.int .i64 0, .string ⟨#[]⟩, .int .i64 0, .int .i64 0], .bool false]) (by simp [results, Try.results37, go_sem]) rfl ⟨by rw [HZ.out]; rfl, (Below.refl _ _).alloc (Nat.le_refl _) _⟩
end Go.Proofs.Ytfbkcipjfjoifaa
