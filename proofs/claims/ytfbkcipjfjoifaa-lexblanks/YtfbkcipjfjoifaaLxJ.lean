/- Package lex: the walk of read. -/
import Derived.Test.YtfbkcipjfjoifaaLxI
namespace Go.DsLx
def readF (s : ByteArray) (k : Nat) (kd : Int) : Tk × Bool :=
  if kd = 1 then nameF s k else if kd = 2 then numF s k else if kd = 3 then timeF s k else if kd = 4 then (⟨4, s.extract k (k + 1), 0, k⟩, true) else (tk0, false)
end Go.DsLx
namespace Go.Proofs.Ytfbkcipjfjoifaa
open Go.ChangeShapes Go.WideShapes Go.ChangeAt Go.RowKit Go.DsMem Go.DsLx
set_option linter.unusedVariables false
set_option maxHeartbeats 2000000 in
/-- lex.read -/
theorem read_any (s : ByteArray) (k : Nat) (kd : Int) (w : World) (hs : s.size ≤ 100000) (hk : k < s.size) (h0 : 0 ≤ kd) (h4 : kd ≤ 4) :
    Calls Try.prog 24 #[.string s, .int .i64 k, .int .i64 kd] w fun e w' => e = tkE (readF s k kd) ∧ Below w.heap.size w w' := by
  obtain ⟨Z, hZ⟩ : ∃ Z, readF s k kd = Z := ⟨_, rfl⟩
  rw [hZ]
  have HZ := hide hZ
  clear hZ
  have hc : kd = 1 ∨ kd = 2 ∨ kd = 3 ∨ kd = 4 ∨ kd = 0 := by omega
  have HRS := hide (show Res0 (w.alloc (.cells #[.int .i64 0, .string ⟨#[]⟩, .int .i64 0, .int .i64 0] 39)) w.heap.size from heap_alloc_new w _)
  have HW1 : Hid (Below w.heap.size w (w.alloc (.cells #[.int .i64 0, .string ⟨#[]⟩, .int .i64 0, .int .i64 0] 39))) := (Below.refl _ _).alloc (Nat.le_refl _) _
  rcases hc with rfl | rfl | rfl | rfl | rfl
  · have HZ2 : Hid (nameF s k = Z) := HZ.out
    go_enter Try.func24, Try.ntmps24
    go_wp2_with fail
    refine (readName_any s k _ hs (by omega)).mono ?_
    rw [HZ2.out]
    unfold tkE
    rintro e w2 ⟨rfl, hb2⟩
    obtain ⟨⟨q0, q1, q2, q3⟩, f0, f1, f2, f3⟩ := (HRS.out.below hb2).all
    have HB2 := hide hb2
    clear hb2
    go_wp2
    refine bodyPost_ret (v := .tuple #[.agg #[.int .i64 Z.1.kind, .string Z.1.text, .int .i64 Z.1.n, .int .i64 Z.1.at_], .bool Z.2]) (by simp [results, Try.results24, go_sem, q0, q1, q2, q3]) rfl ⟨rfl, below_set4 (HW1.out.trans (HB2.out.mono HW1.out.size)) (Nat.le_refl _) _ _ _ _⟩
  · have HZ2 : Hid (numF s k = Z) := HZ.out
    go_enter Try.func24, Try.ntmps24
    go_wp2_with fail
    refine (readNumber_any s k _ hs (by omega)).mono ?_
    rw [HZ2.out]
    unfold tkE
    rintro e w2 ⟨rfl, hb2⟩
    obtain ⟨⟨q0, q1, q2, q3⟩, f0, f1, f2, f3⟩ := (HRS.out.below hb2).all
    have HB2 := hide hb2
    clear hb2
    go_wp2
    refine bodyPost_ret (v := .tuple #[.agg #[.int .i64 Z.1.kind, .string Z.1.text, .int .i64 Z.1.n, .int .i64 Z.1.at_], .bool Z.2]) (by simp [results, Try.results24, go_sem, q0, q1, q2, q3]) rfl ⟨rfl, below_set4 (HW1.out.trans (HB2.out.mono HW1.out.size)) (Nat.le_refl _) _ _ _ _⟩
  · have HZ2 : Hid (timeF s k = Z) := HZ.out
    go_enter Try.func24, Try.ntmps24
    go_wp2_with fail
    refine (readTime_any s k _ hs (by omega)).mono ?_
    rw [HZ2.out]
    unfold tkE
    rintro e w2 ⟨rfl, hb2⟩
    obtain ⟨⟨q0, q1, q2, q3⟩, f0, f1, f2, f3⟩ := (HRS.out.below hb2).all
    have HB2 := hide hb2
    clear hb2
    go_wp2
    refine bodyPost_ret (v := .tuple #[.agg #[.int .i64 Z.1.kind, .string Z.1.text, .int .i64 Z.1.n, .int .i64 Z.1.at_], .bool Z.2]) (by simp [results, Try.results24, go_sem, q0, q1, q2, q3]) rfl ⟨rfl, below_set4 (HW1.out.trans (HB2.out.mono HW1.out.size)) (Nat.le_refl _) _ _ _ _⟩
  · have HZ2 : Hid (Z = (⟨4, s.extract k (k + 1), 0, k⟩, true)) := HZ.out.symm
    go_enter Try.func24, Try.ntmps24
    go_wp2
    refine bodyPost_ret (v := .tuple #[.agg #[.int .i64 4, .string (s.extract k (k + 1)), .int .i64 0, .int .i64 k], .bool true]) (by simp [results, Try.results24, go_sem]) rfl ⟨by rw [HZ2.out]; rfl, (Below.refl _ _).alloc (Nat.le_refl _) _⟩
  · have HZ2 : Hid (Z = (tk0, false)) := HZ.out.symm
    go_enter Try.func24, Try.ntmps24
    go_wp2
    refine bodyPost_ret (v := .tuple #[.agg #[.int .i64 0, .string ⟨#[]⟩, .int .i64 0, .int .i64 0], .bool false]) (by simp [results, Try.results24, go_sem]) rfl ⟨by rw [HZ2.out]; rfl, (Below.refl _ _).alloc (Nat.le_refl _) _⟩
end Go.Proofs.Ytfbkcipjfjoifaa
