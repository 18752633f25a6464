/- The walk of dayshiftref04.Same: two lists of records. -/
import Derived.Test.YtgobnnciijlpaaaDoorLrD
import Derived.Test.YtgobnnciijlpaaaDoorLgF
import Derived.Test.YtgobnnciijlpaaaDoorBy
namespace Go.Proofs.YtgobnnciijlpaaaDoor
open Go.ChangeShapes Go.WideShapes Go.ChangeAt Go.RowKit Go.DsMem Go.DsDk Go.DsLg
set_option linter.unusedVariables false

/-- the slice v reads as these records -/
def RdLs (w : World) (v : Value) (recs : List (List UInt8)) : Prop :=
  ∃ ao cap, v = .slice ao recs.length cap ∧ ∀ (i : Nat) (r : List UInt8), recs[i]? = some r → ∃ a xo xc, ao = some a ∧ w.cell? (a.add i) = some (.slice xo r.length xc) ∧ Rd w (.slice xo r.length xc) r
theorem RdLs.nil (w : World) : RdLs w (.slice none 0 0) [] := ⟨none, 0, rfl, fun i r h => by simp at h⟩
theorem RdLs.mono {w w' : World} {v : Value} {recs : List (List UInt8)} (h : RdLs w v recs) (hc : ∀ a x, w.cell? a = some x → w'.cell? a = some x) : RdLs w' v recs := by
  obtain ⟨ao, cap, hv, he⟩ := h
  refine ⟨ao, cap, hv, fun i r hr => ?_⟩
  obtain ⟨a, xo, xc, h1, h2, h3⟩ := he i r hr
  exact ⟨a, xo, xc, h1, hc _ _ h2, h3.mono hc⟩
theorem RdLs.below {w w' : World} {v : Value} {recs : List (List UInt8)} (h : RdLs w v recs) (hb : Below w.heap.size w w') : RdLs w' v recs := h.mono fun _ _ hc => Below.keeps hb (Nat.le_refl _) hc
theorem rdls_in {B : Nat} {W w : World} {v : Value} {recs : List (List UInt8)} (h : RdLs W v recs) (hb : Below B W w) (hB : W.heap.size ≤ B) : RdLs w v recs := h.mono fun _ _ hc => Below.keeps hb hB hc
theorem RdL.rds {B E : Nat} {w : World} {v : Value} {recs : List (List UInt8)} (h : RdL B E w v recs) : RdLs w v recs := by
  obtain ⟨ao, cap, hv, he⟩ := h
  refine ⟨ao, cap, hv, fun i r hr => ?_⟩
  obtain ⟨a, xo, xc, h1, _, _, _, h2, h3, _⟩ := he i r hr
  exact ⟨a, xo, xc, h1, h2, Rd.own h3⟩
theorem OwnL.rds {B : Nat} {w : World} {v : Value} {vals : List Value} {recs : List (List UInt8)} (h : OwnL B w v vals recs) : RdLs w v recs := h.rd.rds
/-- the first records of some -/
theorem RdLs.take {w : World} {ao : Option Addr} {n c m d : Nat} {recs : List (List UInt8)} (h : RdLs w (.slice ao n c) recs) (hm : m ≤ recs.length) : RdLs w (.slice ao m d) (recs.take m) := by
  obtain ⟨ao', cap, hv, he⟩ := h
  simp only [Value.slice.injEq] at hv
  obtain ⟨rfl, _, _⟩ := hv
  refine ⟨ao, d, by rw [List.length_take, Nat.min_eq_left hm], fun i r hr => ?_⟩
  rw [List.getElem?_take] at hr
  split at hr
  · exact he i r hr
  · cases hr

theorem take_next {α : Type} {A B : List α} {k : Nat} (h : A.take k = B.take k) (ha : k < A.length) (hb : k < B.length) (he : A[k] = B[k]) : A.take (k + 1) = B.take (k + 1) := by
  rw [List.take_succ_eq_append_getElem ha, List.take_succ_eq_append_getElem hb, h, he]

set_option maxHeartbeats 2000000 in
/-- dayshiftref04.Same -/
theorem rsame_any (A B : List (List UInt8)) (va vb : Value) (w : World) (hA : RdLs w va A) (hB : RdLs w vb B) (la : A.length ≤ 140737488355328) (lb : B.length ≤ 140737488355328) :
    Calls Tryd.prog 27 #[va, vb] w fun e w' => e = .returned (.bool (decide (A = B))) ∧ Below w.heap.size w w' := by
  have HA := hide hA
  have HB := hide hB
  obtain ⟨ao, ac, rfl, _⟩ := hA
  obtain ⟨bo, bc, rfl, _⟩ := hB
  by_cases hl : A.length = B.length
  · have hlb : ((A.length : Int) != (B.length : Int)) = false := by simp [hl]
    go_enter Tryd.func27, Tryd.ntmps27
    go_wp2
    go_loopw [5] (fun i wr => ∃ k : Nat, k ≤ A.length ∧ i = .int .i64 k ∧ A.take k = B.take k ∧ Below w.heap.size w wr) (fun i _ => A.length - (intOf i).toNat)
    case atStart => exact ⟨0, Nat.zero_le _, rfl, rfl, Below.refl _ _⟩
    case round =>
      obtain ⟨k, hk, rfl, ht, hb⟩ := hrel
      have HT := hide ht
      have HBL := hide hb
      clear ht hb
      by_cases hlt : k < A.length
      · obtain ⟨_, _, e1, f1⟩ := (rdls_in HA.out HBL.out (Nat.le_refl _))
        obtain ⟨a, xo, xc, rfl, c1, r1⟩ := f1 k A[k] (List.getElem?_eq_getElem hlt)
        simp only [Value.slice.injEq] at e1
        obtain ⟨rfl, _, _⟩ := e1
        obtain ⟨_, _, e2, f2⟩ := (rdls_in HB.out HBL.out (Nat.le_refl _))
        obtain ⟨b, yo, yc, rfl, c2, r2⟩ := f2 k B[k] (List.getElem?_eq_getElem (by omega))
        simp only [Value.slice.injEq] at e2
        obtain ⟨rfl, _, _⟩ := e2
        clear f1 f2
        have hne := grow_ne wr
        have d1 := fun X : Grow wr => Below.keeps X.2 (Nat.le_refl _) c1
        have d2 := fun X : Grow wr => Below.keeps X.2 (Nat.le_refl _) c2
        have s1 := fun X : Grow wr => run_conv_rd (P := Tryd.prog) Tryd.underlying28 Tryd.underlying5 Tryd.underlying9 (r1.below X.2)
        have s2 := fun X : Grow wr => run_conv_rd (P := Tryd.prog) Tryd.underlying28 Tryd.underlying5 Tryd.underlying9 (r2.below X.2)
        have HLT := hide (show k < B.length by omega)
        clear c1 c2 r1 r2
        by_cases he : A[k] = B[k]
        · have HE := hide he
          rw [he] at s1 d1
          clear he
          generalize bstr B[k] = t at s1 s2
          go_wp2
          refine wp_region_grow (by kernel_rfl) (by kernel_rfl) ?_
          repeat (go_big_quiet_step (fail))
          refine wpQuiet_nil ?_
          intro _ hw'
          obtain ⟨X, rfl⟩ := hw'
          have HX := hide (HBL.out.trans (X.2.mono HBL.out.size))
          clear d1 d2 s1 s2 hne
          go_wp2
          go_roundw
          case rel => exact ⟨k + 1, by omega, by go_num, take_next HT.out hlt HLT.out HE.out, HX.out⟩
          case measure => simp [intOf]; omega
        · have hdf := text_ne he
          have HE : Hid (decide (A = B) = false) := by
            show _ = _
            simp only [decide_eq_false_iff_not]
            intro h
            subst h
            exact he rfl
          clear he
          generalize bstr A[k] = t at s1 hdf
          generalize bstr B[k] = u at s2 hdf
          go_wp2
          refine wp_region_grow (by kernel_rfl) (by kernel_rfl) ?_
          repeat (go_big_quiet_step (fail))
          refine wpQuiet_nil ?_
          intro _ hw'
          obtain ⟨X, rfl⟩ := hw'
          have HX := hide (HBL.out.trans (X.2.mono HBL.out.size))
          clear d1 d2 s1 s2 hne
          go_wp2
          go_ret
          exact ⟨by (rw [HE.out]) <;> rfl, HX.out⟩
      · have HE : Hid (decide (A = B) = true) := by
          show _ = _
          have := HT.out
          rw [List.take_of_length_le (by omega), List.take_of_length_le (by omega)] at this
          simpa using this
        go_wp2
        go_ret
        exact ⟨by (rw [HE.out]) <;> rfl, HBL.out⟩
  · have hlb : ((A.length : Int) != (B.length : Int)) = true := by simp; omega
    have HE : Hid (decide (A = B) = false) := by
      show _ = _
      simp only [decide_eq_false_iff_not]
      intro h
      exact hl (by rw [h])
    clear hl
    go_enter Tryd.func27, Tryd.ntmps27
    go_wp2
    go_ret
    exact ⟨by (rw [HE.out]) <;> rfl, Below.refl _ _⟩
end Go.Proofs.YtgobnnciijlpaaaDoor
