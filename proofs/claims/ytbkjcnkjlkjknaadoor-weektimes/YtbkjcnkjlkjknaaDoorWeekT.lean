/- The walks of week.Text and dayshiftref02.Text: times of a day as texts. -/
import Derived.Test.YtbkjcnkjlkjknaaDoorWeekB
import Derived.Test.YtbkjcnkjlkjknaaDoorRefText
import Derived.RegionTactic
import Derived.BigRegion
namespace Go.Proofs.YtbkjcnkjlkjknaaDoor
open Go.ChangeShapes Go.WideShapes Go.ChangeAt Go.RowKit

/-- WHAT IS KNOWN OF THE TABLE week.digits: its ten cells, in block 1. -/
def Tab2 (w : World) : Prop := 1 < w.heap.size ∧ ∀ i : Int, 0 ≤ i → i ≤ 9 → w.cell? ⟨1, i.toNat, none⟩ = some (.int .u8 (48 + i))

theorem wText_no (n : Int) (w : World) (h : ¬ okM n) :
    Calls Tryd.prog 47 #[.int .i64 n] w fun e w' => e = .returned (.tuple #[.string ⟨#[]⟩, .int .i64 6]) ∧ w' = w := by
  have H := hide h
  clear h
  go_enter Tryd.func47, Tryd.ntmps47
  go_wp2_with (go_at_call 59; refine (isMin_no _ _ H.out).mono ?_; rintro e w' ⟨rfl, rfl⟩)
  go_ret2; exact ⟨rfl, rfl⟩
theorem wRefText_no (n : Int) (w : World) (h : ¬ okM n) :
    Calls Tryd.prog 48 #[.int .i64 n] w fun e w' => e = .returned (.tuple #[.string ⟨#[]⟩, .int .i64 6]) ∧ w' = w := by
  have H := hide h
  clear h
  go_enter Tryd.func48, Tryd.ntmps48
  go_wp2_with (go_at_call 60; refine (refMin_no _ _ H.out).mono ?_; rintro e w' ⟨rfl, rfl⟩)
  go_ret2; exact ⟨rfl, rfl⟩

/-- a time of a day as a text -/
def ttx (n : Int) : List Int := [48 + n / 60 / 10, 48 + n / 60 % 10, 58, 48 + n % 60 / 10, 48 + n % 60 % 10]

theorem ttx_parts {n : Int} (h0 : 0 ≤ n) (h1 : n < 1440) : (rd 2 (n / 60)).reverse ++ ([58] ++ (rd 2 (n % 60)).reverse) = ttx n := by
  simp only [rd, qd, ttx, List.nil_append, List.cons_append, List.reverse_cons, List.reverse_nil, List.cons.injEq, and_true, true_and]
  omega

set_option maxHeartbeats 1000000 in
theorem wRefText_yes (n : Int) (w : World) (h : okM n) :
    Calls Tryd.prog 48 #[.int .i64 n] w fun e w' => e = .returned (.tuple #[.string (DsCal.bstr (ttx n)), .int .i64 0]) ∧ Below w.heap.size w w' := by
  have H := hide h
  obtain ⟨h0, h1⟩ := h
  have HT := hide (ttx_parts h0 h1)
  have E58 : DsCal.bstr [58] = ⟨#[58]⟩ := rfl
  have HE := hide E58
  clear E58
  go_enter Tryd.func48, Tryd.ntmps48
  go_wp2_with (go_at_call 60; refine (refMin_yes _ _ H.out).mono ?_; rintro e w' ⟨rfl, rfl⟩)
  refine (digits2 _ _ (by omega) (by omega)).mono ?_
  rintro e w1 ⟨rfl, hb1⟩
  go_wp2_with fail
  refine (digits2 _ _ (by omega) (by omega)).mono ?_
  rintro e w2 ⟨rfl, hb2⟩
  go_wp2
  go_ret2
  refine ⟨ret_str ?_, hb1.trans (hb2.mono hb1.size)⟩
  rw [← HE.out, bstr_append, bstr_append, List.append_assoc, HT.out]

theorem run_conv5 (w : World) (a0 a1 a2 a3 a4 : Int) :
    (convert 47 9 (.slice (some ⟨w.heap.size, 0, none⟩) 5 5)).run Tryd.prog ((w.alloc (.cells #[.int .u8 a0, .int .u8 a1, .int .u8 a2, .int .u8 a3, .int .u8 a4] 54)).drew)
      = .ok (.string (DsCal.bstr [a0, a1, a2, a3, a4])) ((w.alloc (.cells #[.int .u8 a0, .int .u8 a1, .int .u8 a2, .int .u8 a3, .int .u8 a4] 54)).drew) := by
  refine run_conv ((w.alloc _).drew) ⟨w.heap.size, 0, none⟩ 5 [a0, a1, a2, a3, a4] (fun j hj => ?_)
  have e : (⟨w.heap.size, 0, none⟩ : Addr).add j = ⟨w.heap.size, j, none⟩ := by simp [Addr.add]; exact fun h => h.symm
  show (w.alloc _).cell? _ = _
  rw [e, World.cell?_alloc_mark]
  have hj' : j = 0 ∨ j = 1 ∨ j = 2 ∨ j = 3 ∨ j = 4 := by simp at hj; omega
  rcases hj' with rfl | rfl | rfl | rfl | rfl <;> rfl

set_option maxHeartbeats 2000000 in
theorem wText_yes (n : Int) (w : World) (ht : Tab2 w) (h : okM n) :
    Calls Tryd.prog 47 #[.int .i64 n] w fun e w' => e = .returned (.tuple #[.string (DsCal.bstr (ttx n)), .int .i64 0]) ∧ Below w.heap.size w w' := by
  have H := hide h
  obtain ⟨h0, h1⟩ := h
  have c1 := ht.2 (n / 60 / 10) (by omega) (by omega)
  have c2 := ht.2 (n / 60 % 10) (by omega) (by omega)
  have c3 := ht.2 (n % 60 / 10) (by omega) (by omega)
  have c4 := ht.2 (n % 10) (by omega) (by omega)
  have hz := ht.1
  have hcv := run_conv5 w
  have HT := hide (show DsCal.bstr [48 + n / 60 / 10, 48 + n / 60 % 10, 58, 48 + n % 60 / 10, 48 + n % 10] = DsCal.bstr (ttx n) by
    unfold ttx; rw [show n % 60 % 10 = n % 10 by omega])
  go_enter Tryd.func47, Tryd.ntmps47
  go_wp2_with (go_at_call 59; refine (isMin_yes _ _ H.out).mono ?_; rintro e w' ⟨rfl, rfl⟩)
  go_region
  go_wp2
  go_ret2
  refine ⟨ret_str ?_, ((Below.refl _ _).alloc (Nat.le_refl _) _).drew⟩
  rw [HT.out]
end Go.Proofs.YtbkjcnkjlkjknaaDoor
