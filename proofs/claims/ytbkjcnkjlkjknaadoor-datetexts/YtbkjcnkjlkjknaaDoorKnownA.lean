/- The walk of dayshiftlaw01.known: what comes of fixed calls. -/
import Derived.Test.YtbkjcnkjlkjknaaDoorText
namespace Go.Proofs.YtbkjcnkjlkjknaaDoor
open Go.ChangeShapes Go.WideShapes Go.ChangeAt Go.RowKit

theorem Tab.below {w w' : World} (h : Tab w) (hb : Below w.heap.size w w') : Tab w' :=
  ⟨Nat.lt_of_lt_of_le h.1 hb.size, fun m m1 m2 => (hb.cell (p := ⟨0, m.toNat - 1, none⟩) h.1).trans (h.2 m m1 m2)⟩

theorem days_1 (w : World) (ht : Tab w) : Calls Tryd.prog 15 #[.int .i64 1, .int .i64 1, .int .i64 1] w fun e w' => e = .returned (.tuple #[.int .i64 1, .int .i64 0]) ∧ w' = w :=
  days_yes 1 1 1 w ht ((DsCal.vldB_iff _ _ _).1 (by decide))
theorem days_2000 (w : World) (ht : Tab w) : Calls Tryd.prog 15 #[.int .i64 2000, .int .i64 2, .int .i64 29] w fun e w' => e = .returned (.tuple #[.int .i64 730179, .int .i64 0]) ∧ w' = w :=
  days_yes 2000 2 29 w ht ((DsCal.vldB_iff _ _ _).1 (by decide))
theorem text_2000 (w : World) (ht : Tab w) : Calls Tryd.prog 28 #[.int .i64 730179] w fun e w' => e = .returned (.tuple #[.string ⟨#[50, 48, 48, 48, 48, 50, 50, 57]⟩, .int .i64 0]) ∧ Below w.heap.size w w' := by
  refine (text_yes 730179 w ht (by omega) (by omega)).mono ?_
  rintro e w' ⟨y, m, d, rfl, hv, hn, hb⟩
  obtain ⟨rfl, rfl, rfl⟩ := DsCal.num_inj hv ((DsCal.vldB_iff 2000 2 29).1 (by decide)) (hn.trans (by decide))
  exact ⟨rfl, hb⟩

set_option maxHeartbeats 1000000 in
theorem known1_any (w : World) (ht : Tab w) :
    Calls Tryd.prog 21 #[] w fun e w' => e = .returned (.bool true) ∧ Below w.heap.size w w' := by
  go_enter Tryd.func21, Tryd.ntmps21
  go_wp2_with fail
  refine (days_1 _ ht).mono ?_; rintro e w1 ⟨rfl, rfl⟩
  go_wp2_with fail
  refine (days_2000 _ ht).mono ?_; rintro e w2 ⟨rfl, rfl⟩
  go_wp2_with fail
  refine (text_2000 _ ht).mono ?_; rintro e w3 ⟨rfl, hb⟩
  go_wp2_with fail
  refine (weekday_yes 730179 _ (by omega) (by omega)).mono ?_; rintro e w4 ⟨rfl, rfl⟩
  go_wp2
  go_ret
  exact ⟨rfl, hb⟩
end Go.Proofs.YtbkjcnkjlkjknaaDoor
