/- The walk of date.Text: a day as eight digits. -/
import Derived.Test.YtbkjcnkjlkjknaaDoorDays
import Derived.Test.YtbkjcnkjlkjknaaDoorMathB
import Derived.Laws.BytesString
import Derived.Laws.IdiomStrings
namespace Go.Proofs.YtbkjcnkjlkjknaaDoor
open Go.ChangeShapes Go.WideShapes Go.ChangeAt Go.RowKit

theorem text_no (n : Int) (w : World) (h : n < 1 ∨ 3652059 < n) :
    Calls Tryd.prog 28 #[.int .i64 n] w fun e w' => e = .returned (.tuple #[.string ⟨#[]⟩, .int .i64 6]) ∧ w' = w := by
  go_enter Tryd.func28, Tryd.ntmps28
  go_wp2_with (go_at_call 22; refine (date_no _ _ (by omega)).mono ?_; rintro e w' ⟨rfl, rfl⟩)
  go_ret2; exact ⟨rfl, rfl⟩

/-- string(b), where b's cells are numbers that are known. -/
theorem run_conv (w : World) (a : Addr) (cap : Nat) (ns : List Int) (hc : ∀ j, j < ns.length → w.cell? (a.add j) = some (.int .u8 (ns.getD j 0))) :
    (convert 47 9 (.slice (some a) ns.length cap)).run Tryd.prog w = .ok (.string (DsCal.bstr ns)) w := by
  rw [run_convert_bytes_string w 47 9 5 (some a) ns.length cap Tryd.underlying47 Tryd.underlying5 Tryd.underlying9]
  have hl := run_loadCells_list (P := Tryd.prog) w a (ns.map (Value.int .u8)) (fun j v hj => by
    have hj' : j < ns.length := by
      have := (List.getElem?_eq_some_iff.1 hj).1
      simpa using this
    rw [hc j hj']
    simp [List.getElem?_eq_getElem hj'] at hj
    simp [List.getD, List.getElem?_eq_getElem hj', ← hj])
  simp only [List.length_map] at hl
  rw [run_bytesToString w a ns.length cap _ hl, DsCal.foldl_push]
  have he0 : ByteArray.empty.data = #[] := rfl
  rw [he0]
  simp [DsCal.bstr]
theorem run_conv8 (w : World) (a0 a1 a2 a3 a4 a5 a6 a7 : Int) :
    (convert 47 9 (.slice (some ⟨w.heap.size, 0, none⟩) 8 8)).run Tryd.prog (w.alloc (.cells #[.int .u8 a0, .int .u8 a1, .int .u8 a2, .int .u8 a3, .int .u8 a4, .int .u8 a5, .int .u8 a6, .int .u8 a7] 46))
      = .ok (.string (DsCal.bstr [a0, a1, a2, a3, a4, a5, a6, a7])) (w.alloc (.cells #[.int .u8 a0, .int .u8 a1, .int .u8 a2, .int .u8 a3, .int .u8 a4, .int .u8 a5, .int .u8 a6, .int .u8 a7] 46)) := by
  refine run_conv (w.alloc _) ⟨w.heap.size, 0, none⟩ 8 [a0, a1, a2, a3, a4, a5, a6, a7] (fun j hj => ?_)
  have e : (⟨w.heap.size, 0, none⟩ : Addr).add j = ⟨w.heap.size, j, none⟩ := by simp [Addr.add]; exact fun h => h.symm
  rw [e, World.cell?_alloc_mark]
  have hj' : j = 0 ∨ j = 1 ∨ j = 2 ∨ j = 3 ∨ j = 4 ∨ j = 5 ∨ j = 6 ∨ j = 7 := by simp at hj; omega
  rcases hj' with rfl | rfl | rfl | rfl | rfl | rfl | rfl | rfl <;> rfl

set_option maxHeartbeats 1000000 in
theorem text_yes (n : Int) (w : World) (ht : Tab w) (h1 : 1 ≤ n) (h2 : n ≤ 3652059) :
    Calls Tryd.prog 28 #[.int .i64 n] w fun e w' => ∃ y m d : Int, e = .returned (.tuple #[.string (DsCal.bstr (DsCal.tx8 (y * 10000 + m * 100 + d))), .int .i64 0]) ∧ DsCal.vld y m d ∧ DsCal.num y m d = n ∧ Below w.heap.size w w' := by
  have hcv := run_conv8 w
  go_enter Tryd.func28, Tryd.ntmps28
  go_wp2_with (go_at_call 22; refine (date_yes _ _ ht h1 h2).mono ?_; rintro e w' ⟨y, m, d, rfl, hv, hn, rfl⟩; have HN := hide hn; have HV := hide hv; clear hn hv; obtain ⟨hy1, hy2, hm1, hm2, hd1, hd2⟩ := DsCal.vld_bd HV.out)
  have hL : 0 ≤ y * 10000 + m * 100 + d ∧ y * 10000 + m * 100 + d ≤ 99999999 := by omega
  generalize hLe : y * 10000 + m * 100 + d = L at hL ⊢
  have HL := hide hLe
  clear hLe hy1 hy2 hm1 hm2 hd1 hd2
  obtain ⟨hL0, hL1⟩ := hL
  refine wp_loop_rounds 9 ?_
  iterate 9 (rw [rounds_succ]; go_wp2)
  go_ret2
  refine ⟨y, m, d, ?_, HV.out, HN.out, (Below.refl _ _).alloc (Nat.le_refl _) _⟩
  rw [HL.out]
  rfl
end Go.Proofs.YtbkjcnkjlkjknaaDoor
