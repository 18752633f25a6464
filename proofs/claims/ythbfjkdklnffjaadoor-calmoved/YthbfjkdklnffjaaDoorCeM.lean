/- Package cal: away. -/
import Derived.Test.YthbfjkdklnffjaaDoorCeL
namespace Go.Proofs.YthbfjkdklnffjaaDoor
open Go.ChangeShapes Go.WideShapes Go.ChangeAt Go.RowKit Go.DsMem Go.DsMk
set_option linter.unusedVariables false

/-- the days to which a day may be moved, the nearest first -/
def awayL (day dir : Int) : Nat → List Int
  | 0 => []
  | j + 1 => awayL day dir j ++ if DsCal.rightB (day + ((j : Int) + 1) * dir) then [day + ((j : Int) + 1) * dir] else []
theorem awayL_len (day dir : Int) : ∀ j, (awayL day dir j).length ≤ j
  | 0 => Nat.le_refl _
  | j + 1 => by
    have := awayL_len day dir j
    unfold awayL
    split <;> simp <;> omega
theorem awayL_mem (day dir : Int) (x : Int) : ∀ j, x ∈ awayL day dir j → 1 ≤ x ∧ x ≤ 3652059
  | 0, h => by simp [awayL] at h
  | j + 1, h => by
    unfold awayL at h
    rcases List.mem_append.1 h with h | h
    · exact awayL_mem day dir x j h
    · split at h
      · rename_i hr
        simp at h
        subst h
        exact of_decide_eq_true hr
      · simp at h
set_option maxHeartbeats 4000000 in
set_option maxRecDepth 20000 in
/-- cal.away, ahead or behind -/
theorem Gc.away {W w : World} (h : Gc W w) (day dir : Int) (h1 : 1 ≤ day) (h2 : day ≤ 3652059) (hd : dir = 1 ∨ dir = -1) :
    Calls Tryd.prog 20 #[.int .i64 day, .int .i64 dir] w fun e w' => ∃ u, e = .returned u ∧ w'.ownsRow w.heap.size 2 1 u (awayL day dir 10).length (i64s (awayL day dir 10)) ∧ Gc w w' := by
  have HG := hide h
  clear h
  have hd0 : ¬ dir = 0 := by omega
  have hdr : -1 ≤ dir ∧ dir ≤ 1 := by omega
  have hmul : ∀ i : Nat, ((i : Int) + 1) * dir = (i : Int) + 1 ∨ ((i : Int) + 1) * dir = - ((i : Int) + 1) := fun i => by
    rcases hd with rfl | rfl
    · left; omega
    · right; omega
  have HMUL := hide hmul
  clear hmul hd
  obtain ⟨hdr1, hdr2⟩ := hdr
  obtain ⟨L, hL⟩ : ∃ L, L = awayL day dir 10 := ⟨_, rfl⟩
  rw [← hL]
  have HL := hide hL
  clear hL
  obtain ⟨i0, hi, hz0, hz1, hz2⟩ := info_parts info64
  go_enter Tryd.func20, Tryd.ntmps20
  have hbe : (dir == 0) = false := by simpa using hd0
  go_wp2
  go_loopw [5, 11] (fun u t wr => ∃ i : Nat, i ≤ 10 ∧ t = .int .i64 i ∧ wr.ownsRow w.heap.size 2 1 u (awayL day dir i).length (i64s (awayL day dir i)) ∧ Gc w wr) (fun _ t _ => 10 - (intOf t).toNat)
  case atStart => exact ⟨0, Nat.zero_le _, rfl, World.ownsRow_nil _ _ _ _, HG.out.here⟩
  case round =>
    obtain ⟨i, hi', rfl, hown, hg⟩ := hrel
    obtain ⟨uo, ucap, rfl, -⟩ := own_shape hown
    have hple := awayL_len day dir i
    by_cases hlt : i < 10
    · have HS : Hid (awayL day dir (i + 1) = awayL day dir i ++ if DsCal.rightB (day + ((i : Int) + 1) * dir) then [day + ((i : Int) + 1) * dir] else []) := rfl
      generalize hqe : awayL day dir i = q at *
      have HQ := hide hqe
      have HO := hide hown
      have HGr := hide hg
      have hmm := HMUL.out i
      generalize hte : ((i : Int) + 1) * dir = to at *
      have HTE := hide hte
      have hto : -100 ≤ to ∧ to ≤ 100 := by omega
      obtain ⟨hto1, hto2⟩ := hto
      clear hqe hown hg hmm
      go_wp2_with fail
      obtain ⟨b, hb⟩ : ∃ b, DsCal.rightB (day + to) = b := ⟨_, rfl⟩
      refine (Dt.right_any (day + to) wr).mono ?_
      rw [hb]
      have HBR := hide hb
      clear hb
      rintro e w1 ⟨rfl, rfl⟩
      cases b with
      | true =>
        have hown := HO.out
        have hnx := HGr.out.below
        go_wp2_with (at_builtin; refine Hid.out ?_)
        refine hide ?_
        refine wpList_append_own _ rfl _ _ 23 rfl w.heap.size 2 i0 (.int .i64 0) 1 8 Tryd.underlying23 hi hz0 hz1 hz2 rfl (by decide) _ _ _ rfl (hown.alloc _) ⟨_, 0, none⟩ 1 1 [.int .i64 (day + to)] rfl rfl (cell_one_new _ _ _) (one_i64 _) (by unfold maxLen; omega) (by omega) (by have := hnx.size; simp; omega) ?_
        intro v' w2 hown' hgrow _
        obtain ⟨R1, R2⟩ := rel_push64 hnx.size hown hnx hown' hgrow
        have HR1 := hide R1
        have HR2 : Hid (Gc w w2) := ⟨HG.out.here.bits, HG.out.here.len, HG.out.here.shp, R2⟩
        clear hown' hgrow hown hnx R1 R2
        go_wp2
        go_roundw
        case rel =>
          refine ⟨i + 1, by omega, by go_num, ?_, HR2.out⟩
          rw [HS.out, HBR.out, if_pos rfl, List.length_append]
          exact HR1.out
        case measure => simp [intOf]; omega
      | false =>
        go_wp2
        go_roundw
        case rel => exact ⟨i + 1, by omega, by go_num, by rw [HS.out, HBR.out, if_neg (by decide), List.append_nil]; exact HO.out, HGr.out⟩
        case measure => simp [intOf]; omega
    · have h10 : i = 10 := by omega
      subst h10
      have HO := hide hown
      have HGr := hide hg
      clear hown hg
      go_wp2
      go_ret
      exact ⟨_, rfl, by rw [HL.out]; exact HO.out, HGr.out⟩
end Go.Proofs.YthbfjkdklnffjaaDoor
