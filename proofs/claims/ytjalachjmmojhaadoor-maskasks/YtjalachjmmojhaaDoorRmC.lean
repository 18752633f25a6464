/- The walks of dayshiftref05's Bits, Has, List, Count. -/
import Derived.Test.YtjalachjmmojhaaDoorRmB
namespace Go.DsMk
theorem mod_step (x k : Nat) : x % 2 ^ (k + 1) = x % 2 ^ k ||| (if x.testBit k then 2 ^ k else 0) := by
  apply Nat.eq_of_testBit_eq
  intro i
  rw [Nat.testBit_or, Nat.testBit_mod_two_pow, Nat.testBit_mod_two_pow]
  by_cases hb : x.testBit k = true
  · rw [if_pos hb, Nat.testBit_two_pow]
    by_cases hi : k = i
    · subst hi; simp [hb]
    · rw [decide_eq_false hi, Bool.or_false, show decide (i < k + 1) = decide (i < k) by rw [decide_eq_decide]; omega]
  · rw [if_neg hb, Nat.zero_testBit, Bool.or_false]
    by_cases hi : k = i
    · subst hi; simp [Bool.not_eq_true] at hb; simp [hb]
    · rw [show decide (i < k + 1) = decide (i < k) by rw [decide_eq_decide]; omega]
/-- the days below k -/
def dlUp (x k : Nat) : List Nat := (dl x).filter fun z => decide (z < k)
theorem dlUp_step (x k : Nat) (h1 : 1 ≤ k) (h2 : k ≤ 31) : dlUp x (k + 1) = dlUp x k ++ if x.testBit (k - 1) then [k] else [] := by
  unfold dlUp
  apply sorted_ext _ _ ((dl_sorted x).filter _)
  · rw [List.pairwise_append]
    refine ⟨(dl_sorted x).filter _, by split <;> simp, fun a ha b hb => ?_⟩
    rw [List.mem_filter, decide_eq_true_eq] at ha
    split at hb
    · simp at hb; omega
    · simp at hb
  · intro d
    rw [List.mem_append, List.mem_filter, List.mem_filter, decide_eq_true_eq, decide_eq_true_eq]
    constructor
    · rintro ⟨hm, hd⟩
      by_cases hk : d = k
      · subst hk; right; rw [if_pos ((dl_mem x d).1 hm).2.2]; simp
      · left; exact ⟨hm, by omega⟩
    · rintro (⟨hm, hd⟩ | hm)
      · exact ⟨hm, by omega⟩
      · split at hm
        · rename_i hb; simp at hm; subst hm; exact ⟨(dl_mem x d).2 ⟨h1, h2, hb⟩, by omega⟩
        · simp at hm
theorem dlUp_one (x : Nat) : dlUp x 1 = [] := by
  unfold dlUp
  rw [List.filter_eq_nil_iff]
  intro z hz
  have := dl_pos x z hz
  simp; omega
theorem dlUp_end (x : Nat) : dlUp x 32 = dl x := by
  unfold dlUp
  rw [List.filter_eq_self]
  intro z hz
  have := dl_pos x z hz
  simp; omega
theorem dlUp_le (x k : Nat) : (dlUp x k).length ≤ 31 := Nat.le_trans (List.length_filter_le _ _) (dl_le x)
end Go.DsMk
namespace Go.Proofs.YtjalachjmmojhaaDoor
open Go.ChangeShapes Go.WideShapes Go.ChangeAt Go.RowKit Go.DsMem Go.DsMk
set_option linter.unusedVariables false

/-- the reference's value of the days x -/
def RMonth (w : World) (v : Value) (x : Nat) : Prop := ∃ g, RAt w v g (fun d => x.testBit (d - 1))
theorem RMonth.below {w w' : World} {v : Value} {x : Nat} (h : RMonth w v x) (hb : Below w.heap.size w w') : RMonth w' v x := let ⟨g, hg⟩ := h; ⟨g, hg.below hb⟩

set_option maxHeartbeats 1000000 in
/-- dayshiftref05.Bits -/
theorem rbits_any (x : Nat) (v : Value) (w : World) (h : RMonth w v x) :
    Calls Tryd.prog 17 #[v] w fun e w' => e = .returned (.int .u32 (x % 2147483648 : Nat)) ∧ Below w.heap.size w w' := by
  obtain ⟨g, hr⟩ := h
  have HR := hide hr
  obtain rfl := hr.val
  clear hr
  go_enter Tryd.func17, Tryd.ntmps17
  go_wp2
  obtain ⟨wA, hwA⟩ : ∃ wA, wA = w.alloc (.cells #[.slice (some ⟨g, 0, none⟩) 32 32] 32) := ⟨_, rfl⟩
  have cB : wA.cell? ⟨w.heap.size, 0, none⟩ = some (.slice (some ⟨g, 0, none⟩) 32 32) := by rw [hwA, cell_of (heap_alloc_new w _)]; rfl
  have HB : Hid (Below w.heap.size w wA) := by rw [hwA]; exact (Below.refl _ _).alloc (Nat.le_refl _) _
  have HRA := hide (HR.out.below HB.out)
  rw [← hwA]
  clear hwA
  go_loop [3, 4] (fun n i => ∃ k : Nat, 1 ≤ k ∧ k ≤ 32 ∧ i = .int .i64 k ∧ n = .int .u32 (x % 2 ^ (k - 1) : Nat)) (fun _ i => 32 - (intOf i).toNat)
  case atStart => exact ⟨1, by omega, by omega, rfl, by simp⟩
  case round =>
    obtain ⟨k, hk1, hk2, rfl, rfl⟩ := hrel
    by_cases hlt : k ≤ 31
    · have hc := HRA.out.cell k hk1 hlt
      have hs := mod_step x (k - 1)
      rw [show k - 1 + 1 = k by omega] at hs
      have hm : x % 2 ^ (k - 1) < 2147483648 := Nat.lt_of_lt_of_le (Nat.mod_lt _ (Nat.two_pow_pos _)) (Nat.pow_le_pow_right (by decide) (show k - 1 ≤ 31 by omega))
      have hp : 2 ^ (k - 1) ≤ 1073741824 := Nat.pow_le_pow_right (by decide) (show k - 1 ≤ 30 by omega)
      have eo := or32 (x % 2 ^ (k - 1)) (2 ^ (k - 1)) (by omega) (by omega)
      have ep : ((2 : Int) ^ (k - 1) % 4294967296) = ((2 ^ (k - 1) : Nat) : Int) := by rw [pow_cast]; omega
      have HS := hide hs
      clear hs
      generalize hqe : x % 2 ^ (k - 1) = q at *
      generalize hte : x.testBit (k - 1) = t at *
      generalize hpe : 2 ^ (k - 1) = p at *
      have G1 := hide hqe
      have G2 := hide hpe
      have G3 := hide hte
      clear hqe hpe hte
      cases t
      · go_wp2
        go_round
        case rel => exact ⟨k + 1, by omega, by omega, by go_num, by rw [show k + 1 - 1 = k by omega, HS.out]; simp⟩
        case measure => simp [intOf]; omega
      · go_wp2
        go_round
        case rel => exact ⟨k + 1, by omega, by omega, by go_num, by rw [show k + 1 - 1 = k by omega, HS.out]; simp⟩
        case measure => simp [intOf]; omega
    · have hk : k = 32 := by omega
      have HK : Hid (x % 2 ^ (k - 1) = x % 2147483648) := by subst hk; rfl
      go_wp2
      go_ret
      exact ⟨ret_int (by first | rfl | rw [HK.out] | (have := HK.out; omega)), HB.out⟩

set_option maxHeartbeats 1000000 in
/-- dayshiftref05.Month.Has -/
theorem rhas_any (x : Nat) (d : Int) (v : Value) (w : World) (h : RMonth w v x) :
    Calls Tryd.prog 25 #[v, .int .i64 d] w fun e w' => e = .returned (.bool (hasB x d)) ∧ Below w.heap.size w w' := by
  obtain ⟨g, hr⟩ := h
  obtain rfl := hr.val
  have HB := hide ((Below.refl w.heap.size w).alloc (Nat.le_refl _) (.cells #[.slice (some ⟨g, 0, none⟩) 32 32] 32))
  by_cases h1 : 1 ≤ d
  · by_cases h2 : d ≤ 31
    · have hc := (hr.below HB.out).cell d.toNat (by omega) (by omega)
      have HE : Hid (hasB x d = x.testBit (d.toNat - 1)) := by show _ = _; unfold hasB; rw [decide_eq_true ⟨h1, h2⟩, Bool.true_and]
      generalize x.testBit (d.toNat - 1) = t at *
      clear hr
      go_enter Tryd.func25, Tryd.ntmps25
      go_wp2
      go_ret
      exact ⟨ret_bool (by rw [HE.out]), HB.out⟩
    · have HE : Hid (hasB x d = false) := by show _ = _; unfold hasB; rw [decide_eq_false (by omega)]; rfl
      clear hr
      go_enter Tryd.func25, Tryd.ntmps25
      go_wp2
      go_ret
      exact ⟨ret_bool (by rw [HE.out]), HB.out⟩
  · have HE : Hid (hasB x d = false) := by show _ = _; unfold hasB; rw [decide_eq_false (by omega)]; rfl
    clear hr
    go_enter Tryd.func25, Tryd.ntmps25
    go_wp2
    go_ret
    exact ⟨ret_bool (by rw [HE.out]), HB.out⟩

set_option maxHeartbeats 2000000 in
set_option maxRecDepth 20000 in
/-- dayshiftref05.Month.List -/
theorem rlist_any (x : Nat) (v : Value) (w : World) (h : RMonth w v x) :
    Calls Tryd.prog 35 #[v] w fun e w' => ∃ u, e = .returned u ∧ w'.ownsRow w.heap.size 2 1 u (dl x).length (i64s (ints (dl x))) ∧ Below w.heap.size w w' := by
  obtain ⟨g, hr⟩ := h
  have HR := hide hr
  obtain rfl := hr.val
  clear hr
  obtain ⟨i0, hi, hz0, hz1, hz2⟩ := info_parts info64
  go_enter Tryd.func35, Tryd.ntmps35
  go_wp2
  obtain ⟨wA, hwA⟩ : ∃ wA, wA = w.alloc (.cells #[.slice (some ⟨g, 0, none⟩) 32 32] 32) := ⟨_, rfl⟩
  have cB : wA.cell? ⟨w.heap.size, 0, none⟩ = some (.slice (some ⟨g, 0, none⟩) 32 32) := by rw [hwA, cell_of (heap_alloc_new w _)]; rfl
  have HB : Hid (Below w.heap.size w wA) := by rw [hwA]; exact (Below.refl _ _).alloc (Nat.le_refl _) _
  have HRA := hide (HR.out.below HB.out)
  rw [← hwA]
  have HCB := hide cB
  clear hwA cB
  go_loopw [3, 4] (fun u i wr => ∃ k : Nat, 1 ≤ k ∧ k ≤ 32 ∧ i = .int .i64 k ∧ wr.ownsRow wA.heap.size 2 1 u (dlUp x k).length (i64s (ints (dlUp x k))) ∧ Below wA.heap.size wA wr) (fun _ i _ => 32 - (intOf i).toNat)
  case atStart => exact ⟨1, by omega, by omega, rfl, by rw [dlUp_one]; exact World.ownsRow_nil _ _ _ _, Below.refl _ _⟩
  case round =>
    obtain ⟨k, hk1, hk2, rfl, hown, hnx⟩ := hrel
    obtain ⟨ao, cap, rfl, -⟩ := own_shape hown
    have hcB := Below.keeps hnx (Nat.le_refl _) HCB.out
    by_cases hlt : k ≤ 31
    · have hc := (HRA.out.below hnx).cell k hk1 hlt
      have hs := dlUp_step x k hk1 hlt
      have hle := dlUp_le x k
      have HS := hide hs
      clear hs
      generalize hte : x.testBit (k - 1) = t at *
      clear hte
      have HO := hide hown
      have HN := hide hnx
      clear hown hnx
      generalize hqe : dlUp x k = q at *
      have HQ := hide hqe
      clear hqe
      cases t
      · go_wp2
        go_roundw
        case rel => exact ⟨k + 1, by omega, by omega, by go_num, by rw [HS.out]; simp only [Bool.false_eq_true, if_false, List.append_nil]; exact HO.out, HN.out⟩
        case measure => simp [intOf]; omega
      · have hown := HO.out
        have hnx := HN.out
        go_wp2_with (at_builtin; refine Hid.out ?_)
        refine hide ?_
        refine wpList_append_own _ rfl _ _ 22 rfl wA.heap.size 2 i0 (.int .i64 0) 1 8 Tryd.underlying22 hi hz0 hz1 hz2 rfl (by decide) _ _ _ rfl (hown.alloc _) ⟨_, 0, none⟩ 1 1 [.int .i64 k] rfl rfl (cell_one_new _ _ _) (one_i64 _) (by unfold maxLen; omega) (by omega) (by have := hnx.size; simp; omega) ?_
        intro v' w1 hown' hgrow _
        obtain ⟨R1, R2⟩ := rel_push64 hnx.size hown hnx hown' hgrow
        have HR1 := hide R1
        have HR2 := hide R2
        clear hown' hgrow hown hnx R1 R2
        go_wp2
        go_roundw
        case rel =>
          refine ⟨k + 1, by omega, by omega, by go_num, ?_, HR2.out⟩
          rw [HS.out]
          simp only [if_true]
          have := HR1.out
          rw [show (q ++ [k]).length = q.length + 1 by simp, show ints (q ++ [k]) = ints q ++ [(k : Int)] by simp [ints]]
          exact this
        case measure => simp [intOf]; omega
    · have hk : k = 32 := by omega
      have HK : Hid (dlUp x k = dl x) := by subst hk; exact dlUp_end x
      have HO := hide hown
      have HN := hide hnx
      clear hown hnx
      go_wp2
      go_ret
      exact ⟨_, rfl, own_base (by have := HO.out; rw [← HK.out]; exact this) HB.out.size, HB.out.trans (HN.out.mono HB.out.size)⟩
set_option maxHeartbeats 1000000 in
/-- dayshiftref05.Month.Count -/
theorem rcount_any (x : Nat) (v : Value) (w : World) (h : RMonth w v x) :
    Calls Tryd.prog 27 #[v] w fun e w' => e = .returned (.int .i64 (dl x).length) ∧ Below w.heap.size w w' := by
  obtain ⟨g, hr⟩ := h
  have HR := hide hr
  obtain rfl := hr.val
  have hc := dl_le x
  clear hr
  have HB := hide ((Below.refl w.heap.size w).alloc (Nat.le_refl _) (.cells #[.slice (some ⟨g, 0, none⟩) 32 32] 32))
  go_enter Tryd.func27, Tryd.ntmps27
  go_wp2_with fail
  refine (rlist_any x _ _ ⟨g, HR.out.below HB.out⟩).mono ?_; rintro e w1 ⟨u, rfl, hu, hb⟩
  obtain ⟨ao, cap, rfl, -⟩ := own_shape hu
  have HB1 := hide (HB.out.trans (hb.mono HB.out.size))
  clear hu hb
  go_wp2
  go_ret
  exact ⟨rfl, HB1.out⟩
end Go.Proofs.YtjalachjmmojhaaDoor
