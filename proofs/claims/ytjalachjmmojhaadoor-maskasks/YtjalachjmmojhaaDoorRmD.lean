/- The walks of dayshiftref05's Nth, Next, Prev. -/
import Derived.Test.YtjalachjmmojhaaDoorRmC
import Derived.Test.YtjalachjmmojhaaDoorMkJ
namespace Go.DsMk
theorem nextL_at (l : List Nat) (d : Int) (i : Nat) (hi : i < l.length) (hb : ∀ j (hj : j < l.length), j < i → ¬ d < (l[j] : Int)) (hd : d < (l[i] : Int)) : nextL l d = fw l i := by
  unfold nextL
  have e : l = l.take i ++ l[i] :: l.drop (i + 1) := by rw [List.getElem_cons_drop]; exact (List.take_append_drop i l).symm
  have e1 : (l.take i).filter (fun z : Nat => decide (d < (z : Int))) = [] := by
    rw [List.filter_eq_nil_iff]
    intro z hz
    obtain ⟨j, hj, rfl⟩ := List.getElem_of_mem hz
    rw [List.length_take] at hj
    rw [List.getElem_take]
    have := hb j (by omega) (by omega)
    simpa using this
  have e2 : l.filter (fun z : Nat => decide (d < (z : Int))) = l[i] :: (l.drop (i + 1)).filter (fun z : Nat => decide (d < (z : Int))) := by
    conv => lhs; rw [e]
    rw [List.filter_append, e1, List.nil_append, List.filter_cons_of_pos (by simpa using hd)]
  rw [e2, fw_lt l i hi]; rfl
theorem nextL_none (l : List Nat) (d : Int) (hb : ∀ j (hj : j < l.length), ¬ d < (l[j] : Int)) : nextL l d = 0 := by
  unfold nextL
  rw [List.filter_eq_nil_iff.2]; rfl
  intro z hz
  obtain ⟨j, hj, rfl⟩ := List.getElem_of_mem hz
  simpa using hb j hj
theorem prevL_at (l : List Nat) (d : Int) (i : Nat) (hi : i < l.length) (hb : ∀ j (hj : j < l.length), i < j → ¬ (l[j] : Int) < d) (hd : (l[i] : Int) < d) : prevL l d = fw l i := by
  unfold prevL
  have e : l = (l.take i ++ [l[i]]) ++ l.drop (i + 1) := by rw [← List.take_succ_eq_append_getElem hi, List.take_append_drop]
  have e1 : (l.drop (i + 1)).filter (fun z : Nat => decide ((z : Int) < d)) = [] := by
    rw [List.filter_eq_nil_iff]
    intro z hz
    obtain ⟨j, hj, rfl⟩ := List.getElem_of_mem hz
    rw [List.length_drop] at hj
    rw [List.getElem_drop]
    have := hb (i + 1 + j) (by omega) (by omega)
    simpa using this
  have e2 : l.filter (fun z : Nat => decide ((z : Int) < d)) = (l.take i).filter (fun z : Nat => decide ((z : Int) < d)) ++ [l[i]] := by
    conv => lhs; rw [e]
    rw [List.filter_append, List.filter_append, e1, List.append_nil, List.filter_cons_of_pos (by simpa using hd)]; rfl
  rw [e2, List.getLast?_append, fw_lt l i hi]; rfl
theorem prevL_none (l : List Nat) (d : Int) (hb : ∀ j (hj : j < l.length), ¬ (l[j] : Int) < d) : prevL l d = 0 := by
  unfold prevL
  rw [List.filter_eq_nil_iff.2]; rfl
  intro z hz
  obtain ⟨j, hj, rfl⟩ := List.getElem_of_mem hz
  simpa using hb j hj
theorem nth_back (l : List Nat) (i : Nat) (h : i < l.length) : nthL l ((i : Int) - l.length) = fw l i := by
  rw [nthL_down _ _ (by omega) (by omega)]; unfold fw; congr 2; omega
end Go.DsMk
namespace Go.Proofs.YtjalachjmmojhaaDoor
open Go.ChangeShapes Go.WideShapes Go.ChangeAt Go.RowKit Go.DsMem Go.DsMk
set_option linter.unusedVariables false

/-- a list of the days, out of a call: where its cells lie -/
theorem list_open {w : World} {B n : Nat} {ao : Option Addr} {cap : Nat} {l : List Nat} (h : w.ownsRow B 2 1 (.slice ao n cap) n (i64s (ints l))) : n = l.length ∧ ∀ j, j < l.length → ∃ a, ao = some a ∧ w.cell? (a.add j) = some (.int .i64 (fw l j)) := by
  have hn : n = l.length := by have := h.1; simp [i64s, ints] at this; omega
  refine ⟨hn, fun j hj => ?_⟩
  obtain ⟨ao', cap', hv, hlc, hnil, hrd⟩ := RdI.own h
  simp only [Value.slice.injEq] at hv
  obtain ⟨rfl, -, rfl⟩ := hv
  cases ao with
  | none => have := hnil rfl; rw [ints_len] at this; omega
  | some a => exact ⟨a, rfl, hrd a rfl j _ (ints_at l j hj)⟩

set_option maxHeartbeats 1000000 in
/-- dayshiftref05.Month.Nth -/
theorem rnth_any (x : Nat) (k : Int) (v : Value) (w : World) (h : RMonth w v x) (hk1 : -9223372036854775808 ≤ k) (hk2 : k ≤ 9223372036854775807) :
    Calls Tryd.prog 29 #[v, .int .i64 k] w fun e w' => e = .returned (.int .i64 (nthL (dl x) k)) ∧ Below w.heap.size w w' := by
  obtain ⟨g, hr⟩ := h
  have HR := hide hr
  obtain rfl := hr.val
  have hc := dl_le x
  clear hr
  have HB := hide ((Below.refl w.heap.size w).alloc (Nat.le_refl _) (.cells #[.slice (some ⟨g, 0, none⟩) 32 32] 32))
  go_enter Tryd.func29, Tryd.ntmps29
  go_wp2_with fail
  refine (rlist_any x _ _ ⟨g, HR.out.below HB.out⟩).mono ?_; rintro e w1 ⟨u, rfl, hu, hb⟩
  obtain ⟨ao, cap, rfl, -⟩ := own_shape hu
  have HB1 := hide (HB.out.trans (hb.mono HB.out.size))
  have HL := hide (list_open hu).2
  clear hu hb
  generalize hle : dl x = l at *
  have HLE := hide hle
  clear hle
  go_wp2
  go_loop [6] (fun t => ∃ i : Nat, i ≤ l.length ∧ t = .int .i64 i ∧ ∀ j : Nat, j < i → ¬ k = (j : Int) + 1 ∧ ¬ k = (j : Int) - l.length) (fun t => l.length - (intOf t).toNat)
  case atStart => exact ⟨0, Nat.zero_le _, rfl, fun j hj => by omega⟩
  case round =>
    obtain ⟨i, hi, rfl, hno⟩ := hrel
    have HN := hide hno
    clear hno
    by_cases hlt : i < l.length
    · obtain ⟨a, rfl, hcell⟩ := HL.out i hlt
      by_cases e1 : k = (i : Int) + 1
      · have HE : Hid (nthL l k = fw l i) := by show _ = _; rw [e1]; exact nth_fw l i
        subst e1
        go_wp2
        go_ret
        exact ⟨ret_int (by rw [HLE.out, HE.out]), HB1.out⟩
      · by_cases e2 : k = (i : Int) - l.length
        · have HE : Hid (nthL l k = fw l i) := by show _ = _; rw [e2]; exact nth_back l i hlt
          have b1 : (k == (i : Int) + 1) = false := by simpa using e1
          have b2 : (k == (i : Int) - l.length) = true := by simpa using e2
          clear e1 e2
          go_wp2
          go_ret
          exact ⟨ret_int (by rw [HLE.out, HE.out]), HB1.out⟩
        · have b1 : (k == (i : Int) + 1) = false := by simpa using e1
          have b2 : (k == (i : Int) - l.length) = false := by simpa using e2
          have HS : Hid (∀ j : Nat, j < i + 1 → ¬ k = (j : Int) + 1 ∧ ¬ k = (j : Int) - l.length) := fun j hj => by
            by_cases hji : j = i
            · subst hji; exact ⟨e1, e2⟩
            · exact HN.out j (by omega)
          clear e1 e2
          go_wp2
          go_round
          case rel => exact ⟨i + 1, by omega, by go_num, HS.out⟩
          case measure => simp [intOf]; omega
    · have HE : Hid (nthL l k = 0) := nthL_no _ _ (by
        have q1 : ¬ (1 ≤ k ∧ k ≤ l.length) := fun hq => (HN.out (k - 1).toNat (by omega)).1 (by omega)
        have q2 : ¬ (k < 0 ∧ 0 ≤ k + l.length) := fun hq => (HN.out (k + l.length).toNat (by omega)).2 (by omega)
        omega)
      go_wp2
      go_ret
      exact ⟨ret_int (by rw [HLE.out, HE.out]; rfl), HB1.out⟩

set_option maxHeartbeats 1000000 in
/-- dayshiftref05.Month.Next -/
theorem rnext_any (x : Nat) (k : Int) (v : Value) (w : World) (h : RMonth w v x) :
    Calls Tryd.prog 31 #[v, .int .i64 k] w fun e w' => e = .returned (.int .i64 (nextL (dl x) k)) ∧ Below w.heap.size w w' := by
  obtain ⟨g, hr⟩ := h
  have HR := hide hr
  obtain rfl := hr.val
  have hc := dl_le x
  clear hr
  have HB := hide ((Below.refl w.heap.size w).alloc (Nat.le_refl _) (.cells #[.slice (some ⟨g, 0, none⟩) 32 32] 32))
  go_enter Tryd.func31, Tryd.ntmps31
  go_wp2_with fail
  refine (rlist_any x _ _ ⟨g, HR.out.below HB.out⟩).mono ?_; rintro e w1 ⟨u, rfl, hu, hb⟩
  obtain ⟨ao, cap, rfl, -⟩ := own_shape hu
  have HB1 := hide (HB.out.trans (hb.mono HB.out.size))
  have HL := hide (list_open hu).2
  clear hu hb
  generalize hle : dl x = l at *
  have HLE := hide hle
  clear hle
  go_wp2
  go_loop [6] (fun t => ∃ i : Nat, i ≤ l.length ∧ t = .int .i64 i ∧ ∀ j (hj : j < l.length), j < i → ¬ k < (l[j] : Int)) (fun t => l.length - (intOf t).toNat)
  case atStart => exact ⟨0, Nat.zero_le _, rfl, fun j _ hj => by omega⟩
  case round =>
    obtain ⟨i, hi, rfl, hno⟩ := hrel
    have HN := hide hno
    clear hno
    by_cases hlt : i < l.length
    · obtain ⟨a, rfl, hcell⟩ := HL.out i hlt
      have hfw := fw_lt l i hlt
      by_cases hd : k < (fw l i : Int)
      · have HE : Hid (nextL l k = fw l i) := nextL_at l k i hlt HN.out (by rw [← hfw]; exact hd)
        clear hfw
        go_wp2
        go_ret
        exact ⟨ret_int (by rw [HLE.out, HE.out]), HB1.out⟩
      · have HS : Hid (∀ j (hj : j < l.length), j < i + 1 → ¬ k < (l[j] : Int)) := fun j hj hji => by
          by_cases hjj : j = i
          · subst hjj; rw [← hfw]; exact hd
          · exact HN.out j hj (by omega)
        clear hfw
        go_wp2
        go_round
        case rel => exact ⟨i + 1, by omega, by go_num, HS.out⟩
        case measure => simp [intOf]; omega
    · have HE : Hid (nextL l k = 0) := nextL_none l k (fun j hj => HN.out j hj (by omega))
      go_wp2
      go_ret
      exact ⟨ret_int (by rw [HLE.out, HE.out]; rfl), HB1.out⟩

set_option maxHeartbeats 1000000 in
/-- dayshiftref05.Month.Prev -/
theorem rprev_any (x : Nat) (k : Int) (v : Value) (w : World) (h : RMonth w v x) :
    Calls Tryd.prog 33 #[v, .int .i64 k] w fun e w' => e = .returned (.int .i64 (prevL (dl x) k)) ∧ Below w.heap.size w w' := by
  obtain ⟨g, hr⟩ := h
  have HR := hide hr
  obtain rfl := hr.val
  have hc := dl_le x
  clear hr
  have HB := hide ((Below.refl w.heap.size w).alloc (Nat.le_refl _) (.cells #[.slice (some ⟨g, 0, none⟩) 32 32] 32))
  go_enter Tryd.func33, Tryd.ntmps33
  go_wp2_with fail
  refine (rlist_any x _ _ ⟨g, HR.out.below HB.out⟩).mono ?_; rintro e w1 ⟨u, rfl, hu, hb⟩
  obtain ⟨ao, cap, rfl, -⟩ := own_shape hu
  have HB1 := hide (HB.out.trans (hb.mono HB.out.size))
  have HL := hide (list_open hu).2
  clear hu hb
  generalize hle : dl x = l at *
  have HLE := hide hle
  clear hle
  go_wp2
  go_loop [6] (fun t => ∃ i : Nat, i ≤ l.length ∧ t = .int .i64 ((i : Int) - 1) ∧ ∀ j (hj : j < l.length), i ≤ j → ¬ (l[j] : Int) < k) (fun t => (intOf t + 1).toNat)
  case atStart => exact ⟨l.length, Nat.le_refl _, rfl, fun j hj hj' => by omega⟩
  case round =>
    obtain ⟨i, hi, rfl, hno⟩ := hrel
    have HN := hide hno
    clear hno
    by_cases hlt : 1 ≤ i
    · obtain ⟨m, rfl⟩ : ∃ m, i = m + 1 := ⟨i - 1, by omega⟩
      obtain ⟨a, rfl, hcell⟩ := HL.out m (by omega)
      have hfw := fw_lt l m (by omega)
      have em : ((m + 1 : Nat) : Int) - 1 = (m : Int) := by omega
      rw [em]
      by_cases hd : (fw l m : Int) < k
      · have HE : Hid (prevL l k = fw l m) := prevL_at l k m (by omega) (fun j hj h => HN.out j hj (by omega)) (by rw [← hfw]; exact hd)
        clear hfw em
        go_wp2
        go_ret
        exact ⟨ret_int (by rw [HLE.out, HE.out]), HB1.out⟩
      · have HS : Hid (∀ j (hj : j < l.length), m ≤ j → ¬ (l[j] : Int) < k) := fun j hj hji => by
          by_cases hjj : j = m
          · subst hjj; rw [← hfw]; exact hd
          · exact HN.out j hj (by omega)
        clear hfw em
        go_wp2
        go_round
        case rel => exact ⟨m, by omega, rfl, HS.out⟩
        case measure => simp [intOf]
    · have HE : Hid (prevL l k = 0) := prevL_none l k (fun j hj => HN.out j hj (by omega))
      go_wp2
      go_ret
      exact ⟨ret_int (by rw [HLE.out, HE.out]; rfl), HB1.out⟩
end Go.Proofs.YtjalachjmmojhaaDoor
