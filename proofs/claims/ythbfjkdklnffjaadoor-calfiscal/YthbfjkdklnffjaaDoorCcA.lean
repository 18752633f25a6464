/- Package cal: the tests of numbers, as functions that are made (written by gen_cc.py). -/
import Derived.Test.YthbfjkdklnffjaaDoorJ5
namespace Go.Proofs.YthbfjkdklnffjaaDoor
open Go.ChangeShapes Go.WideShapes Go.ChangeAt Go.RowKit Go.DsMem Go.DsMk
set_option linter.unusedVariables false

def ptr (p : Nat) : Value := .pointer (some ⟨p, 0, none⟩)
def betB (a b k : Int) : Bool := decide (a ≤ k ∧ k ≤ b)
def endB (m k : Int) : Bool := decide (-m ≤ k ∧ k ≤ m ∧ k ≠ 0)
def oneB (l : List Int) (k : Int) : Bool := l.contains k

/-- cal.between$1 -/
theorem betF (a b k : Int) (p q : Nat) (w : World) (hp : w.cell? ⟨p, 0, none⟩ = some (.int .i64 a)) (hq : w.cell? ⟨q, 0, none⟩ = some (.int .i64 b)) :
    Calls Tryd.prog 70 #[.int .i64 k, .pointer (some ⟨p, 0, none⟩), .pointer (some ⟨q, 0, none⟩)] w fun e w' => e = .returned (.bool (betB a b k)) ∧ w' = w := by
  by_cases h1 : a ≤ k
  · have HE : Hid (betB a b k = decide (k ≤ b)) := by show _ = _; unfold betB; simp [h1]
    go_enter Tryd.func70, Tryd.ntmps70
    go_wp2
    go_ret
    exact ⟨ret_bool (by rw [HE.out]), rfl⟩
  · have HE : Hid (betB a b k = false) := by show _ = _; unfold betB; simp [h1]
    go_enter Tryd.func70, Tryd.ntmps70
    go_wp2
    go_ret
    exact ⟨ret_bool (by rw [HE.out]), rfl⟩
/-- cal.fromEitherEnd$1 -/
theorem endF (m k : Int) (p : Nat) (w : World) (h1 : 0 ≤ m) (h2 : m ≤ 100) (hp : w.cell? ⟨p, 0, none⟩ = some (.int .i64 m)) :
    Calls Tryd.prog 71 #[.int .i64 k, .pointer (some ⟨p, 0, none⟩)] w fun e w' => e = .returned (.bool (endB m k)) ∧ w' = w := by
  by_cases c1 : -m ≤ k
  · by_cases c2 : k ≤ m
    · have HE : Hid (endB m k = (k != 0)) := by
        show _ = _; unfold endB; by_cases h0 : k = 0 <;> simp [c1, c2, h0]
      go_enter Tryd.func71, Tryd.ntmps71
      go_wp2
      go_ret
      exact ⟨ret_bool (by rw [HE.out]), rfl⟩
    · have HE : Hid (endB m k = false) := by show _ = _; unfold endB; simp [c2]
      go_enter Tryd.func71, Tryd.ntmps71
      go_wp2
      go_ret
      exact ⟨ret_bool (by rw [HE.out]), rfl⟩
  · have HE : Hid (endB m k = false) := by show _ = _; unfold endB; simp [c1]
    go_enter Tryd.func71, Tryd.ntmps71
    go_wp2
    go_ret
    exact ⟨ret_bool (by rw [HE.out]), rfl⟩
def IdxR (l : List Int) (k r : Int) : Prop := decide (0 ≤ r) = l.contains k ∧ -1 ≤ r ∧ r ≤ 1000000
set_option maxHeartbeats 1000000 in
/-- slices.Index -/
theorem indexF (l : List Int) (k : Int) (sl : Value) (w : World) (h : RdI w sl l) (hl : l.length ≤ 1000000) :
    Calls Tryd.prog 75 #[sl, .int .i64 k] w fun e w' => ∃ r : Int, e = .returned (.int .i64 r) ∧ IdxR l k r ∧ w' = w := by
  obtain ⟨ao, cap, rfl, hlc, hnil, hrd⟩ := h
  have HRD := hide hrd
  clear hrd
  go_enter Tryd.func75, Tryd.ntmps75
  go_wp2
  go_loop [8] (fun t => ∃ i : Nat, i ≤ l.length ∧ t = .int .i64 i ∧ ¬ k ∈ l.take i) (fun t => l.length - (intOf t).toNat)
  case atStart => exact ⟨0, Nat.zero_le _, rfl, by simp⟩
  case round =>
    obtain ⟨i, hi, rfl, hno⟩ := hrel
    by_cases hlt : i < l.length
    · obtain ⟨a, rfl⟩ : ∃ a, ao = some a := by
        cases ao with
        | none => have := hnil rfl; omega
        | some a => exact ⟨a, rfl⟩
      have hc := HRD.out a rfl i l[i] (List.getElem?_eq_getElem hlt)
      have HM : Hid (l[i] ∈ l) := List.getElem_mem hlt
      have HTK : Hid (l.take (i + 1) = l.take i ++ [l[i]]) := List.take_succ_eq_append_getElem hlt
      generalize l[i] = x at *
      have HN := hide hno
      clear hno
      by_cases e1 : k = x
      · have HE : Hid (l.contains k = true) := by show _ = _; rw [List.contains_iff_mem, e1]; exact HM.out
        have b1 : (k == x) = true := by simpa using e1
        clear e1
        go_wp2
        go_ret
        exact ⟨_, rfl, show IdxR l k i from ⟨by rw [HE.out]; simp, by omega, by omega⟩, rfl⟩
      · have HS : Hid (¬ k ∈ l.take (i + 1)) := by show ¬ _; rw [HTK.out]; simp; exact ⟨HN.out, e1⟩
        have b1 : (k == x) = false := by simpa using e1
        clear e1
        go_wp2
        go_round
        case rel => exact ⟨i + 1, by omega, by go_num, HS.out⟩
        case measure => simp [intOf]; omega
    · have HE : Hid (l.contains k = false) := by
        show _ = _
        rw [List.take_of_length_le (by omega)] at hno
        rw [Bool.eq_false_iff]; intro hc; rw [List.contains_iff_mem] at hc; exact hno hc
      clear hno
      go_wp2
      go_ret
      exact ⟨-1, rfl, show IdxR l k (-1) from ⟨by rw [HE.out]; decide, by omega, by omega⟩, rfl⟩
/-- cal.oneOf$1 -/
theorem oneF (l : List Int) (k : Int) (p : Nat) (sl : Value) (w : World) (hp : w.cell? ⟨p, 0, none⟩ = some sl) (h : RdI w sl l) (hl : l.length ≤ 1000000) :
    Calls Tryd.prog 72 #[.int .i64 k, .pointer (some ⟨p, 0, none⟩)] w fun e w' => e = .returned (.bool (oneB l k)) ∧ w' = w := by
  have key : Calls Tryd.prog 73 #[sl, .int .i64 k] w fun e w' => e = .returned (.bool (oneB l k)) ∧ w' = w := by
    have HX := hide (indexF l k sl w h hl)
    obtain ⟨ao, cap, rfl, -, -, -⟩ := h
    go_enter Tryd.func73, Tryd.ntmps73
    go_wp2_with fail
    refine HX.out.mono ?_
    rintro e w1 ⟨r, rfl, ⟨hr, hr1, hr2⟩, rfl⟩
    have HR := hide hr
    clear hr
    go_wp2
    go_ret
    exact ⟨ret_bool (by unfold oneB; rw [← HR.out]), rfl⟩
  have HK := hide key
  clear key
  obtain ⟨ao, cap, rfl, -, -, -⟩ := h
  go_enter Tryd.func72, Tryd.ntmps72
  go_wp2_with fail
  refine HK.out.mono ?_
  rintro e w1 ⟨rfl, rfl⟩
  go_wp2
  go_ret
  exact ⟨rfl, rfl⟩

set_option maxHeartbeats 1000000 in
/-- cal.all, of cal.between$1 -/
theorem Gc.all_bet {W w : World} (h : Gc W w) (l : List Int) (sl : Value) (hr : RdI w sl l) (hl : l.length ≤ 1000000) (p q : Nat) (P : Int → Bool)
    (HF : Hid (∀ k w', Gc w w' → Calls Tryd.prog 70 #[.int .i64 k, .pointer (some ⟨p, 0, none⟩), .pointer (some ⟨q, 0, none⟩)] w' fun e w'' => e = .returned (.bool (P k)) ∧ Gc w w'')) :
    Calls Tryd.prog 59 #[sl, .func (.func 70) #[] #[.pointer (some ⟨p, 0, none⟩), .pointer (some ⟨q, 0, none⟩)]] w fun e w' => e = .returned (.bool (l.all P)) ∧ Gc W w' := by
  have HG := hide h
  have HRD := hide hr
  obtain ⟨ao, cap, rfl, hlc, hnil, -⟩ := hr
  clear h
  go_enter Tryd.func59, Tryd.ntmps59
  go_wp2
  go_loopw [9] (fun t wr => ∃ i : Nat, i ≤ l.length ∧ t = .int .i64 i ∧ (l.take i).all P = true ∧ Gc w wr) (fun t _ => l.length - (intOf t).toNat)
  case atStart => exact ⟨0, Nat.zero_le _, rfl, by simp, HG.out.here⟩
  case round =>
    obtain ⟨i, hi, rfl, hall, hg⟩ := hrel
    have HA := hide hall
    have HGr := hide hg
    clear hall hg
    by_cases hlt : i < l.length
    · obtain ⟨ao', cap', hv, -, -, hrd⟩ := HRD.out
      simp only [Value.slice.injEq] at hv
      obtain ⟨rfl, -, rfl⟩ := hv
      obtain ⟨a, rfl⟩ : ∃ a, ao = some a := by
        cases ao with
        | none => have := hnil rfl; omega
        | some a => exact ⟨a, rfl⟩
      have hc := Below.keeps HGr.out.below (Nat.le_refl _) (hrd a rfl i l[i] (List.getElem?_eq_getElem hlt))
      clear hrd
      have HM : Hid (l[i] ∈ l) := List.getElem_mem hlt
      have HTK : Hid (l.take (i + 1) = l.take i ++ [l[i]]) := List.take_succ_eq_append_getElem hlt
      generalize l[i] = x at *
      obtain ⟨b, hb⟩ : ∃ b, P x = b := ⟨_, rfl⟩
      have HB := hide hb
      clear hb
      go_wp2_with fail
      refine (HF.out x _ HGr.out).mono ?_
      rw [HB.out]
      rintro e w1 ⟨rfl, g1⟩
      have HG1 := hide g1
      clear g1
      cases b
      · have HE : Hid (l.all P = false) := by
          show _ = _
          rw [Bool.eq_false_iff]; intro hc
          have := List.all_eq_true.1 hc x HM.out
          rw [HB.out] at this; cases this
        go_wp2
        go_ret
        exact ⟨ret_bool (by rw [HE.out]), HG.out.more HG1.out.below⟩
      · have HS : Hid ((l.take (i + 1)).all P = true) := by show _ = _; rw [HTK.out, List.all_append, HA.out]; simp [HB.out]
        go_wp2
        go_roundw
        case rel => exact ⟨i + 1, by omega, by go_num, HS.out, HG1.out⟩
        case measure => simp [intOf]; omega
    · have HE : Hid (l.all P = true) := by have := HA.out; rwa [List.take_of_length_le (by omega)] at this
      go_wp2
      go_ret
      exact ⟨ret_bool (by rw [HE.out]), HG.out.more HGr.out.below⟩

set_option maxHeartbeats 1000000 in
/-- cal.all, of cal.fromEitherEnd$1 -/
theorem Gc.all_end {W w : World} (h : Gc W w) (l : List Int) (sl : Value) (hr : RdI w sl l) (hl : l.length ≤ 1000000) (p : Nat) (P : Int → Bool)
    (HF : Hid (∀ k w', Gc w w' → Calls Tryd.prog 71 #[.int .i64 k, .pointer (some ⟨p, 0, none⟩)] w' fun e w'' => e = .returned (.bool (P k)) ∧ Gc w w'')) :
    Calls Tryd.prog 59 #[sl, .func (.func 71) #[] #[.pointer (some ⟨p, 0, none⟩)]] w fun e w' => e = .returned (.bool (l.all P)) ∧ Gc W w' := by
  have HG := hide h
  have HRD := hide hr
  obtain ⟨ao, cap, rfl, hlc, hnil, -⟩ := hr
  clear h
  go_enter Tryd.func59, Tryd.ntmps59
  go_wp2
  go_loopw [9] (fun t wr => ∃ i : Nat, i ≤ l.length ∧ t = .int .i64 i ∧ (l.take i).all P = true ∧ Gc w wr) (fun t _ => l.length - (intOf t).toNat)
  case atStart => exact ⟨0, Nat.zero_le _, rfl, by simp, HG.out.here⟩
  case round =>
    obtain ⟨i, hi, rfl, hall, hg⟩ := hrel
    have HA := hide hall
    have HGr := hide hg
    clear hall hg
    by_cases hlt : i < l.length
    · obtain ⟨ao', cap', hv, -, -, hrd⟩ := HRD.out
      simp only [Value.slice.injEq] at hv
      obtain ⟨rfl, -, rfl⟩ := hv
      obtain ⟨a, rfl⟩ : ∃ a, ao = some a := by
        cases ao with
        | none => have := hnil rfl; omega
        | some a => exact ⟨a, rfl⟩
      have hc := Below.keeps HGr.out.below (Nat.le_refl _) (hrd a rfl i l[i] (List.getElem?_eq_getElem hlt))
      clear hrd
      have HM : Hid (l[i] ∈ l) := List.getElem_mem hlt
      have HTK : Hid (l.take (i + 1) = l.take i ++ [l[i]]) := List.take_succ_eq_append_getElem hlt
      generalize l[i] = x at *
      obtain ⟨b, hb⟩ : ∃ b, P x = b := ⟨_, rfl⟩
      have HB := hide hb
      clear hb
      go_wp2_with fail
      refine (HF.out x _ HGr.out).mono ?_
      rw [HB.out]
      rintro e w1 ⟨rfl, g1⟩
      have HG1 := hide g1
      clear g1
      cases b
      · have HE : Hid (l.all P = false) := by
          show _ = _
          rw [Bool.eq_false_iff]; intro hc
          have := List.all_eq_true.1 hc x HM.out
          rw [HB.out] at this; cases this
        go_wp2
        go_ret
        exact ⟨ret_bool (by rw [HE.out]), HG.out.more HG1.out.below⟩
      · have HS : Hid ((l.take (i + 1)).all P = true) := by show _ = _; rw [HTK.out, List.all_append, HA.out]; simp [HB.out]
        go_wp2
        go_roundw
        case rel => exact ⟨i + 1, by omega, by go_num, HS.out, HG1.out⟩
        case measure => simp [intOf]; omega
    · have HE : Hid (l.all P = true) := by have := HA.out; rwa [List.take_of_length_le (by omega)] at this
      go_wp2
      go_ret
      exact ⟨ret_bool (by rw [HE.out]), HG.out.more HGr.out.below⟩

set_option maxHeartbeats 1000000 in
/-- cal.all, of date.Right -/
theorem Gc.all_right {W w : World} (h : Gc W w) (l : List Int) (sl : Value) (hr : RdI w sl l) (hl : l.length ≤ 1000000)  (P : Int → Bool)
    (HF : Hid (∀ k w', Gc w w' → Calls Tryd.prog 23 #[.int .i64 k] w' fun e w'' => e = .returned (.bool (P k)) ∧ Gc w w'')) :
    Calls Tryd.prog 59 #[sl, .func (.func 23) #[] #[]] w fun e w' => e = .returned (.bool (l.all P)) ∧ Gc W w' := by
  have HG := hide h
  have HRD := hide hr
  obtain ⟨ao, cap, rfl, hlc, hnil, -⟩ := hr
  clear h
  go_enter Tryd.func59, Tryd.ntmps59
  go_wp2
  go_loopw [9] (fun t wr => ∃ i : Nat, i ≤ l.length ∧ t = .int .i64 i ∧ (l.take i).all P = true ∧ Gc w wr) (fun t _ => l.length - (intOf t).toNat)
  case atStart => exact ⟨0, Nat.zero_le _, rfl, by simp, HG.out.here⟩
  case round =>
    obtain ⟨i, hi, rfl, hall, hg⟩ := hrel
    have HA := hide hall
    have HGr := hide hg
    clear hall hg
    by_cases hlt : i < l.length
    · obtain ⟨ao', cap', hv, -, -, hrd⟩ := HRD.out
      simp only [Value.slice.injEq] at hv
      obtain ⟨rfl, -, rfl⟩ := hv
      obtain ⟨a, rfl⟩ : ∃ a, ao = some a := by
        cases ao with
        | none => have := hnil rfl; omega
        | some a => exact ⟨a, rfl⟩
      have hc := Below.keeps HGr.out.below (Nat.le_refl _) (hrd a rfl i l[i] (List.getElem?_eq_getElem hlt))
      clear hrd
      have HM : Hid (l[i] ∈ l) := List.getElem_mem hlt
      have HTK : Hid (l.take (i + 1) = l.take i ++ [l[i]]) := List.take_succ_eq_append_getElem hlt
      generalize l[i] = x at *
      obtain ⟨b, hb⟩ : ∃ b, P x = b := ⟨_, rfl⟩
      have HB := hide hb
      clear hb
      go_wp2_with fail
      refine (HF.out x _ HGr.out).mono ?_
      rw [HB.out]
      rintro e w1 ⟨rfl, g1⟩
      have HG1 := hide g1
      clear g1
      cases b
      · have HE : Hid (l.all P = false) := by
          show _ = _
          rw [Bool.eq_false_iff]; intro hc
          have := List.all_eq_true.1 hc x HM.out
          rw [HB.out] at this; cases this
        go_wp2
        go_ret
        exact ⟨ret_bool (by rw [HE.out]), HG.out.more HG1.out.below⟩
      · have HS : Hid ((l.take (i + 1)).all P = true) := by show _ = _; rw [HTK.out, List.all_append, HA.out]; simp [HB.out]
        go_wp2
        go_roundw
        case rel => exact ⟨i + 1, by omega, by go_num, HS.out, HG1.out⟩
        case measure => simp [intOf]; omega
    · have HE : Hid (l.all P = true) := by have := HA.out; rwa [List.take_of_length_le (by omega)] at this
      go_wp2
      go_ret
      exact ⟨ret_bool (by rw [HE.out]), HG.out.more HGr.out.below⟩
end Go.Proofs.YthbfjkdklnffjaaDoor
