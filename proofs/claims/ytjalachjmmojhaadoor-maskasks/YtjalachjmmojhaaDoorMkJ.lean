/- The walk of MaskGoes. -/
import Derived.Test.YtjalachjmmojhaaDoorMkG
namespace Go.DsMk
/-- the j-th from the end, 0 if there is none -/
def rv (l : List Nat) (j : Nat) : Nat := l.reverse[j]?.getD 0
/-- the j-th, 0 if there is none -/
def fw (l : List Nat) (j : Nat) : Nat := l[j]?.getD 0
theorem fw_lt (l : List Nat) (j : Nat) (h : j < l.length) : fw l j = l[j] := by unfold fw; rw [List.getElem?_eq_getElem h]; rfl
theorem fw_ge (l : List Nat) (j : Nat) (h : l.length ≤ j) : fw l j = 0 := by unfold fw; rw [List.getElem?_eq_none h]; rfl
theorem rv_lt (l : List Nat) (j : Nat) (h : j < l.length) : rv l j = l[l.length - 1 - j] := by
  unfold rv; rw [List.getElem?_eq_getElem (by simpa using h), Option.getD_some, List.getElem_reverse]
theorem rv_ge (l : List Nat) (j : Nat) (h : l.length ≤ j) : rv l j = 0 := by unfold rv; rw [List.getElem?_eq_none (by simpa using h)]; rfl
theorem prev_idx (l : List Nat) (hs : l.Pairwise (· < ·)) (j : Nat) (hj : j < l.length) : prevL l (l[j] : Int) = if j = 0 then 0 else fw l (j - 1) := by
  unfold prevL
  have e : l.filter (fun z : Nat => decide ((z : Int) < (l[j] : Int))) = l.take j := by
    have hA : ∀ z ∈ l.take j, z < l[j] := by
      intro z hz
      obtain ⟨i, hi, rfl⟩ := List.getElem_of_mem hz
      rw [List.length_take] at hi
      rw [List.getElem_take]
      exact List.pairwise_iff_getElem.1 hs i j (by omega) hj (by omega)
    have hB : ∀ z ∈ l.drop j, ¬ z < l[j] := by
      intro z hz hlt
      obtain ⟨i, hi, rfl⟩ := List.getElem_of_mem hz
      rw [List.length_drop] at hi
      rw [List.getElem_drop] at hlt
      rcases Nat.eq_zero_or_pos i with rfl | h
      · simp at hlt
      · have := List.pairwise_iff_getElem.1 hs j (j + i) hj (by omega) (by omega); omega
    have e1 : (l.take j).filter (fun z : Nat => decide ((z : Int) < (l[j] : Int))) = l.take j := List.filter_eq_self.2 (fun z hz => by have := hA z hz; simp; omega)
    have e2 : (l.drop j).filter (fun z : Nat => decide ((z : Int) < (l[j] : Int))) = [] := List.filter_eq_nil_iff.2 (fun z hz => by have := hB z hz; simp; omega)
    have := List.filter_append (p := fun z : Nat => decide ((z : Int) < (l[j] : Int))) (l.take j) (l.drop j)
    rw [List.take_append_drop, e1, e2, List.append_nil] at this
    exact this
  rw [e]
  split
  · rename_i h; subst h; rfl
  · rename_i h
    rw [List.getLast?_eq_getElem?, List.length_take, Nat.min_eq_left (by omega), List.getElem?_take, if_pos (by omega)]
    rfl
theorem prev_rv (l : List Nat) (hs : l.Pairwise (· < ·)) (j : Nat) (hj : j < l.length) : prevL l (rv l j : Int) = rv l (j + 1) := by
  rw [rv_lt l j hj, prev_idx l hs _ (by omega)]
  split
  · rw [rv_ge l (j + 1) (by omega)]
  · rw [rv_lt l (j + 1) (by omega), fw_lt l _ (by omega)]
    congr 1
theorem prev_end (l : List Nat) (h : ∀ z ∈ l, 1 ≤ z ∧ z ≤ 31) : prevL l 32 = rv l 0 := by
  unfold prevL rv
  rw [List.filter_eq_self.2 (fun z hz => by have := h z hz; simp; omega), List.getLast?_eq_getElem?]
  by_cases h0 : l.length = 0
  · rw [List.eq_nil_of_length_eq_zero h0]; rfl
  · rw [List.getElem?_reverse (by omega), Nat.sub_zero]
theorem next_fw (l : List Nat) (j : Nat) : (l[j]?).getD 0 = fw l j := rfl
theorem nth_fw (l : List Nat) (j : Nat) : nthL l ((j : Int) + 1) = fw l j := by
  rw [nthL_up _ _ (by omega)]; unfold fw; congr 2; omega
theorem nth_rv (l : List Nat) (j : Nat) (h : j < l.length) : nthL l (-1 - (j : Int)) = rv l j := by
  rw [nthL_down _ _ (by omega) (by omega), rv_lt l j h]
  rw [show ((-1 - (j : Int)) + (l.length + 1) - 1).toNat = l.length - 1 - j by omega, List.getElem?_eq_getElem (by omega)]; rfl
theorem nth_zero (l : List Nat) : nthL l 0 = 0 := nthL_no _ _ (.inl rfl)
theorem has_fw (x j : Nat) (h : j < (dl x).length) : hasB x (fw (dl x) j : Int) = true := by
  rw [has_mem, decide_eq_true_eq, fw_lt _ _ h]
  exact ⟨by omega, by simp⟩
end Go.DsMk
namespace Go.Proofs.YtjalachjmmojhaaDoor
open Go.ChangeShapes Go.WideShapes Go.ChangeAt Go.RowKit Go.DsMem Go.DsMk
set_option linter.unusedVariables false

theorem Gd.list {W w : World} (h : Gd W w) (x : Nat) (hx : x < 4294967296) :
    Calls Tryd.prog 34 #[.int .u32 x] w fun e w' => ∃ v, e = .returned v ∧ w'.ownsRow w.heap.size 2 1 v (dl x).length (i64s (ints (dl x))) ∧ Gd W w' :=
  (list_any x w hx h.tabT).mono fun _ _ ⟨v, he, ho, hb⟩ => ⟨v, he, ho, h.more hb⟩
theorem ints_len (l : List Nat) : (ints l).length = l.length := by simp [ints]
theorem ints_at (l : List Nat) (j : Nat) (h : j < l.length) : (ints l)[j]? = some (fw l j : Int) := by
  rw [fw_lt l j h]; simp [ints, List.getElem?_eq_getElem h]

set_option maxHeartbeats 2000000 in
theorem goes_walk0 (x : Nat) (W : World) (ht : TabT W) (hx : x < 4294967296) :
    Calls Tryd.prog 6 #[.int .u32 x] W fun e w' => e = .returned (.bool true) ∧ Gd W w' := by
  have h := Gd.here ht
  have hc := dl_le x
  obtain ⟨l, hl⟩ : ∃ l, dl x = l := ⟨_, rfl⟩
  have HL := hide hl
  have F0 : Hid (nextL (dl x) 0 = fw l 0) := by show _ = _; rw [hl, next0 l (fun z hz => (dl_pos x z (by rw [hl]; exact hz)).1)]; rfl
  have E0 : Hid (prevL (dl x) 32 = rv l 0) := by show _ = _; rw [hl]; exact prev_end l (fun z hz => dl_pos x z (by rw [hl]; exact hz))
  have NX : Hid (∀ j, j < l.length → nextL (dl x) (fw l j : Int) = fw l (j + 1)) := fun j hj => by
    subst hl; rw [fw_lt _ _ hj]; exact next_idx _ (dl_sorted x) (fun z hz => (dl_pos x z hz).1) j hj
  have PV : Hid (∀ j, j < l.length → prevL (dl x) (rv l j : Int) = rv l (j + 1)) := fun j hj => by subst hl; exact prev_rv _ (dl_sorted x) j hj
  have NF : Hid (∀ j : Nat, nthL (dl x) ((j : Int) + 1) = fw l j) := fun j => by subst hl; exact nth_fw _ j
  have NR : Hid (∀ j : Nat, j < l.length → nthL (dl x) (-1 - (j : Int)) = rv l j) := fun j hj => by subst hl; exact nth_rv _ j hj
  have N0 : Hid (nthL (dl x) 0 = 0) := nth_zero _
  have HF : Hid (∀ j, j < l.length → hasB x (fw l j : Int) = true) := fun j hj => by subst hl; exact has_fw x j hj
  have HC : Hid ((dl x).length = l.length) := congrArg List.length hl
  have FE : Hid (∀ j, j < l.length → fw l (l.length - 1 - j) = rv l j) := fun j hj => by rw [rv_lt l j hj, fw_lt l _ (by omega)]
  have BD : Hid (∀ j, fw l j ≤ 31 ∧ rv l j ≤ 31) := fun j => by
    have hp : ∀ z ∈ l, z ≤ 31 := fun z hz => (dl_pos x z (by rw [hl]; exact hz)).2
    constructor
    · by_cases hj : j < l.length
      · rw [fw_lt _ _ hj]; exact hp _ (List.getElem_mem hj)
      · rw [fw_ge _ _ (by omega)]; omega
    · by_cases hj : j < l.length
      · rw [rv_lt _ _ hj]; exact hp _ (List.getElem_mem _)
      · rw [rv_ge _ _ (by omega)]; omega
  rw [hl] at hc
  clear ht hl
  go_enter Tryd.func6, Tryd.ntmps6
  go_wp2_with fail
  refine (h.list _ hx).mono ?_; rintro e w1 ⟨v, rfl, ho, hg⟩
  rw [HL.out] at ho
  have HR := hide (RdI.own ho)
  obtain ⟨ao, cap, rfl, hcap⟩ := own_shape ho
  have h1 : Gd w1 w1 := Gd.here hg.tabT
  have HG := hide hg
  clear ho hg h
  go_wp2_with fail
  refine (h1.next _ _ hx F0.out).mono ?_; rintro e w2 ⟨rfl, h2⟩
  go_wp2_with fail
  refine (h2.prev _ _ hx (by decide) (by decide) E0.out).mono ?_; rintro e w3 ⟨rfl, h3⟩
  go_wp2
  clear h1 h2
  go_loopw [5, 6, 7] (fun d e i wr => ∃ k : Nat, k ≤ l.length ∧ i = .int .i64 k ∧ d = .int .i64 (fw l k) ∧ e = .int .i64 (rv l k) ∧ Gd w1 wr) (fun _ _ i _ => l.length - (intOf i).toNat)
  case atStart => exact ⟨0, Nat.zero_le _, rfl, rfl, rfl, h3⟩
  case round =>
    obtain ⟨k, hk, rfl, rfl, rfl, hg⟩ := hrel
    obtain ⟨b1, b2⟩ := BD.out k
    by_cases hlt : k < l.length
    · obtain ⟨ao', cap', hv, hlc, hnil, hrd⟩ := HR.out
      rw [ints_len] at hv
      simp only [Value.slice.injEq] at hv
      obtain ⟨rfl, -, rfl⟩ := hv
      obtain ⟨a, rfl⟩ : ∃ a, ao = some a := by
        cases ao with
        | none => have := hnil rfl; rw [ints_len] at this; omega
        | some a => exact ⟨a, rfl⟩
      have c1 : wr.cell? (a.add k) = some (.int .i64 (fw l k)) := Below.keeps hg.below (Nat.le_refl _) (hrd a rfl k _ (ints_at l k hlt))
      have c2 : wr.cell? (a.add (l.length - 1 - k)) = some (.int .i64 (rv l k)) := by
        rw [← FE.out k hlt]; exact Below.keeps hg.below (Nat.le_refl _) (hrd a rfl _ _ (ints_at l _ (by omega)))
      have C2 : Hid (∀ w, Gd w1 w → w.cell? (a.add (l.length - 1 - k)) = some (.int .i64 (rv l k))) := fun w hw => by
        rw [← FE.out k hlt]; exact Below.keeps hw.below (Nat.le_refl _) (hrd a rfl _ _ (ints_at l _ (by omega)))
      clear hrd hnil hlc c2
      have f1 := NF.out k
      have f2 := NR.out k hlt
      have f3 := HF.out k hlt
      have f4 := NX.out k hlt
      have f5 := PV.out k hlt
      have G1 := hide f1
      have G2 := hide f2
      have G3 := hide f3
      have G4 := hide f4
      have G5 := hide f5
      clear f1 f2 f3 f4 f5
      generalize fw l k = d at *
      generalize rv l k = e at *
      go_wp2_with fail
      refine (hg.nth _ _ hx (by omega) (by omega) G1.out).mono ?_; rintro e' w4 ⟨rfl, h4⟩
      have c2 := C2.out w4 h4
      go_wp2_with fail
      refine (h4.nth _ _ hx (by omega) (by omega) G2.out).mono ?_; rintro e' w5 ⟨rfl, h5⟩
      go_wp2_with fail
      refine (h5.has _ _ hx G3.out).mono ?_; rintro e' w6 ⟨rfl, h6⟩
      go_wp2_with fail
      refine (h6.next _ _ hx G4.out).mono ?_; rintro e' w7 ⟨rfl, h7⟩
      go_wp2_with fail
      refine (h7.prev _ _ hx (by omega) (by omega) G5.out).mono ?_; rintro e' w8 ⟨rfl, h8⟩
      go_wp2
      go_roundw
      case rel => exact ⟨k + 1, by omega, by go_num, rfl, rfl, h8⟩
      case measure => simp [intOf]; omega
    · have z1 : fw l k = 0 := fw_ge _ _ (by omega)
      have z2 : rv l k = 0 := rv_ge _ _ (by omega)
      rw [z1, z2]
      clear z1 z2
      go_wp2_with fail
      refine (hg.nth _ _ hx (by decide) (by decide) N0.out).mono ?_; rintro e' w5 ⟨rfl, h5⟩
      go_wp2_with fail
      refine (h5.count _ hx HC.out).mono ?_; rintro e' w6 ⟨rfl, h6⟩
      go_wp2_with fail
      refine h6.known.mono ?_; rintro e' w7 ⟨rfl, h7⟩
      go_wp2
      go_ret
      exact ⟨rfl, HG.out.more h7.below⟩
theorem goes_walk (a0 : Int) (W : World) (ht : TabT W) (h0 : 0 ≤ a0 ∧ a0 ≤ 4294967295) :
    Calls Tryd.prog 6 #[.int .u32 a0] W fun e w' => e = .returned (.bool true) ∧ Below W.heap.size W w' := by
  obtain ⟨x, rfl⟩ := Int.eq_ofNat_of_zero_le h0.1
  exact (goes_walk0 x W ht (by omega)).mono fun _ _ ⟨he, hg⟩ => ⟨he, hg.below⟩
end Go.Proofs.YtjalachjmmojhaaDoor
