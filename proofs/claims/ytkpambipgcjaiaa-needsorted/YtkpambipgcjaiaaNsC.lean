/- slices.Clone, SortStableFunc of needs; need.Sorted. -/
import Derived.Test.YtkpambipgcjaiaaNsB
import Derived.Test.YtkpambipgcjaiaaPmB
namespace Go.Proofs.Ytkpambipgcjaiaa
open Go.ChangeShapes Go.WideShapes Go.ChangeAt Go.RowKit Go.DsMem Go.DsCo Go.DsPl Go.DsMap
set_option linter.unusedVariables false
set_option linter.unusedSimpArgs false
def StRel (w wr : World) (g N : Nat) (L : List Ne) (a b : Value) : Prop := (a = .int .i64 0 ∧ b = .int .i64 20 ∧ wr = w) ∨ (a = .int .i64 20 ∧ b = .int .i64 40 ∧ (∃ M, SoAt wr g N M ∧ M.Perm L ∧ SortedN M) ∧ Only (· = g) w wr)
set_option maxHeartbeats 4000000 in
set_option maxRecDepth 20000 in
theorem stable_small (L : List Ne) (g N c : Nat) (w : World) (h : SoAt w g N L) (hL : L.length ≤ 20) (hc : L.length ≤ c) :
    Calls Try.prog 70 #[.slice (some ⟨g, 0, none⟩) L.length c, .func (.func 71) #[] #[]] w fun e w' => e = .returned (.tuple #[]) ∧ (∃ M, SoAt w' g N M ∧ M.Perm L ∧ SortedN M) ∧ Only (· = g) w w' := by
  have HI := hide (fun w h => insN_any L g N c w h (by omega) hc)
  have HN := hide (fun a b w h h0 h1 => insN_none (.slice (some ⟨g, 0, none⟩) L.length c) (.func (.func 71) #[] #[]) a b w h h0 h1)
  have HS := hide h
  have HX : Hid (∀ w, SoAt w g N L → Calls Try.prog 91 #[.slice (some ⟨g, 0, none⟩) L.length c, .int .i64 L.length, .func (.func 71) #[] #[]] w fun e w' => e = .returned (.tuple #[]) ∧ (∃ M, SoAt w' g N M ∧ M.Perm L ∧ SortedN M) ∧ Only (· = g) w w') := hide (fun w hs => by
    have HS := hide hs
    clear hs
    by_cases h20 : L.length = 20
    · rw [h20] at HI HN ⊢
      have e20 : (((20 : Nat) : Nat) : Int) = 20 := rfl
      rw [e20] at HI ⊢
      go_enter Try.func91, Try.ntmps91
      go_wp2
      go_loopw [7, 8] (fun a b wr => StRel w wr g N L a b) (fun _ b _ => (40 - intOf b).toNat)
      case atStart => exact .inl ⟨rfl, rfl, rfl⟩
      case round =>
        unfold StRel at hrel
        rcases hrel with ⟨rfl, rfl, rfl⟩ | ⟨rfl, rfl, hm, ho⟩
        · go_wp2_with fail
          refine (HI.out _ HS.out).mono ?_
          rintro e w2 ⟨rfl, hm, ho⟩
          have HM := hide hm
          have HO := hide ho
          clear hm ho
          go_wp2
          go_roundw
          case rel => exact .inr ⟨rfl, rfl, HM.out, HO.out⟩
          case measure => simp [intOf]
        · have HM := hide hm
          have HO := hide ho
          clear hm ho
          go_wp2_with fail
          refine (HN.out 20 20 _ (by omega) (by omega) (by omega)).mono ?_
          rintro e w2 ⟨rfl, rfl⟩
          go_wp2
          go_loopw [6] (fun b wr => b = .int .i64 20 ∧ (∃ M, SoAt wr g N M ∧ M.Perm L ∧ SortedN M) ∧ Only (· = g) w wr) (fun _ _ => 0)
          case atStart => exact ⟨rfl, HM.out, HO.out⟩
          case round =>
            clear HM HO
            obtain ⟨rfl, hm, ho⟩ := hrel
            have HM := hide hm
            have HO := hide ho
            clear hm ho
            go_wp2
            go_end0
            exact ⟨rfl, HM.out, HO.out⟩
    · have hl : ¬ (20 : Int) ≤ ((L.length : Nat) : Int) := by omega
      have hl2 : ¬ (20 : Int) < ((L.length : Nat) : Int) := by omega
      clear h20
      go_enter Try.func91, Try.ntmps91
      go_wp2
      go_loopw [7, 8] (fun a b wr => a = .int .i64 0 ∧ b = .int .i64 20 ∧ wr = w) (fun _ _ _ => 0)
      case atStart => exact ⟨rfl, rfl, rfl⟩
      case round =>
        obtain ⟨rfl, rfl, rfl⟩ := hrel
        go_wp2_with fail
        refine (HI.out _ HS.out).mono ?_
        rintro e w2 ⟨rfl, hm, ho⟩
        have HM := hide hm
        have HO := hide ho
        clear hm ho
        go_wp2
        go_loopw [6] (fun b wr2 => b = .int .i64 20 ∧ (∃ M, SoAt wr2 g N M ∧ M.Perm L ∧ SortedN M) ∧ Only (· = g) wr wr2) (fun _ _ => 0)
        case atStart => exact ⟨rfl, HM.out, HO.out⟩
        case round =>
          clear HM HO
          obtain ⟨rfl, hm, ho⟩ := hrel
          have HM := hide hm
          have HO := hide ho
          clear hm ho
          go_wp2
          go_end0
          exact ⟨rfl, HM.out, HO.out⟩)
  clear h hL
  go_enter Try.func70, Try.ntmps70
  go_wp2_with fail
  refine (HX.out _ HS.out).mono ?_
  rintro e w2 ⟨rfl, hm, ho⟩
  have HM := hide hm
  have HO := hide ho
  clear hm ho
  go_wp2
  go_end0
  exact ⟨rfl, HM.out, HO.out⟩
theorem stable_none (v c : Value) (uo : Option Addr) (uc : Nat) (hv : v = .slice uo 0 uc) (w : World) : Calls Try.prog 70 #[v, c] w fun e w' => e = .returned (.tuple #[]) ∧ w' = w := by
  subst hv
  have HN := hide (fun a b w h h0 h1 => insN_none (.slice uo 0 uc) c a b w h h0 h1)
  have HX : Hid (∀ w, Calls Try.prog 91 #[.slice uo 0 uc, .int .i64 0, c] w fun e w' => e = .returned (.tuple #[]) ∧ w' = w) := hide (fun w => by
    go_enter Try.func91, Try.ntmps91
    go_wp2
    go_loop [7, 8] (fun a b => a = .int .i64 0 ∧ b = .int .i64 20) (fun _ _ => 0)
    case atStart => exact ⟨rfl, rfl⟩
    case round =>
      obtain ⟨rfl, rfl⟩ := hrel
      go_wp2_with fail
      refine (HN.out 0 0 _ (by omega) (by omega) (by omega)).mono ?_
      rintro e w2 ⟨rfl, rfl⟩
      go_wp2
      go_loop [6] (fun b => b = .int .i64 20) (fun _ => 0)
      case atStart => rfl
      case round =>
        obtain rfl := hrel
        go_wp2
        go_end0
        exact ⟨rfl, rfl⟩)
  go_enter Try.func70, Try.ntmps70
  go_wp2_with fail
  refine (HX.out _).mono ?_
  rintro e w2 ⟨rfl, rfl⟩
  go_wp2
  go_end0
  exact ⟨rfl, rfl⟩
theorem SoAt.of_row {w : World} {b g n c : Nat} {l : List Ne} (h : w.ownsRow b 61 3 (.slice (some ⟨g, 0, none⟩) n c) n (neRow l)) (hn : n = l.length) : ∃ N, SoAt w g N l ∧ b ≤ g ∧ l.length ≤ c := by
  rcases h.2 with ⟨h0, _⟩ | ⟨g', cap, cur, hv, hb, hg, h1, h2, h3, h4⟩
  · cases h0
  · simp only [Value.slice.injEq, Option.some.injEq, Addr.mk.injEq] at hv
    obtain ⟨⟨rfl, -⟩, -, rfl⟩ := hv
    refine ⟨cur.size, ⟨cur, hg, rfl, by omega, fun j hj => ?_⟩, hb, by omega⟩
    have key : ∀ k, k < 3 → cur[j * 3 + k]? = (neC l[j])[k]? := fun k hk => by
      have e : cur[j * 3 + k]? = (cur.toList.take (n * 3))[j * 3 + k]? := by
        rw [List.getElem?_take, if_pos (by omega)]; simp
      rw [e, h4, neRow_at l j k l[j] hk (List.getElem?_eq_getElem hj)]
    exact ⟨key 0 (by decide), key 1 (by decide), key 2 (by decide)⟩
/-- what Clone tells -/
def Cloned (w : World) (l : List Ne) (e : Ending) (w' : World) : Prop := ∃ vo vc, e = .returned (.slice vo l.length vc) ∧ (0 < l.length → ∃ g N, vo = some ⟨g, 0, none⟩ ∧ SoAt w' g N l ∧ w.heap.size ≤ g ∧ l.length ≤ vc) ∧ Below w.heap.size w w'
theorem neRow_len (l : List Ne) : (neRow l).length = l.length * 3 := by
  induction l with
  | nil => rfl
  | cons x r ih => simp [neRow, neC] at ih ⊢; omega
theorem neRow_ones (l : List Ne) : ∀ u ∈ neRow l, u.oneCell' = true := fun u hu => by
  unfold neRow at hu
  obtain ⟨n, _, hn⟩ := List.mem_flatMap.1 hu
  exact neC_one n u hn
set_option maxHeartbeats 4000000 in
set_option maxRecDepth 20000 in
theorem clone_any (l : List Ne) (uo : Option Addr) (uc : Nat) (w : World) (hr : NeRd w uo l) (hl : l.length ≤ 1000) :
    Calls Try.prog 69 #[.slice uo l.length uc] w (Cloned w l) := by
  obtain ⟨i0, hi0, hz0, hz1, hz2⟩ := info_parts infoNe
  cases uo with
  | none =>
    have h0 : l.length = 0 := by
      cases l with
      | nil => rfl
      | cons x r => obtain ⟨g, e, _⟩ := hr (by simp); cases e
    have hnil : ∀ w, (binOp .eql 50 (.slice none 0 uc) (.slice none 0 0)).run Try.prog w = .ok (.bool true) w := fun w => by kernel_rfl
    rw [h0]
    clear hr
    go_enter Try.func69, Try.ntmps69
    go_wp2
    go_ret
    exact ⟨none, 0, congrArg (fun n : Nat => Ending.returned (.slice none n 0)) h0.symm, fun h => absurd h (by omega), Below.refl _ _⟩
  | some ad =>
    have hnews : ∀ j u, (neRow l)[j]? = some u → w.cell? (ad.add j) = some u := fun j u hu => by
      by_cases h0 : 0 < l.length
      · obtain ⟨g, e, hg, hc⟩ := hr h0
        cases e
        have hj : j < (neRow l).length := (List.getElem?_eq_some_iff.1 hu).1
        rw [neRow_len] at hj
        obtain ⟨q, k, hk, rfl⟩ : ∃ q k, k < 3 ∧ j = q * 3 + k := ⟨j / 3, j % 3, by omega, by omega⟩
        have hq : q < l.length := by omega
        rw [neRow_at l q k l[q] hk (List.getElem?_eq_getElem hq)] at hu
        obtain ⟨c0, c1, c2⟩ := hc q l[q] (List.getElem?_eq_getElem hq)
        rw [add_mk, Nat.zero_add]
        match k, hk, hu with
        | 0, _, hu => simp [neC] at hu; subst hu; exact c0
        | 1, _, hu => simp [neC] at hu; subst hu; exact c1
        | 2, _, hu => simp [neC] at hu; subst hu; exact c2
      · have : l = [] := List.eq_nil_of_length_eq_zero (by omega)
        subst this
        simp [neRow] at hu
    have hnil : ∀ n w, (binOp .eql 50 (.slice (some ad) n uc) (.slice none 0 0)).run Try.prog w = .ok (.bool false) w := fun n w => by kernel_rfl
    have HNW := hide hnews
    clear hr hnews
    go_enter Try.func69, Try.ntmps69
    go_wp2_with (at_builtin; refine Hid.out ?_)
    refine hide ?_
    have hrow : (w.alloc (.cells #[] 61)).ownsRow w.heap.size 61 3 (.slice (some ⟨w.heap.size, 0, none⟩) 0 0) 0 [] := ⟨rfl, .inr ⟨w.heap.size, 0, #[], rfl, Nat.le_refl _, heap_alloc_new w _, Nat.le_refl _, by unfold maxLen; omega, rfl, rfl⟩⟩
    have hnw2 : ∀ j u, (neRow l)[j]? = some u → (w.alloc (.cells #[] 61)).cell? (ad.add j) = some u := fun j u hu => Below.keeps (bel1 w _) (Nat.le_refl _) (HNW.out j u hu)
    refine wpList_append_own _ rfl _ _ 50 rfl w.heap.size 61 i0 _ 3 32 Try.underlying50 hi0 hz0 hz1 hz2 rfl (by decide) _ 0 _ rfl hrow ad l.length uc (neRow l) rfl (neRow_len l) hnw2 (neRow_ones l) (by unfold maxLen; omega) (by omega) (by simp) ?_
    intro v' w6 hown hgr hni
    rw [Nat.zero_add, List.nil_append] at hown
    have hb6 : Below w.heap.size w w6 := ((bel1 w (.cells #[] 61))).trans ((Only.grown hgr).toBelow (by simp) (fun i e => by
      have : some w.heap.size = some i := e
      cases this; exact Nat.le_refl _))
    have HB6 := hide hb6
    have HCL : Hid (∃ vo vc, v' = .slice vo l.length vc ∧ (0 < l.length → ∃ g N, vo = some ⟨g, 0, none⟩ ∧ SoAt w6 g N l ∧ w.heap.size ≤ g ∧ l.length ≤ vc)) := hide (by
      rcases hown.2 with ⟨rfl, h0⟩ | ⟨g, cap, cur, rfl, r⟩
      · exact ⟨none, 0, by rw [h0], fun h => absurd h (by omega)⟩
      · obtain ⟨N, hs, hg, hc⟩ := SoAt.of_row hown rfl
        exact ⟨some ⟨g, 0, none⟩, cap, rfl, fun _ => ⟨g, N, rfl, hs, hg, hc⟩⟩)
    clear hown hgr hni hrow hnw2 hb6
    obtain ⟨vo, vc, rfl, hcl⟩ := HCL.out
    have HC2 := hide hcl
    clear hcl HCL
    go_wp2
    go_ret
    exact ⟨vo, vc, rfl, HC2.out, HB6.out⟩
/-- what Sorted tells -/
def SortedT (w : World) (l : List Ne) (e : Ending) (w' : World) : Prop := ∃ vo vc M, e = .returned (.slice vo l.length vc) ∧ M.Perm l ∧ SortedN M ∧ NeRd w' vo M ∧ l.length ≤ vc + l.length ∧ (0 < l.length → l.length ≤ vc) ∧ Below w.heap.size w w'
set_option maxHeartbeats 4000000 in
set_option maxRecDepth 20000 in
/-- need.Sorted -/
theorem sorted_any (l : List Ne) (uo : Option Addr) (uc : Nat) (w : World) (hr : NeRd w uo l) (hl : l.length ≤ 20) :
    Calls Try.prog 38 #[.slice uo l.length uc] w (SortedT w l) := by
  have HC := hide (clone_any l uo uc w hr (by omega))
  have HSN := hide (fun uo uc w => stable_none (.slice uo 0 uc) (.func (.func 71) #[] #[]) uo uc rfl w)
  have HSM := hide (fun g N c w h hc => stable_small l g N c w h hl hc)
  clear hr
  unfold Cloned at HC
  by_cases h0 : 0 < l.length
  · go_enter Try.func38, Try.ntmps38
    go_wp2_with fail
    refine HC.out.mono ?_
    rintro e w1 ⟨vo, vc, rfl, hcl, hb⟩
    obtain ⟨g, N, rfl, hs, hg, hcc⟩ := hcl h0
    have HB := hide hb
    have HS := hide hs
    clear hb hs hcl HC
    go_wp2_with fail
    refine (HSM.out g N vc _ HS.out hcc).mono ?_
    rintro e w2 ⟨rfl, ⟨M, hs, hp, hso⟩, ho⟩
    have HS2 := hide hs
    have HP := hide hp
    have HSO := hide hso
    have HB2 : Hid (Below w.heap.size w w2) := hide (HB.out.trans (ho.toBelow HB.out.size (fun i e => by rw [e]; exact hg)))
    clear hs hp hso ho
    go_wp2
    go_ret
    exact ⟨some ⟨g, 0, none⟩, vc, M, rfl, HP.out, HSO.out, fun _ => ⟨g, rfl, HS2.out.lt, fun j n hj => by
      obtain ⟨hlt, rfl⟩ := List.getElem?_eq_some_iff.1 hj
      exact HS2.out.cells j hlt⟩, by omega, fun _ => hcc, HB2.out⟩
  · have hz : l.length = 0 := by omega
    have hln : l = [] := List.eq_nil_of_length_eq_zero hz
    subst hln
    simp only [List.length_nil] at HC ⊢
    go_enter Try.func38, Try.ntmps38
    go_wp2_with fail
    refine HC.out.mono ?_
    rintro e w1 ⟨vo, vc, rfl, hcl, hb⟩
    have HB := hide hb
    clear hb hcl HC
    go_wp2_with fail
    refine (HSN.out vo vc _).mono ?_
    rintro e w2 ⟨rfl, rfl⟩
    go_wp2
    go_ret
    exact ⟨vo, vc, [], rfl, List.Perm.refl _, List.Pairwise.nil, fun h => absurd h (by simp), by omega, fun h => absurd h (by simp), HB.out⟩
end Go.Proofs.Ytkpambipgcjaiaa
