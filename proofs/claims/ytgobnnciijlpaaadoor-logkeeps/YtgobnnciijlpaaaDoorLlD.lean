/- Lists of records, one behind another; the walk of LogTwo. -/
import Derived.Test.YtgobnnciijlpaaaDoorLlC
namespace Go.Proofs.YtgobnnciijlpaaaDoor
open Go.ChangeShapes Go.WideShapes Go.ChangeAt Go.RowKit Go.DsMem Go.DsDk Go.DsLg
set_option linter.unusedVariables false

/-- a row of one's own, of slices that read as these records -/
structure ListOf (B : Nat) (w : World) (v : Value) (vals : List Value) (recs : List (List UInt8)) : Prop where
  row : w.ownsRow B 28 1 v recs.length vals
  each : ∀ (i : Nat) (r : List UInt8), recs[i]? = some r → ∃ xo xc, vals[i]? = some (.slice xo r.length xc) ∧ Rd w (.slice xo r.length xc) r
theorem ListOf.nil (B : Nat) (w : World) : ListOf B w (.slice none 0 0) [] [] := ⟨World.ownsRow_nil _ _ _ _, fun i r h => by simp at h⟩
theorem ListOf.rds {B : Nat} {w : World} {v : Value} {vals : List Value} {recs : List (List UInt8)} (h : ListOf B w v vals recs) : RdLs w v recs := by
  rcases h.row.2 with ⟨rfl, h0⟩ | ⟨g, cap, cur, rfl, hbg, hg, _⟩
  · exact ⟨none, 0, by rw [h0], fun i r hr => by have := (List.getElem?_eq_some_iff.1 hr).1; omega⟩
  · refine ⟨some ⟨g, 0, none⟩, cap, rfl, fun i r hr => ?_⟩
    obtain ⟨xo, xc, h1, h2⟩ := h.each i r hr
    exact ⟨⟨g, 0, none⟩, xo, xc, rfl, h.row.cells (g := g) rfl i _ h1, h2⟩
/-- records that are read, as a list of slices -/
theorem RdLs.vals {w : World} {ao : Option Addr} {n c : Nat} {l : List (List UInt8)} (h : RdLs w (.slice ao n c) l) : ∃ vals : List Value, vals.length = l.length ∧ (∀ u ∈ vals, u.oneCell' = true) ∧ (∀ a, ao = some a → ∀ j u, vals[j]? = some u → w.cell? (a.add j) = some u) ∧
    ∀ (i : Nat) (r : List UInt8), l[i]? = some r → ∃ xo xc, vals[i]? = some (.slice xo r.length xc) ∧ Rd w (.slice xo r.length xc) r := by
  obtain ⟨ao', cap, hv, he⟩ := h
  simp only [Value.slice.injEq] at hv
  obtain ⟨rfl, _, _⟩ := hv
  obtain ⟨F, hF⟩ := Go.Deep.choose_lt (α := Value) (n := l.length) (p := fun i u => ∃ r xo xc, l[i]? = some r ∧ u = .slice xo r.length xc ∧ Rd w (.slice xo r.length xc) r ∧ ∀ a, ao = some a → w.cell? (a.add i) = some u) (fun i hi => by
    obtain ⟨a, xo, xc, rfl, h2, h3⟩ := he i l[i] (List.getElem?_eq_getElem hi)
    exact ⟨_, l[i], xo, xc, List.getElem?_eq_getElem hi, rfl, h3, fun b hb => by cases hb; exact h2⟩)
  have hg : ∀ (j : Nat) (u : Value), ((List.range l.length).map F)[j]? = some u → j < l.length ∧ u = F j := by
    intro j u hj
    have hjl : j < l.length := by have := (List.getElem?_eq_some_iff.1 hj).1; simpa using this
    simp [hjl] at hj
    exact ⟨hjl, hj.symm⟩
  refine ⟨(List.range l.length).map F, by simp, fun u hu => ?_, fun a ha j u hj => ?_, fun i r hr => ?_⟩
  · simp only [List.mem_map, List.mem_range] at hu
    obtain ⟨i, hi, rfl⟩ := hu
    obtain ⟨r, xo, xc, _, h2, _⟩ := hF i hi
    rw [h2]; rfl
  · obtain ⟨hjl, rfl⟩ := hg j u hj
    obtain ⟨r, xo, xc, _, _, _, h4⟩ := hF j hjl
    exact h4 a ha
  · have hi : i < l.length := (List.getElem?_eq_some_iff.1 hr).1
    obtain ⟨r', xo, xc, h1, h2, h3, _⟩ := hF i hi
    rw [hr] at h1
    cases h1
    exact ⟨xo, xc, by simp [hi, h2], h3⟩

theorem run_append_vals {P : Program} {w : World} {base : Nat} {t e : TypeId} (ty : TypeId) (ht : P.underlying t = some (.slice e)) (hinfo : (P.info? e).map (fun i => (i.zero, i.size, i.bytes)) = some (some (.slice none 0 0), 1, 24))
    {v : Value} {n : Nat} {vals : List Value} (hown : w.ownsRow base e 1 v n vals) {ao : Option Addr} {m c : Nat} {news : List Value} (hl : news.length = m) (h0 : ao = none → m = 0 ∧ c = 0) (hcell : ∀ a, ao = some a → ∀ j u, news[j]? = some u → w.cell? (a.add j) = some u)
    (h1 : ∀ u ∈ news, u.oneCell' = true) (hbytes : (n + m) * 24 ≤ 140737488355328) (hbase : base ≤ w.heap.size) :
    ∃ v' w', (Builtin.append_ #[t, t] ty #[v, .slice ao m c]).run P w = .ok v' w' ∧ w'.ownsRow base e 1 v' (n + m) (vals ++ news) ∧ w.grownBy w' v.ownBlock := by
  obtain ⟨i0, hi, hz0, hz1, hz2⟩ := info_parts hinfo
  cases ao with
  | none =>
    obtain ⟨rfl, rfl⟩ := h0 rfl
    obtain rfl : news = [] := List.eq_nil_of_length_eq_zero hl
    exact ⟨v, w, run_append_owned_none (P := P) w base t ty e i0 1 ht hi v n _ hown, by simpa using hown, World.grownBy.refl _ _⟩
  | some a =>
    obtain ⟨v', w', hr, ho, hg, _⟩ := run_append_own (P := P) w base t ty e i0 _ 1 24 ht hi hz0 hz1 hz2 rfl (by decide) v n vals hown a m c news (by omega) (hcell a rfl) h1 (by unfold maxLen; omega) hbytes hbase
    exact ⟨v', w', hr, ho, hg⟩
theorem wpList_append_vals {P : Program} {w : World} {ops : Array Oper} {rest : List Oper} {o : Oper} {a : Act} {Q : Exit → Act → World → Prop}
    (hg : o.guard = none) (s x : Operand) (t : TypeId) (hop : o.op = Op.call { callee := Callee.builtin Builtin.append, args := #[s, x], argTypes := #[t, t] })
    (e : TypeId) (ht : P.underlying t = some (.slice e)) (hinfo : (P.info? e).map (fun i => (i.zero, i.size, i.bytes)) = some (some (.slice none 0 0), 1, 24))
    (base : Nat) (v : Value) (n : Nat) (vals : List Value) (hs : a.eval s = v) (hown : w.ownsRow base e 1 v n vals) (ao : Option Addr) (m c : Nat) (news : List Value) (hx : a.eval x = .slice ao m c) (hl : news.length = m) (h0 : ao = none → m = 0 ∧ c = 0)
    (hcell : ∀ a, ao = some a → ∀ j u, news[j]? = some u → w.cell? (a.add j) = some u) (h1 : ∀ u ∈ news, u.oneCell' = true) (hbytes : (n + m) * 24 ≤ 140737488355328) (hbase : base ≤ w.heap.size)
    (hK : ∀ v' w', w'.ownsRow base e 1 v' (n + m) (vals ++ news) → w.grownBy w' v.ownBlock → wpList P ops Q rest (a.put o.dst v') w') : wpList P ops Q (o :: rest) a w := by
  refine wpList_plain hg fun K hK' => ?_
  obtain ⟨v', w', hr, h2, h3⟩ := run_append_vals (P := P) o.type ht hinfo hown hl h0 hcell h1 hbytes hbase
  unfold Oper.wp execOp
  simp only [hop, resolve, invoke, builtin, Sem.run_bind, Sem.run_pure, Result.andThen_ok, List.map_toArray, List.map_cons, List.map_nil, hs, hx, hr]
  exact hK' _ _ (hK v' w' h2 h3)
/-- some records of one's own, and others behind them -/
theorem ListOf.more {B : Nat} {W w w' : World} {v v' : Value} {vals news : List Value} {recs l : List (List UInt8)} (h : ListOf B w v vals recs) (hW : ∀ (i : Nat) (r : List UInt8), recs[i]? = some r → ∃ xo xc, vals[i]? = some (.slice xo r.length xc) ∧ Rd W (.slice xo r.length xc) r)
    (hN : ∀ (i : Nat) (r : List UInt8), l[i]? = some r → ∃ xo xc, news[i]? = some (.slice xo r.length xc) ∧ Rd W (.slice xo r.length xc) r) (hrow : w'.ownsRow B 28 1 v' (recs.length + l.length) (vals ++ news)) (hb : Below B W w') (hB : W.heap.size ≤ B) :
    ListOf B w' v' (vals ++ news) (recs ++ l) ∧ ∀ (i : Nat) (r : List UInt8), (recs ++ l)[i]? = some r → ∃ xo xc, (vals ++ news)[i]? = some (.slice xo r.length xc) ∧ Rd W (.slice xo r.length xc) r := by
  have hvl : vals.length = recs.length := by have := h.row.1; omega
  have hall : ∀ (i : Nat) (r : List UInt8), (recs ++ l)[i]? = some r → ∃ xo xc, (vals ++ news)[i]? = some (.slice xo r.length xc) ∧ Rd W (.slice xo r.length xc) r := by
    intro i r hr
    by_cases hi : i < recs.length
    · rw [List.getElem?_append_left hi] at hr
      obtain ⟨xo, xc, h1, h2⟩ := hW i r hr
      exact ⟨xo, xc, by rw [List.getElem?_append_left (by omega)]; exact h1, h2⟩
    · rw [List.getElem?_append_right (by omega)] at hr
      obtain ⟨xo, xc, h1, h2⟩ := hN _ r hr
      exact ⟨xo, xc, by rw [List.getElem?_append_right (by omega), hvl]; exact h1, h2⟩
  refine ⟨⟨by rw [List.length_append]; exact hrow, fun i r hr => ?_⟩, hall⟩
  obtain ⟨xo, xc, h1, h2⟩ := hall i r hr
  exact ⟨xo, xc, h1, rd_in h2 hb hB⟩

set_option maxHeartbeats 4000000 in
set_option maxRecDepth 20000 in
/-- the law LogTwo -/
theorem logTwo_walk (A B : List (List UInt8)) (ao : Option Addr) (ac : Nat) (bo : Option Addr) (bc : Nat) (w : World) (ht : Tab w) (hA : RdLs w (.slice ao A.length ac) A) (hB : RdLs w (.slice bo B.length bc) B) (hac : A.length ≤ ac) (han : ao = none → A.length = 0 ∧ ac = 0)
    (hbc : B.length ≤ bc) (hbn : bo = none → B.length = 0 ∧ bc = 0) :
    Calls Tryd.prog 9 #[.slice ao A.length ac, .slice bo B.length bc] w fun e w' => e = .returned (.bool true) ∧ Below w.heap.size w w' := by
  have HT := hide ht
  have HA := hide hA
  have HB := hide hB
  have HAN := hide han
  have HBN := hide hbn
  clear ht hA hB han hbn
  by_cases h1 : 8 < A.length
  · go_enter Tryd.func9, Tryd.ntmps9
    go_wp2_with (go_at_call 31; refine (known4_any _ HT.out).mono ?_; rintro e w1 ⟨rfl, B1⟩)
    go_ret
    exact ⟨rfl, B1⟩
  by_cases h2 : 8 < B.length
  · go_enter Tryd.func9, Tryd.ntmps9
    go_wp2_with (go_at_call 31; refine (known4_any _ HT.out).mono ?_; rintro e w1 ⟨rfl, B1⟩)
    go_ret
    exact ⟨rfl, B1⟩
  have hA8 : A.length ≤ 8 := by omega
  have hB8 : B.length ≤ 8 := by omega
  clear h1 h2
  obtain ⟨va, hva, hv1, hv2, hv3⟩ := HA.out.vals
  obtain ⟨vb, hvb, hu1, hu2, hu3⟩ := HB.out.vals
  have HVA := hide hv3
  have HVB := hide hu3
  have HUA := hide hv2
  have HUB := hide hu2
  clear hv3 hu3 hv2 hu2
  go_enter Tryd.func9, Tryd.ntmps9
  go_wp2_with (first
    | (at_builtin; refine wpList_append_vals rfl _ _ 29 rfl 28 Tryd.underlying29 infoB w.heap.size (.slice none 0 0) 0 [] rfl (World.ownsRow_nil _ _ _ _) ao A.length ac va rfl hva HAN.out HUA.out hv1 (by omega) (Nat.le_refl _) ?_; intro v1 w1 hown1 hgrow1; have HO1 := hide hown1; have HB1 := hide ((Below.refl w.heap.size w).grown hgrow1 (Nat.le_refl _) (fun _ h => by cases h)); clear hown1 hgrow1)
    | (at_builtin; refine wpList_append_vals rfl _ _ 29 rfl 28 Tryd.underlying29 infoB w.heap.size v1 (0 + A.length) _ rfl HO1.out bo B.length bc vb rfl hvb HBN.out (fun a ha j u hu => Below.keeps HB1.out (Nat.le_refl _) (HUB.out a ha j u hu)) hu1 (by omega) HB1.out.size ?_; intro v2 w2 hown2 hgrow2; have HO2 := hide hown2; have HB2 := hide (HB1.out.grown hgrow2 HB1.out.size (fun j hj => (HO1.out.lt j hj).1)); obtain ⟨v2o, v2c, rfl, -⟩ := own_shape hown2; clear hown2 hgrow2))
  obtain ⟨L1, M1⟩ := (ListOf.nil w.heap.size w).more (W := w) (l := A) (news := va) (fun i r h => by simp at h) HVA.out (by simpa using HO1.out) HB1.out (Nat.le_refl _)
  simp only [List.nil_append] at L1 M1
  obtain ⟨L2, -⟩ := L1.more (W := w) (l := B) (news := vb) M1 HVB.out (by have := HO2.out; simp only [List.nil_append, Nat.zero_add] at this; exact this) HB2.out (Nat.le_refl _)
  obtain ⟨C, hC⟩ : ∃ C, C = A ++ B := ⟨_, rfl⟩
  rw [← hC] at L2
  have hCl : C.length = A.length + B.length := by rw [hC, List.length_append]
  have hL2 := L2.rds
  rw [← hCl] at hL2
  rw [← hCl]
  have HC := hide hC
  have HCL := hide hCl
  have HR2 := hide hL2
  have hC16 : C.length ≤ 16 := by omega
  clear L1 M1 L2 hC hCl hL2 HVA HVB HUA HUB HO1 HO2 HB1 hv1 hu1
  go_loop [6] (fun i => ∃ k : Nat, k ≤ C.length ∧ i = .int .i64 k ∧ ∀ r ∈ C.take k, r.length ≤ 200) (fun i => C.length - (intOf i).toNat)
  case atStart => exact ⟨0, Nat.zero_le _, rfl, fun r hr => by simp at hr⟩
  case round =>
    obtain ⟨k, hk, rfl, hall⟩ := hrel
    have HALL := hide hall
    clear hall
    by_cases hlt : k < C.length
    · obtain ⟨a, xo, xc, rfl, hc, -⟩ := HR2.out.at hlt
      by_cases hbig : 200 < C[k].length
      · generalize C[k].length = m at *
        go_wp2_with (go_at_call 31; refine (known4_any _ (HT.out.below HB2.out (Nat.le_refl _))).mono ?_; rintro e w3 ⟨rfl, B3⟩)
        go_ret
        exact ⟨rfl, HB2.out.trans (B3.mono HB2.out.size)⟩
      · have HNX := hide (all_next HALL.out hlt (by omega))
        generalize C[k].length = m at *
        go_wp2
        go_round
        case rel => exact ⟨k + 1, by omega, by go_num, HNX.out⟩
        case measure => simp [intOf]; omega
    · have h200 : ∀ r ∈ C, r.length ≤ 200 := by have := HALL.out; rwa [List.take_of_length_le (by omega)] at this
      have hA200 : ∀ r ∈ A, r.length ≤ 200 := fun r hr => h200 r (by rw [HC.out]; exact List.mem_append_left _ hr)
      have hB6 : ∀ r ∈ B, r.length ≤ 60000 := fun r hr => Nat.le_trans (h200 r (by rw [HC.out]; exact List.mem_append_right _ hr)) (by decide)
      have hsc := scan_all (l := B) (n := 1 + A.length) (by omega) (by omega) hB6
      have hml := wr_small (n := 1) h200 (by omega)
      have hsp : wrB 1 C = wrB 1 A ++ wrB (1 + A.length) B := by rw [HC.out, wrB_append]
      have H200 := hide h200
      have HA200 := hide hA200
      clear h200 hA200 hB6 HALL
      obtain ⟨X, hX⟩ : ∃ X, X = wrB 1 C := ⟨_, rfl⟩
      obtain ⟨Y, hY⟩ : ∃ Y, Y = wrB 1 A := ⟨_, rfl⟩
      obtain ⟨Z, hZ⟩ : ∃ Z, Z = wrB (1 + A.length) B := ⟨_, rfl⟩
      rw [← hX, ← hY, ← hZ] at hsp
      rw [← hX] at hml
      rw [← hZ] at hsc
      have hxl : X.length = Y.length + Z.length := by rw [hsp, List.length_append]
      have hyx : Y.length ≤ X.length := by omega
      have hzl : (X.length : Int) - (Y.length : Int) = (Z.length : Int) := by omega
      have HXL := hide hxl
      have HX := hide hX
      have HY := hide hY
      have HSP := hide hsp
      have HSC := hide hsc
      have hZ0 : B.length = 0 → Z.length = 0 := fun h => by rw [hZ, List.eq_nil_of_length_eq_zero h]; rfl
      clear hX hY hZ hsp hsc hxl
      go_wp2_with fail
      refine (written_any C _ w2 (HT.out.below HB2.out (Nat.le_refl _)) HR2.out (by omega) H200.out).mono ?_
      rintro e w3 ⟨x, rfl, hx, B3⟩
      rw [← HX.out] at hx
      obtain ⟨xo, xc, rfl, hxc⟩ := own_shape hx
      have HX3 := hide hx
      have HB3 := hide (HB2.out.trans (B3.mono HB2.out.size))
      clear hx B3
      go_wp2_with fail
      refine (written_any A _ w3 (HT.out.below HB3.out (Nat.le_refl _)) (rdls_in HA.out HB3.out (Nat.le_refl _)) (by omega) HA200.out).mono ?_
      rintro e w4 ⟨y, rfl, hy, B4⟩
      rw [← HY.out] at hy
      obtain ⟨yo, yc, rfl, hyc⟩ := own_shape hy
      have HX4 := hide (Rd.own (own_below HX3.out B4))
      have HY4 := hide (Rd.own hy)
      have HB4 := hide (HB3.out.trans (B4.mono HB3.out.size))
      clear hy B4 HX3 HB3 HB2
      have hne := grow_ne w4
      have htk : X.take Y.length = Y := by rw [HSP.out, List.take_left]
      have c1 := fun G : Grow w4 => run_conv_rd (P := Tryd.prog) Tryd.underlying28 Tryd.underlying5 Tryd.underlying9 ((rd_take HX4.out (k := Y.length) (by omega)).below G.2)
      have c2 := fun G : Grow w4 => run_conv_rd (P := Tryd.prog) Tryd.underlying28 Tryd.underlying5 Tryd.underlying9 (HY4.out.below G.2)
      rw [htk] at c1
      have HRZ : Hid (∀ xo' : Addr, xo = some xo' → Rd w4 (.slice (some (xo'.add Y.length)) (X.length - Y.length) (xc - Y.length)) Z) := by
        rintro xo' rfl
        have := rd_cut (lo := Y.length) (hi := X.length) (n := X.length - Y.length) (c := xc - Y.length) HX4.out (by omega) (Nat.le_refl _) rfl (by omega)
        rw [List.take_of_length_le (Nat.le_refl _), HSP.out, List.drop_left] at this
        rw [HSP.out]
        exact this
      have HXN : Hid (xo = none → X.length = 0 ∧ xc = 0) := by
        obtain ⟨ao', cap', he, _, hn, _⟩ := HX4.out
        simp only [Value.slice.injEq] at he
        obtain ⟨rfl, _, rfl⟩ := he
        exact hn
      clear htk
      generalize bstr Y = t at c1 c2
      have hd1 : decide (X.length < Y.length) = false := by simp; omega
      go_wp2_with fail
      refine wp_region_grow (by kernel_rfl) (by kernel_rfl) ?_
      repeat (go_big_quiet_step (fail))
      refine wpQuiet_nil ?_
      intro _ hw'
      obtain ⟨G, rfl⟩ := hw'
      have HB5 := hide (HB4.out.trans (G.2.mono HB4.out.size))
      have HG := hide G.2
      clear c1 c2 hne hd1
      have hZb : Z.length ≤ 140737488351232 := by have := HXL.out; omega
      rcases hxo : xo with _ | xa
      · obtain ⟨hx0, hc0⟩ := HXN.out hxo
        have hy0 : Y.length = 0 := by omega
        have hz0 : Z = [] := List.eq_nil_of_length_eq_zero (by have := HXL.out; omega)
        have HRR : Hid (Rd G.1 (.slice none 0 0) Z) := by show Rd _ _ _; rw [hz0]; exact Rd.nil _
        subst hc0
        clear hxo
        have HX0 := hide hx0
        have HY0 := hide hy0
        have HZ0 := hide hz0
        clear hx0 hy0 hz0
        rw [HX0.out, HY0.out]
        rw [HX0.out, HY0.out] at hzl
        have hzl0 : (Z.length : Int) = 0 := by omega
        clear hzl hyx hml hxc hyc
        go_wp2_with fail
        refine (scan_any Z _ _ (HT.out.below HB5.out (Nat.le_refl _)) HRR.out hZb).mono ?_
        rintro e w6 ⟨r6, vs6, rfl, hr6, B6⟩
        have hs6 := hr6.rds
        rw [HSC.out] at hs6
        rw [HSC.out]
        obtain ⟨r6o, r6c, rfl, -⟩ := id hs6
        have HS6 := hide hs6
        have HB6 := hide (HB5.out.trans (B6.mono HB5.out.size))
        clear hr6 hs6 B6
        rcases (show B.length = 0 ∨ ¬ B.length = 0 by omega) with h0 | h0
        · rw [if_pos h0]
          have hb0 : ((B.length : Int) == 0) = true := by simp [h0]
          clear h0
          go_wp2_with (go_at_call 31; refine (known4_any _ (HT.out.below HB6.out (Nat.le_refl _))).mono ?_; rintro e w7 ⟨rfl, B7⟩; have HB7 := hide (HB6.out.trans (B7.mono HB6.out.size)); clear B7)
          go_ret
          exact ⟨rfl, HB7.out⟩
        · rw [if_neg h0]
          have hb0 : ((B.length : Int) == 0) = false := by simp; intro h; simp [h] at h0
          have hwr : IntKind.u64.wrap ((A.length : Int) + 1) = ((1 + A.length : Nat) : Int) := by rw [IntKind.wrap_u64]; omega
          clear h0
          go_wp2_with (first
            | (go_at_call 27; refine (rsame_any B B _ _ _ HS6.out (rdls_in HB.out HB6.out (Nat.le_refl _)) (by omega) (by omega)).mono ?_; rintro e w7 ⟨rfl, B7⟩; rw [show decide (B = B) = true by simp]; have HB7 := hide (HB6.out.trans (B7.mono HB6.out.size)); clear B7)
            | (go_at_call 31; refine (known4_any _ (HT.out.below HB7.out (Nat.le_refl _))).mono ?_; rintro e w8 ⟨rfl, B8⟩; have HB8 := hide (HB7.out.trans (B8.mono HB7.out.size)); clear B8))
          go_ret
          exact ⟨rfl, HB8.out⟩
      · have hxa := HRZ.out xa hxo
        by_cases hcy : xc = Y.length
        · have HRR : Hid (Rd G.1 (.slice (some xa) 0 0) Z) := by
            have hz0 : Z = [] := List.eq_nil_of_length_eq_zero (by have := HXL.out; omega)
            show Rd _ _ _
            rw [hz0]
            exact ⟨some xa, 0, rfl, Nat.le_refl _, fun h => (by cases h), fun x _ j u hu => by simp at hu⟩
          have hXY : X.length = Y.length := by omega
          have HXY := hide hXY
          clear hXY
          subst hcy
          clear hxo hxa
          rw [HXY.out]
          rw [HXY.out] at hzl
          have hzl0 : (Z.length : Int) = 0 := by omega
          clear hzl hyx hml hxc hyc
          go_wp2_with fail
          refine (scan_any Z _ _ (HT.out.below HB5.out (Nat.le_refl _)) HRR.out hZb).mono ?_
          rintro e w6 ⟨r6, vs6, rfl, hr6, B6⟩
          have hs6 := hr6.rds
          rw [HSC.out] at hs6
          rw [HSC.out]
          obtain ⟨r6o, r6c, rfl, -⟩ := id hs6
          have HS6 := hide hs6
          have HB6 := hide (HB5.out.trans (B6.mono HB5.out.size))
          clear hr6 hs6 B6
          rcases (show B.length = 0 ∨ ¬ B.length = 0 by omega) with h0 | h0
          · rw [if_pos h0]
            have hb0 : ((B.length : Int) == 0) = true := by simp [h0]
            clear h0
            go_wp2_with (go_at_call 31; refine (known4_any _ (HT.out.below HB6.out (Nat.le_refl _))).mono ?_; rintro e w7 ⟨rfl, B7⟩; have HB7 := hide (HB6.out.trans (B7.mono HB6.out.size)); clear B7)
            go_ret
            exact ⟨rfl, HB7.out⟩
          · rw [if_neg h0]
            have hb0 : ((B.length : Int) == 0) = false := by simp; intro h; simp [h] at h0
            have hwr : IntKind.u64.wrap ((A.length : Int) + 1) = ((1 + A.length : Nat) : Int) := by rw [IntKind.wrap_u64]; omega
            clear h0
            go_wp2_with (first
              | (go_at_call 27; refine (rsame_any B B _ _ _ HS6.out (rdls_in HB.out HB6.out (Nat.le_refl _)) (by omega) (by omega)).mono ?_; rintro e w7 ⟨rfl, B7⟩; rw [show decide (B = B) = true by simp]; have HB7 := hide (HB6.out.trans (B7.mono HB6.out.size)); clear B7)
              | (go_at_call 31; refine (known4_any _ (HT.out.below HB7.out (Nat.le_refl _))).mono ?_; rintro e w8 ⟨rfl, B8⟩; have HB8 := hide (HB7.out.trans (B8.mono HB7.out.size)); clear B8))
            go_ret
            exact ⟨rfl, HB8.out⟩
        · have HRR := hide (hxa.below HG.out)
          clear hxo hxa
          go_wp2_with fail
          refine (scan_any Z _ _ (HT.out.below HB5.out (Nat.le_refl _)) HRR.out hZb).mono ?_
          rintro e w6 ⟨r6, vs6, rfl, hr6, B6⟩
          have hs6 := hr6.rds
          rw [HSC.out] at hs6
          rw [HSC.out]
          obtain ⟨r6o, r6c, rfl, -⟩ := id hs6
          have HS6 := hide hs6
          have HB6 := hide (HB5.out.trans (B6.mono HB5.out.size))
          clear hr6 hs6 B6
          rcases (show B.length = 0 ∨ ¬ B.length = 0 by omega) with h0 | h0
          · rw [if_pos h0]
            have hb0 : ((B.length : Int) == 0) = true := by simp [h0]
            clear h0
            go_wp2_with (go_at_call 31; refine (known4_any _ (HT.out.below HB6.out (Nat.le_refl _))).mono ?_; rintro e w7 ⟨rfl, B7⟩; have HB7 := hide (HB6.out.trans (B7.mono HB6.out.size)); clear B7)
            go_ret
            exact ⟨rfl, HB7.out⟩
          · rw [if_neg h0]
            have hb0 : ((B.length : Int) == 0) = false := by simp; intro h; simp [h] at h0
            have hwr : IntKind.u64.wrap ((A.length : Int) + 1) = ((1 + A.length : Nat) : Int) := by rw [IntKind.wrap_u64]; omega
            clear h0
            go_wp2_with (first
              | (go_at_call 27; refine (rsame_any B B _ _ _ HS6.out (rdls_in HB.out HB6.out (Nat.le_refl _)) (by omega) (by omega)).mono ?_; rintro e w7 ⟨rfl, B7⟩; rw [show decide (B = B) = true by simp]; have HB7 := hide (HB6.out.trans (B7.mono HB6.out.size)); clear B7)
              | (go_at_call 31; refine (known4_any _ (HT.out.below HB7.out (Nat.le_refl _))).mono ?_; rintro e w8 ⟨rfl, B8⟩; have HB8 := hide (HB7.out.trans (B8.mono HB7.out.size)); clear B8))
            go_ret
            exact ⟨rfl, HB8.out⟩
end Go.Proofs.YtgobnnciijlpaaaDoor
