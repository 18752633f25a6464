/- slices.insertionSortCmpFunc of needs. -/
import Derived.Test.YtkpambipgcjaiaaNsA
import Derived.Deep.RegionHeld3
import Derived.Deep.QuietTactic
import Derived.BigQuiet
import Derived.Test.YtkpambipgcjaiaaPmF
namespace Go.Proofs.Ytkpambipgcjaiaa
open Go.ChangeShapes Go.WideShapes Go.ChangeAt Go.RowKit Go.DsMem Go.DsCo Go.DsPl Go.DsMap
set_option linter.unusedVariables false
set_option linter.unusedSimpArgs false
theorem insN_none (v c : Value) (a b : Int) (w : World) (h : b ≤ a + 1) (h0 : 0 ≤ a) (h1 : a ≤ 1000) : Calls Try.prog 109 #[v, .int .i64 a, .int .i64 b, c] w fun e w' => e = .returned (.tuple #[]) ∧ w' = w := by
  go_enter Try.func109, Try.ntmps109
  go_wp2
  go_loop [8] (fun i => i = .int .i64 (a + 1)) (fun _ => 0)
  case atStart => rfl
  case round =>
    obtain rfl := hrel
    have hlt : ¬ (a + 1 < b) := by omega
    go_wp2
    go_end0
    exact ⟨rfl, rfl⟩
theorem drew_heapN (W : World) : W.drew.heap = W.heap := rfl
theorem six_heap (w : World) (g a b c d e f : Nat) (u v x y z t : Value) (arr : Array Value) (T : TypeId) (h : w.heap[g]? = some (.cells arr T (0, 0))) :
    ((((((w.setCell ⟨g, a, none⟩ u).setCell ⟨g, b, none⟩ v).setCell ⟨g, c, none⟩ x).setCell ⟨g, d, none⟩ y).setCell ⟨g, e, none⟩ z).setCell ⟨g, f, none⟩ t).drew.heap[g]? = some (.cells ((((((arr.setIfInBounds a u).setIfInBounds b v).setIfInBounds c x).setIfInBounds d y).setIfInBounds e z).setIfInBounds f t) T (0, 0)) := by
  have h1 := hset_same (k := a) h u
  have h2 := hset_same (k := b) h1 v
  have h3 := hset_same (k := c) h2 x
  have h4 := hset_same (k := d) h3 y
  have h5 := hset_same (k := e) h4 z
  have h6 := hset_same (k := f) h5 t
  rw [drew_heapN]
  exact h6
theorem six_only (w : World) (g a b c d e f : Nat) (u v x y z t : Value) : Only (· = g) w ((((((w.setCell ⟨g, a, none⟩ u).setCell ⟨g, b, none⟩ v).setCell ⟨g, c, none⟩ x).setCell ⟨g, d, none⟩ y).setCell ⟨g, e, none⟩ z).setCell ⟨g, f, none⟩ t).drew :=
  ((((((Only.set w g a u).trans (Only.set _ g b v) (fun _ _ e => e)).trans (Only.set _ g c x) (fun _ _ e => e)).trans (Only.set _ g d y) (fun _ _ e => e)).trans (Only.set _ g e z) (fun _ _ e => e)).trans (Only.set _ g f t) (fun _ _ e => e)).trans (Only.below (Below.refl _ _).drew) (fun _ _ e => e)
set_option maxHeartbeats 16000000 in
set_option maxRecDepth 20000 in
theorem insN_any (L : List Ne) (g N c : Nat) (w : World) (h : SoAt w g N L) (hL : L.length ≤ 1000) (hc : L.length ≤ c) :
    Calls Try.prog 109 #[.slice (some ⟨g, 0, none⟩) L.length c, .int .i64 0, .int .i64 L.length, .func (.func 71) #[] #[]] w fun e w' => e = .returned (.tuple #[]) ∧ (∃ M, SoAt w' g N M ∧ M.Perm L ∧ SortedN M) ∧ Only (· = g) w w' := by
  have HS := hide h
  clear h
  go_enter Try.func109, Try.ntmps109
  go_wp2
  go_loopw [8] (fun i wr => ∃ (q : Nat) (M : List Ne), 1 ≤ q ∧ q ≤ L.length + 1 ∧ i = .int .i64 q ∧ M.Perm L ∧ SortedN (M.take q) ∧ SoAt wr g N M ∧ Only (· = g) w wr) (fun i _ => L.length + 1 - (intOf i).toNat)
  case atStart => exact ⟨1, L, by omega, by omega, rfl, List.Perm.refl _, by
    unfold SortedN
    cases L with
    | nil => exact List.Pairwise.nil
    | cons x r => exact List.pairwise_singleton _ _, HS.out, Only.refl _ _⟩
  case round =>
    clear HS
    obtain ⟨q, M, hq1, hqL, rfl, hp, hso, hsa, hon⟩ := hrel
    have HSA := hide hsa
    have HON := hide hon
    have HP := hide hp
    have HSO := hide hso
    have hML := hp.length_eq
    clear hsa hon hp hso
    by_cases hlt : q < L.length
    · have HLT := hide hlt
      have hqi : (q : Int) < ((L.length : Nat) : Int) := by omega
      have hqm : q < M.length := by omega
      have HM : Hid (M = M.take q ++ M[q] :: ([] ++ M.drop (q + 1))) := hide (by rw [List.nil_append, List.getElem_cons_drop hqm, List.take_append_drop])
      have HTL : Hid ((M.take q).length = q) := hide (by rw [List.length_take]; omega)
      have HSO2 : Hid (SortedN (M.take q ++ [])) := hide (by rw [List.append_nil]; exact HSO.out)
      have HP2 : Hid ((M.take q ++ M[q] :: ([] ++ M.drop (q + 1))).Perm L) := hide (by rw [← HM.out]; exact HP.out)
      have HSA2 : Hid (SoAt wr g N (M.take q ++ M[q] :: ([] ++ M.drop (q + 1)))) := hide (by rw [← HM.out]; exact HSA.out)
      go_wp2
      go_loopw [9] (fun j wr => ∃ (A B D : List Ne) (x : Ne), j = .int .i64 A.length ∧ A.length + B.length = q ∧ (A ++ x :: (B ++ D)).Perm L ∧ SortedN (A ++ B) ∧ (∀ b ∈ B, leN x b) ∧ SoAt wr g N (A ++ x :: (B ++ D)) ∧ Only (· = g) w wr) (fun j _ => (intOf j).toNat)
      case atStart => exact ⟨M.take q, [], M.drop (q + 1), M[q], by rw [HTL.out], by rw [HTL.out]; rfl, HP2.out, HSO2.out, fun b hb => by simp at hb, HSA2.out, HON.out⟩
      case round =>
        clear HM HTL HSO2 HP2 HSA2 HSO HP HSA HON hqm hML
        obtain ⟨A, B, D, x, rfl, hAB, hp, hso, hxb, hsa, hon⟩ := hrel
        have HSA := hide hsa
        have HON := hide hon
        have HP := hide hp
        have HSO := hide hso
        have HXB := hide hxb
        have HAB := hide hAB
        have hall := hp.length_eq
        simp only [List.length_append, List.length_cons] at hall
        clear hsa hon hp hso hxb
        have HEND : Hid ((∀ y, A.getLast? = some y → leN y x) → ∃ M' : List Ne, M'.Perm L ∧ SortedN (M'.take (q + 1)) ∧ SoAt wr g N M') := hide (fun hl => ⟨_, HP.out, by
          have e : (A ++ x :: (B ++ D)).take (q + 1) = A ++ x :: B := by
            have : A ++ x :: (B ++ D) = (A ++ x :: B) ++ D := by simp
            rw [this, List.take_append_of_le_length (by simp; omega), List.take_of_length_le (by simp; omega)]
          rw [e]
          exact sorted_put HSO.out hl HXB.out, HSA.out⟩)
        rcases List.eq_nil_or_concat A with rfl | ⟨A', y, rfl⟩
        · obtain ⟨M', m1, m2, m3⟩ := HEND.out (fun y hy => by simp at hy)
          have HM1 := hide m1
          have HM2 := hide m2
          have HM3 := hide m3
          clear m1 m2 m3 HEND
          simp only [List.length_nil, Int.natCast_zero]
          go_wp2
          go_quiet (fail)
          go_wp2
          go_roundw
          case rel => exact ⟨q + 1, M', by omega, by have := HLT.out; omega, by go_num, HM1.out, HM2.out, HM3.out.below (below_drewNP _ _), HON.out.trans (Only.below (below_drewNP _ _)) (fun _ _ e => e)⟩
          case measure => have := HLT.out; simp [intOf]; omega
        · rw [List.concat_eq_append] at HEND HSO HAB hall ⊢
          have HSA2 : Hid (SoAt wr g N (A' ++ y :: x :: (B ++ D))) := hide (by have := HSA.out; rw [List.concat_eq_append] at this; simpa using this)
          have HP2 : Hid ((A' ++ y :: x :: (B ++ D)).Perm L) := hide (by have := HP.out; rw [List.concat_eq_append] at this; simpa using this)
          have HLE : Hid ((∀ z, (A' ++ [y]).getLast? = some z → leN z x) ↔ leN y x) := hide (by simp)
          clear HSA HP
          have hlen : (A' ++ [y]).length = A'.length + 1 := by simp
          rw [hlen] at HAB hall ⊢
          obtain ⟨x0, x1, x2⟩ := HSA2.out.cells (A'.length + 1) (by simp)
          obtain ⟨y0, y1, y2⟩ := HSA2.out.cells A'.length (by simp)
          have ex : (A' ++ y :: x :: (B ++ D))[A'.length + 1]'(by simp) = x := by simp
          have ey : (A' ++ y :: x :: (B ++ D))[A'.length]'(by simp) = y := by simp
          rw [ex] at x0 x1 x2
          rw [ey] at y0 y1 y2
          clear ex ey hlen
          obtain ⟨jn, hjn⟩ : ∃ jn, A'.length = jn := ⟨_, rfl⟩
          have HJN := hide hjn
          rw [hjn] at x0 x1 x2 y0 y1 y2 hall HAB ⊢
          obtain ⟨jm, hjm⟩ : ∃ jm, jn + 1 = jm := ⟨_, rfl⟩
          have HJM := hide hjm
          rw [hjm] at x0 x1 x2 ⊢
          have hj0 : (0 : Int) ≤ (jn : Int) := Int.natCast_nonneg _
          have hj1 : (jm : Int) < ((L.length : Nat) : Int) := by omega
          have hj2 : (jn : Int) < ((L.length : Nat) : Int) := by omega
          have hsub : IntKind.i64.wrap ((jm : Int) - 1) = (jn : Int) := by rw [IntKind.wrap_i64]; omega
          have hgd : decide ((0 : Int) < (jm : Int)) = true := decide_eq_true (by omega)
          have hgdn : decide (0 < jm) = true := decide_eq_true (by omega)
          have hj3 : (0 : Int) ≤ (jm : Int) := by omega
          clear hjn hjm
          have HC := hide (fun w => nby_any x y w)
          have HCN := hide (cmpS_neg x.nm y.nm)
          generalize cmpS x.nm y.nm = c5 at *
          have KP : Hid (∀ w', Below wr.drew.heap.size wr.drew w' → w'.cell? ⟨g, jm * 3, none⟩ = some (.string x.nm) ∧ w'.cell? ⟨g, jm * 3 + 1, none⟩ = some (.int .i64 x.n) ∧ w'.cell? ⟨g, jm * 3 + 2, none⟩ = some (.int .i64 x.md) ∧ w'.cell? ⟨g, jn * 3, none⟩ = some (.string y.nm) ∧ w'.cell? ⟨g, jn * 3 + 1, none⟩ = some (.int .i64 y.n) ∧ w'.cell? ⟨g, jn * 3 + 2, none⟩ = some (.int .i64 y.md)) := hide (fun w' hb =>
            ⟨Below.keeps hb (Nat.le_refl _) (show wr.drew.cell? _ = _ from x0), Below.keeps hb (Nat.le_refl _) (show wr.drew.cell? _ = _ from x1), Below.keeps hb (Nat.le_refl _) (show wr.drew.cell? _ = _ from x2), Below.keeps hb (Nat.le_refl _) (show wr.drew.cell? _ = _ from y0), Below.keeps hb (Nat.le_refl _) (show wr.drew.cell? _ = _ from y1), Below.keeps hb (Nat.le_refl _) (show wr.drew.cell? _ = _ from y2)⟩)
          by_cases hlt5 : c5 < 0
          · have hl5 : decide (c5 < 0) = true := by simpa using hlt5
            go_wp2_with fail
            first
              | (go_region_held3 (fun w' => w'.cell? ⟨g, jm * 3, none⟩ = some (.string x.nm) ∧ w'.cell? ⟨g, jm * 3 + 1, none⟩ = some (.int .i64 x.n) ∧ w'.cell? ⟨g, jm * 3 + 2, none⟩ = some (.int .i64 x.md) ∧ w'.cell? ⟨g, jn * 3, none⟩ = some (.string y.nm) ∧ w'.cell? ⟨g, jn * 3 + 1, none⟩ = some (.int .i64 y.n) ∧ w'.cell? ⟨g, jn * 3 + 2, none⟩ = some (.int .i64 y.md))
              (go_keep)
              (first
                | (go_at_call 71; refine (HC.out _).mono ?_; rintro e w5 ⟨rfl, hb5⟩; obtain ⟨q0, q1, q2, q3, q4, q5⟩ := KP.out _ hb5; have HB5 := hide hb5; clear hb5)))
              | fail
            all_goals
              have HSA5 := hide (HSA2.out.below ((Below.refl _ _).drew.trans HB5.out : Below wr.heap.size wr w5))
              have HO5 : Hid (Only (· = g) w w5) := hide (HON.out.trans (Only.below ((Below.refl _ _).drew.trans HB5.out : Below wr.heap.size wr w5)) (fun _ _ e => e))
              have z0 := HSA5.out.frozen (jm * 3)
              have z1 := HSA5.out.frozen (jm * 3 + 1)
              have z2 := HSA5.out.frozen (jm * 3 + 2)
              have z3 := HSA5.out.frozen (jn * 3)
              have z4 := HSA5.out.frozen (jn * 3 + 1)
              have z5 := HSA5.out.frozen (jn * 3 + 2)
              clear x0 x1 x2 y0 y1 y2
              have hmn : ¬ jm = jn := by have := HJM.out; omega
              have hnm : ¬ jn = jm := by have := HJM.out; omega
              have o00 : ¬ jm * 3 = jn * 3 := by have := HJM.out; omega
              have p00 : ¬ jn * 3 = jm * 3 := by have := HJM.out; omega
              have o01 : ¬ jm * 3 = jn * 3 + 1 := by have := HJM.out; omega
              have p01 : ¬ jn * 3 + 1 = jm * 3 := by have := HJM.out; omega
              have o02 : ¬ jm * 3 = jn * 3 + 2 := by have := HJM.out; omega
              have p02 : ¬ jn * 3 + 2 = jm * 3 := by have := HJM.out; omega
              have o10 : ¬ jm * 3 + 1 = jn * 3 := by have := HJM.out; omega
              have p10 : ¬ jn * 3 = jm * 3 + 1 := by have := HJM.out; omega
              have o11 : ¬ jm * 3 + 1 = jn * 3 + 1 := by have := HJM.out; omega
              have p11 : ¬ jn * 3 + 1 = jm * 3 + 1 := by have := HJM.out; omega
              have o12 : ¬ jm * 3 + 1 = jn * 3 + 2 := by have := HJM.out; omega
              have p12 : ¬ jn * 3 + 2 = jm * 3 + 1 := by have := HJM.out; omega
              have o20 : ¬ jm * 3 + 2 = jn * 3 := by have := HJM.out; omega
              have p20 : ¬ jn * 3 = jm * 3 + 2 := by have := HJM.out; omega
              have o21 : ¬ jm * 3 + 2 = jn * 3 + 1 := by have := HJM.out; omega
              have p21 : ¬ jn * 3 + 1 = jm * 3 + 2 := by have := HJM.out; omega
              have o22 : ¬ jm * 3 + 2 = jn * 3 + 2 := by have := HJM.out; omega
              have p22 : ¬ jn * 3 + 2 = jm * 3 + 2 := by have := HJM.out; omega
              go_wp2_with fail
              go_region
              all_goals
                have HSW := hide (SoAt.swap HSA5.out (w' := (((((((w5.setCell ⟨g, jm * 3, none⟩ (.string y.nm)).setCell ⟨g, jm * 3 + 1, none⟩ (.int .i64 y.n)).setCell ⟨g, jm * 3 + 2, none⟩ (.int .i64 y.md)).setCell ⟨g, jn * 3, none⟩ (.string x.nm)).setCell ⟨g, jn * 3 + 1, none⟩ (.int .i64 x.n)).setCell ⟨g, jn * 3 + 2, none⟩ (.int .i64 x.md)).drew)) (fun arr h => by
                  rw [HJN.out, HJM.out]
                  exact six_heap w5 g (jm * 3) (jm * 3 + 1) (jm * 3 + 2) (jn * 3) (jn * 3 + 1) (jn * 3 + 2) (.string y.nm) (.int .i64 y.n) (.int .i64 y.md) (.string x.nm) (.int .i64 x.n) (.int .i64 x.md) arr _ h))
                have HO6 := hide (HO5.out.trans (six_only w5 g (jm * 3) (jm * 3 + 1) (jm * 3 + 2) (jn * 3) (jn * 3 + 1) (jn * 3 + 2) (.string y.nm) (.int .i64 y.n) (.int .i64 y.md) (.string x.nm) (.int .i64 x.n) (.int .i64 x.md)) (fun _ _ e => e))
                have HPS : Hid ((A' ++ x :: (y :: B ++ D)).Perm L) := hide (((List.Perm.swap y x (B ++ D)).append_left A').trans HP2.out)
                have HSS : Hid (SortedN (A' ++ y :: B)) := hide (by have := HSO.out; simpa using this)
                have HXX : Hid (∀ b ∈ y :: B, leN x b) := hide (fun b hb => by
                  rcases List.mem_cons.1 hb with rfl | hb
                  · exact leN_of (HCN.out.1 hlt5)
                  · exact HXB.out b hb)
                have HQQ : Hid (A'.length + (y :: B).length = q) := hide (by have := HAB.out; have := HJN.out; simp only [List.length_cons]; omega)
                have HJV : Hid (Value.int .i64 (jn : Int) = .int .i64 (A'.length : Int)) := hide (by rw [HJN.out])
                clear q0 q1 q2 q3 q4 q5 z0 z1 z2 z3 z4 z5 o00 o01 o02 o10 o11 o12 o20 o21 o22 p00 p01 p02 p10 p11 p12 p20 p21 p22 HB5 KP HEND
                go_wp2
                go_roundw
                case rel => exact ⟨A', y :: B, D, x, HJV.out, HQQ.out, HPS.out, HSS.out, HXX.out, HSW.out, HO6.out⟩
                case measure => have := HJM.out; simp [intOf]; omega
          · have hl5 : decide (c5 < 0) = false := by simpa using hlt5
            have HLY : Hid (leN y x) := hide (fun h => hlt5 (HCN.out.2 h))
            go_wp2_with fail
            first
              | (go_region_held3 (fun w' => w'.cell? ⟨g, jm * 3, none⟩ = some (.string x.nm) ∧ w'.cell? ⟨g, jm * 3 + 1, none⟩ = some (.int .i64 x.n) ∧ w'.cell? ⟨g, jm * 3 + 2, none⟩ = some (.int .i64 x.md) ∧ w'.cell? ⟨g, jn * 3, none⟩ = some (.string y.nm) ∧ w'.cell? ⟨g, jn * 3 + 1, none⟩ = some (.int .i64 y.n) ∧ w'.cell? ⟨g, jn * 3 + 2, none⟩ = some (.int .i64 y.md))
              (go_keep)
              (first
                | (go_at_call 71; refine (HC.out _).mono ?_; rintro e w5 ⟨rfl, hb5⟩; obtain ⟨q0, q1, q2, q3, q4, q5⟩ := KP.out _ hb5; have HB5 := hide hb5; clear hb5)))
              | fail
            all_goals
              have HB6 : Hid (Below wr.heap.size wr w5) := hide ((Below.refl _ _).drew.trans HB5.out)
              obtain ⟨M', m1, m2, m3⟩ := HEND.out (HLE.out.2 HLY.out)
              have HM1 := hide m1
              have HM2 := hide m2
              have HM3 := hide (m3.below HB6.out)
              have HO6 : Hid (Only (· = g) w w5) := hide (HON.out.trans (Only.below HB6.out) (fun _ _ e => e))
              clear m1 m2 m3 HEND q0 q1 q2 q3 q4 q5 x0 x1 x2 y0 y1 y2 KP HB5
              go_wp2
              go_roundw
              case rel => exact ⟨q + 1, M', by omega, by have := HLT.out; omega, by go_num, HM1.out, HM2.out, HM3.out, HO6.out⟩
              case measure => have := HLT.out; simp [intOf]; omega
    · have hqi : ¬ (q : Int) < ((L.length : Nat) : Int) := by omega
      have HSE : Hid (SortedN M) := hide (by have := HSO.out; rw [List.take_of_length_le (by omega)] at this; exact this)
      go_wp2
      go_end0
      exact ⟨rfl, ⟨M, HSA.out, HP.out, HSE.out⟩, HON.out⟩
end Go.Proofs.Ytkpambipgcjaiaa
