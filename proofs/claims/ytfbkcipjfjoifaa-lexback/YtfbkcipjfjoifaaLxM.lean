/- Layer 7's law: known. -/
import Derived.Test.YtfbkcipjfjoifaaLxL
namespace Go.Proofs.Ytfbkcipjfjoifaa
open Go.ChangeShapes Go.WideShapes Go.ChangeAt Go.RowKit Go.DsMem Go.DsLx
set_option linter.unusedVariables false
def ks1 : ByteArray := ⟨#[106, 111, 98, 32, 65, 49, 32, 123, 32, 112, 114, 105, 111, 32, 55, 59, 32, 125, 32, 35, 32, 120]⟩
def ks2 : ByteArray := ⟨#[119, 105, 110, 100, 111, 119, 32, 50, 50, 58, 51, 48]⟩
def ks3 : ByteArray := ⟨#[120, 32, 57, 97]⟩
theorem ks1_t : (tokensF ks1).1.length = 7 ∧ (tokensF ks1).2.1 = 0 ∧ (tokensF ks1).2.2 = 0 ∧ ((tokensF ks1).1[1]?).map (fun t => (t.kind, t.text.data.toList)) = some (1, [97, 49]) := by decide +kernel
theorem ks2_t : (tokensF ks2).1.length = 2 ∧ (tokensF ks2).2.1 = 0 ∧ (tokensF ks2).2.2 = 0 ∧ ((tokensF ks2).1[1]?).map (fun t => (t.kind, t.n)) = some (3, 1350) := by decide +kernel
theorem ks3_t : (tokensF ks3).1.length = 0 ∧ (tokensF ks3).2.1 = 2 ∧ (tokensF ks3).2.2 = 20 := by decide +kernel
/-- a row of words holds each -/
theorem tkRow_len : ∀ l : List Tk, (tkRow l).length = l.length * 4
  | [] => rfl
  | t :: l => by
    have := tkRow_len l
    show (tkC t ++ tkRow l).length = _
    rw [List.length_append, this]; simp [tkC]; omega
theorem tkRow_at : ∀ (l : List Tk) (j k : Nat) (t : Tk), k < 4 → l[j]? = some t → (tkRow l)[j * 4 + k]? = (tkC t)[k]?
  | [], j, k, t, _, h => by simp at h
  | a :: l, 0, k, t, hk, h => by
    simp at h; subst h
    show (tkC a ++ tkRow l)[0 * 4 + k]? = _
    rw [List.getElem?_append_left (by simp [tkC]; omega)]
    congr 1; omega
  | a :: l, j + 1, k, t, hk, h => by
    show (tkC a ++ tkRow l)[(j + 1) * 4 + k]? = _
    rw [List.getElem?_append_right (by simp [tkC]; omega)]
    have e : (j + 1) * 4 + k - (tkC a).length = j * 4 + k := by simp [tkC]; omega
    rw [e]
    exact tkRow_at l j k t hk (by simpa using h)
theorem tk_cells {w : World} {B : Nat} {uo : Option Addr} {uc n : Nat} {l : List Tk} (h : w.ownsRow B 39 4 (.slice uo n uc) n (tkRow l)) (hn : 0 < n) : ∃ g, uo = some ⟨g, 0, none⟩ ∧ n ≤ uc ∧ g < w.heap.size ∧ ∀ j t, l[j]? = some t → w.cell? ⟨g, j * 4, none⟩ = some (.int .i64 t.kind) ∧ w.cell? ⟨g, j * 4 + 1, none⟩ = some (.string t.text) ∧ w.cell? ⟨g, j * 4 + 2, none⟩ = some (.int .i64 t.n) ∧ w.cell? ⟨g, j * 4 + 3, none⟩ = some (.int .i64 t.at_) := by
  rcases h.2 with ⟨_, h0⟩ | ⟨g, cap, cur, e, hb, hg, hc, _⟩
  · omega
  · simp only [Value.slice.injEq] at e
    obtain ⟨rfl, -, rfl⟩ := e
    refine ⟨g, rfl, hc, block_lt hg, fun j t ht => ?_⟩
    have key : ∀ k u, k < 4 → (tkC t)[k]? = some u → w.cell? ⟨g, j * 4 + k, none⟩ = some u := fun k u hk hu => by
      have := h.cells (g := g) rfl (j * 4 + k) u (by rw [tkRow_at l j k t hk ht]; exact hu)
      rw [add_mk, Nat.zero_add] at this
      exact this
    exact ⟨key 0 _ (by decide) rfl, key 1 _ (by decide) rfl, key 2 _ (by decide) rfl, key 3 _ (by decide) rfl⟩
set_option maxHeartbeats 4000000 in
set_option maxRecDepth 20000 in
/-- dayshiftlaw07.known -/
theorem known7 (w : World) : Calls Try.prog 17 #[] w fun e w' => e = .returned (.bool true) ∧ Below w.heap.size w w' := by
  have H1 := hide (fun w => tokens_any ks1 w (by show ks1.size ≤ _; decide +kernel))
  have H2 := hide (fun w => tokens_any ks2 w (by show ks2.size ≤ _; decide +kernel))
  have H3 := hide (fun w => tokens_any ks3 w (by show ks3.size ≤ _; decide +kernel))
  have T1 := hide ks1_t
  have T2 := hide ks2_t
  have T3 := hide ks3_t
  unfold ks1 at H1 T1
  unfold ks2 at H2 T2
  unfold ks3 at H3 T3
  generalize tokensF ⟨#[106, 111, 98, 32, 65, 49, 32, 123, 32, 112, 114, 105, 111, 32, 55, 59, 32, 125, 32, 35, 32, 120]⟩ = R1 at *
  generalize tokensF ⟨#[119, 105, 110, 100, 111, 119, 32, 50, 50, 58, 51, 48]⟩ = R2 at *
  generalize tokensF ⟨#[120, 32, 57, 97]⟩ = R3 at *
  obtain ⟨l1, p1, e1⟩ := R1
  obtain ⟨l2, p2, e2⟩ := R2
  obtain ⟨l3, p3, e3⟩ := R3
  obtain ⟨hl1, rfl, rfl, ht1⟩ := T1.out
  obtain ⟨hl2, rfl, rfl, ht2⟩ := T2.out
  obtain ⟨hl3, rfl, rfl⟩ := T3.out
  simp only at hl1 ht1 hl2 ht2 hl3
  obtain ⟨t1, ht1, hk1⟩ := Option.map_eq_some_iff.1 ht1
  obtain ⟨t2, ht2, hk2⟩ := Option.map_eq_some_iff.1 ht2
  simp only [Prod.mk.injEq] at hk1 hk2
  obtain ⟨k1, x1⟩ := hk1
  obtain ⟨k2, x2⟩ := hk2
  have x1' : t1.text = ⟨#[97, 49]⟩ := by
    have : t1.text.data = #[97, 49] := by rw [← Array.toList_inj]; exact x1
    cases hh : t1.text; rw [hh] at this; simp only at this; rw [this]
  clear T1 T2 T3
  go_enter Try.func17, Try.ntmps17
  go_wp2_with fail
  refine (H1.out w).mono ?_
  rintro e w1 ⟨uo1, uc1, rfl, ho1, hb1⟩
  rw [hl1] at ho1 ⊢
  obtain ⟨g1, rfl, hc1, hg1, hcells1⟩ := tk_cells ho1 (by omega)
  obtain ⟨a0, a1, a2, a3⟩ := hcells1 1 t1 ht1
  rw [k1] at a0
  rw [x1'] at a1
  have HB1 := hide hb1
  clear ho1 hb1 hcells1 a2 a3
  go_wp2_with fail
  refine (H2.out w1).mono ?_
  rintro e w2 ⟨uo2, uc2, rfl, ho2, hb2⟩
  rw [hl2] at ho2 ⊢
  obtain ⟨g2, rfl, hc2, hg2, hcells2⟩ := tk_cells ho2 (by omega)
  obtain ⟨b0, b1, b2, b3⟩ := hcells2 1 t2 ht2
  rw [k2] at b0
  rw [x2] at b2
  have A0 := hide (Below.keeps hb2 (Nat.le_refl _) a0)
  have A1 := hide (Below.keeps hb2 (Nat.le_refl _) a1)
  have HB2 := hide (HB1.out.trans (hb2.mono HB1.out.size))
  clear ho2 hb2 hcells2 b1 b3 a0 a1
  go_wp2_with fail
  refine (H3.out w2).mono ?_
  rintro e w3 ⟨uo3, uc3, rfl, ho3, hb3⟩
  have c0 := Below.keeps hb3 (Nat.le_refl _) A0.out
  have c1 := Below.keeps hb3 (Nat.le_refl _) A1.out
  have d0 := Below.keeps hb3 (Nat.le_refl _) b0
  have d2 := Below.keeps hb3 (Nat.le_refl _) b2
  have HB3 := hide (HB2.out.trans (hb3.mono HB2.out.size))
  rw [hl3]
  clear ho3 hb3 b0 b2
  go_wp2
  go_ret
  exact ⟨rfl, HB3.out⟩
end Go.Proofs.Ytfbkcipjfjoifaa
