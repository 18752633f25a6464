/- Package dayshiftlaw11: known, CondNil. -/
import Derived.Test.YtliinilbfacpbaaCmA
namespace Go.Proofs.Ytliinilbfacpbaa
open Go.ChangeShapes Go.WideShapes Go.ChangeAt Go.RowKit Go.DsMem Go.DsCo
set_option linter.unusedVariables false
theorem cadd_eq {c : Cn} {L M : List Cn} {k : Int} (he : addF L c = (M, k)) (hc : fitC c) (p B : Nat) (w : World) (h : StAt w p B L) :
    Calls Try.prog 11 #[.pointer (some ⟨p, 0, none⟩), .agg #[.string c.nm, .int .i64 c.day]] w fun e w' => e = .returned (.int .i64 k) ∧ StAt w' p B M ∧ Only (· = B) w w' :=
  (cadd_any c p B L w h hc).mono fun e w' h' => by unfold Added at h'; rw [he] at h'; exact h'
def b5 : Cn := ⟨⟨#[98]⟩, 5⟩
def a9 : Cn := ⟨⟨#[97]⟩, 9⟩
def b3 : Cn := ⟨⟨#[98]⟩, 3⟩
theorem ok_b5 : okC b5 := by unfold okC b5; exact ⟨by decide, by decide, by decide, by decide⟩
theorem ok_a9 : okC a9 := by unfold okC a9; exact ⟨by decide, by decide, by decide, by decide⟩
theorem ok_b3 : okC b3 := by unfold okC b3; exact ⟨by decide, by decide, by decide, by decide⟩
theorem a_lt_b : (⟨#[97]⟩ : ByteArray).data.toList < (⟨#[98]⟩ : ByteArray).data.toList := by decide
theorem ah_a9_b5 : DsCo.ahead a9 b5 := .inl a_lt_b
theorem ah_a9_b3 : DsCo.ahead a9 b3 := .inl a_lt_b
theorem ah_b3_b5 : DsCo.ahead b3 b5 := .inr ⟨rfl, by unfold b3 b5; decide⟩
theorem add_new {L : List Cn} {c : Cn} (h1 : okC c) (h2 : c ∉ L) (h3 : L.length < 128) : addF L c = (insL c L, 0) := by
  unfold addF
  rw [if_neg (by simpa using h1), if_neg h2, if_neg (by omega)]
theorem kn1 : addF [] b5 = ([b5], 0) := by rw [add_new ok_b5 (by simp) (by simp)]; rfl
theorem kn2 : addF [b5] a9 = ([a9, b5], 0) := by
  rw [add_new ok_a9 (fun h => by simp at h; have := congrArg Cn.day h; simp [a9, b5] at this) (by simp)]
  unfold insL
  rw [if_pos ah_a9_b5]
theorem kn3 : addF [a9, b5] b3 = ([a9, b3, b5], 0) := by
  rw [add_new ok_b3 (fun h => by
    simp at h
    rcases h with h | h
    · have := congrArg Cn.day h; simp [a9, b3] at this
    · have := congrArg Cn.day h; simp [b5, b3] at this) (by simp)]
  unfold insL
  rw [if_neg (fun h => ahead_irrefl _ (ahead_trans ah_a9_b3 h))]
  unfold insL
  rw [if_pos ah_b3_b5]
theorem kn4 : cleanF [a9, b3, b5] 5 = [a9, b5] := by unfold cleanF; simp [a9, b3, b5]
set_option maxHeartbeats 16000000 in
set_option maxRecDepth 20000 in
/-- known -/
theorem known11 (w : World) : Calls Try.prog 21 #[] w fun e w' => e = .returned (.bool true) ∧ Below w.heap.size w w' := by
  obtain ⟨B, hB⟩ : ∃ B, w.heap.size = B := ⟨_, rfl⟩
  have HN := hide (cnew_any w)
  have HA1 := hide (cadd_eq kn1 (okC.fit ok_b5) (B + 1) B)
  have HA2 := hide (cadd_eq kn2 (okC.fit ok_a9) (B + 1) B)
  have HA3 := hide (cadd_eq kn3 (okC.fit ok_b3) (B + 1) B)
  have HL := hide (fun w h => clist_any (B + 1) B [a9, b3, b5] w h)
  have HC := hide (fun w h => cclean_any 5 (B + 1) B [a9, b3, b5] w h)
  have HE := hide (fun w h => clen_any (B + 1) B [a9, b5] w h)
  rw [hB] at HN ⊢
  rw [kn4] at HC
  unfold ptr at *
  unfold b5 a9 b3 at *
  go_enter Try.func21, Try.ntmps21
  go_wp2_with fail
  refine HN.out.mono ?_
  rintro e w1 ⟨rfl, hs1, hb1⟩
  have HS1 := hide hs1
  have HB1 := hide hb1
  clear hs1 hb1 HN
  go_wp2_with fail
  refine (HA1.out w1 HS1.out).mono ?_
  rintro e w2 ⟨rfl, hs2, ho2⟩
  have HS2 := hide hs2
  have HB2 := hide (HB1.out.trans (ho2.toBelow (by have := HB1.out.size; omega) (fun i hi => by omega)))
  clear hs2 ho2 HA1
  go_wp2_with fail
  refine (HA2.out w2 HS2.out).mono ?_
  rintro e w3 ⟨rfl, hs3, ho3⟩
  have HS3 := hide hs3
  have HB3 := hide (HB2.out.trans (ho3.toBelow (by have := HB2.out.size; omega) (fun i hi => by omega)))
  clear hs3 ho3 HA2
  go_wp2_with fail
  refine (HA3.out w3 HS3.out).mono ?_
  rintro e w4 ⟨rfl, hs4, ho4⟩
  have HS4 := hide hs4
  have HB4 := hide (HB3.out.trans (ho4.toBelow (by have := HB3.out.size; omega) (fun i hi => by omega)))
  clear hs4 ho4 HA3
  obtain ⟨w5, hw5⟩ : ∃ w5, w5 = w4.alloc (.cells #[.string ⟨#[97]⟩, .int .i64 9, .string ⟨#[98]⟩, .int .i64 3, .string ⟨#[98]⟩, .int .i64 5] 24) := ⟨_, rfl⟩
  have hb5 : Below w4.heap.size w4 w5 := by rw [hw5]; exact (Below.refl _ _).alloc (Nat.le_refl _) _
  have HRD : Hid (CnsRd w5 (some ⟨w4.heap.size, 0, none⟩) [⟨⟨#[97]⟩, 9⟩, ⟨⟨#[98]⟩, 3⟩, ⟨⟨#[98]⟩, 5⟩]) := by
    refine hide ?_
    intro i hi
    refine ⟨w4.heap.size, 0, rfl, ?_⟩
    rw [hw5]
    match i, hi with
    | 0, _ => exact ⟨by rw [World.cell?_alloc_mark]; rfl, by rw [World.cell?_alloc_mark]; rfl⟩
    | 1, _ => exact ⟨by rw [World.cell?_alloc_mark]; rfl, by rw [World.cell?_alloc_mark]; rfl⟩
    | 2, _ => exact ⟨by rw [World.cell?_alloc_mark]; rfl, by rw [World.cell?_alloc_mark]; rfl⟩
  have HS5 := hide (HS4.out.below hb5)
  have HB5 : Hid (Below B w w5) := HB4.out.trans (hb5.mono (by have := HB4.out.size; omega))
  clear hb5
  go_wp2_with fail
  rw [← hw5]
  clear hw5
  refine (HL.out w5 HS5.out).mono ?_
  rintro e w6 ⟨g, cap, rfl, hrow, hb6⟩
  have HS6 := hide (HS5.out.below hb6)
  have HB6 : Hid (Below B w w6) := HB5.out.trans (hb6.mono (by have := HB5.out.size; omega))
  have HR6 := hide hrow.rd
  obtain ⟨cur, _, _, hcap, _⟩ := hrow.block
  have HRD6 := hide (HRD.out.below hb6)
  clear hrow hb6 HL HRD
  simp only [List.length_cons, List.length_nil, Nat.zero_add, Nat.reduceAdd] at hcap ⊢
  go_wp2_with fail
  refine (csame_any _ _ _ _ cap 3 w6 HR6.out HRD6.out hcap (by simp) (by simp)).mono ?_
  rintro e w7 ⟨rfl, hb7⟩
  rw [eqB_true rfl]
  have HS7 := hide (HS6.out.below hb7)
  have HB7 : Hid (Below B w w7) := HB6.out.trans (hb7.mono (by have := HB6.out.size; omega))
  clear hb7 HR6 HRD6
  go_wp2_with fail
  refine (HC.out w7 HS7.out).mono ?_
  rintro e w8 ⟨rfl, hs8, ho8⟩
  have HS8 := hide hs8
  have HB8 := hide (HB7.out.trans (ho8.toBelow (by have := HB7.out.size; omega) (fun i hi => by omega)))
  clear hs8 ho8
  simp only [List.length_cons, List.length_nil, Nat.zero_add, Nat.reduceAdd]
  go_wp2_with fail
  refine (HE.out w8 HS8.out).mono ?_
  rintro e w9 ⟨rfl, rfl⟩
  simp only [List.length_cons, List.length_nil, Nat.zero_add, Nat.reduceAdd]
  go_wp2
  go_ret
  exact ⟨rfl, HB8.out⟩
set_option maxHeartbeats 16000000 in
set_option maxRecDepth 20000 in
/-- law CondNil -/
theorem nil11 (c : Cn) (w : World) : Calls Try.prog 6 #[.agg #[.string c.nm, .int .i64 c.day]] w fun e w' => e = .returned (.bool true) ∧ Below w.heap.size w w' := by
  have H1 := hide (fun w => cadd_nil c w)
  have H2 := hide (fun w => cdrop_nil c w)
  have H3 := hide (fun w => cdropall_nil c.nm w)
  have H4 := hide (fun w => chas_nil c w)
  have H5 := hide (fun w => cany_nil c.nm w)
  have H6 := hide (fun w => cclean_nil c.day w)
  have H7 := hide (fun w => clist_nil w)
  have H8 := hide (fun w => clen_nil w)
  have H9 := hide (fun w => ccopy_nil w)
  have BX := hide (BoxC.new w c 24)
  have HBL : Hid (Below w.heap.size w (w.alloc (.cells #[.string c.nm, .int .i64 c.day] 24))) := (Below.refl _ _).alloc (Nat.le_refl _) _
  unfold cvl at *
  obtain ⟨w1, hw1⟩ : ∃ w1, w1 = w.alloc (.cells #[.string c.nm, .int .i64 c.day] 24) := ⟨_, rfl⟩
  rw [← hw1] at BX HBL
  go_enter Try.func6, Try.ntmps6
  go_wp2_with fail
  rw [← hw1]
  clear hw1
  obtain ⟨x0, x1⟩ := BX.out
  go_wp2_with fail
  refine (H1.out w1).mono ?_
  rintro e w2 ⟨rfl, hb⟩
  have HB2 := hide (HBL.out.trans (hb.mono HBL.out.size))
  have BX2 := hide (BX.out.below hb)
  clear hb x0 x1
  obtain ⟨x0, x1⟩ := BX2.out
  go_wp2_with fail
  refine (H2.out w2).mono ?_
  rintro e w3 ⟨rfl, hb⟩
  have HB3 := hide (HB2.out.trans (hb.mono HB2.out.size))
  have BX3 := hide (BX2.out.below hb)
  clear hb x0 x1
  obtain ⟨x0, x1⟩ := BX3.out
  go_wp2_with fail
  refine (H3.out w3).mono ?_
  rintro e w4 ⟨rfl, hb⟩
  have HB4 := hide (HB3.out.trans (hb.mono HB3.out.size))
  have BX4 := hide (BX3.out.below hb)
  clear hb x0 x1
  obtain ⟨x0, x1⟩ := BX4.out
  go_wp2_with fail
  refine (H4.out w4).mono ?_
  rintro e w5 ⟨rfl, hb⟩
  have HB5 := hide (HB4.out.trans (hb.mono HB4.out.size))
  have BX5 := hide (BX4.out.below hb)
  clear hb x0 x1
  obtain ⟨x0, x1⟩ := BX5.out
  go_wp2_with fail
  refine (H5.out w5).mono ?_
  rintro e w6 ⟨rfl, rfl⟩
  go_wp2_with fail
  refine (H6.out w6).mono ?_
  rintro e w7 ⟨rfl, hb⟩
  have HB7 := hide (HB5.out.trans (hb.mono HB5.out.size))
  clear hb x0 x1
  go_wp2_with fail
  refine (H7.out w7).mono ?_
  rintro e w8 ⟨rfl, rfl⟩
  go_wp2_with fail
  refine (H8.out w8).mono ?_
  rintro e w9 ⟨rfl, rfl⟩
  go_wp2_with fail
  refine (H9.out w9).mono ?_
  rintro e w10 ⟨rfl, rfl⟩
  go_wp2_with fail
  refine (known11 w10).mono ?_
  rintro e w11 ⟨rfl, hb⟩
  have HB11 := hide (HB7.out.trans (hb.mono HB7.out.size))
  clear hb
  go_wp2
  go_ret
  exact ⟨rfl, HB11.out⟩
end Go.Proofs.Ytliinilbfacpbaa
