/- The walk of Frame of package log. -/
import Derived.Test.YtgobnnciijlpaaaDoorLgA
import Derived.Deep.RegionWith
namespace Go.Proofs.YtgobnnciijlpaaaDoor
open Go.ChangeShapes Go.WideShapes Go.ChangeAt Go.RowKit Go.DsMem Go.DsDk Go.DsLg
set_option linter.unusedVariables false

theorem splice_mid {α : Type} (P M S cs : List α) (o : Nat) (hP : P.length = o) (hM : M.length = cs.length) : splice (P ++ (M ++ S)) o cs = P ++ (cs ++ S) := by
  subst hP
  unfold splice
  rw [List.take_left, ← hM, ← List.append_assoc P M S, ← List.length_append, List.drop_left]
theorem four (Z : List Value) (n : Nat) (hZ : Z.length = 16 + n) : ∃ a b c d, Z = a ++ (b ++ (c ++ d)) ∧ a.length = 4 ∧ b.length = 4 ∧ c.length = 8 ∧ d.length = n := by
  refine ⟨Z.take 4, (Z.drop 4).take 4, (Z.drop 8).take 8, Z.drop 16, ?_, by simp; omega, by simp; omega, by simp; omega, by simp; omega⟩
  have e1 : (Z.drop 8).take 8 ++ Z.drop 16 = Z.drop 8 := by have := List.take_append_drop 8 (Z.drop 8); rwa [List.drop_drop] at this
  have e2 : (Z.drop 4).take 4 ++ Z.drop 8 = Z.drop 4 := by have := List.take_append_drop 4 (Z.drop 4); rwa [List.drop_drop] at this
  rw [e1, e2, List.take_append_drop]
theorem splice1 (a b c d A : List Value) (hA : A.length = 4) (ha : a.length = 4) : splice (a ++ (b ++ (c ++ d))) 0 A = A ++ (b ++ (c ++ d)) := by
  have := splice_mid [] a (b ++ (c ++ d)) A 0 rfl (by omega)
  simpa using this
theorem splice2 (A b c d C : List Value) (hA : A.length = 4) (hb : b.length = 4) (hc : c.length = 8) (hC : C.length = 8) : splice (A ++ (b ++ (c ++ d))) 8 C = A ++ (b ++ (C ++ d)) := by
  have := splice_mid (A ++ b) c d C 8 (by simp; omega) (by omega)
  simpa using this
theorem splice3' (A b C d R : List Value) (hA : A.length = 4) (hb : b.length = 4) (hC : C.length = 8) (hd : d.length = R.length) : splice (A ++ (b ++ (C ++ d))) 16 R = A ++ (b ++ (C ++ R)) := by
  have := splice_mid (A ++ (b ++ C)) d [] R 16 (by simp; omega) (by omega)
  simpa using this
theorem splice4 (A b C R B : List Value) (hA : A.length = 4) (hb : b.length = 4) (hB : B.length = 4) : splice (A ++ (b ++ (C ++ R))) 4 B = A ++ (B ++ (C ++ R)) :=
  splice_mid A b (C ++ R) B 4 hA (by omega)

/-- bytes that lie in a row from some place on -/
theorem rd_row {w : World} {g o n c : Nat} {cur P : List Value} {S : List UInt8} {e : TypeId} (hg : w.heap[g]? = some (.cells cur.toArray e (0, 0))) (hc : cur = P ++ bvs S) (ho : P.length = o) (hn : S.length = n) (hnc : n ≤ c) :
    Rd w (.slice (some ⟨g, o, none⟩) n c) S := by
  subst hn
  refine ⟨_, c, rfl, hnc, fun h => (by cases h), fun a ha j u hu => ?_⟩
  obtain rfl : (⟨g, o, none⟩ : Addr) = a := Option.some.inj ha
  rw [add_mk]
  refine (cell_of hg).trans ?_
  rw [List.getElem?_toArray, hc, List.getElem?_append_right (by omega), bvs_get, show o + j - P.length = j by omega, hu]
  rfl

theorem copy_len (rec : List UInt8) (n : Nat) (hn : n = rec.length := by omega) : (bvs rec).length = Nat.min n n := by rw [bvs_length, hn]; exact (Nat.min_self _).symm
theorem copy_pos {w : World} {rec : List UInt8} {ao dp : Option Addr} {n cap g o : Nat} (hd : 0 < rec.length → dp = some ⟨g, o, none⟩) (h : Rd w (.slice ao n cap) rec) :
    0 < (bvs rec).length → dp = some ⟨g, o, none⟩ ∧ ∃ ad, ao = some ad ∧ ∀ j v, (bvs rec)[j]? = some v → w.cell? (ad.add j) = some v := by
  intro h0
  rw [bvs_length] at h0
  refine ⟨hd h0, ?_⟩
  obtain ⟨ao', cap', he, hlc, hnil, hrd⟩ := h
  simp only [Value.slice.injEq] at he
  obtain ⟨rfl, _, _⟩ := he
  cases ao with
  | none => have := hnil rfl; omega
  | some a =>
    refine ⟨a, rfl, fun j v hj => ?_⟩
    rw [bvs_get] at hj
    obtain ⟨u, hu, rfl⟩ := Option.map_eq_some_iff.1 hj
    exact hrd a rfl j u hu

set_option maxRecDepth 10000 in
/-- log.Frame of too long a record -/
theorem frame_no (seq : Nat) (rec : List UInt8) (sl : Value) (w : World) (h : Rd w sl rec) (hbig : 60000 < rec.length) :
    Calls Tryd.prog 32 #[.int .u64 seq, sl] w fun e w' => e = .returned (.tuple #[.slice none 0 0, .int .i64 3]) ∧ w' = w := by
  obtain ⟨ao, cap, rfl, hlc, hnil, hrd⟩ := h
  clear hnil hrd
  go_enter Tryd.func32, Tryd.ntmps32
  go_wp2
  go_ret2
  exact ⟨rfl, rfl⟩

set_option maxRecDepth 10000 in
set_option maxHeartbeats 2000000 in
/-- log.Frame -/
theorem frame_any (seq : Nat) (rec : List UInt8) (sl : Value) (w : World) (ht : Tab w) (h : Rd w sl rec) (hq : seq < 18446744073709551616) (hsml : rec.length ≤ 60000) :
    Calls Tryd.prog 32 #[.int .u64 seq, sl] w fun e w' => ∃ v, e = .returned (.tuple #[v, .int .i64 0]) ∧ w'.ownsRow w.heap.size 5 1 v (16 + rec.length) (bvs (frameB seq rec)) ∧ Below w.heap.size w w' := by
  obtain ⟨i0, hi, hz0, hz1, hz2⟩ := info_parts info5
  have HR := hide h
  obtain ⟨ao, cap, rfl, hlc, hnil, hrd⟩ := h
  clear hnil hrd
  have HT := hide ht
  clear ht
  rcases (show rec = [] ∨ 0 < rec.length by cases rec <;> simp) with h0 | h0
  · subst h0
    simp only [List.length_nil] at *
    go_enter Tryd.func32, Tryd.ntmps32
    go_wp2_with (at_make; refine wpList_make_full _ rfl _ _ 28 rfl w.heap.size 5 i0 (.int .u8 0) 1 Tryd.underlying28 hi hz0 hz1 _ _ _ _ (16 + 0) rfl rfl (by omega) (by omega) (by rw [hz2]; omega) (by unfold maxLen; omega) (Nat.le_refl _) ?_; intro w1 hown1 hgrow1; obtain ⟨cur, hcur, hlen, _, _, _, _⟩ := own_row hown1; have hb1 := (Below.refl w.heap.size w).grown hgrow1 (Nat.le_refl _) (fun _ h => by cases h); clear hown1 hgrow1; have HC := hide hcur; have HB1 := hide hb1; clear hcur hb1)
    obtain ⟨za, zb, zc, zd, rfl, ha, hb, hc, hd⟩ := four cur 0 hlen
    refine (put_any _ _ _ _ 0 _ w1 HC.out (by omega) (by omega) (by decide)).mono ?_
    rintro e w2 ⟨rfl, hr2, ho2⟩
    rw [splice1 _ _ _ _ _ (by rw [bvs_length, lowB_len]) ha] at hr2
    have hA : (bvs (lowB 4 0)).length = 4 := by rw [bvs_length, lowB_len]
    have HR2 := hide hr2
    have HB2 := hide (HB1.out.trans (ho2.toBelow (B := w.heap.size) HB1.out.size (fun i hi => by omega)))
    clear hr2 ho2
    go_wp2_with fail
    refine (put_any _ _ _ _ seq _ w2 HR2.out (by simp [hA, hb, hc, hd] <;> omega) hq (by decide)).mono ?_
    rintro e w3 ⟨rfl, hr3, ho3⟩
    rw [splice2 _ _ _ _ _ hA hb hc (by rw [bvs_length, lowB_len])] at hr3
    have hC : (bvs (lowB 8 seq)).length = 8 := by rw [bvs_length, lowB_len]
    have HR3 := hide hr3
    have HB3 := hide (HB2.out.trans (ho3.toBelow (B := w.heap.size) HB2.out.size (fun i hi => by omega)))
    have HRW := hide (HR.out.below HB3.out)
    clear hr3 ho3
    go_wp2_with (refine wpList_copy_splice rfl (.tmp 25) (.tmp 26) 28 28 rfl 5 Tryd.underlying28 size5 _ _ _ _ _ _ rfl rfl w.heap.size 16 _ 5 HR3.out (bvs []) (by exact copy_len [] _ rfl) (by exact copy_pos (fun h => by cases h) HRW.out) (by simp [hA, hb, hC, hd, bvs_length]; try omega) (bvs_one []) w.heap.size w HB3.out (Nat.le_refl _) ?_; intro w4 hr4 hb4)
    generalize goInt _ = gi
    have hr4' := hr4.out
    rw [splice3' _ _ _ _ _ hA hb hC (by rw [bvs_length, hd] <;> rfl)] at hr4'
    have HR4 := hide hr4'
    have HB4 := hide hb4
    have HSM : Hid (∀ n c, n = 0 + 8 → n ≤ c → Rd w4.drew (.slice (some ⟨w.heap.size, 8, none⟩) n c) (lowB 8 seq ++ [])) := fun n c hn hc => rd_row (w := w4.drew) (P := bvs (lowB 4 0) ++ zb) (S := lowB 8 seq ++ []) hr4' (by rw [bvs_append]; simp) (by simp [hA, hb]) (by simp [lowB_len] <;> omega) hc
    have HT4 : Hid (Tab w4.drew) := fun k hk => Below.keeps HB4.out (Nat.le_refl _) (HT.out k hk)
    have HR5 : Hid (w4.drew.heap[w.heap.size]? = some (.cells (bvs (lowB 4 0) ++ (zb ++ (bvs (lowB 8 seq) ++ bvs []))).toArray 5 (0, 0))) := hr4'
    obtain ⟨sm, hsm⟩ : ∃ sm, sm = sum32 (lowB 8 seq ++ []) := ⟨_, rfl⟩
    have hsl := sum32_lt (lowB 8 seq ++ [])
    rw [← hsm] at hsl
    have HSUM : Hid (∀ n c, n = 0 + 8 → n ≤ c → Calls Tryd.prog 36 #[.slice (some ⟨w.heap.size, 8, none⟩) n c] w4.drew fun e w' => e = .returned (.int .u32 sm) ∧ w' = w4.drew) := fun n c hn hc => by
      rw [hsm]
      exact sum_any (lowB 8 seq ++ []) _ w4.drew HT4.out (HSM.out n c hn hc) (by rw [List.length_append, lowB_len]; first | omega | decide)
    have HPUT : Hid (∀ c, Calls Tryd.prog 63 #[.slice (some ⟨w.heap.size, 4, none⟩) 4 c, .int .u64 sm] w4.drew fun e w' => e = .returned (.tuple #[]) ∧
      w'.heap[w.heap.size]? = some (.cells (bvs (frameB seq [])).toArray 5 (0, 0)) ∧ Only (· = w.heap.size) w4.drew w') := fun c => by
      have := put_any w.heap.size 4 4 c sm _ w4.drew HR5.out (by simp only [List.length_append, hA, hb, hC, bvs_length]; omega) (by omega) (by decide)
      rw [splice4 _ _ _ _ _ hA hb (by rw [bvs_length, lowB_len]), hsm, ← bvs_append, ← bvs_append, ← bvs_append] at this
      rw [hsm]
      exact this
    have hwr : IntKind.u64.wrap (sm : Int) = (sm : Int) := by rw [IntKind.wrap_u64]; omega
    have HSMM := hide hsm
    clear hsm
    clear hr4 hr4' hb4
    simp only [Act.put]
    go_simp
    go_region_with (first
      | (go_at_call 36; refine (HSUM.out _ _ (by omega) (by omega)).mono ?_; rintro e w' ⟨rfl, rfl⟩)
      | (go_at_call 63; refine (HPUT.out _).mono ?_; rintro e w5 ⟨rfl, hr5, ho5⟩))
    all_goals go_wp2
    all_goals go_ret2
    all_goals refine ⟨_, rfl, own_mk hr5 (by simp [bvs_length, frameB_len]) (List.take_of_length_le (by rw [bvs_length, frameB_len]; exact Nat.le_refl _)) (Nat.le_refl _) (by unfold maxLen; omega) (Nat.le_refl _), ?_⟩
    all_goals exact HB4.out.drew.trans ((ho5.toBelow (B := w.heap.size) (by have := HB4.out.size; simpa using this) (fun i hi => by omega)))
  · have hnn : ¬ rec = [] := by intro h; simp [h] at h0
    have hn8 : ¬ 16 + rec.length = 8 := by omega
    have hn4 : ¬ 16 + rec.length = 4 := by omega
    go_enter Tryd.func32, Tryd.ntmps32
    go_wp2_with (at_make; refine wpList_make_full _ rfl _ _ 28 rfl w.heap.size 5 i0 (.int .u8 0) 1 Tryd.underlying28 hi hz0 hz1 _ _ _ _ (16 + rec.length) rfl rfl (by omega) (by omega) (by rw [hz2]; omega) (by unfold maxLen; omega) (Nat.le_refl _) ?_; intro w1 hown1 hgrow1; obtain ⟨cur, hcur, hlen, _, _, _, _⟩ := own_row hown1; have hb1 := (Below.refl w.heap.size w).grown hgrow1 (Nat.le_refl _) (fun _ h => by cases h); clear hown1 hgrow1; have HC := hide hcur; have HB1 := hide hb1; clear hcur hb1)
    obtain ⟨za, zb, zc, zd, rfl, ha, hb, hc, hd⟩ := four cur rec.length hlen
    refine (put_any _ _ _ _ rec.length _ w1 HC.out (by omega) (by omega) (by decide)).mono ?_
    rintro e w2 ⟨rfl, hr2, ho2⟩
    rw [splice1 _ _ _ _ _ (by rw [bvs_length, lowB_len]) ha] at hr2
    have hA : (bvs (lowB 4 rec.length)).length = 4 := by rw [bvs_length, lowB_len]
    have HR2 := hide hr2
    have HB2 := hide (HB1.out.trans (ho2.toBelow (B := w.heap.size) HB1.out.size (fun i hi => by omega)))
    clear hr2 ho2
    go_wp2_with fail
    refine (put_any _ _ _ _ seq _ w2 HR2.out (by simp [hA, hb, hc, hd] <;> omega) hq (by decide)).mono ?_
    rintro e w3 ⟨rfl, hr3, ho3⟩
    rw [splice2 _ _ _ _ _ hA hb hc (by rw [bvs_length, lowB_len])] at hr3
    have hC : (bvs (lowB 8 seq)).length = 8 := by rw [bvs_length, lowB_len]
    have HR3 := hide hr3
    have HB3 := hide (HB2.out.trans (ho3.toBelow (B := w.heap.size) HB2.out.size (fun i hi => by omega)))
    have HRW := hide (HR.out.below HB3.out)
    clear hr3 ho3
    go_wp2_with (refine wpList_copy_splice rfl (.tmp 25) (.tmp 26) 28 28 rfl 5 Tryd.underlying28 size5 _ _ _ _ _ _ rfl rfl w.heap.size 16 _ 5 HR3.out (bvs rec) (by exact copy_len rec _ rfl) (by exact copy_pos (fun h => rfl) HRW.out) (by simp [hA, hb, hC, hd, bvs_length]; try omega) (bvs_one rec) w.heap.size w HB3.out (Nat.le_refl _) ?_; intro w4 hr4 hb4)
    generalize goInt _ = gi
    have hr4' := hr4.out
    rw [splice3' _ _ _ _ _ hA hb hC (by rw [bvs_length, hd] <;> rfl)] at hr4'
    have HR4 := hide hr4'
    have HB4 := hide hb4
    have HSM : Hid (∀ n c, n = rec.length + 8 → n ≤ c → Rd w4.drew (.slice (some ⟨w.heap.size, 8, none⟩) n c) (lowB 8 seq ++ rec)) := fun n c hn hc => rd_row (w := w4.drew) (P := bvs (lowB 4 rec.length) ++ zb) (S := lowB 8 seq ++ rec) hr4' (by rw [bvs_append]; simp) (by simp [hA, hb]) (by simp [lowB_len] <;> omega) hc
    have HT4 : Hid (Tab w4.drew) := fun k hk => Below.keeps HB4.out (Nat.le_refl _) (HT.out k hk)
    have HR5 : Hid (w4.drew.heap[w.heap.size]? = some (.cells (bvs (lowB 4 rec.length) ++ (zb ++ (bvs (lowB 8 seq) ++ bvs rec))).toArray 5 (0, 0))) := hr4'
    obtain ⟨sm, hsm⟩ : ∃ sm, sm = sum32 (lowB 8 seq ++ rec) := ⟨_, rfl⟩
    have hsl := sum32_lt (lowB 8 seq ++ rec)
    rw [← hsm] at hsl
    have HSUM : Hid (∀ n c, n = rec.length + 8 → n ≤ c → Calls Tryd.prog 36 #[.slice (some ⟨w.heap.size, 8, none⟩) n c] w4.drew fun e w' => e = .returned (.int .u32 sm) ∧ w' = w4.drew) := fun n c hn hc => by
      rw [hsm]
      exact sum_any (lowB 8 seq ++ rec) _ w4.drew HT4.out (HSM.out n c hn hc) (by rw [List.length_append, lowB_len]; first | omega | decide)
    have HPUT : Hid (∀ c, Calls Tryd.prog 63 #[.slice (some ⟨w.heap.size, 4, none⟩) 4 c, .int .u64 sm] w4.drew fun e w' => e = .returned (.tuple #[]) ∧
      w'.heap[w.heap.size]? = some (.cells (bvs (frameB seq rec)).toArray 5 (0, 0)) ∧ Only (· = w.heap.size) w4.drew w') := fun c => by
      have := put_any w.heap.size 4 4 c sm _ w4.drew HR5.out (by simp only [List.length_append, hA, hb, hC, bvs_length]; omega) (by omega) (by decide)
      rw [splice4 _ _ _ _ _ hA hb (by rw [bvs_length, lowB_len]), hsm, ← bvs_append, ← bvs_append, ← bvs_append] at this
      rw [hsm]
      exact this
    have hwr : IntKind.u64.wrap (sm : Int) = (sm : Int) := by rw [IntKind.wrap_u64]; omega
    have HSMM := hide hsm
    clear hsm
    clear hr4 hr4' hb4
    simp only [Act.put]
    go_simp
    go_region_with (first
      | (go_at_call 36; refine (HSUM.out _ _ (by omega) (by omega)).mono ?_; rintro e w' ⟨rfl, rfl⟩)
      | (go_at_call 63; refine (HPUT.out _).mono ?_; rintro e w5 ⟨rfl, hr5, ho5⟩))
    all_goals go_wp2
    all_goals go_ret2
    all_goals refine ⟨_, rfl, own_mk hr5 (by simp [bvs_length, frameB_len]) (List.take_of_length_le (by rw [bvs_length, frameB_len]; exact Nat.le_refl _)) (Nat.le_refl _) (by unfold maxLen; omega) (Nat.le_refl _), ?_⟩
    all_goals exact HB4.out.drew.trans ((ho5.toBelow (B := w.heap.size) (by have := HB4.out.size; simpa using this) (fun i hi => by omega)))
end Go.Proofs.YtgobnnciijlpaaaDoor
