/- The walks of behind and read of package log. -/
import Derived.Test.YtgobnnciijlpaaaDoorLgE
namespace Go.Proofs.YtgobnnciijlpaaaDoor
open Go.ChangeShapes Go.WideShapes Go.ChangeAt Go.RowKit Go.DsMem Go.DsDk Go.DsLg
set_option linter.unusedVariables false

/-- the slice v is these records, each in a row of its own, all of it in the blocks from B on up to E -/
def RdL (B E : Nat) (w : World) (v : Value) (recs : List (List UInt8)) : Prop :=
  ∃ ao cap, v = .slice ao recs.length cap ∧ ∀ (i : Nat) (r : List UInt8), recs[i]? = some r → ∃ a xo xc, ao = some a ∧ B ≤ a.block ∧ a.block < E ∧ (∃ cs fr, w.heap[a.block]? = some (.cells cs 28 fr)) ∧ w.cell? (a.add i) = some (.slice xo r.length xc) ∧
    w.ownsRow B 5 1 (.slice xo r.length xc) r.length (bvs r) ∧ ∀ k, (Value.slice xo r.length xc).ownBlock = some k → k < E
theorem RdL.nil (B E : Nat) (w : World) : RdL B E w (.slice none 0 0) [] := ⟨none, 0, rfl, fun i r h => by simp at h⟩
theorem RdL.same {B E : Nat} {w w' : World} {v : Value} {recs : List (List UInt8)} (h : RdL B E w v recs) (hs : ∀ k, B ≤ k → k < E → k < w.heap.size → w'.heap[k]? = w.heap[k]?) : RdL B E w' v recs := by
  obtain ⟨ao, cap, hv, he⟩ := h
  refine ⟨ao, cap, hv, fun i r hr => ?_⟩
  obtain ⟨a, xo, xc, h1, hb1, hbe, ⟨cs, fr, ht⟩, h2, h3, h4⟩ := he i r hr
  have hlt := World.block_lt_of_cell? w _ h2
  rw [add_block] at hlt
  have hsm := hs _ hb1 hbe hlt
  refine ⟨a, xo, xc, h1, hb1, hbe, ⟨cs, fr, by rw [hsm]; exact ht⟩, ?_, own_same h3 fun k hk => hs k (h3.lt k hk).1 (h4 k hk) (h3.lt k hk).2, h4⟩
  rw [← h2]
  unfold World.cell?
  rw [add_block, hsm]
theorem RdL.below {B E : Nat} {w w' : World} {v : Value} {recs : List (List UInt8)} (h : RdL B E w v recs) (hb : Below w.heap.size w w') : RdL B E w' v recs := h.same fun k _ _ hk => hb.block k hk
theorem OwnL.rd {B : Nat} {w : World} {v : Value} {vals : List Value} {recs : List (List UInt8)} (h : OwnL B w v vals recs) : RdL B w.heap.size w v recs := by
  rcases h.row.2 with ⟨rfl, h0⟩ | ⟨g, cap, cur, rfl, hbg, hg, _⟩
  · exact ⟨none, 0, by rw [h0], fun i r hr => by have := (List.getElem?_eq_some_iff.1 hr).1; omega⟩
  · refine ⟨some ⟨g, 0, none⟩, cap, rfl, fun i r hr => ?_⟩
    obtain ⟨x, h1, h2, h3⟩ := h.each i r hr
    obtain ⟨xo, xc, rfl, _⟩ := own_shape h3
    exact ⟨⟨g, 0, none⟩, xo, xc, rfl, hbg, (Array.getElem?_eq_some_iff.1 hg).1, ⟨_, _, hg⟩, h.row.cells (g := g) rfl i _ h1, h3, fun k hk => (h3.lt k hk).2⟩
/-- the records from some place on -/
theorem RdL.drop {B E : Nat} {w : World} {a : Addr} {n c old m d : Nat} {recs : List (List UInt8)} (h : RdL B E w (.slice (some a) n c) recs) (hm : m = recs.length - old) : RdL B E w (.slice (some (a.add old)) m d) (recs.drop old) := by
  obtain ⟨ao, cap, hv, he⟩ := h
  simp only [Value.slice.injEq] at hv
  obtain ⟨rfl, _, _⟩ := hv
  refine ⟨some (a.add old), d, by rw [List.length_drop, hm], fun i r hr => ?_⟩
  rw [List.getElem?_drop] at hr
  obtain ⟨a', xo, xc, h1, hb1, hbe, ht, h2, h3, h4⟩ := he _ r hr
  obtain rfl : a = a' := Option.some.inj h1
  exact ⟨_, xo, xc, rfl, by rw [add_block]; exact hb1, by rw [add_block]; exact hbe, by rw [add_block]; exact ht, by rw [Go.Deep.add_add]; exact h2, h3, h4⟩

set_option maxHeartbeats 1000000 in
/-- log.behind -/
theorem behind_any (B seq first : Nat) (v : Value) (vals : List Value) (recs : List (List UInt8)) (w : World) (h : OwnL B w v vals recs) (hs : seq < 18446744073709551616) (hf : first < 18446744073709551616) (h1 : 0 < recs.length → 1 ≤ first)
    (hl : recs.length ≤ 140737488355328) :
    Calls Tryd.prog 43 #[.int .u64 seq, .int .u64 first, v] w fun e w' => ∃ x, e = .returned (.tuple #[x, .int .i64 (behB seq first recs).2]) ∧ RdL B w.heap.size w x (behB seq first recs).1 ∧ w' = w := by
  have HL := hide h.rd
  obtain ⟨vo, vc, rfl, hvc⟩ := own_shape h.row
  have HO := hide h
  clear h
  by_cases h0 : recs.length = 0
  · have HE : Hid (behB seq first recs = ([], 0)) := by show _ = _; unfold behB; rw [if_pos h0]
    have hb0 : ((recs.length : Int) == 0) = true := by simp [h0]
    clear h0
    go_enter Tryd.func43, Tryd.ntmps43
    go_wp2
    go_ret2
    rw [HE.out]
    exact ⟨_, rfl, RdL.nil _ _ _, rfl⟩
  have hb0 : ((recs.length : Int) == 0) = false := by simp; intro h; simp [h] at h0
  have h1' := h1 (by omega)
  obtain ⟨g, hg⟩ : ∃ g, vo = some ⟨g, 0, none⟩ := by
    rcases HO.out.row.2 with ⟨h, h2⟩ | ⟨g, cap, cur, h, _⟩
    · omega
    · simp only [Value.slice.injEq] at h
      exact ⟨g, h.1⟩
  subst hg
  by_cases hsf : seq < first
  · by_cases hd1 : first - seq = 1
    · have HE : Hid (behB seq first recs = (recs, 0)) := by show _ = _; unfold behB; rw [if_neg h0, if_pos hsf, if_pos hd1]
      have hwr : IntKind.u64.wrap ((first : Int) - (seq : Int)) = 1 := by rw [IntKind.wrap_u64]; omega
      have hd : (first : Int) - (seq : Int) = 1 := by omega
      clear h0 hd1
      go_enter Tryd.func43, Tryd.ntmps43
      go_wp2
      go_ret2
      rw [HE.out]
      exact ⟨_, rfl, HL.out, rfl⟩
    · have HE : Hid (behB seq first recs = ([], 11)) := by show _ = _; unfold behB; rw [if_neg h0, if_pos hsf, if_neg hd1]
      have hne : (((first : Int) - (seq : Int)) != 1) = true := by simp; omega
      clear h0 hd1
      go_enter Tryd.func43, Tryd.ntmps43
      go_wp2
      go_ret2
      rw [HE.out]
      exact ⟨_, rfl, RdL.nil _ _ _, rfl⟩
  · obtain ⟨old, hold⟩ : ∃ old, old = seq - first + 1 := ⟨_, rfl⟩
    have hoi : (seq : Int) - (first : Int) + 1 = (old : Int) := by omega
    by_cases hge : recs.length ≤ old
    · have HE : Hid (behB seq first recs = ([], 0)) := by show _ = _; unfold behB; rw [if_neg h0, if_neg hsf, if_pos (by omega)]
      have HOLD := hide hold
      have holb : old < 18446744073709551616 := by omega
      clear h0 hold
      go_enter Tryd.func43, Tryd.ntmps43
      go_wp2
      go_ret2
      rw [HE.out]
      exact ⟨_, rfl, RdL.nil _ _ _, rfl⟩
    · have HE : Hid (behB seq first recs = (recs.drop old, 0)) := by show _ = _; unfold behB; rw [if_neg h0, if_neg hsf, if_neg (by omega), hold]
      have HOLD := hide hold
      have holb : old < 18446744073709551616 := by omega
      have hnc : ¬ vc = old := by omega
      clear h0 hold
      go_enter Tryd.func43, Tryd.ntmps43
      go_wp2
      go_ret2
      rw [HE.out]
      refine ⟨_, rfl, ?_, rfl⟩
      have hd := RdL.drop (old := old) (m := recs.length - old) (d := vc - old) HL.out rfl
      rw [add_mk, Nat.zero_add] at hd
      exact hd

theorem read0 (D : Dk) : D.read 0 = (D.b 0, 0) := by simp [Dk.read, show okf 0 = true by decide]
theorem read1 (D : Dk) : D.read 1 = (D.b 1, 0) := by simp [Dk.read, show okf 1 = true by decide]

set_option maxHeartbeats 2000000 in
/-- log.read -/
theorem lread_any (p : Nat) (v : Nat → Value) (D : Dk) (w : World) (hAt : DiskAt w p v D) :
    Calls Tryd.prog 41 #[.pointer (some ⟨p, 0, none⟩)] w fun e w' => ∃ x0 x1, e = .returned (.tuple #[.agg #[x0, x1], .int .i64 0]) ∧
      w'.ownsRow w.heap.size 5 1 x0 (D.b 0).length (bvs (D.b 0)) ∧ w'.ownsRow w.heap.size 5 1 x1 (D.b 1).length (bvs (D.b 1)) ∧ Below w.heap.size w w' := by
  go_enter Tryd.func41, Tryd.ntmps41
  go_wp2
  obtain ⟨W0, hW0⟩ : ∃ W0, W0 = (w.alloc (.cells #[.slice none 0 0, .slice none 0 0] 75)).alloc (.cells #[.slice none 0 0, .slice none 0 0] 75) := ⟨_, rfl⟩
  have hB0 : Below w.heap.size w W0 := by rw [hW0]; exact ((Below.refl _ _).alloc (Nat.le_refl _) _).alloc (by simp) _
  have hsz : W0.heap.size = w.heap.size + 2 := by rw [hW0]; simp
  have hb1 : W0.heap[w.heap.size + 1]? = some (.cells #[.slice none 0 0, .slice none 0 0] 75 (0, 0)) := by
    rw [hW0]; have := heap_alloc_new (w.alloc (.cells #[.slice none 0 0, .slice none 0 0] 75)) (.cells #[.slice none 0 0, .slice none 0 0] 75); simpa using this
  have hb0 : W0.heap[w.heap.size]? = some (.cells #[.slice none 0 0, .slice none 0 0] 75 (0, 0)) := by
    rw [hW0]
    have := (Below.heap_alloc (w.alloc (.cells #[.slice none 0 0, .slice none 0 0] 75)) (.cells #[.slice none 0 0, .slice none 0 0] 75) w.heap.size (by simp))
    rw [this]; exact heap_alloc_new w _
  rw [← hW0]
  have hlt := hAt.lt
  have hAtFoot : ∀ {k : Nat}, foot p v k → k < w.heap.size := fun hk => hAt.foot_lt hk
  have HA0 := hide (hAt.below hB0)
  have HB0 := hide hB0
  have H1 := hide hb1
  have H0 := hide hb0
  have HSZ := hide hsz
  clear hB0 hb1 hb0 hsz hW0 hAt
  refine wp_loop_rounds 3 ?_
  rw [rounds_succ]
  go_wp2_with fail
  refine (read_any p v D 0 W0 HA0.out).mono ?_
  rintro e w1 ⟨x0, rfl, hx0, B1⟩
  rw [read0] at hx0
  rw [read0]
  obtain ⟨o0, c0, rfl, _⟩ := own_shape hx0
  have hq1 : w1.heap[w.heap.size + 1]? = some (.cells #[.slice none 0 0, .slice none 0 0] 75 (0, 0)) := by rw [B1.block _ (by have := HSZ.out; omega)]; exact H1.out
  have hc := cell_of (k := 0) hq1
  have hf := frozen_of (k := 0) hq1
  simp only [List.getElem?_toArray, List.getElem?_cons_zero] at hc
  have HQ1 := hide hq1
  have HX0 := hide hx0
  have HB1 := hide B1
  clear hx0 B1 hq1
  go_wp2
  rw [rounds_succ]
  go_wp2_with fail
  obtain ⟨W1, hW1⟩ : ∃ W1, W1 = w1.setCell ⟨w.heap.size + 1, 0, none⟩ (.slice o0 (D.b 0).length c0) := ⟨_, rfl⟩
  have ho1 : Only (· = w.heap.size + 1) w1 W1 := by rw [hW1]; exact Only.set _ _ _ _
  have hq2 : W1.heap[w.heap.size + 1]? = some (.cells #[.slice o0 (D.b 0).length c0, .slice none 0 0] 75 (0, 0)) := by rw [hW1, hset_same HQ1.out]; rfl
  have hA1 : DiskAt W1 p v D := (HA0.out.below HB1.out).stays ho1 (fun k hk e => by
    have := (hAtFoot hk); omega)
  have hX1 := own_only HX0.out ho1 (fun k hk e => by have := (HX0.out.lt k hk).1; have := HSZ.out; omega)
  have hz1 : W0.heap.size ≤ W1.heap.size := Nat.le_trans HB1.out.size ho1.size
  have hBW : Below w.heap.size w W1 := (HB0.out.trans (HB1.out.mono (by have := HSZ.out; omega))).trans (ho1.toBelow (by have := HSZ.out; have := HB1.out.size; omega) (fun i hi => by omega))
  have hr0 : W1.heap[w.heap.size]? = some (.cells #[.slice none 0 0, .slice none 0 0] 75 (0, 0)) := by
    rw [ho1.block _ (by have := HSZ.out; have := HB1.out.size; omega) (by omega), HB1.out.block _ (by have := HSZ.out; omega)]; exact H0.out
  rw [← hW1]
  have HA1 := hide hA1
  have HX1 := hide hX1
  have HQ2 := hide hq2
  have HBW := hide hBW
  have HR0 := hide hr0
  have HZ1 := hide hz1
  clear hA1 hX1 hq2 hBW hr0 hz1 ho1 hW1 hc hf
  refine (read_any p v D 1 W1 HA1.out).mono ?_
  rintro e w2 ⟨x1, rfl, hx1, B2⟩
  rw [read1] at hx1
  rw [read1]
  obtain ⟨o1, c1, rfl, _⟩ := own_shape hx1
  have hq3 : w2.heap[w.heap.size + 1]? = some (.cells #[.slice o0 (D.b 0).length c0, .slice none 0 0] 75 (0, 0)) := by rw [B2.block _ (by have := HSZ.out; have := HZ1.out; omega)]; exact HQ2.out
  have hr3 : w2.heap[w.heap.size]? = some (.cells #[.slice none 0 0, .slice none 0 0] 75 (0, 0)) := by rw [B2.block _ (by have := HSZ.out; have := HZ1.out; omega)]; exact HR0.out
  have hc0 := cell_of (k := 0) hq3
  have hc1 := cell_of (k := 1) hq3
  have hf1 := frozen_of (k := 1) hq3
  have hd0 := cell_of (k := 0) hr3
  have hd1 := cell_of (k := 1) hr3
  have he0 := frozen_of (k := 0) hr3
  have he1 := frozen_of (k := 1) hr3
  simp only [List.getElem?_toArray, List.getElem?_cons_zero, List.getElem?_cons_succ] at hc0 hc1 hd0 hd1
  have HX2 := hide (own_below HX1.out B2)
  have HY := hide hx1
  have HB2 := hide (HBW.out.trans (B2.mono (by have := HSZ.out; have := HZ1.out; omega)))
  have HSIZE : Hid (w.heap.size + 2 ≤ w2.heap.size) := by have := B2.size; have := HSZ.out; have := HZ1.out; show _ ≤ _; omega
  clear hx1 hq3 hr3 B2
  go_wp2
  rw [rounds_succ]
  go_wp2
  refine bodyPost_ret (v := .tuple #[.agg #[.slice o0 (D.b 0).length c0, .slice o1 (D.b 1).length c1], .int .i64 0]) (by simp [results, Tryd.results41, go_sem, hd0, hd1]) rfl ?_
  have hoF : Only (fun k => k = w.heap.size + 1 ∨ k = w.heap.size) w2 (((w2.setCell ⟨w.heap.size + 1, 1, none⟩ (.slice o1 (D.b 1).length c1)).setCell ⟨w.heap.size, 0, none⟩ (.slice o0 (D.b 0).length c0)).setCell ⟨w.heap.size, 1, none⟩ (.slice o1 (D.b 1).length c1)) :=
    ((((Only.set w2 (w.heap.size + 1) 1 _).mono (fun _ _ h => .inl h)).trans (Only.set _ _ _ _) (fun _ _ h => .inr h)).trans (Only.set _ _ _ _) (fun _ _ h => .inr h))
  refine ⟨_, _, rfl, ?_, ?_, ?_⟩
  · exact own_base (own_only HX2.out hoF (fun k hk e => by have := (HX2.out.lt k hk).1; have := HSZ.out; omega)) (by have := HSZ.out; omega)
  · exact own_base (own_only HY.out hoF (fun k hk e => by have := (HY.out.lt k hk).1; have := HSZ.out; have := HZ1.out; omega)) (by have := HSZ.out; have := HZ1.out; omega)
  · exact HB2.out.trans (hoF.toBelow (by have := HSIZE.out; omega) (fun i hi => by omega))

/-- log.read of no disk -/
theorem lread_nil (w : World) : Calls Tryd.prog 41 #[.pointer none] w fun e w' => e = .returned (.tuple #[.agg #[.slice none 0 0, .slice none 0 0], .int .i64 2]) ∧ Below w.heap.size w w' := by
  go_enter Tryd.func41, Tryd.ntmps41
  go_wp2
  refine wp_loop_rounds 1 ?_
  rw [rounds_succ]
  go_wp2_with (go_at_call 59; refine (read_nil _ _).mono ?_; rintro e w' ⟨rfl, rfl⟩)
  refine bodyPost_ret (v := .tuple #[.agg #[.slice none 0 0, .slice none 0 0], .int .i64 2]) (by simp [results, Tryd.results41, go_sem]) rfl ⟨rfl, ?_⟩
  exact ((Below.refl _ _).alloc (Nat.le_refl _) _).alloc (by simp) _
end Go.Proofs.YtgobnnciijlpaaaDoor
