/- The walk of Copy of dayshiftref03. -/
import Derived.Test.YtgobnnciijlpaaaRfB
namespace Go.DsMem
open Go.RowKit
theorem step_append_at {P : Program} {ops : Array Oper} {o : Oper} {a : Act} {w : World} {K : Act → World → Prop} {Q : Exit → Act → World → Prop} {E : Prop}
    (hg : o.guard = none) (s x : Operand) (t : TypeId) (hop : o.op = Op.call { callee := Callee.builtin Builtin.append, args := #[s, x], argTypes := #[t, t] })
    (e : TypeId) (ht : P.underlying t = some (.slice e)) (z : Value) (size bytes : Nat) (hinfo : (P.info? e).map (fun i => (i.zero, i.size, i.bytes)) = some (some z, size, bytes)) (hzs : z.cells.size = size) (hsz : 0 < size)
    (base : Nat) (v : Value) (n : Nat) (xs : List Value) (hs : a.eval s = v) (hown : w.ownsRow base e size v n xs) (ad : Addr) (m c : Nat) (news : List Value) (hx : a.eval x = .slice (some ad) m c) (hl : news.length = m * size)
    (hnews : ∀ j u, news[j]? = some u → w.cell? (ad.add j) = some u) (h1 : ∀ u ∈ news, u.oneCell' = true) (h63 : n + m ≤ maxLen) (hbytes : (n + m) * bytes ≤ 140737488355328) (hbase : base ≤ w.heap.size)
    (hK : ∀ v' w', w'.ownsRow base e size v' (n + m) (xs ++ news) → w.grownBy w' v.ownBlock → K (a.put o.dst v') w') :
    if Region.wanted o (yielded ops a.tmps) = true then Oper.wp P o a w K Q else E := by
  have hw : Region.wanted o (yielded ops a.tmps) = true := by simp [Region.wanted, hg]
  rw [if_pos hw]
  obtain ⟨i0, hi, hz0, hz1, hz2⟩ := info_parts hinfo
  obtain ⟨v', w', hr, h2, h3, _⟩ := run_append_at (P := P) w base t o.type e i0 z size bytes ht hi hz0 hz1 hz2 hzs hsz v n xs hown ad m c news hl hnews h1 h63 hbytes hbase
  unfold Oper.wp execOp
  simp only [hop, resolve, invoke, builtin, Sem.run_bind, Sem.run_pure, Result.andThen_ok, List.map_toArray, List.map_cons, List.map_nil, hs, hx, hr]
  exact hK v' w' h2 h3
end Go.DsMem
namespace Go.Proofs.Ytgobnnciijlpaaa
open Go.ChangeShapes Go.WideShapes Go.ChangeAt Go.RowKit Go.DsMem Go.DsDk
set_option linter.unusedVariables false

theorem fcells_one {w : World} {v : Nat → Value} {s : Nat → Nat} {b : Nat → List UInt8} (h : ∀ k, k < 8 → Rd w (v k) (b k)) : ∀ u ∈ fcells v s, u.oneCell' = true := by
  intro u hu
  have hv : ∀ k, k < 8 → (v k).oneCell' = true := fun k hk => by obtain ⟨ao, c, e, _⟩ := h k hk; rw [e]; rfl
  simp only [fcells, List.mem_cons, List.not_mem_nil, or_false] at hu
  rcases hu with rfl | rfl | rfl | rfl | rfl | rfl | rfl | rfl | rfl | rfl | rfl | rfl | rfl | rfl | rfl | rfl
  all_goals first | rfl | exact hv _ (by decide)

theorem own8_row {w : World} {B : Nat} {v : Value} {xs : List Value} (h : w.ownsRow B 63 2 v (0 + 8) ([] ++ xs)) : ∃ g cap cur, v = .slice (some ⟨g, 0, none⟩) 8 cap ∧ B ≤ g ∧ w.heap[g]? = some (.cells cur 63 (0, 0)) ∧ 8 ≤ cap ∧ cap ≤ maxLen ∧ cur.size = cap * 2 ∧ cur.toList.take 16 = xs := by
  rcases h.2 with ⟨_, h⟩ | ⟨g, cap, cur, h, hb, hg, h1, h2, h3, h4⟩
  · omega
  · exact ⟨g, cap, cur, h, hb, hg, h1, h2, h3, h4⟩

set_option maxHeartbeats 2000000 in
set_option maxRecDepth 20000 in
/-- Copy -/
theorem rcopy_any (S : Nat → Prop) (r g : Nat) (v : Nat → Value) (D : Dk) (w : World) (h : RefAt w S r g v D) :
    Calls Try.prog 25 #[.pointer (some ⟨r, 0, none⟩)] w fun e w' => ∃ r2 g2, e = .returned (.pointer (some ⟨r2, 0, none⟩)) ∧ RefAt w' (fun k => S k ∨ w.heap.size ≤ k ∧ k < w'.heap.size) r2 g2 v D ∧ w.heap.size ≤ r2 ∧ w.heap.size ≤ g2 ∧ Below w.heap.size w w' := by
  obtain ⟨fc, hfc, hc0⟩ := h.hd.filesC
  have hl := h.hd.leftC
  have hd := h.hd.deadC
  go_enter Try.func25, Try.ntmps25
  go_wp2
  go_region
  go_wp2
  have hr1 := h.hd.lt
  have hg1 := h.fl.lt
  generalize hn0 : w.heap.size = n0 at *
  obtain ⟨wa, hwa⟩ : ∃ wa, wa = (w.alloc (.cells #[.slice none 0 0, .int .i64 D.left, .bool D.dead] 42)).drew := ⟨_, rfl⟩
  rw [← hwa]
  have hXa : wa.heap[n0]? = some (.cells #[.slice none 0 0, .int .i64 D.left, .bool D.dead] 42 (0, 0)) := by rw [hwa, ← hn0]; exact heap_alloc_new w _
  have hBa : Below n0 w wa := by rw [hwa]; exact ((Below.refl _ _).alloc (by omega) _).drew
  have hsa : wa.heap.size = n0 + 1 := by rw [hwa]; show (w.alloc _).heap.size = _; simp [hn0]
  have hAa := h.below (hn0 ▸ hBa)
  clear hc0 hl hd
  obtain ⟨fc, hfc, hc0⟩ := hAa.hd.filesC
  have hx0 := cell_of (k := 0) hXa
  simp only [List.getElem?_toArray, List.getElem?_cons_zero] at hx0
  have hne1 : ¬ r = n0 := by omega
  have hne2 : ¬ g = n0 := by omega
  have HAA := hide hAa
  have HXA := hide hXa
  have HBA := hide hBa
  have HSA := hide hsa
  have HN0 := hide hn0
  have HNEWS : Hid (∀ j u, (fcells v D.s)[j]? = some u → wa.drew.cell? ((⟨g, 0, none⟩ : Addr).add j) = some u) := by
    intro j u hu
    obtain ⟨ex, hx⟩ := hAa.fl
    rw [add_mk, Nat.zero_add]
    refine (cell_of (w := wa) hx).trans ?_
    rw [List.getElem?_toArray, List.getElem?_append_left (List.getElem?_eq_some_iff.1 hu).1]
    exact hu
  have HONE := hide (fcells_one (s := D.s) hAa.rd)
  clear hXa hBa hsa hwa hn0 hAa
  go_region_law (refine step_append_at (by rfl) (.tmp 18) (.tmp 22) 40 (by rfl) 63 (by exact Try.underlying40) (.agg #[.slice none 0 0, .int .i64 0]) 2 32 (by exact infoF) (by rfl) (by decide) (n0 + 1) (.slice none 0 0) 0 [] (by rfl) (by exact World.ownsRow_nil _ _ _ _) ⟨g, 0, none⟩ 8 fc (fcells v D.s) (by rfl) (by rfl) (by exact HNEWS.out) (by exact HONE.out) (by decide) (by decide) (by rw [show wa.drew.heap.size = wa.heap.size from rfl, HSA.out]; exact Nat.le_refl _) ?_; intro v2 w2 hown2 hgrow2; have hB2 : Below (n0 + 1) wa w2 := (Below.drew (Below.refl (n0 + 1) wa)).grown hgrow2 (by rw [show wa.drew.heap.size = wa.heap.size from rfl, HSA.out]; exact Nat.le_refl _) (fun _ h => by cases h); have hX2 : w2.heap[n0]? = some (.cells #[.slice none 0 0, .int .i64 D.left, .bool D.dead] 42 (0, 0)) := (hB2.block n0 (by omega)).trans HXA.out; have hc2 := cell_of (k := 0) hX2; simp only [List.getElem?_toArray, List.getElem?_cons_zero] at hc2; have hf2 := frozen_of (k := 0) hX2; have HX2 := hide hX2; have HB2 := hide hB2; have HO2 := hide hown2; clear hgrow2 hX2 hB2 hown2; obtain ⟨g2, cap2, cur, rfl, hb2, hg2, hq1, hq2, hq3, hq4⟩ := own8_row HO2.out)
  all_goals
    go_wp2
    go_ret
    have hon : Only (· = n0) w2 (w2.setCell ⟨n0, 0, none⟩ (.slice (some ⟨g2, 0, none⟩) 8 cap2)) := Only.set _ _ _ _
    have hs2 : n0 + 1 ≤ w2.heap.size := by have := HB2.out.size; have := HSA.out; omega
    have hg2l := block_lt hg2
    have hn0 := HN0.out
    have hBf : Below n0 w (w2.setCell ⟨n0, 0, none⟩ (.slice (some ⟨g2, 0, none⟩) 8 cap2)) := (HBA.out.trans (HB2.out.mono (by omega))).trans (hon.toBelow (by omega) (fun i hi => by omega))
    have hAf := h.below (by rw [HN0.out]; exact hBf)
    refine ⟨n0, g2, rfl, ⟨⟨cap2, hq1, by rw [hset_same HX2.out]; rfl⟩, ⟨cur.toList.drop 16, ?_⟩, by omega, hAf.rd, fun k hk => (hAf.inn k hk).mono fun j hj => ?_, .inr ⟨by omega, ?_⟩, .inr ⟨by omega, ?_⟩, fun k hk => ?_, h.ok, h.few⟩, by omega, by omega, by rw [hn0]; exact hBf⟩
    · rw [hon.block g2 hg2l (by omega), ← hq4, List.take_append_drop]
      simpa using hg2
    · have hj1 := h.lt j hj.1
      have := HN0.out
      exact ⟨.inl hj.1, by omega, by omega⟩
    · have := hon.size; omega
    · have := hon.size; omega
    · rcases hk with hk | hk
      · exact hAf.lt k hk
      · exact hk.2
end Go.Proofs.Ytgobnnciijlpaaa
