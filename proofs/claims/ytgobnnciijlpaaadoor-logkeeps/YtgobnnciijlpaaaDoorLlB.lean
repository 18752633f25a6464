/- Lists of records that came in, opened; the walks of dayshiftlaw04.written and long. -/
import Derived.Test.YtgobnnciijlpaaaDoorLlA
import Derived.Test.YtgobnnciijlpaaaDoorCell
import Derived.Test.YtgobnnciijlpaaaDoorLgQ
namespace Go.Proofs.YtgobnnciijlpaaaDoor
open Go.ChangeShapes Go.WideShapes Go.ChangeAt Go.RowKit Go.DsMem Go.DsDk Go.DsLg Go.Deep
set_option linter.unusedVariables false

section
variable {H : Type} {enc : TypeId × Value → H} {W : World}
theorem cells_bs : Tryd.prog.cellsOf 28 = 1 := by kernel_rfl
theorem open_lists {v : Value} {d : DataW H} {p : List MemPlace} {ao : Option Addr} {len cap : Nat} (hv : v = .slice ao len cap) (h : DataW.Trod enc Tryd.prog W 0 (fun _ => true) true 29 v d p)
    (hs : (d.weights Tryd.prog 29).all (· ≤ reachBytes) = true) : ∃ ls : List (List UInt8), (ls.length = len ∧ len ≤ cap ∧ (ao = none → len = 0 ∧ cap = 0)) ∧ RdLs W v ls := by
  subst hv
  obtain ⟨fuel, hf⟩ := h
  rcases open_slice1 Tryd.underlying29 cells_bs hf with ⟨hcs, _⟩ | ⟨a, len', cap', m, n, V, D, Pl, hcs, _, hl, hm, hmm, hx, hel⟩
  · simp [Value.cells] at hcs
    obtain ⟨rfl, rfl, rfl⟩ := hcs
    exact ⟨[], ⟨rfl, Nat.le_refl _, fun _ => ⟨rfl, rfl⟩⟩, RdLs.nil _⟩
  · simp [Value.cells] at hcs
    obtain ⟨rfl, rfl, rfl⟩ := hcs
    simp at hmm
    subst hmm
    have hd : d = _ := congrArg Prod.fst hx
    simp only at hd
    rw [hd] at hs
    obtain ⟨F, hF⟩ := choose_lt (α := List UInt8) (n := len) (p := fun i r => ∃ xo xc, W.cell? (a.add i) = some (.slice xo r.length xc) ∧ Rd W (.slice xo r.length xc) r) (fun i hi => by
      obtain ⟨h1, h2⟩ := hel i (by omega)
      obtain ⟨r, xo, xc, he, hr, _⟩ := open_bytes (y := (D i, Pl i)) h2 (weights_elem Tryd.underlying29 hs (j := i) (by simp [hi]))
      rw [he] at h1 hr
      exact ⟨r, xo, xc, h1, hr⟩)
    refine ⟨(List.range len).map F, ⟨by simp, hl, fun h => by cases h⟩, some a, m, by simp, fun i r hr => ?_⟩
    have hi : i < len := by
      have := (List.getElem?_eq_some_iff.1 hr).1
      simpa using this
    simp [hi] at hr
    subst hr
    obtain ⟨xo, xc, h1, h2⟩ := hF i hi
    exact ⟨a, xo, xc, rfl, h1, h2⟩
end

/-- one of some records -/
theorem RdLs.at {w : World} {ao : Option Addr} {n c k : Nat} {l : List (List UInt8)} (h : RdLs w (.slice ao n c) l) (hk : k < l.length) : ∃ a xo xc, ao = some a ∧ w.cell? (a.add k) = some (.slice xo l[k].length xc) ∧ Rd w (.slice xo l[k].length xc) l[k] := by
  obtain ⟨ao', cap, hv, he⟩ := h
  simp only [Value.slice.injEq] at hv
  obtain ⟨rfl, _, _⟩ := hv
  exact he k l[k] (List.getElem?_eq_getElem hk)

theorem wr_small {n : Nat} {l : List (List UInt8)} (h : ∀ r ∈ l, r.length ≤ 200) (hl : l.length ≤ 16) : (wrB n l).length ≤ 3456 := by
  have := wrB_max n 200 l h
  omega

set_option maxHeartbeats 2000000 in
set_option maxRecDepth 20000 in
/-- dayshiftlaw04.written -/
theorem written_any (l : List (List UInt8)) (v : Value) (w : World) (ht : Tab w) (h : RdLs w v l) (hl : l.length ≤ 16) (h200 : ∀ r ∈ l, r.length ≤ 200) :
    Calls Tryd.prog 38 #[v] w fun e w' => ∃ x, e = .returned x ∧ w'.ownsRow w.heap.size 5 1 x (wrB 1 l).length (bvs (wrB 1 l)) ∧ Below w.heap.size w w' := by
  have HT := hide ht
  have HR := hide h
  have H200 := hide h200
  obtain ⟨ao, cap, rfl, -⟩ := h
  clear ht h200
  go_enter Tryd.func38, Tryd.ntmps38
  go_wp2
  go_loopw [3, 4] (fun x i wr => ∃ k : Nat, k ≤ l.length ∧ i = .int .i64 k ∧ wr.ownsRow w.heap.size 5 1 x (wrB 1 (l.take k)).length (bvs (wrB 1 (l.take k))) ∧ Below w.heap.size w wr) (fun _ i _ => l.length - (intOf i).toNat)
  case atStart => exact ⟨0, Nat.zero_le _, rfl, ⟨rfl, .inl ⟨rfl, rfl⟩⟩, Below.refl _ _⟩
  case round =>
    obtain ⟨k, hk, rfl, ho, hb⟩ := hrel
    by_cases hlt : k < l.length
    · obtain ⟨a, xo, xc, rfl, hc, hr⟩ := (rdls_in HR.out hb (Nat.le_refl _)).at hlt
      have hsm : l[k].length ≤ 200 := H200.out _ (List.getElem_mem hlt)
      have hpl : (wrB 1 (l.take k)).length ≤ 3456 := wr_small (fun r hr => H200.out r (List.mem_of_mem_take hr)) (by rw [List.length_take]; omega)
      have HW : Hid (wrB 1 (l.take (k + 1)) = wrB 1 (l.take k) ++ frameB (k + 1) l[k]) := by
        show _ = _
        rw [List.take_succ_eq_append_getElem hlt, wrB_snoc, List.length_take, Nat.min_eq_left (by omega), Nat.add_comm 1 k]
      obtain ⟨xo', xc', rfl, -⟩ := own_shape ho
      have HO := hide ho
      have HB := hide hb
      have HRR := hide hr
      have hlk := hide (frameB_len (k + 1) l[k])
      generalize l[k] = r at *
      generalize hpe : wrB 1 (l.take k) = pw at *
      clear ho hb hr hpe
      go_wp2_with fail
      refine (frame_any (k + 1) r _ wr (HT.out.below HB.out (Nat.le_refl _)) HRR.out (by omega) (by omega)).mono ?_
      rintro e w1 ⟨x1, rfl, hx1, B1⟩
      obtain ⟨x1o, x1c, rfl, -⟩ := own_shape hx1
      rw [← frameB_len (k + 1) r] at hx1
      have HX1 := hide (Rd.own hx1)
      have HO1 := hide (own_below HO.out B1)
      have HB1 := hide (HB.out.trans (B1.mono HB.out.size))
      clear hx1 B1 HO HB HRR
      go_wp2_with (at_builtin; refine wpList_append_rd rfl _ _ 28 rfl 5 Tryd.underlying28 info5 w.heap.size _ _ _ rfl HO1.out _ _ rfl (by have := HX1.out; rw [frameB_len] at this; exact this) (by rw [frameB_len]; omega) HB1.out.size ?_; intro v2 w2 hown2 hgrow2 _; have HO2 := hide hown2; have HB2 := hide (HB1.out.grown hgrow2 HB1.out.size (fun j hj => (HO1.out.lt j hj).1)); clear hown2 hgrow2)
      go_roundw
      case rel => exact ⟨k + 1, by omega, by go_num, by rw [HW.out, List.length_append]; exact HO2.out, HB2.out⟩
      case measure => simp [intOf]; omega
    · have HE : Hid (wrB 1 (l.take k) = wrB 1 l) := by show _ = _; rw [List.take_of_length_le (by omega)]
      have HO := hide ho
      have HB := hide hb
      clear ho hb
      go_wp2
      go_ret
      exact ⟨_, rfl, by rw [← HE.out]; exact HO.out, HB.out⟩

set_option maxHeartbeats 2000000 in
set_option maxRecDepth 20000 in
/-- dayshiftlaw04.long -/
theorem long_any (l : List (List UInt8)) (p : Nat) (v : Value) (w : World) (h : RdLs w v l) (hl : l.length ≤ 16) (h200 : ∀ r ∈ l, r.length ≤ 200) (hp : p ≤ 100000) :
    Calls Tryd.prog 40 #[v, .int .i64 p] w fun e w' => e = .returned (.bool (longB l 0 p)) ∧ w' = w := by
  have HR := hide h
  have H200 := hide h200
  obtain ⟨ao, cap, rfl, -⟩ := h
  clear h200
  go_enter Tryd.func40, Tryd.ntmps40
  go_wp2
  go_loop [5, 6] (fun s i => ∃ k b : Nat, k ≤ l.length ∧ i = .int .i64 k ∧ s = .int .i64 b ∧ longB (l.drop k) b p = longB l 0 p ∧ b ≤ 216 * k) (fun _ i => l.length - (intOf i).toNat)
  case atStart => exact ⟨0, 0, Nat.zero_le _, rfl, rfl, rfl, by omega⟩
  case round =>
    obtain ⟨k, b, hk, rfl, rfl, hE, hb⟩ := hrel
    by_cases hlt : k < l.length
    · obtain ⟨a, xo, xc, rfl, hc, -⟩ := HR.out.at hlt
      have hsm : l[k].length ≤ 200 := H200.out _ (List.getElem_mem hlt)
      rw [List.drop_eq_getElem_cons hlt] at hE
      simp only [longB] at hE
      have HE := hide hE
      clear hE
      by_cases h1 : b ≤ p ∧ p < b + 4
      · have HF : Hid (longB l 0 p = true) := by show _ = _; rw [← HE.out, if_pos h1]
        obtain ⟨h2, h3⟩ := h1
        go_wp2
        go_ret
        exact ⟨by (rw [HF.out]) <;> rfl, rfl⟩
      · have HF : Hid (longB (l.drop (k + 1)) (b + 16 + l[k].length) p = longB l 0 p) := by show _ = _; rw [← HE.out, if_neg h1]
        clear HE
        generalize l[k].length = n at *
        by_cases h2 : b ≤ p
        · have h3 : ¬ p < b + 4 := fun h => h1 ⟨h2, h⟩
          clear h1
          go_wp2
          go_round
          case rel => exact ⟨k + 1, b + 16 + n, by omega, by go_num, by go_num, HF.out, by omega⟩
          case measure => simp [intOf]; omega
        · clear h1
          go_wp2
          go_round
          case rel => exact ⟨k + 1, b + 16 + n, by omega, by go_num, by go_num, HF.out, by omega⟩
          case measure => simp [intOf]; omega
    · have HF : Hid (longB l 0 p = false) := by show _ = _; rw [← hE, List.drop_eq_nil_of_le (by omega)]; rfl
      go_wp2
      go_ret
      exact ⟨by (rw [HF.out]) <;> rfl, rfl⟩
end Go.Proofs.YtgobnnciijlpaaaDoor
