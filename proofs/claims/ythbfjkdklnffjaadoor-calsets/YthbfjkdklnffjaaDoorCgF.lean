/- What comes in, opened: numbers, nodes (trees), lists of calendars. -/
import Derived.Test.YthbfjkdklnffjaaDoorCgG
import Derived.Test.YthbfjkdklnffjaaDoorCfFr
namespace Go.Proofs.YthbfjkdklnffjaaDoor
open Go.ChangeShapes Go.WideShapes Go.ChangeAt Go.RowKit Go.DsMem Go.DsMk
set_option linter.unusedVariables false

section
variable {H : Type} {enc : TypeId × Value → H} {W : World}
theorem row_rdi {w : World} {a : Option Addr} {len cap : Nat} {zs : List Int} (h : (a = none ∧ len = 0 ∧ cap = 0 ∧ zs = []) ∨
    ∃ x, a = some x ∧ len ≤ cap ∧ cap ≤ maxLen ∧ zs.length = cap ∧ (∀ i, i < zs.length → w.cell? (x.add i) = some (.int .i64 (zs.getD i 0))) ∧ ∀ n ∈ zs, (Lit.int .i64 n).wf = true) :
    ∃ l : List Int, l.length = len ∧ RdI w (.slice a len cap) l ∧ ∀ k ∈ l, -9223372036854775808 ≤ k ∧ k ≤ 9223372036854775807 := by
  rcases h with ⟨rfl, rfl, rfl, rfl⟩ | ⟨x, rfl, hl, hm, hz, hc, hw⟩
  · exact ⟨[], rfl, RdI.nil w, fun k hk => by cases hk⟩
  · have hlen : (zs.take len).length = len := by simp; omega
    refine ⟨zs.take len, hlen, ⟨some x, cap, by rw [hlen], by rw [hlen]; exact hl, fun h => (by cases h), fun y hy j u hu => ?_⟩, fun k hk => bounds_i64 (hw k (List.mem_of_mem_take hk))⟩
    obtain rfl : x = y := Option.some.inj hy
    have hj : j < len := by
      have := (List.getElem?_eq_some_iff.1 hu).1
      omega
    have hjz : j < zs.length := by omega
    rw [hc j hjz]
    simp [hj, List.getElem?_eq_getElem hjz] at hu
    simp [List.getD, List.getElem?_eq_getElem hjz, hu]
theorem open_nums {n : Nat} {c : Value} {y : DataW H × List MemPlace} (h : DataW.trod enc Tryd.prog W 0 (fun _ => true) true n 23 [c] = some y)
    (hs : (y.1.weights Tryd.prog 23).all (· ≤ reachBytes) = true) :
    ∃ (l : List Int) (ao : Option Addr) (cap : Nat), c = .slice ao l.length cap ∧ RdI W c l ∧ l.length ≤ 17592186043904 ∧ ∀ k ∈ l, -9223372036854775808 ≤ k ∧ k ≤ 9223372036854775807 := by
  rcases open_ints Tryd.underlying23 Tryd.underlying2 cells_i64 h with ⟨hcs, _⟩ | ⟨x, l, cp, zs, hcs, _, hl, hm, hz, hx, hcell, hwz⟩
  · simp at hcs; subst hcs
    exact ⟨[], none, 0, rfl, RdI.nil W, by simp, fun k hk => by cases hk⟩
  · simp at hcs; subst hcs
    obtain ⟨l', hl', hr, hb⟩ := row_rdi (w := W) (a := some x) (len := l) (cap := cp) (zs := zs) (.inr ⟨x, rfl, hl, hm, by simpa using hz, hcell, hwz⟩)
    refine ⟨l', some x, cp, by rw [hl'], hr, ?_, hb⟩
    rw [hx] at hs
    simp only [DataW.weights, Tryd.underlying23, List.all_cons, Bool.and_eq_true, decide_eq_true_eq, bytes_i64] at hs
    have := hs.1
    simp only [lits, List.length_map, List.length_take, List.length_drop, reachBytes] at this
    have hz' : zs.length = cp := by simpa using hz
    omega
theorem weights_all {e : TypeId} {ds : List (DataW H)} (h : (DataW.weightsAll Tryd.prog e ds).all (· ≤ reachBytes) = true) {j : Nat} {d : DataW H} (hd : ds[j]? = some d) :
    (d.weights Tryd.prog e).all (· ≤ reachBytes) = true := by
  induction ds generalizing j with
  | nil => simp at hd
  | cons a r ih =>
    simp only [DataW.weightsAll, List.all_append, Bool.and_eq_true] at h
    cases j with
    | zero => simp at hd; subst hd; exact h.1
    | succ j => exact ih h.2 (by simpa using hd)
/-- the elements of a slice that came in -/
theorem weights_elem {t e : TypeId} {es sp : List (DataW H)} (ht : Tryd.prog.underlying t = some (.slice e)) (h : ((DataW.slice es sp).weights Tryd.prog t).all (· ≤ reachBytes) = true) {j : Nat} {d : DataW H} (hd : es[j]? = some d) :
    (d.weights Tryd.prog e).all (· ≤ reachBytes) = true := by
  simp only [DataW.weights, ht, List.all_cons, List.all_append, Bool.and_eq_true] at h
  exact weights_all h.2.1 hd
theorem cells_at {a : Addr} {n : Nat} {cs : List Value} (h : W.cells? 0 a n = some cs) : cs.length = n ∧ ∀ j v, cs[j]? = some v → W.cell? (a.add j) = some v := by
  obtain ⟨_, hlen, hc⟩ := World.cells?_some h
  exact ⟨hlen, fun j v hv => by
    have hj : j < n := by have := (List.getElem?_eq_some_iff.1 hv).1; omega
    rw [hc j hj, hv]⟩
theorem open_num {n : Nat} {c : Value} {y : DataW H × List MemPlace} (h : DataW.trod enc Tryd.prog W 0 (fun _ => true) true n 3 [c] = some y) :
    ∃ x : Int, c = .int .i64 x ∧ -9223372036854775808 ≤ x ∧ x ≤ 9223372036854775807 := by
  obtain ⟨x, e, _, hw⟩ := DataW.trod_int Tryd.underlying3 h
  simp at e
  exact ⟨x, e, bounds_i64 hw⟩
theorem cells_rnode : Tryd.prog.cellsOf 26 = 4 := by kernel_rfl
theorem cells_i64s : Tryd.prog.cellsOf 23 = 1 := by kernel_rfl
theorem cells_rnodes : Tryd.prog.cellsOf 24 = 1 := by kernel_rfl
theorem cells_str : Tryd.prog.cellsOf 9 = 1 := by kernel_rfl
theorem bytes_rnode : Tryd.prog.bytesOf 26 = 72 := by kernel_rfl

set_option maxRecDepth 100000 in
theorem open_node0 : ∀ (n : Nat) (cs : List Value) (x : DataW H × List MemPlace), DataW.trod enc Tryd.prog W 0 (fun _ => true) true n 26 cs = some x →
    (x.1.weights Tryd.prog 26).all (· ≤ reachBytes) = true → ∃ (v : NVal) (t : Nd), cs = nvC v ∧ NdAt W v t ∧ Fits t := by
  intro n
  induction n using Nat.strongRecOn with
  | ind n ih =>
  intro cs x h hs
  obtain ⟨xs, m, rfl, rfl, hl, hxl, hf⟩ := DataW.trod_struct Tryd.underlying26 h
  replace hl : cs.length = 4 := hl.trans cells_rnode
  clear h
  match xs, hxl with
  | [y0, y1, y2, y3], _ =>
  match cs, hl with
  | [v0, v1, v2, v3], _ =>
  have h0 : DataW.trod enc Tryd.prog W 0 (fun _ => true) true m 3 [v0] = some y0 := by simpa [cells_int] using hf 0 _ rfl
  have h1 : DataW.trod enc Tryd.prog W 0 (fun _ => true) true m 23 [v1] = some y1 := by simpa [cells_i64s] using hf 1 _ rfl
  have h2 : DataW.trod enc Tryd.prog W 0 (fun _ => true) true m 24 [v2] = some y2 := by simpa [cells_rnodes] using hf 2 _ rfl
  have h3 : DataW.trod enc Tryd.prog W 0 (fun _ => true) true m 9 [v3] = some y3 := by simpa [cells_str] using hf 3 _ rfl
  clear hf
  simp only [DataW.weights, Tryd.underlying26] at hs
  obtain ⟨op, rfl, _, _⟩ := open_num (y := y0) h0
  obtain ⟨ns, no, nc, rfl, rn, ln, _⟩ := open_nums (y := y1) h1 (weights_at hs (j := 1) rfl rfl)
  obtain ⟨nm, hnm, _⟩ := DataW.trod_string Tryd.underlying9 h3
  simp at hnm
  subst hnm
  have hs2 := weights_at hs (j := 2) (t := 24) (d := y2.1) rfl rfl
  rcases DataW.trod_slice Tryd.underlying24 h2 with ⟨hcs, _⟩ | ⟨a, len, cap, elems, rest, k, hmk, hcs, hy2, hb, hle, hm, hlen, hel, hsp, hns⟩
  · simp at hcs
    subst hcs
    exact ⟨⟨op, no, ns.length, nc, none, 0, 0, nm⟩, .mk op ns [] nm, rfl,
      .mk op ns [] nm no nc none 0 0 0 (fun _ => ⟨0, none, 0, 0, none, 0, 0, ⟨#[]⟩⟩) rn ln (by simp) (by simp) (fun h => absurd h (by simp)) (fun j hj => absurd hj (by simp)) (fun j hj => absurd hj (by simp)),
      .mk op ns [] nm (by simp) ln (fun j hj => absurd hj (by simp))⟩
  · simp at hcs
    subst hcs
    rw [hy2] at hs2
    have hw : (elems.length + rest.length) * 72 ≤ reachBytes := by
      have := hs2
      simp only [DataW.weights, Tryd.underlying24, List.all_cons, Bool.and_eq_true, decide_eq_true_eq, bytes_rnode, List.length_map] at this
      exact this.1
    have hl72 : len ≤ 1954687338211 := by unfold reachBytes at hw; omega
    have hinh : Inhabited (NVal × Nd) := ⟨(⟨0, none, 0, 0, none, 0, 0, ⟨#[]⟩⟩, .mk 0 [] [] ⟨#[]⟩)⟩
    obtain ⟨F, hF⟩ := Deep.choose_lt (α := NVal × Nd) (n := len) (p := fun i A => (a.add (i * 4) = ⟨(a.add (i * 4)).block, (a.add (i * 4)).off, none⟩ ∧ NIn W (a.add (i * 4)).block (a.add (i * 4)).off A.1) ∧ NdAt W A.1 A.2 ∧ Fits A.2) (fun i hi => by
      have he := hel i hi
      rw [List.getElem?_eq_getElem (by omega), cells_rnode] at he
      obtain ⟨cs', hc1, hc2⟩ := Option.bind_eq_some_iff.1 he
      obtain ⟨v, t, rfl, hat, hft⟩ := ih k (by omega) cs' _ hc2 (weights_elem Tryd.underlying24 hs2 (j := i) (by rw [List.getElem?_map, List.getElem?_eq_getElem (by omega)]; rfl))
      obtain ⟨hlen', hcell⟩ := cells_at hc1
      have ha := plain_addr (a := a.add (i * 4)) (v := .int .i64 v.op) (by have := hcell 0 _ rfl; simpa [Addr.add] using this)
      have hc : ∀ j u, (nvC v)[j]? = some u → W.cell? ⟨(a.add (i * 4)).block, (a.add (i * 4)).off + j, none⟩ = some u := fun j u hu => by
        have := hcell j u hu
        rw [ha, add_mk] at this
        exact this
      exact ⟨(v, t), ⟨ha, hc 0 _ rfl, hc 1 _ rfl, hc 2 _ rfl, hc 3 _ rfl⟩, hat, hft⟩)
    have hkl : ((List.range len).map fun i => (F i).2).length = len := by simp
    refine ⟨⟨op, no, ns.length, nc, some a, len, cap, nm⟩, .mk op ns ((List.range len).map fun i => (F i).2) nm, rfl, ?_, .mk _ _ _ _ (by rw [hkl]; exact hl72) ln (fun j hj => ?_)⟩
    · have := NdAt.mk (w := W) op ns ((List.range len).map fun i => (F i).2) nm no nc (some a) cap a.block a.off (fun i => (F i).1) rn ln (by rw [hkl]; omega) (by rw [hkl]; exact hle)
        (fun h0 => by
          rw [hkl] at h0
          have ha0 := (hF 0 h0).1.1
          have : a = ⟨a.block, a.off, none⟩ := by simpa [Addr.add] using ha0
          rw [← this])
        (fun j hj => by
          rw [hkl] at hj
          have ha0 := (hF 0 (by omega)).1.1
          have ha : a = ⟨a.block, a.off, none⟩ := by simpa [Addr.add] using ha0
          have hin := (hF j hj).1.2
          have e : a.add (j * 4) = ⟨a.block, a.off + j * 4, none⟩ := by
            rw [ha, add_mk]
          rw [e] at hin
          exact hin)
        (fun j hj => by
          rw [hkl] at hj
          simp only [List.getElem_map, List.getElem_range]
          exact (hF j hj).2.1)
      rw [hkl] at this
      exact this
    · rw [hkl] at hj
      simp only [List.getElem_map, List.getElem_range]
      exact (hF j hj).2.2
set_option maxRecDepth 100000 in
theorem open_node {v : Value} {d : DataW H} {p : List MemPlace} {base : Nat} (hv : Value.okWide Tryd.prog W .any base 26 v) (h : DataW.Trod enc Tryd.prog W 0 (fun _ => true) true 26 v d p)
    (hs : (d.weights Tryd.prog 26).all (· ≤ reachBytes) = true) : ∃ (t : Nd) (nv : NVal), v = .agg #[.int .i64 nv.op, .slice nv.no nv.nl nv.nc, .slice nv.ko nv.kl nv.kc, .string nv.nm] ∧ NdAt W nv t ∧ Fits t := by
  obtain ⟨fuel, hf⟩ := h
  obtain ⟨nv, t, hc, h1, h2⟩ := open_node0 fuel _ _ hf hs
  obtain ⟨cs, rfl, hsz⟩ := okWide_struct Tryd.underlying26 hv
  refine ⟨t, nv, ?_, h1, h2⟩
  have e : cs.toList = nvC nv := hc
  have : cs = (nvC nv).toArray := by rw [← e]
  rw [this]; rfl
theorem cells_rcal : Tryd.prog.cellsOf 46 = 5 := by kernel_rfl
theorem bytes_rcal : Tryd.prog.bytesOf 46 = 88 := by kernel_rfl
set_option maxRecDepth 100000 in
theorem open_cal1 {n : Nat} {cs : List Value} {x : DataW H × List MemPlace} (h : DataW.trod enc Tryd.prog W 0 (fun _ => true) true n 46 cs = some x)
    (hs : (x.1.weights Tryd.prog 46).all (· ≤ reachBytes) = true) : ∃ (nm : ByteArray) (v : NVal) (t : Nd), cs = cvC nm v ∧ NdAt W v t ∧ Fits t := by
  obtain ⟨xs, m, rfl, rfl, hl, hxl, hf⟩ := DataW.trod_struct Tryd.underlying46 h
  replace hl : cs.length = 5 := hl.trans cells_rcal
  clear h
  match xs, hxl with
  | [y0, y1], _ =>
  match cs, hl with
  | [v0, v1, v2, v3, v4], _ =>
  have h0 : DataW.trod enc Tryd.prog W 0 (fun _ => true) true m 9 [v0] = some y0 := by simpa [cells_str] using hf 0 _ rfl
  have h1 : DataW.trod enc Tryd.prog W 0 (fun _ => true) true m 26 [v1, v2, v3, v4] = some y1 := by simpa [cells_rnode] using hf 1 _ rfl
  clear hf
  simp only [DataW.weights, Tryd.underlying46] at hs
  obtain ⟨nm, hnm, _⟩ := DataW.trod_string Tryd.underlying9 h0
  simp at hnm
  subst hnm
  obtain ⟨v, t, hc, h2, h3⟩ := open_node0 m _ _ h1 (weights_at hs (j := 1) rfl rfl)
  simp only [nvC, List.cons.injEq, and_true] at hc
  obtain ⟨rfl, rfl, rfl, rfl⟩ := hc
  exact ⟨nm, v, t, rfl, h2, h3⟩
theorem open_cals {v : Value} {d : DataW H} {p : List MemPlace} {ao : Option Addr} {len cap : Nat} (hv : v = .slice ao len cap) (h : DataW.Trod enc Tryd.prog W 0 (fun _ => true) true 22 v d p)
    (hs : (d.weights Tryd.prog 22).all (· ≤ reachBytes) = true) : ∃ (cs : List (ByteArray × Nd)) (g o : Nat) (V : Nat → NVal), cs.length = len ∧ CalsAt W ao cap cs g o V ∧ FitsC cs := by
  subst hv
  obtain ⟨fuel, hf⟩ := h
  rcases Deep.open_slice Tryd.underlying22 hf with ⟨hcs, _⟩ | ⟨a, len', cap', m, n, D, Pl, hcs, _, hl, hm, hmm, hx, hel⟩
  · simp [Value.cells] at hcs
    obtain ⟨rfl, rfl, rfl⟩ := hcs
    exact ⟨[], 0, 0, fun _ => ⟨0, none, 0, 0, none, 0, 0, ⟨#[]⟩⟩, rfl, ⟨by simp, by simp, fun h => absurd h (by simp), fun j hj => absurd hj (by simp), fun j hj => absurd hj (by simp), fun j hj => absurd hj (by simp)⟩, by simp [FitsC]⟩
  · simp [Value.cells] at hcs
    obtain ⟨rfl, rfl, rfl⟩ := hcs
    simp at hmm
    subst hmm
    have hd : d = _ := congrArg Prod.fst hx
    simp only at hd
    rw [hd] at hs
    have hw : len ≤ 1599289640354 := by
      have := hs
      simp only [DataW.weights, Tryd.underlying22, List.all_cons, Bool.and_eq_true, decide_eq_true_eq, bytes_rcal, List.length_map, List.length_range] at this
      have := this.1
      unfold reachBytes at this
      omega
    have hinh : Inhabited (ByteArray × NVal × Nd) := ⟨(⟨#[]⟩, ⟨0, none, 0, 0, none, 0, 0, ⟨#[]⟩⟩, .mk 0 [] [] ⟨#[]⟩)⟩
    obtain ⟨F, hF⟩ := Deep.choose_lt (α := ByteArray × NVal × Nd) (n := len) (p := fun i A => (a.add (i * 5) = ⟨(a.add (i * 5)).block, (a.add (i * 5)).off, none⟩ ∧ W.cell? ⟨(a.add (i * 5)).block, (a.add (i * 5)).off, none⟩ = some (.string A.1) ∧ NIn W (a.add (i * 5)).block ((a.add (i * 5)).off + 1) A.2.1) ∧ NdAt W A.2.1 A.2.2 ∧ Fits A.2.2) (fun i hi => by
      obtain ⟨cs', h1, h2⟩ := hel i (by omega)
      rw [cells_rcal] at h1
      obtain ⟨nm, v, t, rfl, hat, hft⟩ := open_cal1 h2 (weights_elem Tryd.underlying22 hs (j := i) (by simp [hi]))
      obtain ⟨hlen', hcell⟩ := cells_at h1
      have ha := plain_addr (a := a.add (i * 5)) (v := .string nm) (by have := hcell 0 _ rfl; simpa [Addr.add] using this)
      have hc : ∀ j u, (cvC nm v)[j]? = some u → W.cell? ⟨(a.add (i * 5)).block, (a.add (i * 5)).off + j, none⟩ = some u := fun j u hu => by
        have := hcell j u hu
        rw [ha, add_mk] at this
        exact this
      exact ⟨(nm, v, t), ⟨ha, hc 0 _ rfl, hc 1 _ rfl, hc 2 _ rfl, hc 3 _ rfl, hc 4 _ rfl⟩, hat, hft⟩)
    have hkl : ((List.range len).map fun i => ((F i).1, (F i).2.2)).length = len := by simp
    have haa : 0 < len → a = ⟨a.block, a.off, none⟩ := fun h0 => by
      have ha0 := (hF 0 h0).1.1
      simpa [Addr.add] using ha0
    refine ⟨(List.range len).map fun i => ((F i).1, (F i).2.2), a.block, a.off, fun i => (F i).2.1, hkl, ⟨by rw [hkl]; omega, by rw [hkl]; exact hl, fun h0 => ?_, fun j hj => ?_, fun j hj => ?_, fun j hj => ?_⟩, by rw [hkl]; exact hw, fun j hj => ?_⟩
    · rw [hkl] at h0
      rw [← haa h0]
    · rw [hkl] at hj
      have e : a.add (j * 5) = ⟨a.block, a.off + j * 5, none⟩ := by rw [haa (by omega), add_mk]
      have := (hF j hj).1.2.1
      rw [e] at this
      simp only [List.getElem_map, List.getElem_range]
      exact this
    · rw [hkl] at hj
      have e : a.add (j * 5) = ⟨a.block, a.off + j * 5, none⟩ := by rw [haa (by omega), add_mk]
      have := (hF j hj).1.2.2
      rw [e] at this
      exact this
    · rw [hkl] at hj
      simp only [List.getElem_map, List.getElem_range]
      exact (hF j hj).2.1
    · rw [hkl] at hj
      simp only [List.getElem_map, List.getElem_range]
      exact (hF j hj).2.2
end
end Go.Proofs.YthbfjkdklnffjaaDoor
