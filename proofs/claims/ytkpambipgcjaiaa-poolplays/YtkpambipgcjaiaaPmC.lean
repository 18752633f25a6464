/- Resources and needs that came in, opened. Written by gen_pmc.py. -/
import Derived.Test.YtkpambipgcjaiaaPmB
import Derived.Test.YtkpambipgcjaiaaRows
import Derived.Deep.Slices
import Derived.SizedLaws
import Derived.OpenShut
namespace Go.Proofs.Ytkpambipgcjaiaa
open Go.ChangeShapes Go.WideShapes Go.ChangeAt Go.RowKit Go.DsMem Go.DsCo Go.DsPl Go.DsMap Go.Deep
open Go.ChangeMaps (open_string shut_string)
set_option linter.unusedVariables false
set_option linter.unusedSimpArgs false
set_option maxRecDepth 20000
theorem plain_addrP {W : World} {a : Addr} {v : Value} (h : W.cell? a = some v) : a = ⟨a.block, a.off, none⟩ := by
  have : a.spot = none := by
    unfold World.cell? at h
    cases hs : a.spot with
    | none => rfl
    | some s => rw [hs] at h; revert h; cases W.heap[a.block]? with
      | none => simp
      | some o => cases o <;> simp
  cases a; simp_all
theorem cells_atP {W : World} {a : Addr} {n : Nat} {cs : List Value} (h : W.cells? 0 a n = some cs) : cs.length = n ∧ ∀ j v, cs[j]? = some v → W.cell? (a.add j) = some v := by
  obtain ⟨_, hlen, hc⟩ := World.cells?_some h
  exact ⟨hlen, fun j v hv => by
    have hj : j < n := by have := (List.getElem?_eq_some_iff.1 hv).1; omega
    rw [hc j hj, hv]⟩
theorem lt_of_cell {W : World} {g o : Nat} {v : Value} (h : W.cell? ⟨g, o, none⟩ = some v) : g < W.heap.size := by
  unfold World.cell? at h
  cases hb : W.heap[g]? with
  | none => simp only [hb] at h; cases h
  | some x => exact block_lt hb
section
variable {H : Type} {enc : TypeId × Value → H} {W : World}
theorem weights_atP {ts : List TypeId} {ds : List (DataW H)} (h : (DataW.weightsEach Try.prog ts ds).all (· ≤ reachBytes) = true) {j : Nat} {t : TypeId} {d : DataW H} (ht : ts[j]? = some t) (hd : ds[j]? = some d) :
    (d.weights Try.prog t).all (· ≤ reachBytes) = true := by
  rw [List.all_eq_true]
  intro x hx
  exact List.all_eq_true.1 h _ (DataW.weights_mem_each ht hd x hx)
theorem weights_allP {e : TypeId} {ds : List (DataW H)} (h : (DataW.weightsAll Try.prog e ds).all (· ≤ reachBytes) = true) {j : Nat} {d : DataW H} (hd : ds[j]? = some d) :
    (d.weights Try.prog e).all (· ≤ reachBytes) = true := by
  induction ds generalizing j with
  | nil => simp at hd
  | cons a r ih =>
    simp only [DataW.weightsAll, List.all_append, Bool.and_eq_true] at h
    cases j with
    | zero => simp at hd; subst hd; exact h.1
    | succ j => exact ih h.2 (by simpa using hd)
theorem weights_elemP {t e : TypeId} {es sp : List (DataW H)} (ht : Try.prog.underlying t = some (.slice e)) (h : ((DataW.slice es sp).weights Try.prog t).all (· ≤ reachBytes) = true) {j : Nat} {d : DataW H} (hd : es[j]? = some d) :
    (d.weights Try.prog e).all (· ≤ reachBytes) = true := by
  simp only [DataW.weights, ht, List.all_cons, List.all_append, Bool.and_eq_true] at h
  exact weights_allP h.2.1 hd
theorem bounds64P {n : Int} (h : (Lit.int .i64 n).wf = true) : -9223372036854775808 ≤ n ∧ n ≤ 9223372036854775807 := by
  simp only [Lit.wf, IntKind.min, IntKind.max, IntKind.signed, IntKind.bits] at h
  simp at h
  omega
theorem celStrP : Try.prog.cellsOf 9 = 1 := by kernel_rfl
theorem celI64P : Try.prog.cellsOf 2 = 1 := by kernel_rfl
theorem celIntP : Try.prog.cellsOf 3 = 1 := by kernel_rfl
theorem celBoolP : Try.prog.cellsOf 4 = 1 := by kernel_rfl
theorem fit_of {s : ByteArray} {enc : TypeId × Value → H} (h : (((DataW.lit (.string s.data.toList) : DataW H)).weights Try.prog 9).all (· ≤ reachBytes) = true) : FitN s := by
  have hlen : s.data.toList.length ≤ reachBytes := by
    simpa [DataW.weights, Try.underlying9] using h
  have : s.data.toList.length = s.size := by simp
  have hr : reachBytes = 140737488351232 := by decide
  show s.size ≤ _
  omega
theorem celsNe : Try.prog.cellsOf 102 = 3 := by kernel_rfl
theorem bytsNe : Try.prog.bytesOf 102 = 32 := by kernel_rfl
theorem open_ne {n : Nat} {cs : List Value} {x : DataW H × List MemPlace} (h : DataW.trod enc Try.prog W 0 (fun _ => true) true n 102 cs = some x)
    (hs : (x.1.weights Try.prog 102).all (· ≤ reachBytes) = true) : ∃ c : Ne, cs = neC c ∧ FitN c.nm := by
  obtain ⟨xs, m, _, rfl, hl, hxl, hf⟩ := DataW.trod_struct Try.underlying102 h
  replace hl : cs.length = 3 := hl.trans celsNe
  match xs, hxl with
  | [y0, y1, y2], _ =>
  match cs, hl with
  | [v0, v1, v2], _ =>
  have h0 : DataW.trod enc Try.prog W 0 (fun _ => true) true m 9 [v0] = some y0 := by simpa [celStrP] using hf 0 _ rfl
  have h1 : DataW.trod enc Try.prog W 0 (fun _ => true) true m 2 [v1] = some y1 := by simpa [celStrP, celI64P] using hf 1 _ rfl
  have h2 : DataW.trod enc Try.prog W 0 (fun _ => true) true m 3 [v2] = some y2 := by simpa [celStrP, celI64P, celIntP] using hf 2 _ rfl
  obtain ⟨s, e0, e0', _⟩ := DataW.trod_string Try.underlying9 h0
  obtain ⟨d, e1, _, hw⟩ := DataW.trod_int Try.underlying2 h1
  obtain ⟨q, e2, _, hw2⟩ := DataW.trod_int Try.underlying3 h2
  simp at e0 e1 e2
  subst e0 e1 e2
  simp only [DataW.weights, Try.underlying102] at hs
  have hsz := weights_atP hs (j := 0) (t := 9) (d := y0.1) rfl rfl
  rw [e0'] at hsz
  exact ⟨⟨s, d, q⟩, rfl, fit_of (enc := enc) hsz⟩
theorem open_nes {n : Nat} {ao : Option Addr} {len cap : Nat} {x : DataW H × List MemPlace} (hf : DataW.trod enc Try.prog W 0 (fun _ => true) true n 31 [Value.slice ao len cap] = some x)
    (hs : (x.1.weights Try.prog 31).all (· ≤ reachBytes) = true) : ∃ l : List Ne, l.length = len ∧ l.length ≤ cap ∧ NeAt W ao cap l ∧ (∀ c ∈ l, FitN c.nm) ∧ l.length ≤ 4398046510976 := by
  rcases open_slice Try.underlying31 hf with ⟨hcs, _⟩ | ⟨a, len', cap', m, n, D, Pl, hcs, _, hl, hm, hmm, hx, hel⟩
  · simp [Value.cells] at hcs
    obtain ⟨rfl, rfl, rfl⟩ := hcs
    exact ⟨[], rfl, Nat.le_refl _, fun h => by simp at h, fun c hc => by simp at hc, by simp⟩
  · simp [Value.cells] at hcs
    obtain ⟨rfl, rfl, rfl⟩ := hcs
    simp at hmm
    subst hmm
    have hd := congrArg Prod.fst hx
    simp only at hd
    rw [hd] at hs
    have hinh : Inhabited Ne := ⟨⟨⟨#[]⟩, 0, 0⟩⟩
    obtain ⟨F, hF⟩ := choose_lt (α := Ne) (n := len) (p := fun i c => a.add (i * 3) = ⟨(a.add (i * 3)).block, (a.add (i * 3)).off, none⟩ ∧ (∀ j u, (neC c)[j]? = some u → W.cell? ⟨(a.add (i * 3)).block, (a.add (i * 3)).off + j, none⟩ = some u) ∧ FitN c.nm) (fun i hi => by
      obtain ⟨cs', h1, h2⟩ := hel i (by omega)
      rw [celsNe] at h1
      obtain ⟨c, rfl, hfit⟩ := open_ne h2 (weights_elemP Try.underlying31 hs (j := i) (by simp [hi]))
      obtain ⟨hlen', hcell⟩ := cells_atP h1
      have ha := plain_addrP (a := a.add (i * 3)) (v := .string c.nm) (by have := hcell 0 _ rfl; simpa [Addr.add] using this)
      exact ⟨c, ha, fun j u hu => by
        have := hcell j u hu
        rw [ha, add_mk] at this
        exact this, hfit⟩)
    have hlb : len ≤ 4398046510976 := by
      have h1 := hs
      simp only [DataW.weights, Try.underlying31, List.all_cons, Bool.and_eq_true, decide_eq_true_eq, bytsNe] at h1
      have h2 := h1.1
      simp only [List.length_map, List.length_range, reachBytes] at h2
      omega
    refine ⟨(List.range len).map F, by simp, by simpa using hl, fun h0 => ?_, fun c hc => ?_, by simpa using hlb⟩
    · have h0' : 0 < len := by simpa using h0
      obtain ⟨ha0, hc0, _⟩ := hF 0 h0'
      have ha : a = ⟨a.block, a.off, none⟩ := by simpa [Addr.add] using ha0
      refine ⟨a.block, a.off, by rw [← ha], by simpa using hl, ?_, fun j n hj => ?_⟩
      · have := hc0 0 _ rfl
        have := lt_of_cell this
        simpa [Addr.add] using this
      · have hj' : j < len := by
          have := (List.getElem?_eq_some_iff.1 hj).1
          simpa using this
        obtain ⟨_, hin, _⟩ := hF j hj'
        have e : a.add (j * 3) = ⟨a.block, a.off + j * 3, none⟩ := by rw [ha, add_mk]
        rw [e] at hin
        have en : n = F j := by
          simp [hj'] at hj
          exact hj.symm
        subst en
        exact ⟨hin 0 _ rfl, hin 1 _ rfl, hin 2 _ rfl⟩
    · obtain ⟨i, hi, rfl⟩ := List.mem_map.1 hc
      exact (hF i (by simpa using hi)).2.2
theorem open_neV {v : Value} {d : DataW H} {p : List MemPlace} {ao : Option Addr} {len cap : Nat} (hv : v = .slice ao len cap) (h : DataW.Trod enc Try.prog W 0 (fun _ => true) true 31 v d p)
    (hs : (d.weights Try.prog 31).all (· ≤ reachBytes) = true) : ∃ l : List Ne, l.length = len ∧ l.length ≤ cap ∧ NeAt W ao cap l ∧ (∀ c ∈ l, FitN c.nm) ∧ l.length ≤ 4398046510976 := by
  subst hv
  obtain ⟨fuel, hf⟩ := h
  exact open_nes (x := (d, p)) (by simpa [Value.cells] using hf) hs
theorem celsRt : Try.prog.cellsOf 66 = 3 := by kernel_rfl
theorem bytsRt : Try.prog.bytesOf 66 = 32 := by kernel_rfl
theorem open_rt {n : Nat} {cs : List Value} {x : DataW H × List MemPlace} (h : DataW.trod enc Try.prog W 0 (fun _ => true) true n 66 cs = some x)
    (hs : (x.1.weights Try.prog 66).all (· ≤ reachBytes) = true) : ∃ c : Rt, cs = rtC c ∧ FitN c.1 := by
  obtain ⟨xs, m, _, rfl, hl, hxl, hf⟩ := DataW.trod_struct Try.underlying66 h
  replace hl : cs.length = 3 := hl.trans celsRt
  match xs, hxl with
  | [y0, y1, y2], _ =>
  match cs, hl with
  | [v0, v1, v2], _ =>
  have h0 : DataW.trod enc Try.prog W 0 (fun _ => true) true m 9 [v0] = some y0 := by simpa [celStrP] using hf 0 _ rfl
  have h1 : DataW.trod enc Try.prog W 0 (fun _ => true) true m 2 [v1] = some y1 := by simpa [celStrP, celI64P] using hf 1 _ rfl
  have h2 : DataW.trod enc Try.prog W 0 (fun _ => true) true m 4 [v2] = some y2 := by simpa [celStrP, celI64P, celBoolP] using hf 2 _ rfl
  obtain ⟨s, e0, e0', _⟩ := DataW.trod_string Try.underlying9 h0
  obtain ⟨d, e1, _, hw⟩ := DataW.trod_int Try.underlying2 h1
  obtain ⟨q, e2, _⟩ := DataW.trod_bool Try.underlying4 h2
  simp at e0 e1 e2
  subst e0 e1 e2
  simp only [DataW.weights, Try.underlying66] at hs
  have hsz := weights_atP hs (j := 0) (t := 9) (d := y0.1) rfl rfl
  rw [e0'] at hsz
  exact ⟨(s, d, q), rfl, fit_of (enc := enc) hsz⟩
theorem open_rts {n : Nat} {ao : Option Addr} {len cap : Nat} {x : DataW H × List MemPlace} (hf : DataW.trod enc Try.prog W 0 (fun _ => true) true n 22 [Value.slice ao len cap] = some x)
    (hs : (x.1.weights Try.prog 22).all (· ≤ reachBytes) = true) : ∃ l : List Rt, l.length = len ∧ l.length ≤ cap ∧ RtAt W ao cap l ∧ (∀ c ∈ l, FitN c.1) ∧ l.length ≤ 4398046510976 := by
  rcases open_slice Try.underlying22 hf with ⟨hcs, _⟩ | ⟨a, len', cap', m, n, D, Pl, hcs, _, hl, hm, hmm, hx, hel⟩
  · simp [Value.cells] at hcs
    obtain ⟨rfl, rfl, rfl⟩ := hcs
    exact ⟨[], rfl, Nat.le_refl _, fun h => by simp at h, fun c hc => by simp at hc, by simp⟩
  · simp [Value.cells] at hcs
    obtain ⟨rfl, rfl, rfl⟩ := hcs
    simp at hmm
    subst hmm
    have hd := congrArg Prod.fst hx
    simp only at hd
    rw [hd] at hs
    have hinh : Inhabited Rt := ⟨(⟨#[]⟩, 0, false)⟩
    obtain ⟨F, hF⟩ := choose_lt (α := Rt) (n := len) (p := fun i c => a.add (i * 3) = ⟨(a.add (i * 3)).block, (a.add (i * 3)).off, none⟩ ∧ (∀ j u, (rtC c)[j]? = some u → W.cell? ⟨(a.add (i * 3)).block, (a.add (i * 3)).off + j, none⟩ = some u) ∧ FitN c.1) (fun i hi => by
      obtain ⟨cs', h1, h2⟩ := hel i (by omega)
      rw [celsRt] at h1
      obtain ⟨c, rfl, hfit⟩ := open_rt h2 (weights_elemP Try.underlying22 hs (j := i) (by simp [hi]))
      obtain ⟨hlen', hcell⟩ := cells_atP h1
      have ha := plain_addrP (a := a.add (i * 3)) (v := .string c.1) (by have := hcell 0 _ rfl; simpa [Addr.add] using this)
      exact ⟨c, ha, fun j u hu => by
        have := hcell j u hu
        rw [ha, add_mk] at this
        exact this, hfit⟩)
    have hlb : len ≤ 4398046510976 := by
      have h1 := hs
      simp only [DataW.weights, Try.underlying22, List.all_cons, Bool.and_eq_true, decide_eq_true_eq, bytsRt] at h1
      have h2 := h1.1
      simp only [List.length_map, List.length_range, reachBytes] at h2
      omega
    refine ⟨(List.range len).map F, by simp, by simpa using hl, fun h0 => ?_, fun c hc => ?_, by simpa using hlb⟩
    · have h0' : 0 < len := by simpa using h0
      obtain ⟨ha0, hc0, _⟩ := hF 0 h0'
      have ha : a = ⟨a.block, a.off, none⟩ := by simpa [Addr.add] using ha0
      refine ⟨a.block, a.off, by rw [← ha], by simpa using hl, ?_, fun j n hj => ?_⟩
      · have := hc0 0 _ rfl
        have := lt_of_cell this
        simpa [Addr.add] using this
      · have hj' : j < len := by
          have := (List.getElem?_eq_some_iff.1 hj).1
          simpa using this
        obtain ⟨_, hin, _⟩ := hF j hj'
        have e : a.add (j * 3) = ⟨a.block, a.off + j * 3, none⟩ := by rw [ha, add_mk]
        rw [e] at hin
        have en : n = F j := by
          simp [hj'] at hj
          exact hj.symm
        subst en
        exact ⟨hin 0 _ rfl, hin 1 _ rfl, hin 2 _ rfl⟩
    · obtain ⟨i, hi, rfl⟩ := List.mem_map.1 hc
      exact (hF i (by simpa using hi)).2.2
theorem open_rtV {v : Value} {d : DataW H} {p : List MemPlace} {ao : Option Addr} {len cap : Nat} (hv : v = .slice ao len cap) (h : DataW.Trod enc Try.prog W 0 (fun _ => true) true 22 v d p)
    (hs : (d.weights Try.prog 22).all (· ≤ reachBytes) = true) : ∃ l : List Rt, l.length = len ∧ l.length ≤ cap ∧ RtAt W ao cap l ∧ (∀ c ∈ l, FitN c.1) ∧ l.length ≤ 4398046510976 := by
  subst hv
  obtain ⟨fuel, hf⟩ := h
  exact open_rts (x := (d, p)) (by simpa [Value.cells] using hf) hs
/-- a call of law 13 -/
structure A13 where
  kind : Int
  o : Int
  l : List Ne
  vo : Option Addr
  vc : Nat
  nm : ByteArray
  n : Int
def acC (a : A13) : List Value := [.int .i64 a.kind, .int .i64 a.o, .slice a.vo a.l.length a.vc, .string a.nm, .int .i64 a.n]
structure A13In (W : World) (a : A13) : Prop where
  lo : -9223372036854775808 ≤ a.o ∧ a.o ≤ 9223372036854775807
  at_ : NeAt W a.vo a.vc a.l
  fit : FitL a.l
  len : a.l.length ≤ 4398046510976
  nmf : FitN a.nm
/-- a slice that reads as calls -/
def AcAt (w : World) (uo : Option Addr) (uc : Nat) (l : List A13) : Prop :=
  0 < l.length → ∃ g o, uo = some ⟨g, o, none⟩ ∧ l.length ≤ uc ∧ g < w.heap.size ∧ ∀ j n, l[j]? = some n → A13In w n ∧ ∀ k u, (acC n)[k]? = some u → w.cell? ⟨g, o + j * 5 + k, none⟩ = some u
theorem cellsA13 : Try.prog.cellsOf 33 = 5 := by kernel_rfl
theorem celSlP : Try.prog.cellsOf 31 = 1 := by kernel_rfl
theorem open_act13 {n : Nat} {cs : List Value} {x : DataW H × List MemPlace} (h : DataW.trod enc Try.prog W 0 (fun _ => true) true n 33 cs = some x)
    (hs : (x.1.weights Try.prog 33).all (· ≤ reachBytes) = true) : ∃ a : A13, cs = acC a ∧ A13In W a := by
  obtain ⟨xs, m, _, rfl, hl, hxl, hf⟩ := DataW.trod_struct Try.underlying33 h
  replace hl : cs.length = 5 := hl.trans cellsA13
  match xs, hxl with
  | [y0, y1, y2, y3, y4], _ =>
  match cs, hl with
  | [v0, v1, v2, v3, v4], _ =>
  have h0 : DataW.trod enc Try.prog W 0 (fun _ => true) true m 3 [v0] = some y0 := by simpa [celIntP] using hf 0 _ rfl
  have h1 : DataW.trod enc Try.prog W 0 (fun _ => true) true m 2 [v1] = some y1 := by simpa [celIntP, celI64P] using hf 1 _ rfl
  have h2 : DataW.trod enc Try.prog W 0 (fun _ => true) true m 31 [v2] = some y2 := by simpa [celIntP, celI64P, celSlP] using hf 2 _ rfl
  have h3 : DataW.trod enc Try.prog W 0 (fun _ => true) true m 9 [v3] = some y3 := by simpa [celIntP, celI64P, celSlP, celStrP] using hf 3 _ rfl
  have h4 : DataW.trod enc Try.prog W 0 (fun _ => true) true m 2 [v4] = some y4 := by simpa [celIntP, celI64P, celSlP, celStrP] using hf 4 _ rfl
  obtain ⟨k, e0, _, hw0⟩ := DataW.trod_int Try.underlying3 h0
  obtain ⟨o, e1, _, hw1⟩ := DataW.trod_int Try.underlying2 h1
  obtain ⟨s, e3, e3', _⟩ := DataW.trod_string Try.underlying9 h3
  obtain ⟨q, e4, _, hw4⟩ := DataW.trod_int Try.underlying2 h4
  simp at e0 e1 e3 e4
  subst e0 e1 e3 e4
  simp only [DataW.weights, Try.underlying33] at hs
  have hs2 := weights_atP hs (j := 2) (t := 31) (d := y2.1) rfl rfl
  have hs3 := weights_atP hs (j := 3) (t := 9) (d := y3.1) rfl rfl
  rw [e3'] at hs3
  obtain ⟨ao, len, cap, rfl⟩ : ∃ ao len cap, v2 = .slice ao len cap := by
    rcases open_slice Try.underlying31 h2 with ⟨hcs, _⟩ | ⟨a, len', cap', m, n, D, Pl, hcs, _⟩
    · simp at hcs
      exact ⟨_, _, _, hcs⟩
    · simp at hcs
      exact ⟨_, _, _, hcs⟩
  obtain ⟨l, hl, hlc, hat, hfit, hlb⟩ := open_nes h2 hs2
  subst hl
  exact ⟨⟨k, o, l, ao, cap, s, q⟩, rfl, bounds64P hw1, hat, hfit, hlb, fit_of (enc := enc) hs3⟩
theorem open_acts13 {v : Value} {d : DataW H} {p : List MemPlace} {ao : Option Addr} {len cap : Nat} (hv : v = .slice ao len cap) (h : DataW.Trod enc Try.prog W 0 (fun _ => true) true 23 v d p)
    (hs : (d.weights Try.prog 23).all (· ≤ reachBytes) = true) : ∃ l : List A13, l.length = len ∧ l.length ≤ cap ∧ AcAt W ao cap l := by
  subst hv
  obtain ⟨fuel, hf⟩ := h
  rcases open_slice Try.underlying23 hf with ⟨hcs, _⟩ | ⟨a, len', cap', m, n, D, Pl, hcs, _, hl, hm, hmm, hx, hel⟩
  · simp [Value.cells] at hcs
    obtain ⟨rfl, rfl, rfl⟩ := hcs
    exact ⟨[], rfl, Nat.le_refl _, fun h => by simp at h⟩
  · simp [Value.cells] at hcs
    obtain ⟨rfl, rfl, rfl⟩ := hcs
    simp at hmm
    subst hmm
    have hd : d = _ := congrArg Prod.fst hx
    simp only at hd
    rw [hd] at hs
    have hinh : Inhabited A13 := ⟨⟨0, 0, [], none, 0, ⟨#[]⟩, 0⟩⟩
    obtain ⟨F, hF⟩ := choose_lt (α := A13) (n := len) (p := fun i c => a.add (i * 5) = ⟨(a.add (i * 5)).block, (a.add (i * 5)).off, none⟩ ∧ (∀ j u, (acC c)[j]? = some u → W.cell? ⟨(a.add (i * 5)).block, (a.add (i * 5)).off + j, none⟩ = some u) ∧ A13In W c) (fun i hi => by
      obtain ⟨cs', h1, h2⟩ := hel i (by omega)
      rw [cellsA13] at h1
      obtain ⟨c, rfl, hfit⟩ := open_act13 h2 (weights_elemP Try.underlying23 hs (j := i) (by simp [hi]))
      obtain ⟨hlen', hcell⟩ := cells_atP h1
      have ha := plain_addrP (a := a.add (i * 5)) (v := .int .i64 c.kind) (by have := hcell 0 _ rfl; simpa [Addr.add] using this)
      exact ⟨c, ha, fun j u hu => by
        have := hcell j u hu
        rw [ha, add_mk] at this
        exact this, hfit⟩)
    refine ⟨(List.range len).map F, by simp, by simpa using hl, fun h0 => ?_⟩
    have h0' : 0 < len := by simpa using h0
    obtain ⟨ha0, hc0, _⟩ := hF 0 h0'
    have ha : a = ⟨a.block, a.off, none⟩ := by simpa [Addr.add] using ha0
    refine ⟨a.block, a.off, by rw [← ha], by simpa using hl, ?_, fun j n hj => ?_⟩
    · have := hc0 0 _ rfl
      have := lt_of_cell this
      simpa [Addr.add] using this
    · have hj' : j < len := by
        have := (List.getElem?_eq_some_iff.1 hj).1
        simpa using this
      obtain ⟨_, hin, hi2⟩ := hF j hj'
      have e : a.add (j * 5) = ⟨a.block, a.off + j * 5, none⟩ := by rw [ha, add_mk]
      rw [e] at hin
      have en : n = F j := by
        simp [hj'] at hj
        exact hj.symm
      subst en
      exact ⟨hi2, hin⟩
end
end Go.Proofs.Ytkpambipgcjaiaa
