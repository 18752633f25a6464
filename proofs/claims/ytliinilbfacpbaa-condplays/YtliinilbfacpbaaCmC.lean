/- Conditions that came in, opened: one, a list. -/
import Derived.Test.YtliinilbfacpbaaCmA
import Derived.Test.YtliinilbfacpbaaRows
import Derived.Deep.Slices
import Derived.SizedLaws
import Derived.OpenShut
namespace Go.Proofs.Ytliinilbfacpbaa
open Go.ChangeShapes Go.WideShapes Go.ChangeAt Go.RowKit Go.DsMem Go.DsCo Go.Deep
open Go.ChangeMaps (open_string shut_string)
set_option linter.unusedVariables false
theorem plain_addrC {W : World} {a : Addr} {v : Value} (h : W.cell? a = some v) : a = ⟨a.block, a.off, none⟩ := by
  have : a.spot = none := by
    unfold World.cell? at h
    cases hs : a.spot with
    | none => rfl
    | some s => rw [hs] at h; revert h; cases W.heap[a.block]? with
      | none => simp
      | some o => cases o <;> simp
  cases a; simp_all
theorem cells_atC {W : World} {a : Addr} {n : Nat} {cs : List Value} (h : W.cells? 0 a n = some cs) : cs.length = n ∧ ∀ j v, cs[j]? = some v → W.cell? (a.add j) = some v := by
  obtain ⟨_, hlen, hc⟩ := World.cells?_some h
  exact ⟨hlen, fun j v hv => by
    have hj : j < n := by have := (List.getElem?_eq_some_iff.1 hv).1; omega
    rw [hc j hj, hv]⟩
section
variable {H : Type} {enc : TypeId × Value → H} {W : World}
theorem weights_atC {ts : List TypeId} {ds : List (DataW H)} (h : (DataW.weightsEach Try.prog ts ds).all (· ≤ reachBytes) = true) {j : Nat} {t : TypeId} {d : DataW H} (ht : ts[j]? = some t) (hd : ds[j]? = some d) :
    (d.weights Try.prog t).all (· ≤ reachBytes) = true := by
  rw [List.all_eq_true]
  intro x hx
  exact List.all_eq_true.1 h _ (DataW.weights_mem_each ht hd x hx)
theorem weights_allC {e : TypeId} {ds : List (DataW H)} (h : (DataW.weightsAll Try.prog e ds).all (· ≤ reachBytes) = true) {j : Nat} {d : DataW H} (hd : ds[j]? = some d) :
    (d.weights Try.prog e).all (· ≤ reachBytes) = true := by
  induction ds generalizing j with
  | nil => simp at hd
  | cons a r ih =>
    simp only [DataW.weightsAll, List.all_append, Bool.and_eq_true] at h
    cases j with
    | zero => simp at hd; subst hd; exact h.1
    | succ j => exact ih h.2 (by simpa using hd)
theorem weights_elemC {t e : TypeId} {es sp : List (DataW H)} (ht : Try.prog.underlying t = some (.slice e)) (h : ((DataW.slice es sp).weights Try.prog t).all (· ≤ reachBytes) = true) {j : Nat} {d : DataW H} (hd : es[j]? = some d) :
    (d.weights Try.prog e).all (· ≤ reachBytes) = true := by
  simp only [DataW.weights, ht, List.all_cons, List.all_append, Bool.and_eq_true] at h
  exact weights_allC h.2.1 hd
theorem bounds64C {n : Int} (h : (Lit.int .i64 n).wf = true) : -9223372036854775808 ≤ n ∧ n ≤ 9223372036854775807 := by
  simp only [Lit.wf, IntKind.min, IntKind.max, IntKind.signed, IntKind.bits] at h
  simp at h
  omega
theorem bytesCn : Try.prog.bytesOf 24 = 24 := by kernel_rfl
/-- a condition's cells, opened -/
theorem open_cn {n : Nat} {cs : List Value} {x : DataW H × List MemPlace} (h : DataW.trod enc Try.prog W 0 (fun _ => true) true n 24 cs = some x)
    (hs : (x.1.weights Try.prog 24).all (· ≤ reachBytes) = true) : ∃ c : Cn, cs = encC c ∧ fitC c := by
  obtain ⟨xs, m, _, rfl, hl, hxl, hf⟩ := DataW.trod_struct Try.underlying24 h
  replace hl : cs.length = 2 := hl.trans cnCells
  match xs, hxl with
  | [y0, y1], _ =>
  match cs, hl with
  | [v0, v1], _ =>
  have h0 : DataW.trod enc Try.prog W 0 (fun _ => true) true m 9 [v0] = some y0 := by simpa [cnStr1] using hf 0 _ rfl
  have h1 : DataW.trod enc Try.prog W 0 (fun _ => true) true m 2 [v1] = some y1 := by simpa [cnInt1] using hf 1 _ rfl
  obtain ⟨s, e0, e0', _⟩ := DataW.trod_string Try.underlying9 h0
  obtain ⟨d, e1, _, hw⟩ := DataW.trod_int Try.underlying2 h1
  simp at e0 e1
  subst e0 e1
  simp only [DataW.weights, Try.underlying24] at hs
  have hsz := weights_atC hs (j := 0) (t := 9) (d := y0.1) rfl rfl
  rw [e0'] at hsz
  have hlen : s.data.toList.length ≤ reachBytes := by
    simpa [DataW.weights, Try.underlying9] using hsz
  refine ⟨⟨s, d⟩, rfl, ?_, bounds64C hw⟩
  have : s.data.toList.length = s.size := by simp
  have hr : reachBytes = 140737488351232 := by decide
  show s.size ≤ _
  omega
theorem open_cnV {v : Value} {d : DataW H} {p : List MemPlace} {base : Nat} (hv : Value.okWide Try.prog W .any base 24 v) (h : DataW.Trod enc Try.prog W 0 (fun _ => true) true 24 v d p)
    (hs : (d.weights Try.prog 24).all (· ≤ reachBytes) = true) : ∃ c : Cn, v = .agg #[.string c.nm, .int .i64 c.day] ∧ fitC c := by
  obtain ⟨fuel, hf⟩ := h
  obtain ⟨c, hc, h2⟩ := open_cn hf hs
  obtain ⟨cs, rfl, hsz⟩ := okWide_struct Try.underlying24 hv
  refine ⟨c, ?_, h2⟩
  have e : cs.toList = encC c := hc
  have : cs = (encC c).toArray := by rw [← e]
  rw [this]; rfl
theorem open_cns {v : Value} {d : DataW H} {p : List MemPlace} {ao : Option Addr} {len cap : Nat} (hv : v = .slice ao len cap) (h : DataW.Trod enc Try.prog W 0 (fun _ => true) true 35 v d p)
    (hs : (d.weights Try.prog 35).all (· ≤ reachBytes) = true) : ∃ l : List Cn, l.length = len ∧ l.length ≤ cap ∧ CnsRd W ao l ∧ (∀ c ∈ l, fitC c) ∧ l.length ≤ 140737488355000 := by
  subst hv
  obtain ⟨fuel, hf⟩ := h
  rcases open_slice Try.underlying35 hf with ⟨hcs, _⟩ | ⟨a, len', cap', m, n, D, Pl, hcs, _, hl, hm, hmm, hx, hel⟩
  · simp [Value.cells] at hcs
    obtain ⟨rfl, rfl, rfl⟩ := hcs
    exact ⟨[], rfl, Nat.le_refl _, CnsRd.nil _ _, fun c hc => by simp at hc, by simp⟩
  · simp [Value.cells] at hcs
    obtain ⟨rfl, rfl, rfl⟩ := hcs
    simp at hmm
    subst hmm
    have hd : d = _ := congrArg Prod.fst hx
    simp only at hd
    rw [hd] at hs
    have hinh : Inhabited Cn := ⟨⟨⟨#[]⟩, 0⟩⟩
    obtain ⟨F, hF⟩ := choose_lt (α := Cn) (n := len) (p := fun i c => a.add (i * 2) = ⟨(a.add (i * 2)).block, (a.add (i * 2)).off, none⟩ ∧ CnIn W (a.add (i * 2)).block (a.add (i * 2)).off c ∧ fitC c) (fun i hi => by
      obtain ⟨cs', h1, h2⟩ := hel i (by omega)
      rw [cnCells] at h1
      obtain ⟨c, rfl, hfit⟩ := open_cn h2 (weights_elemC Try.underlying35 hs (j := i) (by simp [hi]))
      obtain ⟨hlen', hcell⟩ := cells_atC h1
      have ha := plain_addrC (a := a.add (i * 2)) (v := .string c.nm) (by have := hcell 0 _ rfl; simpa [Addr.add] using this)
      have hc : ∀ j u, (encC c)[j]? = some u → W.cell? ⟨(a.add (i * 2)).block, (a.add (i * 2)).off + j, none⟩ = some u := fun j u hu => by
        have := hcell j u hu
        rw [ha, add_mk] at this
        exact this
      exact ⟨c, ha, ⟨hc 0 _ rfl, hc 1 _ rfl⟩, hfit⟩)
    have hlb : len ≤ 140737488355000 := by
      have h1 := hs
      simp only [DataW.weights, Try.underlying35, List.all_cons, Bool.and_eq_true, decide_eq_true_eq, bytesCn] at h1
      have h2 := h1.1
      simp only [List.length_map, List.length_range, reachBytes] at h2
      omega
    refine ⟨(List.range len).map F, by simp, by simpa using hl, fun i hi => ?_, fun c hc => ?_, by simpa using hlb⟩
    · have hi' : i < len := by simpa using hi
      obtain ⟨ha0, _, _⟩ := hF 0 (by omega)
      have ha : a = ⟨a.block, a.off, none⟩ := by simpa [Addr.add] using ha0
      obtain ⟨_, hin, _⟩ := hF i hi'
      have e : a.add (i * 2) = ⟨a.block, a.off + i * 2, none⟩ := by rw [ha, add_mk]
      rw [e] at hin
      refine ⟨a.block, a.off, by rw [← ha], ?_⟩
      simpa using hin
    · obtain ⟨i, hi, rfl⟩ := List.mem_map.1 hc
      exact (hF i (by simpa using hi)).2.2
end
end Go.Proofs.Ytliinilbfacpbaa
