/- A list of calls (dayshiftlaw04.Act) that came in, opened. -/
import Derived.Test.YtgobnnciijlpaaaDoorCell
namespace Go.Proofs.YtgobnnciijlpaaaDoor
open Go.ChangeShapes Go.WideShapes Go.ChangeAt Go.RowKit Go.DsMem Go.DsDk Go.Deep
set_option linter.unusedVariables false

/-- a call -/
structure A4 where
  kind : Int
  b : List UInt8
  n : Int
  keep : List Int

/-- the call A lies at this place -/
structure Act4In (w : World) (g o : Nat) (A : A4) (bo : Option Addr) (bc : Nat) (ko : Option Addr) (kc : Nat) : Prop where
  c0 : w.cell? ⟨g, o, none⟩ = some (.int .i64 A.kind)
  c1 : w.cell? ⟨g, o + 1, none⟩ = some (.slice bo A.b.length bc)
  c2 : w.cell? ⟨g, o + 2, none⟩ = some (.int .i64 A.n)
  c3 : w.cell? ⟨g, o + 3, none⟩ = some (.slice ko A.keep.length kc)
  rb : Rd w (.slice bo A.b.length bc) A.b
  rk : RdI w (.slice ko A.keep.length kc) A.keep
  lb : A.b.length ≤ 140737488351232
  ln : -9223372036854775808 ≤ A.n ∧ A.n ≤ 9223372036854775807

/-- the slice sl is these calls -/
def Acts4At (w : World) (sl : Value) (acts : List A4) : Prop :=
  ∃ ao cap, sl = .slice ao acts.length cap ∧ ∀ i A, acts[i]? = some A → ∃ g o bo bc ko kc, ao = some ⟨g, o, none⟩ ∧ Act4In w g (o + i * 4) A bo bc ko kc

theorem Act4In.mono {w w' : World} {g o : Nat} {A : A4} {bo ko : Option Addr} {bc kc : Nat} (h : Act4In w g o A bo bc ko kc) (hc : ∀ a v, w.cell? a = some v → w'.cell? a = some v) : Act4In w' g o A bo bc ko kc :=
  ⟨hc _ _ h.c0, hc _ _ h.c1, hc _ _ h.c2, hc _ _ h.c3, h.rb.mono hc, h.rk.mono hc, h.lb, h.ln⟩

section
variable {H : Type} {enc : TypeId × Value → H} {W : World}
theorem cells_act4 : Tryd.prog.cellsOf 38 = 4 := by kernel_rfl
theorem cells_bs4 : Tryd.prog.cellsOf 28 = 1 := by kernel_rfl
theorem cells_is4 : Tryd.prog.cellsOf 36 = 1 := by kernel_rfl

set_option maxRecDepth 10000 in
theorem open_act4 {n : Nat} {a : Addr} {cs : List Value} {x : DataW H × List MemPlace} (hcs : W.cells? 0 a 4 = some cs) (h : DataW.trod enc Tryd.prog W 0 (fun _ => true) true n 38 cs = some x)
    (hs : (x.1.weights Tryd.prog 38).all (· ≤ reachBytes) = true) : ∃ A bo bc ko kc, a = ⟨a.block, a.off, none⟩ ∧ Act4In W a.block a.off A bo bc ko kc := by
  obtain ⟨hlen, hcell⟩ := cells_at hcs
  obtain ⟨xs, m, _, rfl, hl, hxl, hf⟩ := DataW.trod_struct Tryd.underlying38 h
  match xs, hxl with
  | [y0, y1, y2, y3], _ =>
  match cs, hlen with
  | [v0, v1, v2, v3], _ =>
  have h0 : DataW.trod enc Tryd.prog W 0 (fun _ => true) true m 3 [v0] = some y0 := by simpa [cells_int] using hf 0 _ rfl
  have h1 : DataW.trod enc Tryd.prog W 0 (fun _ => true) true m 28 [v1] = some y1 := by simpa [cells_bs4] using hf 1 _ rfl
  have h2 : DataW.trod enc Tryd.prog W 0 (fun _ => true) true m 3 [v2] = some y2 := by simpa [cells_int] using hf 2 _ rfl
  have h3 : DataW.trod enc Tryd.prog W 0 (fun _ => true) true m 36 [v3] = some y3 := by simpa [cells_is4] using hf 3 _ rfl
  obtain ⟨k, rfl, _, _⟩ := open_num (y := y0) h0
  obtain ⟨nn, rfl, hn0, hn⟩ := open_num (y := y2) h2
  simp only [DataW.weights, Tryd.underlying38] at hs
  obtain ⟨b, bo, bc, rfl, rb, lb⟩ := open_bytes (y := y1) h1 (weights_at hs (j := 1) rfl rfl)
  obtain ⟨ks, ko, kc, rfl, rk⟩ := open_nums (y := y3) h3
  have ha := plain_addr (a := a) (hcell 0 _ rfl)
  refine ⟨⟨k, b, nn, ks⟩, bo, bc, ko, kc, ha, ?_⟩
  have hc : ∀ j v, ([.int .i64 k, .slice bo b.length bc, .int .i64 nn, .slice ko ks.length kc] : List Value)[j]? = some v → W.cell? ⟨a.block, a.off + j, none⟩ = some v := fun j v hv => by
    have := hcell j v hv
    rw [ha, add_mk] at this
    exact this
  exact ⟨hc 0 _ rfl, hc 1 _ rfl, hc 2 _ rfl, hc 3 _ rfl, rb, rk, lb, hn0, hn⟩

theorem open_acts4 {v : Value} {d : DataW H} {p : List MemPlace} {ao : Option Addr} {len cap : Nat} (hv : v = .slice ao len cap) (h : DataW.Trod enc Tryd.prog W 0 (fun _ => true) true 22 v d p)
    (hs : (d.weights Tryd.prog 22).all (· ≤ reachBytes) = true) : ∃ acts : List A4, acts.length = len ∧ Acts4At W v acts := by
  subst hv
  obtain ⟨fuel, hf⟩ := h
  rcases open_slice Tryd.underlying22 hf with ⟨hcs, _⟩ | ⟨a, len', cap', m, n, D, Pl, hcs, _, hl, hm, hmm, hx, hel⟩
  · simp [Value.cells] at hcs
    obtain ⟨rfl, rfl, rfl⟩ := hcs
    exact ⟨[], rfl, none, 0, rfl, fun i A hA => by simp at hA⟩
  · simp [Value.cells] at hcs
    obtain ⟨rfl, rfl, rfl⟩ := hcs
    simp at hmm
    subst hmm
    have hd : d = _ := congrArg Prod.fst hx
    simp only at hd
    rw [hd] at hs
    have hinh : Inhabited A4 := ⟨⟨0, [], 0, []⟩⟩
    obtain ⟨F, hF⟩ := choose_lt (α := A4) (n := len) (p := fun i A => ∃ bo bc ko kc, a.add (i * 4) = ⟨(a.add (i * 4)).block, (a.add (i * 4)).off, none⟩ ∧ Act4In W (a.add (i * 4)).block (a.add (i * 4)).off A bo bc ko kc) (fun i hi => by
      obtain ⟨cs', h1, h2⟩ := hel i (by omega)
      rw [cells_act4] at h1
      exact open_act4 h1 h2 (weights_elem Tryd.underlying22 hs (j := i) (by simp [hi])))
    refine ⟨(List.range len).map F, by simp, some a, m, by simp, fun i A hA => ?_⟩
    have hi : i < len := by
      have := (List.getElem?_eq_some_iff.1 hA).1
      simpa using this
    simp [hi] at hA
    subst hA
    obtain ⟨_, _, _, _, ha0, _⟩ := hF 0 (by omega)
    have ha : a = ⟨a.block, a.off, none⟩ := by simpa [Addr.add] using ha0
    obtain ⟨bo, bc, ko, kc, _, hin⟩ := hF i hi
    have e : a.add (i * 4) = ⟨a.block, a.off + i * 4, none⟩ := by
      rw [ha, add_mk]
    rw [e] at hin
    exact ⟨a.block, a.off, bo, bc, ko, kc, by rw [← ha], hin⟩
end
end Go.Proofs.YtgobnnciijlpaaaDoor
