/- A list of calls (dayshiftlaw03.Act) that came in, opened. -/
import Derived.Test.YtgobnnciijlpaaaCell
namespace Go.Proofs.Ytgobnnciijlpaaa
open Go.ChangeShapes Go.WideShapes Go.ChangeAt Go.RowKit Go.DsMem Go.DsDk Go.Deep
set_option linter.unusedVariables false

/-- a call -/
structure A6 where
  kind : Int
  f : Int
  g : Int
  n : Int
  b : List UInt8
  keep : List Int

/-- the call A lies at this place -/
structure ActIn (w : World) (g o : Nat) (A : A6) (bo : Option Addr) (bc : Nat) (ko : Option Addr) (kc : Nat) : Prop where
  c0 : w.cell? ⟨g, o, none⟩ = some (.int .i64 A.kind)
  c1 : w.cell? ⟨g, o + 1, none⟩ = some (.int .i64 A.f)
  c2 : w.cell? ⟨g, o + 2, none⟩ = some (.int .i64 A.g)
  c3 : w.cell? ⟨g, o + 3, none⟩ = some (.slice bo A.b.length bc)
  c4 : w.cell? ⟨g, o + 4, none⟩ = some (.int .i64 A.n)
  c5 : w.cell? ⟨g, o + 5, none⟩ = some (.slice ko A.keep.length kc)
  rb : Rd w (.slice bo A.b.length bc) A.b
  rk : RdI w (.slice ko A.keep.length kc) A.keep
  lb : A.b.length ≤ 140737488351232
  ln : A.n ≤ 9223372036854775807

/-- the slice sl is these calls -/
def ActsAt (w : World) (sl : Value) (acts : List A6) : Prop :=
  ∃ ao cap, sl = .slice ao acts.length cap ∧ ∀ i A, acts[i]? = some A → ∃ g o bo bc ko kc, ao = some ⟨g, o, none⟩ ∧ ActIn w g (o + i * 6) A bo bc ko kc

theorem ActIn.mono {w w' : World} {g o : Nat} {A : A6} {bo ko : Option Addr} {bc kc : Nat} (h : ActIn w g o A bo bc ko kc) (hc : ∀ a v, w.cell? a = some v → w'.cell? a = some v) : ActIn w' g o A bo bc ko kc :=
  ⟨hc _ _ h.c0, hc _ _ h.c1, hc _ _ h.c2, hc _ _ h.c3, hc _ _ h.c4, hc _ _ h.c5, h.rb.mono hc, h.rk.mono hc, h.lb, h.ln⟩

section
variable {H : Type} {enc : TypeId × Value → H} {W : World}
theorem cells_act : Try.prog.cellsOf 30 = 6 := by kernel_rfl
theorem cells_bs : Try.prog.cellsOf 27 = 1 := by kernel_rfl
theorem cells_is : Try.prog.cellsOf 28 = 1 := by kernel_rfl

theorem open_act {n : Nat} {a : Addr} {cs : List Value} {x : DataW H × List MemPlace} (hcs : W.cells? 0 a 6 = some cs) (h : DataW.trod enc Try.prog W 0 (fun _ => true) true n 30 cs = some x)
    (hs : (x.1.weights Try.prog 30).all (· ≤ reachBytes) = true) : ∃ A bo bc ko kc, a = ⟨a.block, a.off, none⟩ ∧ ActIn W a.block a.off A bo bc ko kc := by
  obtain ⟨hlen, hcell⟩ := cells_at hcs
  obtain ⟨xs, m, _, rfl, hl, hxl, hf⟩ := DataW.trod_struct Try.underlying30 h
  match xs, hxl with
  | [y0, y1, y2, y3, y4, y5], _ =>
  match cs, hlen with
  | [v0, v1, v2, v3, v4, v5], _ =>
  have h0 : DataW.trod enc Try.prog W 0 (fun _ => true) true m 3 [v0] = some y0 := by simpa [cells_int] using hf 0 _ rfl
  have h1 : DataW.trod enc Try.prog W 0 (fun _ => true) true m 3 [v1] = some y1 := by simpa [cells_int] using hf 1 _ rfl
  have h2 : DataW.trod enc Try.prog W 0 (fun _ => true) true m 3 [v2] = some y2 := by simpa [cells_int] using hf 2 _ rfl
  have h3 : DataW.trod enc Try.prog W 0 (fun _ => true) true m 27 [v3] = some y3 := by simpa [cells_bs] using hf 3 _ rfl
  have h4 : DataW.trod enc Try.prog W 0 (fun _ => true) true m 3 [v4] = some y4 := by simpa [cells_int] using hf 4 _ rfl
  have h5 : DataW.trod enc Try.prog W 0 (fun _ => true) true m 28 [v5] = some y5 := by simpa [cells_is] using hf 5 _ rfl
  obtain ⟨k, rfl, _, _⟩ := open_num (y := y0) h0
  obtain ⟨f, rfl, _, _⟩ := open_num (y := y1) h1
  obtain ⟨g, rfl, _, _⟩ := open_num (y := y2) h2
  obtain ⟨nn, rfl, _, hn⟩ := open_num (y := y4) h4
  simp only [DataW.weights, Try.underlying30] at hs
  obtain ⟨b, bo, bc, rfl, rb, lb⟩ := open_bytes (y := y3) h3 (weights_at hs (j := 3) rfl rfl)
  obtain ⟨ks, ko, kc, rfl, rk⟩ := open_nums (y := y5) h5
  have ha := plain_addr (a := a) (hcell 0 _ rfl)
  refine ⟨⟨k, f, g, nn, b, ks⟩, bo, bc, ko, kc, ha, ?_⟩
  have hc : ∀ j v, ([.int .i64 k, .int .i64 f, .int .i64 g, .slice bo b.length bc, .int .i64 nn, .slice ko ks.length kc] : List Value)[j]? = some v → W.cell? ⟨a.block, a.off + j, none⟩ = some v := fun j v hv => by
    have := hcell j v hv
    rw [ha, add_mk] at this
    exact this
  exact ⟨hc 0 _ rfl, hc 1 _ rfl, hc 2 _ rfl, hc 3 _ rfl, hc 4 _ rfl, hc 5 _ rfl, rb, rk, lb, hn⟩

theorem open_acts {v : Value} {d : DataW H} {p : List MemPlace} {ao : Option Addr} {len cap : Nat} (hv : v = .slice ao len cap) (h : DataW.Trod enc Try.prog W 0 (fun _ => true) true 22 v d p)
    (hs : (d.weights Try.prog 22).all (· ≤ reachBytes) = true) : ∃ acts : List A6, acts.length = len ∧ ActsAt W v acts := by
  subst hv
  obtain ⟨fuel, hf⟩ := h
  rcases open_slice Try.underlying22 hf with ⟨hcs, _⟩ | ⟨a, len', cap', m, n, D, Pl, hcs, _, hl, hm, hmm, hx, hel⟩
  · simp [Value.cells] at hcs
    obtain ⟨rfl, rfl, rfl⟩ := hcs
    exact ⟨[], rfl, none, 0, rfl, fun i A hA => by simp at hA⟩
  · simp [Value.cells] at hcs
    obtain ⟨rfl, rfl, rfl⟩ := hcs
    simp at hmm
    subst hmm
    have hd : d = _ := congrArg Prod.fst hx
    simp only at hd
    rw [hd] at hs
    have hinh : Inhabited A6 := ⟨⟨0, 0, 0, 0, [], []⟩⟩
    obtain ⟨F, hF⟩ := choose_lt (α := A6) (n := len) (p := fun i A => ∃ bo bc ko kc, a.add (i * 6) = ⟨(a.add (i * 6)).block, (a.add (i * 6)).off, none⟩ ∧ ActIn W (a.add (i * 6)).block (a.add (i * 6)).off A bo bc ko kc) (fun i hi => by
      obtain ⟨cs', h1, h2⟩ := hel i (by omega)
      rw [cells_act] at h1
      exact open_act h1 h2 (weights_elem Try.underlying22 hs (j := i) (by simp [hi])))
    refine ⟨(List.range len).map F, by simp, some a, m, by simp, fun i A hA => ?_⟩
    have hi : i < len := by
      have := (List.getElem?_eq_some_iff.1 hA).1
      simpa using this
    simp [hi] at hA
    subst hA
    obtain ⟨_, _, _, _, ha0, _⟩ := hF 0 (by omega)
    have ha : a = ⟨a.block, a.off, none⟩ := by simpa [Addr.add] using ha0
    obtain ⟨bo, bc, ko, kc, _, hin⟩ := hF i hi
    have e : a.add (i * 6) = ⟨a.block, a.off + i * 6, none⟩ := by
      rw [ha, add_mk]
    rw [e] at hin
    exact ⟨a.block, a.off, bo, bc, ko, kc, by rw [← ha], hin⟩
end
end Go.Proofs.Ytgobnnciijlpaaa
