/- Calls of law 11 that came in, opened. -/
import Derived.Test.YtliinilbfacpbaaCmC
namespace Go.Proofs.Ytliinilbfacpbaa
open Go.ChangeShapes Go.WideShapes Go.ChangeAt Go.RowKit Go.DsMem Go.DsCo Go.Deep
open Go.ChangeMaps (open_string shut_string)
set_option linter.unusedVariables false
/-- a call -/
structure A11 where
  kind : Int
  c : Cn
/-- a call in memory -/
structure A11In (w : World) (g o : Nat) (a : A11) : Prop where
  k0 : w.cell? ⟨g, o, none⟩ = some (.int .i64 a.kind)
  c0 : w.cell? ⟨g, o + 1, none⟩ = some (.string a.c.nm)
  c1 : w.cell? ⟨g, o + 2, none⟩ = some (.int .i64 a.c.day)
theorem A11In.mono {w w' : World} {g o : Nat} {a : A11} (h : A11In w g o a) (hc : ∀ a v, w.cell? a = some v → w'.cell? a = some v) : A11In w' g o a := ⟨hc _ _ h.k0, hc _ _ h.c0, hc _ _ h.c1⟩
def A11Rd (w : World) (uo : Option Addr) (l : List A11) : Prop := ∀ i (h : i < l.length), ∃ g o, uo = some ⟨g, o, none⟩ ∧ A11In w g (o + i * 3) l[i] ∧ fitC l[i].c
theorem A11Rd.mono {w w' : World} {uo : Option Addr} {l : List A11} (h : A11Rd w uo l) (hc : ∀ a v, w.cell? a = some v → w'.cell? a = some v) : A11Rd w' uo l := fun i hi => by
  obtain ⟨g, o, h1, h2, h3⟩ := h i hi
  exact ⟨g, o, h1, h2.mono hc, h3⟩
section
variable {H : Type} {enc : TypeId × Value → H} {W : World}
theorem cellsA11 : Try.prog.cellsOf 30 = 3 := by kernel_rfl
theorem cellsI11 : Try.prog.cellsOf 3 = 1 := by kernel_rfl
theorem open_act11 {n : Nat} {cs : List Value} {x : DataW H × List MemPlace} (h : DataW.trod enc Try.prog W 0 (fun _ => true) true n 30 cs = some x)
    (hs : (x.1.weights Try.prog 30).all (· ≤ reachBytes) = true) : ∃ a : A11, cs = [.int .i64 a.kind, .string a.c.nm, .int .i64 a.c.day] ∧ fitC a.c := by
  obtain ⟨xs, m, _, rfl, hl, hxl, hf⟩ := DataW.trod_struct Try.underlying30 h
  replace hl : cs.length = 3 := hl.trans cellsA11
  match xs, hxl with
  | [y0, y1], _ =>
  match cs, hl with
  | [v0, v1, v2], _ =>
  have h0 : DataW.trod enc Try.prog W 0 (fun _ => true) true m 3 [v0] = some y0 := by simpa [cellsI11] using hf 0 _ rfl
  have h1 : DataW.trod enc Try.prog W 0 (fun _ => true) true m 24 [v1, v2] = some y1 := by simpa [cellsI11, cnCells] using hf 1 _ rfl
  obtain ⟨k, e0, _, hw⟩ := DataW.trod_int Try.underlying3 h0
  simp at e0
  subst e0
  simp only [DataW.weights, Try.underlying30] at hs
  obtain ⟨c, hc, hfit⟩ := open_cn h1 (weights_atC hs (j := 1) rfl rfl)
  simp [encC] at hc
  obtain ⟨rfl, rfl⟩ := hc
  exact ⟨⟨k, c⟩, rfl, hfit⟩
theorem open_acts11 {v : Value} {d : DataW H} {p : List MemPlace} {ao : Option Addr} {len cap : Nat} (hv : v = .slice ao len cap) (h : DataW.Trod enc Try.prog W 0 (fun _ => true) true 22 v d p)
    (hs : (d.weights Try.prog 22).all (· ≤ reachBytes) = true) : ∃ l : List A11, l.length = len ∧ l.length ≤ cap ∧ A11Rd W ao l := by
  subst hv
  obtain ⟨fuel, hf⟩ := h
  rcases open_slice Try.underlying22 hf with ⟨hcs, _⟩ | ⟨a, len', cap', m, n, D, Pl, hcs, _, hl, hm, hmm, hx, hel⟩
  · simp [Value.cells] at hcs
    obtain ⟨rfl, rfl, rfl⟩ := hcs
    exact ⟨[], rfl, Nat.le_refl _, fun i hi => by simp at hi⟩
  · simp [Value.cells] at hcs
    obtain ⟨rfl, rfl, rfl⟩ := hcs
    simp at hmm
    subst hmm
    have hd : d = _ := congrArg Prod.fst hx
    simp only at hd
    rw [hd] at hs
    have hinh : Inhabited A11 := ⟨⟨0, ⟨⟨#[]⟩, 0⟩⟩⟩
    obtain ⟨F, hF⟩ := choose_lt (α := A11) (n := len) (p := fun i c => a.add (i * 3) = ⟨(a.add (i * 3)).block, (a.add (i * 3)).off, none⟩ ∧ A11In W (a.add (i * 3)).block (a.add (i * 3)).off c ∧ fitC c.c) (fun i hi => by
      obtain ⟨cs', h1, h2⟩ := hel i (by omega)
      rw [cellsA11] at h1
      obtain ⟨c, rfl, hfit⟩ := open_act11 h2 (weights_elemC Try.underlying22 hs (j := i) (by simp [hi]))
      obtain ⟨hlen', hcell⟩ := cells_atC h1
      have ha := plain_addrC (a := a.add (i * 3)) (v := .int .i64 c.kind) (by have := hcell 0 _ rfl; simpa [Addr.add] using this)
      have hc : ∀ j u, ([.int .i64 c.kind, .string c.c.nm, .int .i64 c.c.day] : List Value)[j]? = some u → W.cell? ⟨(a.add (i * 3)).block, (a.add (i * 3)).off + j, none⟩ = some u := fun j u hu => by
        have := hcell j u hu
        rw [ha, add_mk] at this
        exact this
      exact ⟨c, ha, ⟨hc 0 _ rfl, hc 1 _ rfl, hc 2 _ rfl⟩, hfit⟩)
    refine ⟨(List.range len).map F, by simp, by simpa using hl, fun i hi => ?_⟩
    have hi' : i < len := by simpa using hi
    obtain ⟨ha0, _, _⟩ := hF 0 (by omega)
    have ha : a = ⟨a.block, a.off, none⟩ := by simpa [Addr.add] using ha0
    obtain ⟨_, hin, hfit⟩ := hF i hi'
    have e : a.add (i * 3) = ⟨a.block, a.off + i * 3, none⟩ := by rw [ha, add_mk]
    rw [e] at hin
    refine ⟨a.block, a.off, by rw [← ha], ?_, ?_⟩
    · simpa using hin
    · simpa using hfit
end
end Go.Proofs.Ytliinilbfacpbaa
