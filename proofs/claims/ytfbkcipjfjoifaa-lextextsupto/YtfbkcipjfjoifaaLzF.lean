/- A list of words that came in, opened; how great it is. -/
import Derived.Test.YtfbkcipjfjoifaaLzE
import Derived.Test.YtfbkcipjfjoifaaRows
import Derived.Deep.Slices
import Derived.SizedLaws
import Derived.OpenShut
namespace Go.Proofs.Ytfbkcipjfjoifaa
open Go.ChangeShapes Go.WideShapes Go.ChangeAt Go.RowKit Go.DsMem Go.DsLx Go.Deep
open Go.ChangeMaps (open_string shut_string)
set_option linter.unusedVariables false
theorem plain_addr {W : World} {a : Addr} {v : Value} (h : W.cell? a = some v) : a = ⟨a.block, a.off, none⟩ := by
  have : a.spot = none := by
    unfold World.cell? at h
    cases hs : a.spot with
    | none => rfl
    | some s => rw [hs] at h; revert h; cases W.heap[a.block]? with
      | none => simp
      | some o => cases o <;> simp
  cases a; simp_all
theorem cells_at {W : World} {a : Addr} {n : Nat} {cs : List Value} (h : W.cells? 0 a n = some cs) : cs.length = n ∧ ∀ j v, cs[j]? = some v → W.cell? (a.add j) = some v := by
  obtain ⟨_, hlen, hc⟩ := World.cells?_some h
  exact ⟨hlen, fun j v hv => by
    have hj : j < n := by have := (List.getElem?_eq_some_iff.1 hv).1; omega
    rw [hc j hj, hv]⟩
section
variable {H : Type} {enc : TypeId × Value → H} {W : World}
theorem cells_int : Try.prog.cellsOf 3 = 1 := by kernel_rfl
theorem cells_i64 : Try.prog.cellsOf 2 = 1 := by kernel_rfl
theorem cells_str : Try.prog.cellsOf 9 = 1 := by kernel_rfl
theorem cells_wd : Try.prog.cellsOf 41 = 4 := by kernel_rfl
theorem open_num {n : Nat} {c : Value} {y : DataW H × List MemPlace} (h : DataW.trod enc Try.prog W 0 (fun _ => true) true n 3 [c] = some y) :
    ∃ x : Int, c = .int .i64 x := by
  obtain ⟨x, e, _, hw⟩ := DataW.trod_int Try.underlying3 h
  simp at e
  exact ⟨x, e⟩
theorem open_num64 {n : Nat} {c : Value} {y : DataW H × List MemPlace} (h : DataW.trod enc Try.prog W 0 (fun _ => true) true n 2 [c] = some y) :
    ∃ x : Int, c = .int .i64 x := by
  obtain ⟨x, e, _, hw⟩ := DataW.trod_int Try.underlying2 h
  simp at e
  exact ⟨x, e⟩
/-- the word t lies at this place -/
structure WdIn (w : World) (g o : Nat) (t : Wd) : Prop where
  c0 : w.cell? ⟨g, o, none⟩ = some (.int .i64 t.kind)
  c1 : w.cell? ⟨g, o + 1, none⟩ = some (.string t.text)
  c2 : w.cell? ⟨g, o + 2, none⟩ = some (.int .i64 t.n)
  c3 : w.cell? ⟨g, o + 3, none⟩ = some (.int .i64 t.at_)
theorem open_wd {n : Nat} {a : Addr} {cs : List Value} {x : DataW H × List MemPlace} (hcs : W.cells? 0 a 4 = some cs) (h : DataW.trod enc Try.prog W 0 (fun _ => true) true n 41 cs = some x) :
    ∃ t : Wd, a = ⟨a.block, a.off, none⟩ ∧ WdIn W a.block a.off t ∧ t.text.size + 1 ≤ Rows.uptoBulk x.1 := by
  obtain ⟨hlen, hcell⟩ := cells_at hcs
  obtain ⟨xs, m, _, rfl, hl, hxl, hf⟩ := DataW.trod_struct Try.underlying41 h
  match xs, hxl with
  | [y0, y1, y2, y3], _ =>
  match cs, hlen with
  | [v0, v1, v2, v3], _ =>
  have h0 : DataW.trod enc Try.prog W 0 (fun _ => true) true m 3 [v0] = some y0 := by simpa [cells_int] using hf 0 _ rfl
  have h1 : DataW.trod enc Try.prog W 0 (fun _ => true) true m 9 [v1] = some y1 := by simpa [cells_int, cells_str] using hf 1 _ rfl
  have h2 : DataW.trod enc Try.prog W 0 (fun _ => true) true m 2 [v2] = some y2 := by simpa [cells_int, cells_str, cells_i64] using hf 2 _ rfl
  have h3 : DataW.trod enc Try.prog W 0 (fun _ => true) true m 3 [v3] = some y3 := by simpa [cells_int, cells_str, cells_i64] using hf 3 _ rfl
  obtain ⟨k, rfl⟩ := open_num (y := y0) h0
  obtain ⟨tx, e1, e1', _⟩ := DataW.trod_string Try.underlying9 h1
  obtain ⟨nn, rfl⟩ := open_num64 (y := y2) h2
  obtain ⟨ta, rfl⟩ := open_num (y := y3) h3
  simp at e1
  subst e1
  have ha := plain_addr (a := a) (hcell 0 _ rfl)
  have hc : ∀ j v, ([.int .i64 k, .string tx, .int .i64 nn, .int .i64 ta] : List Value)[j]? = some v → W.cell? ⟨a.block, a.off + j, none⟩ = some v := fun j v hv => by
    have := hcell j v hv
    rw [ha, add_mk] at this
    exact this
  refine ⟨⟨k, tx, nn, ta⟩, ha, ⟨hc 0 _ rfl, hc 1 _ rfl, hc 2 _ rfl, hc 3 _ rfl⟩, ?_⟩
  subst e1'
  simp only [List.map_cons, List.map_nil, Rows.uptoBulk, Rows.uptoBulkAll]
  have : tx.data.toList.length = tx.size := by simp
  omega
theorem bulk_sum (D : Nat → DataW H) (f : Nat → Nat) : ∀ L : List Nat, (∀ i ∈ L, f i ≤ Rows.uptoBulk (D i)) → (L.map f).sum ≤ Rows.uptoBulkAll (L.map D)
  | [], _ => Nat.zero_le _
  | a :: L, h => by
    have h1 := h a (by simp)
    have h2 := bulk_sum D f L (fun i hi => h i (by simp [hi]))
    simp only [List.map_cons, List.sum_cons, Rows.uptoBulkAll]
    omega
theorem open_wds {v : Value} {d : DataW H} {p : List MemPlace} {ao : Option Addr} {len cap : Nat} (hv : v = .slice ao len cap) (h : DataW.Trod enc Try.prog W 0 (fun _ => true) true 22 v d p) :
    ∃ (l : List Wd) (o : Nat), l.length = len ∧ WdAt W ao cap o l ∧ (l.map (fun t => t.text.size + 1)).sum ≤ Rows.uptoBulk d := by
  subst hv
  obtain ⟨fuel, hf⟩ := h
  rcases open_slice Try.underlying22 hf with ⟨hcs, _⟩ | ⟨a, len', cap', m, n, D, Pl, hcs, _, hl, hm, hmm, hx, hel⟩
  · simp [Value.cells] at hcs
    obtain ⟨rfl, rfl, rfl⟩ := hcs
    exact ⟨[], 0, rfl, fun h => by simp at h, Nat.zero_le _⟩
  · simp [Value.cells] at hcs
    obtain ⟨rfl, rfl, rfl⟩ := hcs
    simp at hmm
    subst hmm
    have hd : d = _ := congrArg Prod.fst hx
    simp only at hd
    have hinh : Inhabited Wd := ⟨⟨0, ⟨#[]⟩, 0, 0⟩⟩
    obtain ⟨F, hF⟩ := choose_lt (α := Wd) (n := len) (p := fun i t => a.add (i * 4) = ⟨(a.add (i * 4)).block, (a.add (i * 4)).off, none⟩ ∧ WdIn W (a.add (i * 4)).block (a.add (i * 4)).off t ∧ t.text.size + 1 ≤ Rows.uptoBulk (D i)) (fun i hi => by
      obtain ⟨cs', h1, h2⟩ := hel i (by omega)
      rw [cells_wd] at h1
      exact open_wd h1 h2)
    by_cases h0 : 0 < len
    · obtain ⟨ha0, _, _⟩ := hF 0 h0
      have ha : a = ⟨a.block, a.off, none⟩ := by simpa [Addr.add] using ha0
      refine ⟨(List.range len).map F, a.off, by simp, fun _ => ⟨a.block, by rw [← ha], by simpa using hl, ?_, fun j t ht => ?_⟩, ?_⟩
      · have := (hF 0 h0).2.1.c0
        have := World.block_lt_of_cell? W _ this
        simpa [Addr.add] using this
      · have hj : j < len := by
          have := (List.getElem?_eq_some_iff.1 ht).1
          simpa using this
        simp [hj] at ht
        subst ht
        obtain ⟨_, hin, _⟩ := hF j hj
        have e : a.add (j * 4) = ⟨a.block, a.off + j * 4, none⟩ := by rw [ha, add_mk]
        rw [e] at hin
        exact ⟨hin.c0, hin.c1, hin.c2, hin.c3⟩
      · rw [hd, List.map_map]
        have := bulk_sum D ((fun t : Wd => t.text.size + 1) ∘ F) (List.range len) (fun i hi => (hF i (by simpa using hi)).2.2)
        simp only [Rows.uptoBulk]
        omega
    · obtain rfl : len = 0 := by omega
      exact ⟨[], 0, rfl, fun h => by simp at h, Nat.zero_le _⟩
end
theorem lens_sum : ∀ l : List Wd, Lib.lens ((l.map (·.text)).map (·.data.toList)) + l.length = (l.map (fun t => t.text.size + 1)).sum
  | [] => rfl
  | t :: l => by
    have := lens_sum l
    simp only [List.map_cons, List.sum_cons, List.length_cons, Lib.lens] at this ⊢
    have e : t.text.data.toList.length = t.text.size := by simp
    omega
theorem joinB_sum (l : List Wd) : (joinB (l.map (·.text))).size ≤ (l.map (fun t => t.text.size + 1)).sum := by
  cases l with
  | nil => exact Nat.zero_le _
  | cons t r =>
    have e : (joinB ((t :: r).map (·.text))).size = (Lib.join (((t :: r).map (·.text)).map (·.data.toList)) [32]).length := by unfold joinB; simp [ByteArray.size]
    have h1 := lens_sum (t :: r)
    rw [e]
    simp only [List.map_cons] at h1 ⊢
    rw [Lib.join_length]
    simp only [List.length_map, List.length_cons, List.length_nil] at h1 ⊢
    omega
theorem sum_len : ∀ l : List Wd, l.length ≤ (l.map (fun t => t.text.size + 1)).sum
  | [] => Nat.zero_le _
  | t :: l => by have := sum_len l; simp only [List.map_cons, List.sum_cons, List.length_cons]; omega
end Go.Proofs.Ytfbkcipjfjoifaa
