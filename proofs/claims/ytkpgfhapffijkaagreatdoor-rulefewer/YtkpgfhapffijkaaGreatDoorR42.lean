/- Package jdl: Parse. -/
import Derived.Test.YtkpgfhapffijkaaGreatDoorR40
import Derived.Test.YtkpgfhapffijkaaGreatDoorR41
namespace Go.Proofs.YtkpgfhapffijkaaGreatDoor
open Go.ChangeShapes Go.WideShapes Go.ChangeAt Go.RowKit Go.DsMem Go.DsLx Go.DsJd Go.DsMk
set_option linter.unusedVariables false
theorem placed_in {s : ByteArray} : ∀ {a : Nat} {l : List Tk}, Placed s a l → ∀ t ∈ l, a ≤ t.at_ ∧ t.at_ + t.text.size ≤ s.size
  | _, [], _, t, ht => by simp at ht
  | a, u :: l, h, t, ht => by
    obtain ⟨h1, h2, h3, h4, h5⟩ := h
    rcases List.mem_cons.1 ht with rfl | ht
    · exact ⟨h1, h3⟩
    · have := placed_in h5 t ht
      exact ⟨by omega, this.2⟩
theorem placed_len {s : ByteArray} : ∀ {a : Nat} {l : List Tk}, Placed s a l → a ≤ s.size → a + l.length ≤ s.size
  | _, [], _, h => by simpa using h
  | a, u :: l, h, ha => by
    obtain ⟨h1, h2, h3, h4, h5⟩ := h
    have := placed_len h5 h3
    simp only [List.length_cons]
    omega
theorem toks_len {s : ByteArray} (h : (tokensF s).2.2 = 0) : (tokensF s).1.length ≤ 8192 := by
  have := placed_len (tokens_placed h) (Nat.zero_le _)
  unfold tokensF at h
  split at h
  · cases h
  · omega
theorem toks_in {s : ByteArray} (h : (tokensF s).2.2 = 0) : ∀ t ∈ (tokensF s).1, t.at_ ≤ s.size ∧ t.text.size ≤ s.size := fun t ht => by
  have := placed_in (tokens_placed h) t ht
  omega
theorem tkAt_row {w : World} {B : Nat} {uo : Option Addr} {uc n : Nat} {l : List Tk} (h : w.ownsRow B 127 4 (.slice uo n uc) n (tkRow l)) (hn : l.length = n) : TkAt w uo uc 0 l := by
  intro h0
  obtain ⟨g, e, hc, hg, hcells⟩ := tk_cells h (by omega)
  refine ⟨g, e, by omega, hg, fun j t ht => ?_⟩
  rw [Nat.zero_add]
  exact hcells j t ht
/-- what Parse tells -/
noncomputable def parseP (s : ByteArray) : Except Fl Srcp := if (tokensF s).2.2 = 0 then sourceP s.size (tokensF s).1 else .error (((tokensF s).2.1 : Int), (tokensF s).2.2)
/-- how Parse ends -/
def PP (q : Except Fl Srcp) (w : World) (e : Ending) (w' : World) : Prop := match q with
  | .error f => e = .returned (.tuple #[.agg #[.int .i64 0, .int .i64 0, .slice none 0 0, .slice none 0 0, .slice none 0 0], .int .i64 f.1, .int .i64 f.2]) ∧ Below w.heap.size w w'
  | .ok x => ∃ v, e = .returned (.tuple #[v, .int .i64 0, .int .i64 0]) ∧ VSrc w x v w' ∧ Below w.heap.size w w'
set_option maxHeartbeats 2000000 in
set_option maxRecDepth 20000 in
/-- jdl.Parse -/
theorem parse_any (s : ByteArray) (w : World) (hs : s.size ≤ 140737488355000) (ht : Dt.Tab w) (htl : 2 < w.heap.size) :
    Calls Tryz.prog 8 #[.string s] w (PP (parseP s) w) := by
  obtain ⟨wA, hwA⟩ : ∃ wA, wA = w.alloc (.cells #[.int .i64 0, .int .i64 0, .slice none 0 0, .slice none 0 0, .slice none 0 0] 26) := ⟨_, rfl⟩
  have hbA : Below w.heap.size w wA := by rw [hwA]; exact (Below.refl _ _).alloc (Nat.le_refl _) _
  have hsA : wA.heap.size = w.heap.size + 1 := by rw [hwA]; simp
  have hresA : wA.heap[w.heap.size]? = some (.cells #[.int .i64 0, .int .i64 0, .slice none 0 0, .slice none 0 0, .slice none 0 0] 26 (0, 0)) := by rw [hwA]; exact heap_alloc_new w _
  have HTK := hide (tokens_any s wA (by omega))
  have HBA := hide hbA
  have HRA := hide hresA
  have HL := hide (toks_len (s := s))
  have HI := hide (toks_in (s := s))
  have HF9 := hide (tokens_few9 s)
  have HTAB : Hid (Dt.Tab wA ∧ 2 < w.heap.size) := hide ⟨⟨Nat.lt_of_lt_of_le ht.1 hbA.size, fun m m1 m2 => by rw [hbA.cell htl]; exact ht.2 m m1 m2⟩, htl⟩
  clear hbA hresA ht htl
  obtain ⟨Q, hQ⟩ : ∃ Q, parseP s = Q := ⟨_, rfl⟩
  rw [hQ]
  unfold parseP at hQ
  have HQ := hide hQ
  clear hQ
  generalize tokensF s = R at *
  obtain ⟨l, p, er⟩ := R
  simp only at *
  go_enter Tryz.func8, Tryz.ntmps8
  go_wp2_with fail
  rw [← hwA]
  clear hwA
  refine HTK.out.mono ?_
  rintro e w1 ⟨uo, uc, rfl, hrow, hb1⟩
  have HROW := hide hrow
  have HB1 := hide (HBA.out.trans (hb1.mono HBA.out.size))
  have HR1 := hide ((hb1.block w.heap.size (by omega)).trans HRA.out)
  have hs1 := hb1.size
  have HT1 : Hid (Dt.Tab w1) := hide ⟨Nat.lt_of_lt_of_le HTAB.out.1.1 hb1.size, fun m m1 m2 => by rw [hb1.cell (Nat.lt_of_lt_of_le HTAB.out.2 (by omega))]; exact HTAB.out.1.2 m m1 m2⟩
  clear hrow hb1 HTK
  by_cases he : er = 0
  · subst he
    have HL2 := hide (HL.out rfl)
    rw [if_pos rfl] at HQ
    have HW : Hid (FitW l) := hide (fun t ht => by have := (HI.out rfl t ht).2; omega)
    have HNR := hide (newReader_any (E := (s.size : Int)) (tkAt_row HROW.out rfl) (fun a e => by
      by_cases h0 : l.length = 0
      · rcases HROW.out.2 with ⟨hv, _⟩ | ⟨g, cap, cur, hv, hb, hg, _⟩
        · simp at hv; rw [hv.1] at e; cases e
        · simp only [Value.slice.injEq] at hv
          rw [hv.1] at e
          cases e
          exact block_lt hg
      · obtain ⟨g, e2, hc, hg, _⟩ := tkAt_row HROW.out rfl (by omega)
        rw [e2] at e; cases e; exact hg) HL2.out HT1.out (by have := HTAB.out.2; omega))
    clear HL HI
    go_wp2_with fail
    refine HNR.out.mono ?_
    rintro e w2 ⟨rfl, hrd, hsm, hb2⟩
    have HRD := hide hrd
    have HSM := hide hsm
    have HB2 := hide (HB1.out.trans (hb2.mono HB1.out.size))
    have HR2 := hide ((hb2.block w.heap.size (by omega)).trans HR1.out)
    have hs2 := hb2.size
    have hs2' := hrd.n
    have HJ := hide (jread_any hrd HF9.out HW.out hsm (by omega))
    unfold PRd at HJ
    clear hrd hsm hb2 HNR
    generalize sourceP s.size l = q at *
    go_wp2_with fail
    refine HJ.out.mono ?_
    intro e w3 hz
    have hn1 : ¬ w.heap.size = w1.heap.size := by omega
    have hn2 : ¬ w.heap.size = w1.heap.size + 1 := by omega
    cases q with
    | error f =>
      obtain ⟨rfl, ho3⟩ := hz
      have hr3 := (ho3.block w.heap.size (by omega) (by omega)).trans HR2.out
      have HB3 := hide (HB2.out.trans (ho3.toBelow (B := w.heap.size) (by omega) (fun i e => by omega)))
      have z0 : w3.cell? ⟨w.heap.size, 0, none⟩ = some (.int .i64 0) := by rw [cell_of hr3]; rfl
      have z1 : w3.cell? ⟨w.heap.size, 1, none⟩ = some (.int .i64 0) := by rw [cell_of hr3]; rfl
      have z2 : w3.cell? ⟨w.heap.size, 2, none⟩ = some (.slice none 0 0) := by rw [cell_of hr3]; rfl
      have z3 : w3.cell? ⟨w.heap.size, 3, none⟩ = some (.slice none 0 0) := by rw [cell_of hr3]; rfl
      have z4 : w3.cell? ⟨w.heap.size, 4, none⟩ = some (.slice none 0 0) := by rw [cell_of hr3]; rfl
      have f0 : ∀ k, w3.frozen? ⟨w.heap.size, k, none⟩ = false := fun k => frozen_of hr3
      clear ho3 hr3
      go_wp2
      refine bodyPost_ret (v := .tuple #[.agg #[.int .i64 0, .int .i64 0, .slice none 0 0, .slice none 0 0, .slice none 0 0], .int .i64 f.1, .int .i64 f.2]) (by simp [results, Tryz.results8, go_sem, z0, z1, z2, z3, z4]) rfl ?_
      have hq := HQ.out
      subst hq
      exact ⟨rfl, (((((HB3.out.setCell (Nat.le_refl _) _).setCell (Nat.le_refl _) _).setCell (Nat.le_refl _) _).setCell (Nat.le_refl _) _).setCell (Nat.le_refl _) _)⟩
    | ok x =>
      obtain ⟨v, rfl, hv, ho3⟩ := hz
      have hr3 := (ho3.block w.heap.size (by omega) (by omega)).trans HR2.out
      have HB3 := hide (HB2.out.trans (ho3.toBelow (B := w.heap.size) (by omega) (fun i e => by omega)))
      have z0 : w3.cell? ⟨w.heap.size, 0, none⟩ = some (.int .i64 0) := by rw [cell_of hr3]; rfl
      have z1 : w3.cell? ⟨w.heap.size, 1, none⟩ = some (.int .i64 0) := by rw [cell_of hr3]; rfl
      have z2 : w3.cell? ⟨w.heap.size, 2, none⟩ = some (.slice none 0 0) := by rw [cell_of hr3]; rfl
      have z3 : w3.cell? ⟨w.heap.size, 3, none⟩ = some (.slice none 0 0) := by rw [cell_of hr3]; rfl
      have z4 : w3.cell? ⟨w.heap.size, 4, none⟩ = some (.slice none 0 0) := by rw [cell_of hr3]; rfl
      have f0 : ∀ k, w3.frozen? ⟨w.heap.size, k, none⟩ = false := fun k => frozen_of hr3
      have HV := hide hv
      obtain ⟨sl, hvs⟩ : ∃ sl : SSl, v = .agg (sC x sl) := by obtain ⟨sl, e, _⟩ := hv; exact ⟨sl, e⟩
      unfold sC at hvs
      subst hvs
      clear ho3 hr3 hv
      go_wp2
      refine bodyPost_ret (v := .tuple #[.agg #[.int .i64 x.start, .int .i64 x.keep, .slice sl.co x.cals.length sl.cc, .slice sl.ro x.res.length sl.rc, .slice sl.jo x.jobs.length sl.jc], .int .i64 0, .int .i64 0]) (by simp [results, Tryz.results8, go_sem, z0, z1, z2, z3, z4]) rfl ?_
      have hq := HQ.out
      subst hq
      have hO : Only (· = w.heap.size) w3 _ := ((((Only.set w3 w.heap.size 0 (.int .i64 x.start)).trans (Only.set _ w.heap.size 1 (.int .i64 x.keep)) (fun _ _ e => e)).trans (Only.set _ w.heap.size 2 (.slice sl.co x.cals.length sl.cc)) (fun _ _ e => e)).trans (Only.set _ w.heap.size 3 (.slice sl.ro x.res.length sl.rc)) (fun _ _ e => e)).trans (Only.set _ w.heap.size 4 (.slice sl.jo x.jobs.length sl.jc)) (fun _ _ e => e)
      exact ⟨_, rfl, HV.out.moved hO (fun b hb => by omega) (by omega), (((((HB3.out.setCell (Nat.le_refl _) _).setCell (Nat.le_refl _) _).setCell (Nat.le_refl _) _).setCell (Nat.le_refl _) _).setCell (Nat.le_refl _) _)⟩
  · rw [if_neg he] at HQ
    have hr3 := HR1.out
    have z0 : w1.cell? ⟨w.heap.size, 0, none⟩ = some (.int .i64 0) := by rw [cell_of hr3]; rfl
    have z1 : w1.cell? ⟨w.heap.size, 1, none⟩ = some (.int .i64 0) := by rw [cell_of hr3]; rfl
    have z2 : w1.cell? ⟨w.heap.size, 2, none⟩ = some (.slice none 0 0) := by rw [cell_of hr3]; rfl
    have z3 : w1.cell? ⟨w.heap.size, 3, none⟩ = some (.slice none 0 0) := by rw [cell_of hr3]; rfl
    have z4 : w1.cell? ⟨w.heap.size, 4, none⟩ = some (.slice none 0 0) := by rw [cell_of hr3]; rfl
    have f0 : ∀ k, w1.frozen? ⟨w.heap.size, k, none⟩ = false := fun k => frozen_of hr3
    clear hr3
    go_wp2
    refine bodyPost_ret (v := .tuple #[.agg #[.int .i64 0, .int .i64 0, .slice none 0 0, .slice none 0 0, .slice none 0 0], .int .i64 p, .int .i64 er]) (by simp [results, Tryz.results8, go_sem, z0, z1, z2, z3, z4]) rfl ?_
    have hq := HQ.out
    subst hq
    exact ⟨rfl, (((((HB1.out.setCell (Nat.le_refl _) _).setCell (Nat.le_refl _) _).setCell (Nat.le_refl _) _).setCell (Nat.le_refl _) _).setCell (Nat.le_refl _) _)⟩
end Go.Proofs.YtkpgfhapffijkaaGreatDoor

/- What Parse tells is small: plain, a lemma for each parser. -/
namespace Go.Proofs.YtkpgfhapffijkaaGreatDoor
open Go.DsLx Go.DsJd Go.DsMk
set_option linter.unusedVariables false
inductive NdS : Nd → Prop
  | mk (op : Int) (ns : List Int) (kids : List Nd) (nm : ByteArray) (hk : kids.length ≤ 8) (hn : ns.length ≤ 64) (hm : nm.size ≤ 8192) (h : ∀ k ∈ kids, NdS k) : NdS (.mk op ns kids nm)
inductive ExS : Ex → Prop
  | mk (op : Int) (nm : ByteArray) (wh : Int) (kids : List Ex) (hk : kids.length ≤ 8) (hm : nm.size ≤ 8192) (hw : 0 ≤ wh ∧ wh ≤ 2) (h : ∀ k ∈ kids, ExS k) : ExS (.mk op nm wh kids)
def TkS (ws : List Tk) : Prop := ∀ t ∈ ws, t.text.size ≤ 8192
theorem TkS.tail {ws : List Tk} (h : TkS ws) : TkS ws.tail := fun t ht => h t (List.mem_of_mem_tail ht)
def OutR {α : Type} (Q : α → Prop) (q : Except Fl (α × List Tk)) : Prop := match q with | .error _ => True | .ok p => Q p.1 ∧ TkS p.2
def Out {α : Type} (Q : α → Prop) (p : List Tk → Except Fl (α × List Tk)) : Prop := ∀ ws, TkS ws → OutR Q (p ws)
theorem OutR.imp {α : Type} {Q Q' : α → Prop} {q : Except Fl (α × List Tk)} (h : OutR Q q) (hi : ∀ a, Q a → Q' a) : OutR Q' q := by
  rcases q with f | ⟨a, r⟩
  · trivial
  · exact ⟨hi _ h.1, h.2⟩
theorem wordP_out {E k : Int} : Out (fun t : Tk => t.text.size ≤ 8192) (wordP E k) := fun ws h => by
  cases ws with
  | nil => trivial
  | cons t r =>
    show OutR _ (if t.kind = k then .ok (t, r) else .error ((t.at_ : Int), 20))
    split
    · exact ⟨h t (by simp), h.tail⟩
    · trivial
theorem mustP_out {E : Int} {x : ByteArray} {ws r : List Tk} (h : TkS ws) (e : mustP E x ws = .ok r) : TkS r := by
  unfold mustP at e
  split at e
  · cases e; exact h.tail
  · cases e
theorem nameP_out {E : Int} : Out (fun n : ByteArray => n.size ≤ 8192) (nameP E) := fun ws h => by
  have a := wordP_out (E := E) (k := 1) ws h
  unfold nameP
  generalize wordP E 1 ws = q at a ⊢
  rcases q with f | ⟨t, r⟩
  · trivial
  · exact a
theorem numP_out {E : Int} : Out (fun _ : Int => True) (numP E) := fun ws h => by
  have a := wordP_out (E := E) (k := 2) ws h
  unfold numP
  generalize wordP E 2 ws = q at a ⊢
  rcases q with f | ⟨t, r⟩
  · trivial
  · exact ⟨trivial, a.2⟩
theorem timeP_out {E : Int} : Out (fun _ : Int => True) (timeP E) := fun ws h => by
  have a := wordP_out (E := E) (k := 3) ws h
  unfold timeP
  generalize wordP E 3 ws = q at a ⊢
  rcases q with f | ⟨t, r⟩
  · trivial
  · exact ⟨trivial, a.2⟩
theorem intP_out {E : Int} : Out (fun _ : Int => True) (intP E) := fun ws h => by
  unfold intP
  split
  · have a := numP_out (E := E) ws.tail h.tail
    generalize numP E ws.tail = q at a ⊢
    rcases q with f | ⟨t, r⟩ <;> exact a
  · exact numP_out ws h
theorem thenP_out {α : Type} {Q : α → Prop} {E : Int} {x : ByteArray} {q : Except Fl (α × List Tk)} (h : OutR Q q) : OutR Q (thenP E x q) := by
  unfold thenP
  rcases q with f | ⟨a, r⟩
  · trivial
  · show OutR Q (match mustP E x r with | .error f => .error f | .ok r' => .ok (a, r'))
    cases hm : mustP E x r with
    | error f => trivial
    | ok r' => exact ⟨h.1, mustP_out h.2 hm⟩
theorem listP_out {α : Type} {Q : α → Prop} {E : Int} {sep : ByteArray} {part : List Tk → Except Fl (α × List Tk)} (hp : Out Q part) : ∀ n, Out (fun l : List α => l.length ≤ n ∧ ∀ a ∈ l, Q a) (listP E sep part n)
  | 0, ws, h => trivial
  | n + 1, ws, h => by
    have a := hp ws h
    unfold listP
    generalize part ws = q at a ⊢
    rcases q with f | ⟨x, r⟩
    · trivial
    · show OutR _ (if textF r = sep then (match listP E sep part n r.tail with | .error f => .error f | .ok (l, r2) => .ok (x :: l, r2)) else .ok ([x], r))
      split
      · have b := listP_out (E := E) (sep := sep) hp n r.tail a.2.tail
        generalize listP E sep part n r.tail = q at b ⊢
        rcases q with f | ⟨l, r2⟩
        · trivial
        · refine ⟨⟨by have := b.1.1; simp only [List.length_cons] at this ⊢; omega, fun y hy => ?_⟩, b.2⟩
          rcases List.mem_cons.1 hy with rfl | hy
          · exact a.1
          · exact b.1.2 y hy
      · exact ⟨⟨by simp, fun y hy => by simp at hy; subst hy; exact a.1⟩, a.2⟩
theorem choiceP_out {E : Int} {lits : List ByteArray} : Out (fun i : Int => 0 ≤ i ∧ i < lits.length) (choiceP E lits) := fun ws h => by
  unfold choiceP
  cases hf : lits.findIdx? (fun x => decide (textF ws = x)) with
  | none => trivial
  | some i =>
    rw [List.findIdx?_eq_some_iff_getElem] at hf
    obtain ⟨hi, _⟩ := hf
    exact ⟨⟨Int.natCast_nonneg _, by simp only; omega⟩, h.tail⟩
theorem deepP_out {α : Type} {Q : α → Prop} {E d : Int} {part : List Tk → Except Fl (α × List Tk)} (hp : Out Q part) : Out Q (deepP E d part) := fun ws h => by
  unfold deepP
  split
  · trivial
  · exact hp _ h.tail
theorem manyP_out {E : Int} {sep : ByteArray} {op : Int} {one : List Tk → Except Fl (Nd × List Tk)} (hp : Out NdS one) : Out NdS (manyP E sep op one) := fun ws h => by
  have a := listP_out (E := E) (sep := sep) hp 8 ws h
  unfold manyP
  generalize listP E sep one 8 ws = q at a ⊢
  rcases q with f | ⟨l, r⟩
  · trivial
  · refine ⟨?_, a.2⟩
    show NdS (joinP op l)
    unfold joinP
    split
    · rename_i x
      exact a.1.2 x (by simp)
    · exact .mk _ _ _ _ a.1.1 (by simp) (by decide) a.1.2
theorem manyE_out {E : Int} {sep : ByteArray} {op : Int} {one : List Tk → Except Fl (Ex × List Tk)} (hp : Out ExS one) : Out ExS (manyE E sep op one) := fun ws h => by
  have a := listP_out (E := E) (sep := sep) hp 8 ws h
  unfold manyE
  generalize listP E sep one 8 ws = q at a ⊢
  rcases q with f | ⟨l, r⟩
  · trivial
  · refine ⟨?_, a.2⟩
    show ExS (joinE op l)
    unfold joinE
    split
    · rename_i x
      exact a.1.2 x (by simp)
    · exact .mk _ _ _ _ a.1.1 (by decide) (by decide) a.1.2
theorem daysP_out {E : Int} {one : List Tk → Except Fl (Nd × List Tk)} (hp : Out NdS one) : Out NdS (daysP E one) := manyP_out (manyP_out hp)
theorem condP_out {E : Int} {one : List Tk → Except Fl (Ex × List Tk)} (hp : Out ExS one) : Out ExS (condP E one) := manyE_out (manyE_out hp)
theorem mapR_out {α β : Type} {Q : α → Prop} {Q' : β → Prop} {q : Except Fl (α × List Tk)} (f : α → β) {g : Except Fl (α × List Tk) → Except Fl (β × List Tk)} (hg : ∀ a r, g (.ok (a, r)) = .ok (f a, r)) (he : ∀ e, g (.error e) = .error e) (hq : ∀ a, Q a → Q' (f a)) (h : OutR Q q) : OutR Q' (g q) := by
  rcases q with e | ⟨a, r⟩
  · rw [he]; trivial
  · rw [hg]; exact ⟨hq a h.1, h.2⟩
theorem twoP_out {α β : Type} {Q1 : α → Prop} {Q2 : β → Prop} {p1 : List Tk → Except Fl (α × List Tk)} {p2 : List Tk → Except Fl (β × List Tk)} (h1 : Out Q1 p1) (h2 : Out Q2 p2) : Out (fun p : α × β => Q1 p.1 ∧ Q2 p.2) (twoP p1 p2) := fun ws h => by
  have a := h1 ws h
  unfold twoP
  generalize p1 ws = q at a ⊢
  rcases q with f | ⟨x, r⟩
  · trivial
  · have b := h2 r a.2
    show OutR _ (match p2 r with | .error f => .error f | .ok (b, r2) => .ok ((x, b), r2))
    generalize p2 r = q at b ⊢
    rcases q with f | ⟨y, r2⟩
    · trivial
    · exact ⟨⟨a.1, b.1⟩, b.2⟩
theorem pairP_out {E : Int} {Q1 Q2 : Int → Prop} {p1 p2 : List Tk → Except Fl (Int × List Tk)} (h1 : Out Q1 p1) (h2 : Out Q2 p2) : Out (fun l : List Int => l.length ≤ 64) (pairP E p1 p2) := fun ws h => by
  have a := thenP_out (E := E) (x := ⟨#[44]⟩) (h1 ws h)
  unfold pairP
  generalize thenP E ⟨#[44]⟩ (p1 ws) = q at a ⊢
  rcases q with f | ⟨x, r⟩
  · trivial
  · have b := h2 r a.2
    show OutR _ (match p2 r with | .error f => .error f | .ok (b, r2) => .ok ([x, b], r2))
    generalize p2 r = q at b ⊢
    rcases q with f | ⟨y, r2⟩
    · trivial
    · exact ⟨by simp, b.2⟩
theorem refWP_out {E : Int} : Out (fun p : ByteArray × Int => p.1.size ≤ 8192 ∧ 0 ≤ p.2 ∧ p.2 ≤ 2) (refWP E) := fun ws h => by
  have a := nameP_out (E := E) ws h
  unfold refWP
  generalize nameP E ws = q at a ⊢
  rcases q with f | ⟨n, r⟩
  · trivial
  · show OutR _ (if textF r = ⟨#[46]⟩ then (match choiceP E whenL r.tail with | .error f => .error f | .ok (i, r2) => .ok ((n, i), r2)) else .ok ((n, 0), r))
    split
    · have b := choiceP_out (E := E) (lits := whenL) r.tail a.2.tail
      generalize choiceP E whenL r.tail = q at b ⊢
      rcases q with f | ⟨i, r2⟩
      · trivial
      · refine ⟨⟨a.1, b.1.1, ?_⟩, b.2⟩
        have := b.1.2
        have e : (whenL.length : Int) = 3 := rfl
        rw [e] at this
        show i ≤ 2
        have h3 : i < 3 := this
        omega
    · exact ⟨⟨a.1, by simp, by simp⟩, a.2⟩
theorem workP_out {E : Int} : Out NdS (workP E) := fun ws h => by
  have a := thenP_out (E := E) (x := ⟨#[44]⟩) (intP_out (E := E) ws h)
  unfold workP
  generalize thenP E ⟨#[44]⟩ (intP E ws) = q at a ⊢
  rcases q with f | ⟨k, r⟩
  · trivial
  · have b := nameP_out (E := E) r a.2
    show OutR _ (match nameP E r with | .error f => .error f | .ok (n, r2) => .ok (Nd.mk 5 [k] [] n, r2))
    generalize nameP E r = q at b ⊢
    rcases q with f | ⟨n, r2⟩
    · trivial
    · exact ⟨.mk _ _ _ _ (by simp) (by simp) b.1 (by simp), b.2⟩
theorem dateP_out {E : Int} : Out (fun _ : Int => True) (dateP E) := fun ws h => by
  have a := wordP_out (E := E) (k := 2) ws h
  unfold dateP
  generalize wordP E 2 ws = q at a ⊢
  rcases q with f | ⟨t, r⟩
  · trivial
  · show OutR _ (if (DsCal.rdres t.text).2 = 0 then .ok ((DsCal.rdres t.text).1, r) else .error (atF E ws, 20))
    split
    · exact ⟨trivial, a.2⟩
    · trivial
theorem datesP_out {E : Int} : Out (fun l : List Int => l.length ≤ 64) (datesP E) := fun ws h => by
  unfold datesP
  split
  · exact ⟨by simp, h⟩
  · exact (listP_out dateP_out 64 ws h).imp (fun l hl => hl.1)
theorem numsP_out {op : Int} {q : Except Fl (List Int × List Tk)} (h : OutR (fun l : List Int => l.length ≤ 64) q) : OutR NdS (numsP op q) := mapR_out (fun l => Nd.mk op l [] ⟨#[]⟩) (fun _ _ => rfl) (fun _ => rfl) (fun l hl => .mk _ _ _ _ (by simp) hl (by decide) (by simp)) h
theorem notP_out {q : Except Fl (Nd × List Tk)} (h : OutR NdS q) : OutR NdS (notP q) := mapR_out (fun a => Nd.mk 9 [] [a] ⟨#[]⟩) (fun _ _ => rfl) (fun _ => rfl) (fun a ha => .mk _ _ _ _ (by simp) (by simp) (by decide) (by simpa using ha)) h
theorem refP_out {q : Except Fl (ByteArray × List Tk)} (h : OutR (fun n : ByteArray => n.size ≤ 8192) q) : OutR NdS (refP q) := mapR_out (fun a => Nd.mk 10 [] [] a) (fun _ _ => rfl) (fun _ => rfl) (fun a ha => .mk _ _ _ _ (by simp) (by simp) ha (by simp)) h
theorem notE_out {q : Except Fl (Ex × List Tk)} (h : OutR ExS q) : OutR ExS (notE q) := mapR_out (fun a => Ex.mk 4 ⟨#[]⟩ 0 [a]) (fun _ _ => rfl) (fun _ => rfl) (fun a ha => .mk _ _ _ _ (by simp) (by decide) (by decide) (by simpa using ha)) h
theorem hasE_out {q : Except Fl ((ByteArray × Int) × List Tk)} (h : OutR (fun p : ByteArray × Int => p.1.size ≤ 8192 ∧ 0 ≤ p.2 ∧ p.2 ≤ 2) q) : OutR ExS (hasE q) := mapR_out (fun n => Ex.mk 1 n.1 n.2 []) (fun _ _ => rfl) (fun _ => rfl) (fun a ha => .mk _ _ _ _ (by simp) ha.1 ha.2 (by simp)) h
theorem weekP_out {E : Int} : Out NdS (weekP E) := fun ws h => by
  have a := listP_out (E := E) (sep := ⟨#[44]⟩) (choiceP_out (E := E) (lits := weekL)) 8192 ws h
  unfold weekP
  generalize listP E ⟨#[44]⟩ (choiceP E weekL) 8192 ws = q at a ⊢
  rcases q with f | ⟨l, r⟩
  · trivial
  · exact ⟨.mk _ _ _ _ (by simp) (by simp) (by decide) (by simp), a.2⟩
theorem bodyP_out {E : Int} {x : ByteArray} : Out NdS (bodyP E x) := fun ws h => by
  unfold bodyP
  split
  · exact weekP_out ws h
  split
  · exact numsP_out (datesP_out ws h)
  split
  · exact numsP_out ((listP_out intP_out 64 ws h).imp (fun l hl => hl.1))
  split
  · exact numsP_out (pairP_out choiceP_out intP_out ws h)
  split
  · exact workP_out ws h
  · exact numsP_out (pairP_out numP_out numP_out ws h)
theorem callP_out {E : Int} : Out NdS (callP E) := fun ws h => by
  have a := nameP_out (E := E) ws h
  unfold callP
  generalize nameP E ws = q at a ⊢
  rcases q with f | ⟨x, r⟩
  · trivial
  · show OutR _ (match mustP E ⟨#[40]⟩ r with | .error f => .error f | .ok r1 => thenP E ⟨#[41]⟩ (bodyP E x r1))
    cases hm : mustP E ⟨#[40]⟩ r with
    | error f => trivial
    | ok r1 => exact thenP_out (bodyP_out r1 (mustP_out a.2 hm))
theorem oneStep_out {E d : Int} {call one : List Tk → Except Fl (Nd × List Tk)} (hc : Out NdS call) (ho : Out NdS one) : Out NdS (oneStep E d call one) := fun ws h => by
  unfold oneStep
  split
  · exact notP_out (deepP_out ho ws h)
  split
  · exact thenP_out (deepP_out (daysP_out ho) ws h)
  split
  · exact hc ws h
  split
  · trivial
  · exact refP_out (nameP_out ws h)
theorem eachStep_out {E d : Int} {one : List Tk → Except Fl (Ex × List Tk)} (ho : Out ExS one) : Out ExS (eachStep E d one) := fun ws h => by
  unfold eachStep
  split
  · exact notE_out (deepP_out ho ws h)
  split
  · exact thenP_out (deepP_out (condP_out ho) ws h)
  split
  · trivial
  · exact hasE_out (refWP_out ws h)
theorem oneP_out {E : Int} : ∀ k, Out NdS (oneP E k)
  | 0 => oneStep_out (d := 16) (one := fun _ => .error (0, 0)) callP_out (fun ws h => trivial)
  | k + 1 => oneStep_out callP_out (oneP_out k)
theorem eachP_out {E : Int} : ∀ k, Out ExS (eachP E k)
  | 0 => eachStep_out (d := 16) (one := fun _ => .error (0, 0)) (fun ws h => trivial)
  | k + 1 => eachStep_out (eachP_out k)
theorem calP_out {E : Int} : Out (fun p : ByteArray × Nd => p.1.size ≤ 8192 ∧ NdS p.2) (calP E) := fun ws h => by
  have a := thenP_out (E := E) (x := ⟨#[61]⟩) (nameP_out (E := E) ws h)
  unfold calP
  generalize thenP E ⟨#[61]⟩ (nameP E ws) = q at a ⊢
  rcases q with f | ⟨n, r⟩
  · trivial
  · have b := daysP_out (E := E) (oneP_out (E := E) 16) r a.2
    show OutR _ (match daysP E (oneP E 16) r with | .error f => .error f | .ok (t, r2) => .ok ((n, t), r2))
    generalize daysP E (oneP E 16) r = q at b ⊢
    rcases q with f | ⟨t, r2⟩
    · trivial
    · exact ⟨⟨a.1, b.1⟩, b.2⟩
/-- a small job -/
structure JbS (x : Jb) : Prop where
  name : x.name.size ≤ 8192
  days : NdS x.days
  work : NdS x.work
  inn : ExS x.inn
  outs : x.outs.length ≤ 8 ∧ ∀ o ∈ x.outs, (0 ≤ o.1 ∧ o.1 ≤ 1) ∧ o.2.1.size ≤ 8192 ∧ 0 ≤ o.2.2 ∧ o.2.2 ≤ 2
  needs : x.needs.length ≤ 6 ∧ ∀ n ∈ x.needs, n.1.size ≤ 8192 ∧ 0 ≤ n.2.2 ∧ n.2.2 ≤ 2
theorem updP_out {α : Type} {Q : α → Prop} {f : α → Jb} {q : Except Fl (α × List Tk)} (hq : ∀ a, Q a → JbS (f a)) (h : OutR Q q) : OutR JbS (updP f q) := mapR_out f (fun _ _ => rfl) (fun _ => rfl) hq h
theorem singleP_out {E : Int} {x : Jb} (hx : JbS x) : Out JbS (singleP E x) := fun ws h => by
  have ht := h.tail
  unfold singleP
  split
  · exact updP_out (fun a ha => ⟨hx.name, ha, hx.work, hx.inn, hx.outs, hx.needs⟩) (thenP_out (daysP_out (oneP_out 16) _ ht))
  split
  · exact updP_out (fun a ha => ⟨hx.name, hx.days, ha.2, hx.inn, hx.outs, hx.needs⟩) (thenP_out (twoP_out choiceP_out (daysP_out (oneP_out 16)) _ ht))
  split
  · exact updP_out (fun a ha => ⟨hx.name, hx.days, hx.work, hx.inn, hx.outs, hx.needs⟩) (thenP_out (twoP_out timeP_out timeP_out _ ht))
  split
  · exact updP_out (fun a ha => ⟨hx.name, hx.days, hx.work, ha, hx.outs, hx.needs⟩) (thenP_out (condP_out (eachP_out 16) _ ht))
  split
  · exact updP_out (fun a ha => ⟨hx.name, hx.days, hx.work, hx.inn, hx.outs, hx.needs⟩) (thenP_out (numP_out _ ht))
  split
  · exact updP_out (fun a ha => ⟨hx.name, hx.days, hx.work, hx.inn, hx.outs, hx.needs⟩) (thenP_out (numP_out _ ht))
  split
  · exact updP_out (fun a ha => ⟨hx.name, hx.days, hx.work, hx.inn, hx.outs, hx.needs⟩) (thenP_out (numP_out _ ht))
  split
  · exact updP_out (fun a ha => ⟨hx.name, hx.days, hx.work, hx.inn, hx.outs, hx.needs⟩) (thenP_out (numP_out _ ht))
  split
  · exact updP_out (fun a ha => ⟨hx.name, hx.days, hx.work, hx.inn, hx.outs, hx.needs⟩) (thenP_out (numP_out _ ht))
  · trivial
theorem restP_out {E k : Int} {S : List (Int × ByteArray)} {x : Jb} (hx : JbS x) : Out (fun p : Jb × List (Int × ByteArray) => JbS p.1) (restP E k S x) := fun ws h => by
  unfold restP
  split
  · trivial
  · have a := singleP_out (E := E) hx ws h
    generalize singleP E x ws = q at a ⊢
    rcases q with f | ⟨l, r⟩
    · trivial
    · exact a
theorem outPP_out {S : List (Int × ByteArray)} {x : Jb} (hx : JbS x) {q : Except Fl (List Oc × List Tk)} (h : OutR (fun l : List Oc => l.length ≤ 8 - x.outs.length ∧ ∀ o ∈ l, (0 ≤ o.1 ∧ o.1 ≤ 1) ∧ o.2.1.size ≤ 8192 ∧ 0 ≤ o.2.2 ∧ o.2.2 ≤ 2) q) : OutR (fun p : Jb × List (Int × ByteArray) => JbS p.1) (outPP S x q) :=
  mapR_out (fun l => ({ x with outs := x.outs ++ l }, S)) (fun _ _ => rfl) (fun _ => rfl) (fun l hl => ⟨hx.name, hx.days, hx.work, hx.inn, ⟨by have := hx.outs.1; simp only [List.length_append]; omega, fun o ho => by
    rcases List.mem_append.1 ho with ho | ho
    · exact hx.outs.2 o ho
    · exact hl.2 o ho⟩, hx.needs⟩) h
theorem moreP_out {α : Type} {Q : α → Prop} {E : Int} {S : List (Int × ByteArray)} {x : Jb} (hx : JbS x) {f : α → Nv} {ws : List Tk} {q : Except Fl (α × List Tk)} (hf : ∀ a, Q a → (f a).1.size ≤ 8192 ∧ 0 ≤ (f a).2.2 ∧ (f a).2.2 ≤ 2) (h : OutR Q q) : OutR (fun p : Jb × List (Int × ByteArray) => JbS p.1) (moreP E S x f ws q) := by
  unfold moreP roomP
  by_cases hr : (6 : Int) ≤ (x.needs.length : Int)
  · rw [if_pos hr]; trivial
  · rw [if_neg hr]
    rcases q with e | ⟨a, r⟩
    · trivial
    · refine ⟨⟨hx.name, hx.days, hx.work, hx.inn, hx.outs, ?_⟩, h.2⟩
      refine ⟨by simp only [List.length_append, List.length_cons, List.length_nil]; omega, fun n hn => ?_⟩
      rcases List.mem_append.1 hn with hn | hn
      · exact hx.needs.2 n hn
      · simp at hn; subst hn; exact hf a h.1
theorem signs_out {E : Int} : Out (fun p : Int × (ByteArray × Int) => (0 ≤ p.1 ∧ p.1 ≤ 1) ∧ p.2.1.size ≤ 8192 ∧ 0 ≤ p.2.2 ∧ p.2.2 ≤ 2) (twoP (choiceP E signsL) (refWP E)) := fun ws h =>
  (twoP_out (choiceP_out (lits := signsL)) refWP_out ws h).imp (fun p hp => ⟨⟨hp.1.1, by have := hp.1.2; have e : (signsL.length : Int) = 2 := rfl; rw [e] at this; omega⟩, hp.2⟩)
theorem partP_out {E k : Int} {S : List (Int × ByteArray)} {x : Jb} (hx : JbS x) : Out (fun p : Jb × List (Int × ByteArray) => JbS p.1) (partP E k S x) := fun ws h => by
  have ht := h.tail
  unfold partP
  split
  · exact outPP_out hx (thenP_out (listP_out signs_out _ _ ht))
  split
  · exact moreP_out hx (fun a ha => ⟨ha.1, by simp, by simp⟩) (thenP_out (twoP_out nameP_out numP_out _ ht))
  split
  · exact moreP_out hx (fun a ha => ⟨ha.1, by have := ha.2.1; show 0 ≤ a.2 + 1; omega, by have := ha.2.2; have e : (modeL.length : Int) = 2 := rfl; rw [e] at this; show a.2 + 1 ≤ 2; omega⟩) (thenP_out (twoP_out nameP_out (choiceP_out (lits := modeL)) _ ht))
  · exact restP_out hx ws h
theorem partsP_out {E k : Int} : ∀ (g : Nat) (S : List (Int × ByteArray)) (x : Jb), JbS x → Out (fun p : Jb × List (Int × ByteArray) => JbS p.1) (partsP E k g S x)
  | 0, S, x, hx, ws, h => by unfold partsP; trivial
  | g + 1, S, x, hx, ws, h => by
    unfold partsP
    split
    · exact ⟨hx, h.tail⟩
    · have a := partP_out (E := E) (k := k) (S := S) hx ws h
      generalize partP E k S x ws = q at a ⊢
      rcases q with f | ⟨p, r⟩
      · trivial
      · exact partsP_out g p.2 p.1 a.1 r a.2
theorem jb0_small {n : ByteArray} (h : n.size ≤ 8192) : JbS (jb0 n) := ⟨h, .mk _ _ _ _ (by simp) (by simp) (by decide) (by simp), .mk _ _ _ _ (by simp) (by simp) (by decide) (by simp), .mk _ _ _ _ (by simp) (by decide) (by decide) (by simp), ⟨by simp [jb0], by simp [jb0]⟩, ⟨by simp [jb0], by simp [jb0]⟩⟩
theorem jobP_out {E k : Int} {S : List (Int × ByteArray)} : Out (fun p : Jb × List (Int × ByteArray) => JbS p.1) (jobP E k S) := fun ws h => by
  have a := nameP_out (E := E) ws.tail h.tail
  unfold jobP
  generalize nameP E ws.tail = q at a ⊢
  rcases q with f | ⟨n, r⟩
  · trivial
  · show OutR _ (match mustP E ⟨#[123]⟩ r with | .error f => .error f | .ok r1 => partsP E k (r1.length + 1) S (jb0 n) r1)
    cases hm : mustP E ⟨#[123]⟩ r with
    | error f => trivial
    | ok r1 => exact partsP_out _ S (jb0 n) (jb0_small a.1) r1 (mustP_out a.2 hm)
/-- a small source -/
structure SrcS (x : Srcp) : Prop where
  cals : x.cals.length ≤ 24 ∧ ∀ c ∈ x.cals, c.1.size ≤ 8192 ∧ NdS c.2
  res : x.res.length ≤ 12 ∧ ∀ r ∈ x.res, r.1.size ≤ 8192
  jobs : x.jobs.length ≤ 48 ∧ ∀ j ∈ x.jobs, JbS j
theorem onceP_out {E : Int} {S : List (Int × ByteArray)} {ws : List Tk} {f : Int → Srcp} {q : Except Fl (Int × List Tk)} (hf : ∀ a, SrcS (f a)) (h : OutR (fun _ => True) q) : OutR (fun p : Srcp × List (Int × ByteArray) => SrcS p.1) (onceP E S ws f q) := by
  unfold onceP
  split
  · trivial
  · rcases q with e | ⟨l, r⟩
    · trivial
    · exact ⟨hf l, h.2⟩
theorem moreS_out {α : Type} {Q : α → Prop} {E : Int} {S : List (Int × ByteArray)} {ws : List Tk} {k m : Int} {f : α → Srcp} {q : Except Fl (α × List Tk)} (hf : ¬ m ≤ k → ∀ a, Q a → SrcS (f a)) (h : OutR Q q) : OutR (fun p : Srcp × List (Int × ByteArray) => SrcS p.1) (moreS E S ws k m f q) := by
  unfold moreS roomP
  by_cases hr : m ≤ k
  · rw [if_pos hr]; trivial
  · rw [if_neg hr]
    rcases q with e | ⟨a, r⟩
    · trivial
    · exact ⟨hf hr a h.1, h.2⟩
theorem jobS_out {E : Int} {S : List (Int × ByteArray)} {x : Srcp} (hx : SrcS x) {ws : List Tk} {q : Except Fl ((Jb × List (Int × ByteArray)) × List Tk)} (h : OutR (fun p : Jb × List (Int × ByteArray) => JbS p.1) q) : OutR (fun p : Srcp × List (Int × ByteArray) => SrcS p.1) (jobS E S x ws q) := by
  unfold jobS roomP
  by_cases hr : (48 : Int) ≤ (x.jobs.length : Int)
  · rw [if_pos hr]; trivial
  · rw [if_neg hr]
    rcases q with e | ⟨a, r⟩
    · trivial
    · refine ⟨⟨hx.cals, hx.res, by simp only [List.length_append, List.length_cons, List.length_nil]; omega, fun j hj => ?_⟩, h.2⟩
      rcases List.mem_append.1 hj with hj | hj
      · exact hx.jobs.2 j hj
      · simp at hj; subst hj; exact h.1
theorem itemP_out {E : Int} {S : List (Int × ByteArray)} {x : Srcp} (hx : SrcS x) : Out (fun p : Srcp × List (Int × ByteArray) => SrcS p.1) (itemP E S x) := fun ws h => by
  have ht := h.tail
  unfold itemP
  split
  · exact onceP_out (fun a => ⟨hx.cals, hx.res, hx.jobs⟩) (thenP_out (timeP_out _ ht))
  split
  · exact onceP_out (fun a => ⟨hx.cals, hx.res, hx.jobs⟩) (thenP_out (numP_out _ ht))
  split
  · refine moreS_out (fun hm a ha => ⟨⟨by simp only [List.length_append, List.length_cons, List.length_nil]; omega, fun c hc => ?_⟩, hx.res, hx.jobs⟩) (thenP_out (calP_out _ ht))
    rcases List.mem_append.1 hc with hc | hc
    · exact hx.cals.2 c hc
    · simp at hc; subst hc; exact ha
  split
  · refine moreS_out (fun hm a ha => ⟨hx.cals, ⟨by simp only [List.length_append, List.length_cons, List.length_nil]; omega, fun c hc => ?_⟩, hx.jobs⟩) (thenP_out (twoP_out nameP_out numP_out _ ht))
    rcases List.mem_append.1 hc with hc | hc
    · exact hx.res.2 c hc
    · simp at hc; subst hc; exact ha.1
  split
  · refine moreS_out (fun hm a ha => ⟨hx.cals, ⟨by simp only [List.length_append, List.length_cons, List.length_nil]; omega, fun c hc => ?_⟩, hx.jobs⟩) (thenP_out (nameP_out _ ht))
    rcases List.mem_append.1 hc with hc | hc
    · exact hx.res.2 c hc
    · simp at hc; subst hc; exact ha
  split
  · exact jobS_out hx (jobP_out ws h)
  · trivial
theorem itemsP_out {E : Int} : ∀ (g : Nat) (S : List (Int × ByteArray)) (x : Srcp) (ws : List Tk), SrcS x → TkS ws → ∀ x' S', itemsP E g S x ws = .ok (x', S') → SrcS x'
  | 0, S, x, ws, hx, h, x', S', e => by unfold itemsP at e; cases e
  | g + 1, S, x, ws, hx, h, x', S', e => by
    unfold itemsP at e
    split at e
    · cases e; exact hx
    · have a := itemP_out (E := E) (S := S) hx ws h
      generalize itemP E S x ws = q at a e
      rcases q with f' | ⟨p, r⟩
      · cases e
      · exact itemsP_out g p.2 p.1 r a.1 a.2 x' S' e
/-- what Parse tells is small -/
theorem parseP_small {s : ByteArray} {x : Srcp} (h : parseP s = .ok x) : SrcS x := by
  unfold parseP at h
  by_cases h0 : (tokensF s).2.2 = 0
  · rw [if_pos h0] at h
    have h8 : s.size ≤ 8192 := by
      have := h0
      unfold tokensF at this
      split at this
      · cases this
      · omega
    unfold sourceP at h
    have a := itemsP_out (E := (s.size : Int)) ((tokensF s).1.length + 1) [] src0 (tokensF s).1 ⟨by simp [src0], by simp [src0], by simp [src0]⟩ (fun t ht => by have := (toks_in h0 t ht).2; omega)
    generalize itemsP (s.size : Int) ((tokensF s).1.length + 1) [] src0 (tokensF s).1 = q at a h
    rcases q with f' | ⟨p, r⟩
    · cases h
    · cases h; exact a _ _ rfl
  · rw [if_neg h0] at h; cases h
end Go.Proofs.YtkpgfhapffijkaaGreatDoor
