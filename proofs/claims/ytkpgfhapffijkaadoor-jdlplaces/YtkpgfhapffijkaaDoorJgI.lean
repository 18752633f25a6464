/- Package jdl: Parse. -/
import Derived.Test.YtkpgfhapffijkaaDoorJgH
import Derived.Test.YtkpgfhapffijkaaDoorJ25
namespace Go.Proofs.YtkpgfhapffijkaaDoor
open Go.ChangeShapes Go.WideShapes Go.ChangeAt Go.RowKit Go.DsMem Go.DsLx Go.DsJd Go.DsMk
set_option linter.unusedVariables false
theorem placed_in {s : ByteArray} : ∀ {a : Nat} {l : List Tk}, Placed s a l → ∀ t ∈ l, a ≤ t.at_ ∧ t.at_ + t.text.size ≤ s.size
  | _, [], _, t, ht => by simp at ht
  | a, u :: l, h, t, ht => by
    obtain ⟨h1, h2, h3, h4, h5⟩ := h
    rcases List.mem_cons.1 ht with rfl | ht
    · exact ⟨h1, h3⟩
    · have := placed_in h5 t ht
      exact ⟨by omega, this.2⟩
theorem placed_len {s : ByteArray} : ∀ {a : Nat} {l : List Tk}, Placed s a l → a ≤ s.size → a + l.length ≤ s.size
  | _, [], _, h => by simpa using h
  | a, u :: l, h, ha => by
    obtain ⟨h1, h2, h3, h4, h5⟩ := h
    have := placed_len h5 h3
    simp only [List.length_cons]
    omega
theorem toks_len {s : ByteArray} (h : (tokensF s).2.2 = 0) : (tokensF s).1.length ≤ 8192 := by
  have := placed_len (tokens_placed h) (Nat.zero_le _)
  unfold tokensF at h
  split at h
  · cases h
  · omega
theorem toks_in {s : ByteArray} (h : (tokensF s).2.2 = 0) : ∀ t ∈ (tokensF s).1, t.at_ ≤ s.size ∧ t.text.size ≤ s.size := fun t ht => by
  have := placed_in (tokens_placed h) t ht
  omega
theorem tkAt_row {w : World} {B : Nat} {uo : Option Addr} {uc n : Nat} {l : List Tk} (h : w.ownsRow B 55 4 (.slice uo n uc) n (tkRow l)) (hn : l.length = n) : TkAt w uo uc 0 l := by
  intro h0
  obtain ⟨g, e, hc, hg, hcells⟩ := tk_cells h (by omega)
  refine ⟨g, e, by omega, hg, fun j t ht => ?_⟩
  rw [Nat.zero_add]
  exact hcells j t ht
/-- what Parse tells -/
noncomputable def parseP (s : ByteArray) : Except Fl Srcp := if (tokensF s).2.2 = 0 then sourceP s.size (tokensF s).1 else .error (((tokensF s).2.1 : Int), (tokensF s).2.2)
/-- how Parse ends -/
def PP (q : Except Fl Srcp) (w : World) (e : Ending) (w' : World) : Prop := match q with
  | .error f => e = .returned (.tuple #[.agg #[.int .i64 0, .int .i64 0, .slice none 0 0, .slice none 0 0, .slice none 0 0], .int .i64 f.1, .int .i64 f.2]) ∧ Below w.heap.size w w'
  | .ok x => ∃ v, e = .returned (.tuple #[v, .int .i64 0, .int .i64 0]) ∧ VSrc w x v w' ∧ Below w.heap.size w w'
set_option maxHeartbeats 2000000 in
set_option maxRecDepth 20000 in
/-- jdl.Parse -/
theorem parse_any (s : ByteArray) (w : World) (hs : s.size ≤ 140737488355000) (ht : Dt.Tab w) (htl : 1 < w.heap.size) :
    Calls Tryd.prog 4 #[.string s] w (PP (parseP s) w) := by
  obtain ⟨wA, hwA⟩ : ∃ wA, wA = w.alloc (.cells #[.int .i64 0, .int .i64 0, .slice none 0 0, .slice none 0 0, .slice none 0 0] 26) := ⟨_, rfl⟩
  have hbA : Below w.heap.size w wA := by rw [hwA]; exact (Below.refl _ _).alloc (Nat.le_refl _) _
  have hsA : wA.heap.size = w.heap.size + 1 := by rw [hwA]; simp
  have hresA : wA.heap[w.heap.size]? = some (.cells #[.int .i64 0, .int .i64 0, .slice none 0 0, .slice none 0 0, .slice none 0 0] 26 (0, 0)) := by rw [hwA]; exact heap_alloc_new w _
  have HTK := hide (tokens_any s wA (by omega))
  have HBA := hide hbA
  have HRA := hide hresA
  have HL := hide (toks_len (s := s))
  have HI := hide (toks_in (s := s))
  have HF9 := hide (tokens_few9 s)
  have HTAB : Hid (Dt.Tab wA ∧ 1 < w.heap.size) := hide ⟨⟨Nat.lt_of_lt_of_le ht.1 hbA.size, fun m m1 m2 => by rw [hbA.cell htl]; exact ht.2 m m1 m2⟩, htl⟩
  clear hbA hresA ht htl
  obtain ⟨Q, hQ⟩ : ∃ Q, parseP s = Q := ⟨_, rfl⟩
  rw [hQ]
  unfold parseP at hQ
  have HQ := hide hQ
  clear hQ
  generalize tokensF s = R at *
  obtain ⟨l, p, er⟩ := R
  simp only at *
  go_enter Tryd.func4, Tryd.ntmps4
  go_wp2_with fail
  rw [← hwA]
  clear hwA
  refine HTK.out.mono ?_
  rintro e w1 ⟨uo, uc, rfl, hrow, hb1⟩
  have HROW := hide hrow
  have HB1 := hide (HBA.out.trans (hb1.mono HBA.out.size))
  have HR1 := hide ((hb1.block w.heap.size (by omega)).trans HRA.out)
  have hs1 := hb1.size
  have HT1 : Hid (Dt.Tab w1) := hide ⟨Nat.lt_of_lt_of_le HTAB.out.1.1 hb1.size, fun m m1 m2 => by rw [hb1.cell (Nat.lt_of_lt_of_le HTAB.out.2 (by omega))]; exact HTAB.out.1.2 m m1 m2⟩
  clear hrow hb1 HTK
  by_cases he : er = 0
  · subst he
    have HL2 := hide (HL.out rfl)
    rw [if_pos rfl] at HQ
    have HW : Hid (FitW l) := hide (fun t ht => by have := (HI.out rfl t ht).2; omega)
    have HNR := hide (newReader_any (E := (s.size : Int)) (tkAt_row HROW.out rfl) (fun a e => by
      by_cases h0 : l.length = 0
      · rcases HROW.out.2 with ⟨hv, _⟩ | ⟨g, cap, cur, hv, hb, hg, _⟩
        · simp at hv; rw [hv.1] at e; cases e
        · simp only [Value.slice.injEq] at hv
          rw [hv.1] at e
          cases e
          exact block_lt hg
      · obtain ⟨g, e2, hc, hg, _⟩ := tkAt_row HROW.out rfl (by omega)
        rw [e2] at e; cases e; exact hg) HL2.out HT1.out (by have := HTAB.out.2; omega))
    clear HL HI
    go_wp2_with fail
    refine HNR.out.mono ?_
    rintro e w2 ⟨rfl, hrd, hsm, hb2⟩
    have HRD := hide hrd
    have HSM := hide hsm
    have HB2 := hide (HB1.out.trans (hb2.mono HB1.out.size))
    have HR2 := hide ((hb2.block w.heap.size (by omega)).trans HR1.out)
    have hs2 := hb2.size
    have hs2' := hrd.n
    have HJ := hide (jread_any hrd HF9.out HW.out hsm (by omega))
    unfold PRd at HJ
    clear hrd hsm hb2 HNR
    generalize sourceP s.size l = q at *
    go_wp2_with fail
    refine HJ.out.mono ?_
    intro e w3 hz
    have hn1 : ¬ w.heap.size = w1.heap.size := by omega
    have hn2 : ¬ w.heap.size = w1.heap.size + 1 := by omega
    cases q with
    | error f =>
      obtain ⟨rfl, ho3⟩ := hz
      have hr3 := (ho3.block w.heap.size (by omega) (by omega)).trans HR2.out
      have HB3 := hide (HB2.out.trans (ho3.toBelow (B := w.heap.size) (by omega) (fun i e => by omega)))
      have z0 : w3.cell? ⟨w.heap.size, 0, none⟩ = some (.int .i64 0) := by rw [cell_of hr3]; rfl
      have z1 : w3.cell? ⟨w.heap.size, 1, none⟩ = some (.int .i64 0) := by rw [cell_of hr3]; rfl
      have z2 : w3.cell? ⟨w.heap.size, 2, none⟩ = some (.slice none 0 0) := by rw [cell_of hr3]; rfl
      have z3 : w3.cell? ⟨w.heap.size, 3, none⟩ = some (.slice none 0 0) := by rw [cell_of hr3]; rfl
      have z4 : w3.cell? ⟨w.heap.size, 4, none⟩ = some (.slice none 0 0) := by rw [cell_of hr3]; rfl
      have f0 : ∀ k, w3.frozen? ⟨w.heap.size, k, none⟩ = false := fun k => frozen_of hr3
      clear ho3 hr3
      go_wp2
      refine bodyPost_ret (v := .tuple #[.agg #[.int .i64 0, .int .i64 0, .slice none 0 0, .slice none 0 0, .slice none 0 0], .int .i64 f.1, .int .i64 f.2]) (by simp [results, Tryd.results4, go_sem, z0, z1, z2, z3, z4]) rfl ?_
      have hq := HQ.out
      subst hq
      exact ⟨rfl, (((((HB3.out.setCell (Nat.le_refl _) _).setCell (Nat.le_refl _) _).setCell (Nat.le_refl _) _).setCell (Nat.le_refl _) _).setCell (Nat.le_refl _) _)⟩
    | ok x =>
      obtain ⟨v, rfl, hv, ho3⟩ := hz
      have hr3 := (ho3.block w.heap.size (by omega) (by omega)).trans HR2.out
      have HB3 := hide (HB2.out.trans (ho3.toBelow (B := w.heap.size) (by omega) (fun i e => by omega)))
      have z0 : w3.cell? ⟨w.heap.size, 0, none⟩ = some (.int .i64 0) := by rw [cell_of hr3]; rfl
      have z1 : w3.cell? ⟨w.heap.size, 1, none⟩ = some (.int .i64 0) := by rw [cell_of hr3]; rfl
      have z2 : w3.cell? ⟨w.heap.size, 2, none⟩ = some (.slice none 0 0) := by rw [cell_of hr3]; rfl
      have z3 : w3.cell? ⟨w.heap.size, 3, none⟩ = some (.slice none 0 0) := by rw [cell_of hr3]; rfl
      have z4 : w3.cell? ⟨w.heap.size, 4, none⟩ = some (.slice none 0 0) := by rw [cell_of hr3]; rfl
      have f0 : ∀ k, w3.frozen? ⟨w.heap.size, k, none⟩ = false := fun k => frozen_of hr3
      have HV := hide hv
      obtain ⟨sl, hvs⟩ : ∃ sl : SSl, v = .agg (sC x sl) := by obtain ⟨sl, e, _⟩ := hv; exact ⟨sl, e⟩
      unfold sC at hvs
      subst hvs
      clear ho3 hr3 hv
      go_wp2
      refine bodyPost_ret (v := .tuple #[.agg #[.int .i64 x.start, .int .i64 x.keep, .slice sl.co x.cals.length sl.cc, .slice sl.ro x.res.length sl.rc, .slice sl.jo x.jobs.length sl.jc], .int .i64 0, .int .i64 0]) (by simp [results, Tryd.results4, go_sem, z0, z1, z2, z3, z4]) rfl ?_
      have hq := HQ.out
      subst hq
      have hO : Only (· = w.heap.size) w3 _ := ((((Only.set w3 w.heap.size 0 (.int .i64 x.start)).trans (Only.set _ w.heap.size 1 (.int .i64 x.keep)) (fun _ _ e => e)).trans (Only.set _ w.heap.size 2 (.slice sl.co x.cals.length sl.cc)) (fun _ _ e => e)).trans (Only.set _ w.heap.size 3 (.slice sl.ro x.res.length sl.rc)) (fun _ _ e => e)).trans (Only.set _ w.heap.size 4 (.slice sl.jo x.jobs.length sl.jc)) (fun _ _ e => e)
      exact ⟨_, rfl, HV.out.moved hO (fun b hb => by omega) (by omega), (((((HB3.out.setCell (Nat.le_refl _) _).setCell (Nat.le_refl _) _).setCell (Nat.le_refl _) _).setCell (Nat.le_refl _) _).setCell (Nat.le_refl _) _)⟩
  · rw [if_neg he] at HQ
    have hr3 := HR1.out
    have z0 : w1.cell? ⟨w.heap.size, 0, none⟩ = some (.int .i64 0) := by rw [cell_of hr3]; rfl
    have z1 : w1.cell? ⟨w.heap.size, 1, none⟩ = some (.int .i64 0) := by rw [cell_of hr3]; rfl
    have z2 : w1.cell? ⟨w.heap.size, 2, none⟩ = some (.slice none 0 0) := by rw [cell_of hr3]; rfl
    have z3 : w1.cell? ⟨w.heap.size, 3, none⟩ = some (.slice none 0 0) := by rw [cell_of hr3]; rfl
    have z4 : w1.cell? ⟨w.heap.size, 4, none⟩ = some (.slice none 0 0) := by rw [cell_of hr3]; rfl
    have f0 : ∀ k, w1.frozen? ⟨w.heap.size, k, none⟩ = false := fun k => frozen_of hr3
    clear hr3
    go_wp2
    refine bodyPost_ret (v := .tuple #[.agg #[.int .i64 0, .int .i64 0, .slice none 0 0, .slice none 0 0, .slice none 0 0], .int .i64 p, .int .i64 er]) (by simp [results, Tryd.results4, go_sem, z0, z1, z2, z3, z4]) rfl ?_
    have hq := HQ.out
    subst hq
    exact ⟨rfl, (((((HB1.out.setCell (Nat.le_refl _) _).setCell (Nat.le_refl _) _).setCell (Nat.le_refl _) _).setCell (Nat.le_refl _) _).setCell (Nat.le_refl _) _)⟩
end Go.Proofs.YtkpgfhapffijkaaDoor
