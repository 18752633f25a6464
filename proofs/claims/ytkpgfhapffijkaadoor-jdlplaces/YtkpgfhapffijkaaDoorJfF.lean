/- Package jdl: what may stand once. -/
import Derived.Test.YtkpgfhapffijkaaDoorJ18
import Derived.Carry
namespace Go.Proofs.YtkpgfhapffijkaaDoor
open Go.ChangeShapes Go.WideShapes Go.ChangeAt Go.RowKit Go.DsMem Go.DsLx Go.DsJd Go.DsMk
set_option linter.unusedVariables false
theorem laidOutS : laidOutB Tryd.prog = true := by kernel_rfl
theorem sdRow : 96 < Tryd.prog.types.size := of_decide_eq_true (by kernel_rfl)
theorem sdLaw : Maps.Keyed Tryd.prog 96 := Maps.Keyed.of_law (deep_law_laid laidOutS (m := 4) (by decide) sdRow (by kernel_rfl) (by kernel_rfl))
theorem sdType : Tryd.prog.keyType 96 = true := by kernel_rfl
theorem sdCells : Tryd.prog.cellsOf 96 = 2 := by kernel_rfl
theorem sdStr1 : Tryd.prog.cellsOf 9 = 1 := by kernel_rfl
theorem sdInt1 : Tryd.prog.cellsOf 3 = 1 := by kernel_rfl
theorem sdZero (w : World) : (zeroValue 97).run Tryd.prog w = .ok (.agg #[]) w := by kernel_rfl
def sdV (p : Int × ByteArray) : Value := .agg #[.int .i64 p.1, .string p.2]
def fitS (p : Int × ByteArray) : Prop := p.2.size ≤ 140737488355000 ∧ -9223372036854775808 ≤ p.1 ∧ p.1 ≤ 9223372036854775807
theorem sd_key (p : Int × ByteArray) (h : fitS p) : ∃ kl, keyOf Tryd.prog 96 (sdV p) = some kl := by
  obtain ⟨h0, h1, h2⟩ := h
  have w1 : (Lit.int .i64 p.1).wf = true := WalkArith.wf_i64 ⟨h1, h2⟩
  have w2 : p.2.size ≤ maxLen := by unfold maxLen; omega
  unfold keyOf sdV
  rw [Tryd.underlying96]
  simp only
  rw [if_pos (by rw [sdType]; simp [Value.formed, Tryd.underlying96, sdCells])]
  have hsz : ∃ m, Tryd.prog.types.size = m + 1 := ⟨Tryd.prog.types.size - 1, by have := sdRow; omega⟩
  obtain ⟨m, hm⟩ := hsz
  rw [hm]
  unfold Program.keyLits
  rw [Tryd.underlying96]
  simp [Value.cells, sdCells, Program.keyLits, Tryd.underlying9, Tryd.underlying3, sdStr1, sdInt1, w1, w2]
theorem sdV_inj {p q : Int × ByteArray} (h : sdV p = sdV q) : p = q := by
  unfold sdV at h
  simp at h
  exact Prod.ext h.1 h.2
theorem sd_keys {p q : Int × ByteArray} {kl : Lit} (h : keyOf Tryd.prog 96 (sdV p) = some kl) (h' : keyOf Tryd.prog 96 (sdV q) = some kl) : p = q := sdV_inj (sdLaw.inj h h')
/-- the map in block B holds just what stood -/
def StM (w : World) (B : Nat) (S : List (Int × ByteArray)) : Prop :=
  ∃ D : DataW Unit, w.ownsMap Tryd.prog 96 unitElem B S.length D ∧ ∀ p kl, keyOf Tryd.prog 96 (sdV p) = some kl → (Maps.has D kl = true ↔ p ∈ S)
theorem StM.same {w w' : World} {B : Nat} {S : List (Int × ByteArray)} (h : StM w B S) (hb : w'.heap[B]? = w.heap[B]?) : StM w' B S := by
  obtain ⟨D, ⟨es, clock, h1, h2⟩, h3⟩ := h
  exact ⟨D, ⟨es, clock, by rw [hb]; exact h1, h2⟩, h3⟩
theorem StM.map {w : World} {B : Nat} {S : List (Int × ByteArray)} (h : StM w B S) : ∃ es clock, w.heap[B]? = some (.map es clock) := by
  obtain ⟨D, ⟨es, clock, h1, h2⟩, h3⟩ := h
  exact ⟨es, clock, h1⟩
theorem StM.lt {w : World} {B : Nat} {S : List (Int × ByteArray)} (h : StM w B S) : B < w.heap.size := by
  obtain ⟨es, clock, h1⟩ := h.map
  exact block_lt h1
theorem StM.below {w w' : World} {B : Nat} {S : List (Int × ByteArray)} (h : StM w B S) (hb : Below w.heap.size w w') : StM w' B S := h.same (hb.block B h.lt)
theorem StM.only {T : Nat → Prop} {w w' : World} {B : Nat} {S : List (Int × ByteArray)} (h : StM w B S) (ho : Only T w w') (hs : ¬ T B) : StM w' B S := h.same (ho.block B h.lt hs)
theorem StM.drew {w : World} {B : Nat} {S : List (Int × ByteArray)} (h : StM w B S) : StM w.drew B S := h
theorem StM.made (w : World) : StM (w.alloc (.map #[] 0)) w.heap.size [] :=
  ⟨.map [], World.ownsMap_made (H := Unit) w Tryd.prog 96 unitElem, fun p kl _ => by simp [Maps.has]⟩
theorem StM.look {w : World} {B : Nat} {S : List (Int × ByteArray)} {p : Int × ByteArray} (h : StM w B S) (hp : fitS p) {b : Bool} (hb : b = true ↔ p ∈ S) : (Instr.lookup 61 (.map (some B)) (sdV p) true).run Tryd.prog w = .ok (.tuple #[.agg #[], .bool b]) w := by
  obtain ⟨D, h1, h3⟩ := h
  obtain ⟨kl, hkl⟩ := sd_key p hp
  obtain ⟨v, ps, hr, hv⟩ := h1.look_ok sdLaw Tryd.underlying61 (sdZero _) unitElem_mk hkl
  obtain ⟨rfl, _⟩ := unitElem_inv hv
  rw [hr]
  have : Maps.has D kl = b := by
    have := h3 p kl hkl
    cases b <;> simp_all
  rw [this]
/-- the world behind m[p] = {} -/
noncomputable def stW (B : Nat) (p : Int × ByteArray) (w : World) : World :=
  match (Instr.mapUpdate 61 (.map (some B)) (sdV p) (.agg #[])).run Tryd.prog w with
  | .ok _ w' => w'
  | _ => w
theorem StM.put {w : World} {B : Nat} {S : List (Int × ByteArray)} {p : Int × ByteArray} (h : StM w B S) (hp : fitS p) (hl : S.length ≤ 100000) :
    (Instr.mapUpdate 61 (.map (some B)) (sdV p) (.agg #[])).run Tryd.prog w = .ok () (stW B p w) ∧ StM (stW B p w) B (p :: S) ∧ Only (· = B) w (stW B p w) := by
  obtain ⟨D, h1, h3⟩ := h
  obtain ⟨kl, hkl⟩ := sd_key p hp
  obtain ⟨w', hrun, hown, hturn⟩ := h1.store sdLaw Tryd.underlying61 (by unfold maxLen; omega) hkl unitElem_mk
  have e : stW B p w = w' := by unfold stW; rw [hrun]
  rw [e]
  refine ⟨hrun, ⟨_, by simpa using hown, fun d kd hkd => ?_⟩, ?_⟩
  · rw [List.mem_cons]
    by_cases e2 : kd = kl
    · subst e2
      obtain rfl := sd_keys hkd hkl
      simp [Maps.has_put_same h1.isMap (sdLaw.key hkl)]
    · rw [Maps.has_put_other e2, h3 d kd hkd]
      constructor
      · exact .inr
      · rintro (rfl | h)
        · exact absurd (Option.some.inj (hkd.symm.trans hkl)) e2
        · exact h
  · obtain ⟨es, clock, es', clock', hb, rfl⟩ := hturn
    refine ⟨rfl, rfl, rfl, by simp [ChangeMaps.setBlock], fun i hi hne => ?_⟩
    simp only [ChangeMaps.setBlock, Array.getElem?_setIfInBounds]
    rw [if_neg (fun e => hne e.symm)]
/-- the reader stands while the map alone turns -/
theorem Rdr.turn {w w' : World} {R : Nat} {E d : Int} {B N : Nat} {ws : List Tk} (h : Rdr w R E d B N ws) (hm : ∃ es clock, w.heap[B]? = some (.map es clock)) (ho : Only (· = B) w w') : Rdr w' R E d B N ws := by
  obtain ⟨es, clock, hm⟩ := hm
  obtain ⟨uo, uc, o, h1, h2, h3, h4, h5, h6, h7, h8, h9⟩ := h
  have cellNe : ∀ a u, w.cell? a = some u → ¬ a.block = B := fun a u hc e => by
    simp only [World.cell?, e, hm] at hc
    first
    | (cases hc; done)
    | (simp at hc; done)
    | (split at hc <;> simp at hc)
  have hR : ¬ R = B := fun e => by rw [e, hm] at h1; cases h1
  refine ⟨uo, uc, o, (ho.block R (block_lt h1) hR).trans h1, h2.keep ho.size (fun a u _ hc => ho.cell hc (cellNe a u hc)), h3, h4, h5, Nat.le_trans h6 ho.size, ⟨⟨Nat.lt_of_lt_of_le h7.1 ho.size, fun m m1 m2 => ho.cell (h7.2 m m1 m2) (cellNe _ _ (h7.2 m m1 m2))⟩, h8, h9⟩⟩
/-- what once does -/
def Onced (w : World) (R : Nat) (E d : Int) (B N : Nat) (ws : List Tk) (S : List (Int × ByteArray)) (k : Int) : Ending → World → Prop := fun e w' =>
  ((k, textF ws) ∈ S ∧ e = .panicked [{ v := flV (atF E ws, 22), recovered := false }] ∧ Only (fun i => i = R ∨ i = B) w w') ∨
  ((k, textF ws) ∉ S ∧ e = .returned (.tuple #[]) ∧ StM w' B ((k, textF ws) :: S) ∧ Rdr w' R E d B N ws ∧ Only (fun i => i = R ∨ i = B) w w')
set_option maxHeartbeats 8000000 in
set_option maxRecDepth 20000 in
/-- (*jdl.reader).once -/
theorem once_any {w : World} {R : Nat} {E d : Int} {B N : Nat} {ws : List Tk} (h : Rdr w R E d B N ws) (S : List (Int × ByteArray)) (hs : StM w B S) (k : Int) (hf : fitS (k, textF ws)) (hS : S.length ≤ 100000) :
    Calls Tryd.prog 28 #[.pointer (some ⟨R, 0, none⟩), .int .i64 k] w (Onced w R E d B N ws S k) := by
  obtain ⟨es, clock, hmap⟩ := hs.map
  have HT := hide (text_any h)
  have HR := hide h
  have HSM := hide hs
  have HFT := hide hf
  obtain ⟨uo, uc, o, h1, _⟩ := h
  have hR : ¬ R = B := fun e => by rw [e, hmap] at h1; cases h1
  have c3 : w.cell? ⟨R, 3, none⟩ = some (.map (some B)) := by rw [cell_of h1]; rfl
  have hRl : R < w.heap.size := block_lt h1
  have hBl : B < w.heap.size := block_lt hmap
  generalize hx : textF ws = x at *
  have HX := hide hx
  have BX0 : (w.alloc (.cells #[.int .i64 k, .string x] 96)).cell? ⟨w.heap.size, 0, none⟩ = some (.int .i64 k) := by rw [World.cell?_alloc_mark]; rfl
  have BX1 : (w.alloc (.cells #[.int .i64 k, .string x] 96)).cell? ⟨w.heap.size, 1, none⟩ = some (.string x) := by rw [World.cell?_alloc_mark]; rfl
  obtain ⟨w1, hw1⟩ : ∃ w1, w1 = w.alloc (.cells #[.int .i64 k, .string x] 96) := ⟨_, rfl⟩
  have HB1 : Hid (Below w.heap.size w w1) := by rw [hw1]; exact (Below.refl _ _).alloc (Nat.le_refl _) _
  rw [← hw1] at BX0 BX1
  have d3 : w1.cell? ⟨R, 3, none⟩ = some (.map (some B)) := Below.keeps HB1.out (Nat.le_refl _) c3
  have hs1 : w1.heap.size = w.heap.size + 1 := by rw [hw1]; simp
  have HR1 := hide (HR.out.below HB1.out)
  have HSM1 := hide (HSM.out.below HB1.out)
  clear h1 hs hf hmap c3 hx
  by_cases hin : (k, x) ∈ S
  · have hlk : ∀ w', StM w' B S → (Instr.lookup 61 (.map (some B)) (.agg #[.int .i64 k, .string x]) true).run Tryd.prog w' = .ok (.tuple #[.agg #[], .bool true]) w' := fun w' h' => h'.look HFT.out (by simp [hin])
    have s2 : StM (w1.alloc (.cells #[] 97)).drew B S := show StM (w1.alloc (.cells #[] 97)) B S from HSM1.out.below ((Below.refl _ _).alloc (Nat.le_refl _) _)
    have s1 : StM w1.drew B S := HSM1.out
    have hrl : R < w1.heap.size := by omega
    have HRX : Hid (Rdr (w1.alloc (.cells #[] 97)).drew R E d B N ws) := Rdr.drew (show Rdr (w1.alloc (.cells #[] 97)) R E d B N ws from HR1.out.below ((Below.refl _ _).alloc (Nat.le_refl _) _))
    have HF := hide (fault_any HRX.out 22)
    have HOO : Hid (Only (fun i => i = R ∨ i = B) w (w1.alloc (.cells #[] 97)).drew) := ((Only.below HB1.out).trans (Only.alloc _ _ _) (fun _ _ h => h)).drew
    have HIN := hide hin
    go_enter Tryd.func28, Tryd.ntmps28
    go_wp2_with fail
    refine HT.out.mono ?_
    rintro e w' ⟨rfl, rfl⟩
    go_wp2_with fail
    rw [← hw1]
    clear hw1
    go_region
    all_goals
      go_wp2_with fail
      refine HF.out.mono ?_
      rintro e w3 ⟨rfl, hb⟩
      have HO3 := hide (HOO.out.trans (Only.below hb) (fun _ _ h => h))
      clear hb
      go_wp2
      refine ⟨rfl, ?_⟩
      unfold Onced
      rw [HX.out]
      exact Or.inl ⟨HIN.out, rfl, HO3.out⟩
  · have hlk : ∀ w', StM w' B S → (Instr.lookup 61 (.map (some B)) (.agg #[.int .i64 k, .string x]) true).run Tryd.prog w' = .ok (.tuple #[.agg #[], .bool false]) w' := fun w' h' => h'.look HFT.out (by simp [hin])
    have s2 : StM (w1.alloc (.cells #[] 97)).drew B S := show StM (w1.alloc (.cells #[] 97)) B S from HSM1.out.below ((Below.refl _ _).alloc (Nat.le_refl _) _)
    have s1 : StM w1.drew B S := HSM1.out
    have hrl : R < w1.heap.size := by omega
    have HIN := hide hin
    obtain ⟨w2, hw2⟩ : ∃ w2, w2 = (w1.alloc (.cells #[] 97)).drew := ⟨_, rfl⟩
    have HO2 : Hid (Only (fun i => i = R ∨ i = B) w w2) := by rw [hw2]; exact ((Only.below HB1.out).trans (Only.alloc _ _ _) (fun _ _ h => h)).drew
    have HR2 : Hid (Rdr w2 R E d B N ws) := by rw [hw2]; exact Rdr.drew (show Rdr (w1.alloc (.cells #[] 97)) R E d B N ws from HR1.out.below ((Below.refl _ _).alloc (Nat.le_refl _) _))
    have s2b := s2
    rw [← hw2] at s2b
    have hb12 : Below w1.heap.size w1 w2 := by rw [hw2]; exact ((Below.refl _ _).alloc (Nat.le_refl _) _).drew
    have e3 : w2.cell? ⟨R, 3, none⟩ = some (.map (some B)) := Below.keeps hb12 (Nat.le_refl _) d3
    have e0 : w2.cell? ⟨w.heap.size, 0, none⟩ = some (.int .i64 k) := Below.keeps hb12 (Nat.le_refl _) BX0
    have e1 : w2.cell? ⟨w.heap.size, 1, none⟩ = some (.string x) := Below.keeps hb12 (Nat.le_refl _) BX1
    clear hb12
    have HMP := hide s2b.drew.map
    obtain ⟨hrun, hsto, honly⟩ := StM.put (StM.drew s2b) HFT.out hS
    have HSTO := hide hsto
    have HONL := hide honly
    clear hsto honly
    unfold sdV at hrun
    simp only at hrun
    go_enter Tryd.func28, Tryd.ntmps28
    go_wp2_with fail
    refine HT.out.mono ?_
    rintro e w' ⟨rfl, rfl⟩
    go_wp2_with fail
    rw [← hw1]
    clear hw1
    go_region
    all_goals
      go_wp2_with fail
      rw [← hw2]
      clear hw2
      go_region
    all_goals
      go_wp2
      refine bodyPost_ret (v := .tuple #[]) (by kernel_rfl) rfl ?_
      unfold Onced
      rw [HX.out]
      exact .inr ⟨HIN.out, rfl, HSTO.out, (HR2.out.drew).turn HMP.out HONL.out, (HO2.out.drew).trans HONL.out (fun _ _ h => .inr h)⟩
end Go.Proofs.YtkpgfhapffijkaaDoor
