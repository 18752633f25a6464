/- Package dayshiftref11: Same; lists of conditions that are read. -/
import Derived.Test.YtliinilbfacpbaaClL
namespace Go.Proofs.Ytliinilbfacpbaa
open Go.ChangeShapes Go.WideShapes Go.ChangeAt Go.RowKit Go.DsMem Go.DsCo
set_option linter.unusedVariables false
/-- a condition in memory -/
structure CnIn (w : World) (g o : Nat) (c : Cn) : Prop where
  c0 : w.cell? ⟨g, o, none⟩ = some (.string c.nm)
  c1 : w.cell? ⟨g, o + 1, none⟩ = some (.int .i64 c.day)
theorem CnIn.mono {w w' : World} {g o : Nat} {c : Cn} (h : CnIn w g o c) (hc : ∀ a v, w.cell? a = some v → w'.cell? a = some v) : CnIn w' g o c := ⟨hc _ _ h.c0, hc _ _ h.c1⟩
/-- the slice at uo reads as these conditions -/
def CnsRd (w : World) (uo : Option Addr) (l : List Cn) : Prop := ∀ i (h : i < l.length), ∃ g o, uo = some ⟨g, o, none⟩ ∧ CnIn w g (o + i * 2) l[i]
theorem CnsRd.nil (w : World) (uo : Option Addr) : CnsRd w uo [] := fun i h => by simp at h
theorem CnsRd.mono {w w' : World} {uo : Option Addr} {l : List Cn} (h : CnsRd w uo l) (hc : ∀ a v, w.cell? a = some v → w'.cell? a = some v) : CnsRd w' uo l := fun i hi => by
  obtain ⟨g, o, h1, h2⟩ := h i hi
  exact ⟨g, o, h1, h2.mono hc⟩
theorem CnsRd.below {w w' : World} {uo : Option Addr} {l : List Cn} (h : CnsRd w uo l) (hb : Below w.heap.size w w') : CnsRd w' uo l := h.mono fun _ _ hc => Below.keeps hb (Nat.le_refl _) hc
theorem CnsRd.only {S : Nat → Prop} {w w' : World} {uo : Option Addr} {l : List Cn} (h : CnsRd w uo l) (ho : Only S w w') (hs : ∀ g o, uo = some ⟨g, o, none⟩ → ¬ S g) : CnsRd w' uo l := fun i hi => by
  obtain ⟨g, o, h1, h2⟩ := h i hi
  exact ⟨g, o, h1, ⟨ho.cell h2.c0 (hs g o h1), ho.cell h2.c1 (hs g o h1)⟩⟩
theorem CnRow.rd {w : World} {b g cap : Nat} {l : List Cn} (h : CnRow w b g cap l) : CnsRd w (some ⟨g, 0, none⟩) l := fun i hi => by
  obtain ⟨cur, hg, hb, h1, h2, h3, h4⟩ := h.block
  have key : ∀ k, k < 2 → w.cell? ⟨g, i * 2 + k, none⟩ = (encC l[i])[k]? := fun k hk => by
    have hlt : i * 2 + k < l.length * 2 := by omega
    rw [cell_of hg]
    have e : cur[i * 2 + k]? = (cur.toList.take (l.length * 2))[i * 2 + k]? := by
      rw [List.getElem?_take, if_pos hlt]; simp
    rw [e, h4, cnRows_get l _ hlt, show (i * 2 + k) / 2 = i by omega, show (i * 2 + k) % 2 = k by omega, getElem!_pos l i hi]
  refine ⟨g, 0, rfl, ?_⟩
  rw [Nat.zero_add]
  exact ⟨key 0 (by omega), key 1 (by omega)⟩
theorem cn_ne {a b : Cn} (h : ¬ a = b) : (¬ a.nm.toList = b.nm.toList) ∨ (a.nm = b.nm ∧ ¬ a.day = b.day) := by
  by_cases e : a.nm = b.nm
  · exact .inr ⟨e, fun e' => h (Cn.ext' e e')⟩
  · exact .inl fun e' => e (nm_of_k (by rw [Lib.toList_data, Lib.toList_data] at e'; exact e'))
/-- two lists are one, as a Bool -/
noncomputable def eqB (l m : List Cn) : Bool := @decide (l = m) (Classical.propDecidable _)
theorem eqB_true {l m : List Cn} (h : l = m) : eqB l m = true := by unfold eqB; exact @decide_eq_true _ (Classical.propDecidable _) h
theorem eqB_false {l m : List Cn} (h : ¬ l = m) : eqB l m = false := by unfold eqB; exact @decide_eq_false _ (Classical.propDecidable _) h
set_option maxHeartbeats 8000000 in
set_option maxRecDepth 20000 in
/-- dayshiftref11.Same -/
theorem csame_any (l m : List Cn) (uo vo : Option Addr) (uc vc : Nat) (w : World) (hl : CnsRd w uo l) (hm : CnsRd w vo m) (h1 : l.length ≤ uc) (h2 : m.length ≤ vc) (hn : l.length ≤ 1000000) :
    Calls Try.prog 15 #[.slice uo l.length uc, .slice vo m.length vc] w fun e w' => e = .returned (.bool (eqB l m)) ∧ Below w.heap.size w w' := by
  have HL := hide hl
  have HM := hide hm
  clear hl hm
  by_cases hlen : l.length = m.length
  · rw [← hlen] at h2 ⊢
    have HLEN := hide hlen
    clear hlen
    go_enter Try.func15, Try.ntmps15
    go_wp2_with fail
    go_loopw [5] (fun i wr => ∃ k : Nat, k ≤ l.length ∧ i = .int .i64 k ∧ l.take k = m.take k ∧ Below w.heap.size w wr) (fun i _ => l.length - (intOf i).toNat)
    case atStart => exact ⟨0, Nat.zero_le _, rfl, by simp, Below.refl _ _⟩
    case round =>
      obtain ⟨k, hk, rfl, ht, hb⟩ := hrel
      have HT := hide ht
      have HB := hide hb
      clear ht hb
      by_cases hlt : k < l.length
      · have hlm : k < m.length := by have := HLEN.out; omega
        obtain ⟨g, o, rfl, hin⟩ := (HL.out.below HB.out) k hlt
        obtain ⟨g', o', rfl, hin'⟩ := (HM.out.below HB.out) k hlm
        have HTL : Hid (l.take (k + 1) = l.take k ++ [l[k]]) := List.take_succ_eq_append_getElem hlt
        have HTM : Hid (m.take (k + 1) = m.take k ++ [m[k]]) := List.take_succ_eq_append_getElem hlm
        have HNE : Hid (¬ l[k] = m[k] → eqB l m = false) := fun hne => eqB_false fun e => hne (by simp only [e])
        obtain ⟨a0, a1⟩ := hin
        obtain ⟨b0, b1⟩ := hin'
        generalize l[k] = x at *
        generalize m[k] = y at *
        have hk0 : (0 : Int) ≤ (k : Int) := by omega
        have hk1 : (k : Int) < ((l.length : Nat) : Int) := by omega
        by_cases hxy : x = y
        · subst hxy
          go_wp2
          first
            | (go_region_held3 (fun w' => w'.cell? ⟨g, o + k * 2, none⟩ = some (.string x.nm) ∧ w'.cell? ⟨g, o + k * 2 + 1, none⟩ = some (.int .i64 x.day) ∧ w'.cell? ⟨g', o' + k * 2, none⟩ = some (.string x.nm) ∧ w'.cell? ⟨g', o' + k * 2 + 1, none⟩ = some (.int .i64 x.day))
                (go_keep)
                (fail))
            | fail
          have HB2 := hide HB.out.drew
          go_wp2
          go_roundw
          case rel => exact ⟨k + 1, by omega, by go_num, by rw [HTL.out, HTM.out, HT.out], HB2.out⟩
          case measure => simp [intOf]; omega
        · have HF := hide (HNE.out hxy)
          have HB2 := hide HB.out.drew
          rcases cn_ne hxy with hd | ⟨he, hd⟩
          · go_wp2
            first
              | (go_region_held3 (fun w' => w'.cell? ⟨g, o + k * 2, none⟩ = some (.string x.nm) ∧ w'.cell? ⟨g, o + k * 2 + 1, none⟩ = some (.int .i64 x.day) ∧ w'.cell? ⟨g', o' + k * 2, none⟩ = some (.string y.nm) ∧ w'.cell? ⟨g', o' + k * 2 + 1, none⟩ = some (.int .i64 y.day))
                  (go_keep)
                  (fail))
              | fail
            go_wp2
            go_ret
            exact ⟨ret_boolC HF.out.symm, HB2.out⟩
          · rw [← he] at b0
            go_wp2
            first
              | (go_region_held3 (fun w' => w'.cell? ⟨g, o + k * 2, none⟩ = some (.string x.nm) ∧ w'.cell? ⟨g, o + k * 2 + 1, none⟩ = some (.int .i64 x.day) ∧ w'.cell? ⟨g', o' + k * 2, none⟩ = some (.string x.nm) ∧ w'.cell? ⟨g', o' + k * 2 + 1, none⟩ = some (.int .i64 y.day))
                  (go_keep)
                  (fail))
              | fail
            go_wp2
            go_ret
            exact ⟨ret_boolC HF.out.symm, HB2.out⟩
      · have hE : Hid (eqB l m = true) := eqB_true (by have h := HT.out; rw [List.take_of_length_le (by omega), List.take_of_length_le (by have := HLEN.out; omega)] at h; exact h)
        go_wp2
        go_ret
        exact ⟨ret_boolC hE.out.symm, HB.out⟩
  · have hE : Hid (eqB l m = false) := eqB_false fun e => hlen (by rw [e])
    have hne : ((l.length : Int) != (m.length : Int)) = true := by simp; omega
    go_enter Try.func15, Try.ntmps15
    go_wp2
    go_ret
    exact ⟨ret_boolC hE.out.symm, Below.refl _ _⟩
end Go.Proofs.Ytliinilbfacpbaa
