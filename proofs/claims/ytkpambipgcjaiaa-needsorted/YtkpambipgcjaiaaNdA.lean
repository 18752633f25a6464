/- Package need: emptied, Fits, Both. -/
import Derived.Test.YtkpambipgcjaiaaPmD
import Derived.Test.YtkpambipgcjaiaaPmF
import Derived.Test.YtkpambipgcjaiaaNdP
namespace Go.Proofs.Ytkpambipgcjaiaa
open Go.ChangeShapes Go.WideShapes Go.ChangeAt Go.RowKit Go.DsMem Go.DsCo Go.DsPl Go.DsMap
set_option linter.unusedVariables false
set_option linter.unusedSimpArgs false
/-- what emptied tells -/
def Emptied (w : World) (R : List Rk) (e : Ending) (w' : World) : Prop := ∃ q a' b', e = .returned (ptr q) ∧ PoAt w' q a' b' R [] ∧ Below w.heap.size w w' ∧ w.heap.size ≤ b' ∧ b' < w'.heap.size
set_option maxHeartbeats 8000000 in
set_option maxRecDepth 20000 in
/-- need.emptied -/
theorem emptied_any (p a b : Nat) (R : List Rk) (H : List Hd) (w : World) (h : PoAt w p a b R H) (hH : H.length ≤ 100000) (hR : R.length ≤ 100000) : Calls Try.prog 68 #[ptr p] w (Emptied w R) := by
  have HC := hide (pcopy_any p a b R H w h (by omega) (by omega))
  have HOF := hide h.fine.ho
  clear h
  unfold ptr at HC
  unfold ptr
  go_enter Try.func68, Try.ntmps68
  go_wp2_with fail
  refine HC.out.mono ?_
  rintro e w1 ⟨rfl, hp1, hb1⟩
  have hlt := hp1.lt
  have hbw : w.heap.size ≤ w.heap.size + 1 := Nat.le_succ _
  obtain ⟨q, hq⟩ : ∃ q, q = w.heap.size + 2 := ⟨_, rfl⟩
  obtain ⟨b', hb'⟩ : ∃ b', b' = w.heap.size + 1 := ⟨_, rfl⟩
  obtain ⟨a', ha'⟩ : ∃ a', a' = w.heap.size := ⟨_, rfl⟩
  rw [← hb'] at hbw
  rw [← hq, ← hb'] at hp1 hlt
  have hp1' : PoAt w1 q a' b' R H := by rw [ha']; exact hp1
  rw [← hq]
  have HP1 := hide hp1'
  have HB1 := hide hb1
  have HLS := hide (plist_any q a' b' R H w1 hp1' (by omega))
  have hbl1 : b' < w1.heap.size := hlt.2.2
  clear hp1 hp1' hb1 hq hb' ha' HC hlt
  unfold ptr ListedH at HLS
  go_wp2_with fail
  refine HLS.out.mono ?_
  rintro e w2 ⟨g, cap, rfl, hr, hb2⟩
  have HR := hide hr
  have HP2 := hide (HP1.out.below hb2)
  have HB2 := hide (HB1.out.trans (hb2.mono HB1.out.size))
  have hbg : b' < g := by have := hr.ge; omega
  have hgn : ¬ g = b' := by omega
  have hbl2 : b' < w2.heap.size := by have := hb2.size; omega
  have hlc : H.length ≤ cap := by obtain ⟨cur, _, _, r, _⟩ := hr.block; exact r
  clear hr hb2 HLS HP1 HB1
  go_wp2
  go_loopw [11] (fun i wr => ∃ (k : Nat) (Hk : List Hd), k ≤ H.length ∧ i = .int .i64 k ∧ PoAt wr q a' b' R Hk ∧ (∀ x ∈ Hk, ∃ j, k ≤ j ∧ ∃ c, H[j]? = some c ∧ c.1.1 = x.1.1) ∧ Hk.length ≤ 100000 ∧ HdRow wr w1.heap.size g cap H ∧ Below w.heap.size w wr ∧ b' < wr.heap.size) (fun i _ => H.length - (intOf i).toNat)
  case atStart => exact ⟨0, H, Nat.zero_le _, rfl, HP2.out, fun x hx => by
    obtain ⟨j, hj, e⟩ := List.getElem_of_mem hx
    exact ⟨j, Nat.zero_le _, x, by rw [List.getElem?_eq_getElem hj, e], rfl⟩, hH, HR.out, HB2.out, hbl2⟩
  case round =>
    obtain ⟨k, Hk, hk, rfl, hpo, hown, hHk, hrow, hbl, hblt⟩ := hrel
    have HPO := hide hpo
    have HOWN := hide hown
    have HROW := hide hrow
    have HBL := hide hbl
    clear hpo hown hrow hbl HP2 HR HB2
    by_cases hlt : k < H.length
    · have HLT := hide hlt
      have hk0 : (0 : Int) ≤ (k : Int) := by omega
      have hk1 : (k : Int) < ((H.length : Nat) : Int) := by omega
      have e0 := HROW.out.cell k 0 hlt (by decide)
      have e1 := HROW.out.cell k 1 hlt (by decide)
      have e2 := HROW.out.cell k 2 hlt (by decide)
      have e3 := HROW.out.cell k 3 hlt (by decide)
      have hc : H[k]? = some H[k] := List.getElem?_eq_getElem hlt
      have hho := HOF.out H[k] (List.getElem_mem hlt)
      generalize H[k] = c at *
      simp [encH] at e0 e1 e2 e3
      have HOWN2 : Hid (∀ x ∈ giveF Hk c.1.1, ∃ j, k + 1 ≤ j ∧ ∃ c', H[j]? = some c' ∧ c'.1.1 = x.1.1) := hide (give_own (P := fun z => ∃ j, k + 1 ≤ j ∧ ∃ c', H[j]? = some c' ∧ c'.1.1 = z) (fun x hx => by
        obtain ⟨j, h1, c', h3, h4⟩ := HOWN.out x hx
        by_cases e : j = k
        · subst e; rw [hc] at h3; cases h3; exact .inl h4.symm
        · exact .inr ⟨j, by omega, c', h3, h4⟩))
      have HHO : Hid (-9223372036854775808 ≤ c.1.1 ∧ c.1.1 ≤ 9223372036854775807) := hide hho
      clear hc hho
      obtain ⟨⟨ow, nm⟩, sn, sm⟩ := c
      simp only at e0 e1 e2 e3 HOWN2 HHO
      obtain ⟨w3, hw3⟩ : ∃ w3, wr.alloc (.cells #[.int .i64 ow, .string nm, .int .i64 sn, .int .i64 sm] 89) = w3 := ⟨_, rfl⟩
      have hb3 : Below wr.heap.size wr w3 := by rw [← hw3]; exact bel1 _ _
      have k0 : w3.cell? ⟨wr.heap.size, 0, none⟩ = some (.int .i64 ow) := by rw [← hw3]; simp
      have HG := hide (give_any ow HHO.out q a' b' R Hk w3 (HPO.out.below hb3) (by omega))
      have HB3 := hide hb3
      clear hb3
      unfold ptr at HG
      go_wp2_with fail
      refine HG.out.mono ?_
      rintro e w4 ⟨rfl, hp4, ho4⟩
      have HP4 := hide hp4
      have HROW4 := hide ((HROW.out.same (HB3.out.block g HROW.out.lt)).only ho4 (fun e => hgn e))
      have HB4 : Hid (Below w.heap.size w w4) := hide ((HBL.out.trans (HB3.out.mono HBL.out.size)).trans (ho4.toBelow (Nat.le_trans HBL.out.size HB3.out.size) (fun i e => by rw [e]; exact hbw)))
      have hb4 : b' < w4.heap.size := by have h1 := HB3.out.size; have h2 := ho4.size; omega
      clear hp4 ho4 HG
      go_wp2
      go_roundw
      case rel => exact ⟨k + 1, _, by have := HLT.out; omega, by go_num, HP4.out, HOWN2.out, Nat.le_trans (give_len _ _) hHk, HROW4.out, HB4.out, hb4⟩
      case measure => have := HLT.out; simp [intOf]; omega
    · have hH0 : Hk = [] := by
        cases Hk with
        | nil => rfl
        | cons x r =>
          obtain ⟨j, h1, c', h3, _⟩ := HOWN.out x (by simp)
          have := (List.getElem?_eq_some_iff.1 h3).1
          omega
      subst hH0
      clear HOWN
      go_wp2
      go_ret
      exact ⟨q, a', b', rfl, HPO.out, HBL.out, hbw, hblt⟩
end Go.Proofs.Ytkpambipgcjaiaa
