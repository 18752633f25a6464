/- Package pool: Free, holds. -/
import Derived.Test.YtkpambipgcjaiaaPlE
namespace Go.Proofs.Ytkpambipgcjaiaa
open Go.ChangeShapes Go.WideShapes Go.ChangeAt Go.RowKit Go.DsMem Go.DsCo Go.DsPl Go.DsMap
set_option linter.unusedVariables false
set_option linter.unusedSimpArgs false
set_option maxHeartbeats 2000000 in
set_option maxRecDepth 20000 in
/-- (*pool.Pool).Free -/
theorem free_any (nm : ByteArray) (hn : FitN nm) (p a b : Nat) (R : List Rk) (H : List Hd) (w : World) (h : PoAt w p a b R H) (hl : H.length ≤ 1000000) : Calls Try.prog 25 #[ptr p, .string nm] w fun e w' => e = .returned (.tuple #[.int .i64 (freeF R H nm).1, .int .i64 (freeF R H nm).2]) ∧ Below w.heap.size w w' := by
  have HQ := hide (quantity_any nm hn p a b R H w h)
  have HP := hide h
  have hsm := h.fine.small
  have hru := h.fine.ru
  unfold quF unitsF ptr at *
  unfold freeF
  cases hk : findK R nm with
  | none =>
    rw [hk] at HQ
    simp only at HQ ⊢
    clear h hsm hru
    go_enter Try.func25, Try.ntmps25
    go_wp2_with fail
    refine HQ.out.mono ?_
    rintro e w1 ⟨rfl, hb⟩
    have HB := hide hb
    clear hb
    go_wp2
    go_ret2
    exact ⟨rfl, HB.out.alloc HB.out.size _⟩
  | some k =>
    rw [hk] at HQ
    cases k with
    | lock =>
      simp only at HQ ⊢
      clear h hsm hru
      go_enter Try.func25, Try.ntmps25
      go_wp2_with fail
      refine HQ.out.mono ?_
      rintro e w1 ⟨rfl, hb⟩
      have HB := hide hb
      clear hb
      go_wp2
      go_ret2
      exact ⟨rfl, HB.out.alloc HB.out.size _⟩
    | units n =>
      have hnb := hru nm n (findK_in hk)
      have hub := useF_bd nm hsm
      simp only at HQ ⊢
      have HF := hide (fun w => qfree_any n (useF H nm) w hnb ⟨hub.1, by omega⟩)
      have HU := hide (fun w h => uses_any p a b R H w h hl)
      unfold ptr at HU
      clear h hsm hru
      go_enter Try.func25, Try.ntmps25
      go_wp2_with fail
      refine HQ.out.mono ?_
      rintro e w1 ⟨rfl, hb⟩
      obtain ⟨w2, hw2⟩ : ∃ w2, w2 = w1.alloc (.cells #[.int .i64 n] 93) := ⟨_, rfl⟩
      have hb2 : Below w1.heap.size w1 w2 := by rw [hw2]; exact bel1 _ _
      have k0 : w2.cell? ⟨w1.heap.size, 0, none⟩ = some (.int .i64 n) := by rw [hw2]; simp [go_sem]
      have hz : w1.heap.size < w2.heap.size := by rw [hw2]; simp
      have HB2 := hide (hb.trans (hb2.mono hb.size))
      have HP2 := hide ((HP.out.below HB2.out).drew)
      clear hb hb2
      go_wp2_with fail
      rw [← hw2]
      clear hw2
      go_region_law (go_simp; go_wp2_with (first
        | (go_at_call 62; refine (HU.out _ HP2.out).mono ?_; rintro e w3 ⟨rfl, hu3, hb3⟩; have d0 := Below.keeps hb3 (Nat.le_refl _) (show w2.drew.cell? ⟨w1.heap.size, 0, none⟩ = some (.int .i64 n) from k0); have LU : (Instr.lookup 99 (.map (some w2.heap.size)) (.string nm) false).run Try.prog w3 = .ok (usV (useF H nm)) w3 := lookU hu3 nm hn; have HB3 := hide hb3; clear hb3 hu3)
        | (go_at_call 61; refine (HF.out _).mono ?_; rintro e w4 ⟨rfl, hb4⟩; have HB4 := hide hb4; clear hb4)))
      all_goals
        go_wp2
        go_ret2
        exact ⟨rfl, ((HB2.out.drew).trans (HB3.out.mono HB2.out.size)).trans (HB4.out.mono (Nat.le_trans HB2.out.size HB3.out.size))⟩
theorem free_nil (nm : ByteArray) (w : World) : Calls Try.prog 25 #[.pointer none, .string nm] w fun e w' => e = .returned (.tuple #[.int .i64 0, .int .i64 2]) ∧ Below w.heap.size w w' := by
  have HQ := hide (quantity_nil nm w)
  go_enter Try.func25, Try.ntmps25
  go_wp2_with fail
  refine HQ.out.mono ?_
  rintro e w1 ⟨rfl, hb⟩
  have HB := hide hb
  clear hb
  go_wp2
  go_ret2
  exact ⟨rfl, HB.out.alloc HB.out.size _⟩
/-- a holder looked up -/
theorem lookH {w : World} {b : Nat} {H : List Hd} (h : MpH w b H) (c : Hk) (hc : FitH c) (hn : (∃ x, (c, x) ∈ H) = True) : ∃ x, (c, x) ∈ H ∧ (Instr.lookup 74 (.map (some b)) (hkV c) true).run Try.prog w = .ok (.tuple #[shV x, .bool true]) w := by
  obtain ⟨x, hx⟩ := of_eq_true hn
  exact ⟨x, hx, h.look mkH (zeroS w) hx true⟩
set_option maxHeartbeats 4000000 in
set_option maxRecDepth 20000 in
/-- (*pool.Pool).holds -/
theorem holds_any (o : Int) (ho : -9223372036854775808 ≤ o ∧ o ≤ 9223372036854775807) (p a b : Nat) (R : List Rk) (H : List Hd) (w : World) (h : PoAt w p a b R H) : Calls Try.prog 64 #[ptr p, .int .i64 o] w fun e w' => e = .returned (.bool (holdsB H o)) ∧ Below w.heap.size w w' := by
  have hlt := h.lt
  have c0 := h.c0
  have HP := hide h
  have HM := hide h.mks
  have HRS := hide h.fine.rs
  have HIN := hide h.fine.hin
  clear h
  unfold ptr
  go_enter Try.func64, Try.ntmps64
  go_wp2_with (first
    | (at_range; refine wpList_range_mp _ mkK rfl _ rfl a R rfl HM.out ?_; intro w1 hr1 hb1 hs1)
    | go_in)
  try go_frame
  have HR1 := hide hr1
  have HB1 := hide hb1
  obtain ⟨r, hr⟩ : ∃ r, r = w.heap.size := ⟨_, rfl⟩
  rw [← hr] at HR1 hs1
  rw [← hr]
  have HRE := hide hr
  clear hr1 hb1 c0 hr hs1
  go_loopw [5, 6, 7] (fun _ _ _ wr => ∃ T : List Rk, Rg Try.prog 9 (fun s : ByteArray => Value.string s) kdV FitN wr a r R T ∧ Below w.heap.size w wr ∧ ∀ q ∈ R, q ∉ T → ∀ x, ((o, q.1), x) ∉ H) (fun _ _ _ wr => wr.rangeLeft a r)
  case atStart => exact ⟨R, HR1.out, HB1.out, fun q h1 h2 => absurd h1 h2⟩
  case round =>
    obtain ⟨T, hrg, hbl, hall⟩ := hrel
    have HRG := hide hrg
    have HBL := hide hbl
    have HAL := hide hall
    clear hrg hbl hall HR1 HB1
    go_wp2_with (first
      | (at_next; refine wpList_next_mp _ mkK rfl _ rfl a r R T rfl HRG.out ?_ ?_)
      | go_in)
    · intro hT
      subst hT
      have hf : holdsB H o = false := by
        cases hb : holdsB H o with
        | false => rfl
        | true =>
          obtain ⟨⟨⟨o', nm⟩, x⟩, hx, rfl⟩ := holdsB_iff.1 hb
          obtain ⟨k, hk, _⟩ := HIN.out _ hx
          exact absurd hx (HAL.out _ (findK_in hk) (by simp) x)
      go_wp2
      go_ret
      exact ⟨retB hf.symm, HBL.out⟩
    · intro nm k w2 hcT hrg2 hlt2 ho2 hsz2 hen
      have hxR := HRG.out.sub _ hcT
      have hfs : FitN nm := HRS.out _ hxR
      have hbr := HRG.out.lt
      have hP2 := HP.out.below (HBL.out)
      have hl := HP.out.lt
      have hP3 := hP2.only ho2 (by rw [HRE.out]; omega) (by rw [HRE.out]; omega) (by rw [HRE.out]; omega)
      have HB2 := hide (HBL.out.trans (ho2.toBelow (by have := HBL.out.size; omega) (fun i e => by rw [e, HRE.out]; exact Nat.le_refl _)))
      have c1 := hP3.c1
      have HP3 := hide hP3
      have HRG2 := hide hrg2
      clear hP2 hP3 hrg2 ho2
      by_cases hin : ∃ x, ((o, nm), x) ∈ H
      · obtain ⟨x, hx⟩ := hin
        have LH := HP3.out.mhs.look mkH (zeroS w2) hx true
        simp only [if_true] at LH
        have hf : holdsB H o = true := holdsB_iff.2 ⟨_, hx, rfl⟩
        unfold hkV shV at LH
        simp only at LH
        go_wp2
        go_ret
        exact ⟨retB hf.symm, HB2.out.alloc HB2.out.size _⟩
      · have LH := HP3.out.mhs.look_not mkH (zeroS w2) (c := (o, nm)) ⟨hfs, ho⟩ (fun x hx => hin ⟨x, hx⟩) true
        simp only [if_true] at LH
        unfold hkV shV at LH
        simp only at LH
        have HNO := hide hin
        clear hin
        go_wp2
        go_roundw
        case rel => exact ⟨_, (HRG2.out.below (bel1 _ _)).1, HB2.out.alloc HB2.out.size _, fun q h1 h2 x hx => by
          by_cases e : q.1 = nm
          · rw [e] at hx; exact HNO.out ⟨x, hx⟩
          · exact HAL.out q h1 (fun hq => h2 (mem_delL.2 ⟨hq, e⟩)) x hx⟩
        case measure => rw [(HRG2.out.below (bel1 _ _)).2]; exact hlt2
end Go.Proofs.Ytkpambipgcjaiaa
