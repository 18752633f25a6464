/- Package pool: room, May. -/
import Derived.Test.YtkpambipgcjaiaaPlG
import Derived.Deep.RegionHeld3
namespace Go.Proofs.Ytkpambipgcjaiaa
open Go.ChangeShapes Go.WideShapes Go.ChangeAt Go.RowKit Go.DsMem Go.DsCo Go.DsPl Go.DsMap
set_option linter.unusedVariables false
set_option linter.unusedSimpArgs false
set_option maxHeartbeats 8000000 in
set_option maxRecDepth 20000 in
/-- (*pool.Pool).room -/
theorem room_any (l : List Ne) (uo : Option Addr) (uc : Nat) (p a b : Nat) (R : List Rk) (H : List Hd) (w : World) (h : PoAt w p a b R H) (hr : NeRd w uo l) (hf : FitL l) (hlen : l.length ≤ 140737488355328) (hH : H.length ≤ 1000000) (hall : ∀ n ∈ l, ∃ k, findK R n.nm = some k) : Calls Try.prog 66 #[ptr p, .slice uo l.length uc] w fun e w' => e = .returned (.int .i64 (roomF R H l)) ∧ Below w.heap.size w w' := by
  have HP := hide h
  have HR := hide hr
  have HF := hide hf
  have HALL := hide hall
  have HUSE := hide (uses_any p a b R H w h hH)
  have HRU := hide h.fine.ru
  have HSM := hide h.fine.small
  obtain ⟨B, hB⟩ : ∃ B, B = w.heap.size := ⟨_, rfl⟩
  have HBE := hide hB
  obtain ⟨Q, hQ⟩ : ∃ Q, roomF R H l = Q := ⟨_, rfl⟩
  rw [hQ]
  have HQ := hide hQ
  clear h hr hf hQ hall
  unfold ptr at HUSE ⊢
  rw [← hB] at HUSE
  clear hB
  go_enter Try.func66, Try.ntmps66
  go_wp2_with fail
  refine HUSE.out.mono ?_
  rintro e w0 ⟨rfl, hu0, hb0⟩
  have HU0 := hide hu0
  have HB0 : Hid (Below w.heap.size w w0) := hide (by rw [HBE.out] at hb0; exact hb0)
  clear hu0 hb0
  go_wp2
  go_loopw [12] (fun i wr => ∃ (k : Nat), k ≤ l.length ∧ i = .int .i64 k ∧ IsUse wr B H ∧ roomF R H (l.drop k) = Q ∧ Below w.heap.size w wr) (fun i _ => l.length - (intOf i).toNat)
  case atStart => exact ⟨0, Nat.zero_le _, rfl, HU0.out, HQ.out, HB0.out⟩
  case round =>
    obtain ⟨k, hk, rfl, hus, hq, hbl⟩ := hrel
    have HUS := hide hus
    have HBL := hide hbl
    clear hus hbl HU0 HB0 HQ HUSE
    by_cases hlt : k < l.length
    · have HLT := hide hlt
      rw [drop_cons hlt] at hq
      have hfn : FitN (l[k]).nm := HF.out _ (List.getElem_mem hlt)
      obtain ⟨kd, hkd⟩ := HALL.out _ (List.getElem_mem hlt)
      obtain ⟨g, hgo, hg, hcells⟩ := HR.out.below HBL.out (by omega)
      obtain ⟨e0, e1, e2⟩ := hcells k l[k] (List.getElem?_eq_getElem hlt)
      subst hgo
      clear hcells
      generalize l[k] = n at *
      obtain ⟨nm, m, md⟩ := n
      simp only at e0 e1 e2 hfn hq hkd
      obtain ⟨w1, hw1⟩ : ∃ w1, w1 = wr.alloc (.cells #[.string nm, .int .i64 m, .int .i64 md] 61) := ⟨_, rfl⟩
      have hb1 : Below wr.heap.size wr w1 := by rw [hw1]; exact bel1 _ _
      have k0 : w1.cell? ⟨wr.heap.size, 0, none⟩ = some (.string nm) := by rw [hw1]; simp [go_sem]
      have k1 : w1.cell? ⟨wr.heap.size, 1, none⟩ = some (.int .i64 m) := by rw [hw1]; simp [go_sem]
      have k2 : w1.cell? ⟨wr.heap.size, 2, none⟩ = some (.int .i64 md) := by rw [hw1]; simp [go_sem]
      have hP1 := (HP.out.below (HBL.out.trans (hb1.mono HBL.out.size))).drew
      have c0 := hP1.c0
      have LK := lookK hP1.mks nm hfn false
      have HU1 := hide ((HUS.out.below hb1).drew)
      have LU := lookU HU1.out nm hfn
      have hub := useF_bd nm HSM.out
      have HFI := hide (fun w => fits_any kd ⟨nm, m, md⟩ (useF H nm) w (fun m0 e => HRU.out nm m0 (findK_in (e ▸ hkd))) ⟨hub.1, by omega⟩)
      have HB1 := hide (HBL.out.trans (hb1.mono HBL.out.size))
      have KP : Hid (∀ w', Below w1.drew.heap.size w1.drew w' → w'.cell? ⟨p, 0, none⟩ = some (.map (some a)) ∧ w'.cell? ⟨wr.heap.size, 0, none⟩ = some (.string nm) ∧ w'.cell? ⟨wr.heap.size, 1, none⟩ = some (.int .i64 m) ∧ w'.cell? ⟨wr.heap.size, 2, none⟩ = some (.int .i64 md) ∧
          (Instr.lookup 73 (.map (some a)) (.string nm) false).run Try.prog w' = .ok (kdV kd) w' ∧ (Instr.lookup 99 (.map (some B)) (.string nm) false).run Try.prog w' = .ok (usV (useF H nm)) w') := hide (fun w' hb =>
        ⟨(hP1.below hb).c0, Below.keeps hb (Nat.le_refl _) (show w1.drew.cell? _ = _ from k0), Below.keeps hb (Nat.le_refl _) (show w1.drew.cell? _ = _ from k1), Below.keeps hb (Nat.le_refl _) (show w1.drew.cell? _ = _ from k2), by have := lookK (hP1.below hb).mks nm hfn false; rw [hkd] at this; exact this, lookU (HU1.out.below hb) nm hfn⟩)
      clear hP1 hb1
      rw [roomF] at hq
      simp only at hq
      rw [hkd] at hq LK
      simp only [Option.map_some, Option.getD_some, Bool.false_eq_true, if_false] at LK hq
      obtain ⟨fb, hfb⟩ : ∃ fb, fitsB kd ⟨nm, m, md⟩ (useF H nm) = fb := ⟨_, rfl⟩
      rw [hfb] at HFI hq
      clear hfb hkd hub
      generalize useF H nm = u at *
      obtain ⟨u1, u2, u3⟩ := u
      unfold usV neV at HFI
      unfold usV at LU KP
      simp only at HFI LU KP
      rcases kd with m0 | _
      all_goals
        simp only [fitF, kdI, kdV] at HFI LK KP
        go_wp2_with fail
        rw [← hw1]
        clear hw1
        first
        | (go_region_held3 (fun w' => w'.cell? ⟨p, 0, none⟩ = some (.map (some a)) ∧ w'.cell? ⟨wr.heap.size, 0, none⟩ = some (.string nm) ∧ w'.cell? ⟨wr.heap.size, 1, none⟩ = some (.int .i64 m) ∧ w'.cell? ⟨wr.heap.size, 2, none⟩ = some (.int .i64 md) ∧ (Instr.lookup 73 (.map (some a)) (.string nm) false).run Try.prog w' = .ok (.iface 93 (.agg #[.int .i64 m0])) w' ∧ (Instr.lookup 99 (.map (some B)) (.string nm) false).run Try.prog w' = .ok (.agg #[.int .i64 u1, .int .i64 u2, .int .i64 u3]) w')
            (go_keep)
            (first
              | (go_at_call 139; refine (HFI.out _).mono ?_; rintro e w2 ⟨rfl, hb2⟩; obtain ⟨q0, q1, q2, q3, q4, q5⟩ := KP.out _ hb2; have HB2 := hide hb2; clear hb2)))
        | (go_region_held3 (fun w' => w'.cell? ⟨p, 0, none⟩ = some (.map (some a)) ∧ w'.cell? ⟨wr.heap.size, 0, none⟩ = some (.string nm) ∧ w'.cell? ⟨wr.heap.size, 1, none⟩ = some (.int .i64 m) ∧ w'.cell? ⟨wr.heap.size, 2, none⟩ = some (.int .i64 md) ∧ (Instr.lookup 73 (.map (some a)) (.string nm) false).run Try.prog w' = .ok (.iface 123 (.agg #[])) w' ∧ (Instr.lookup 99 (.map (some B)) (.string nm) false).run Try.prog w' = .ok (.agg #[.int .i64 u1, .int .i64 u2, .int .i64 u3]) w')
            (go_keep)
            (first
              | (go_at_call 142; refine (HFI.out _).mono ?_; rintro e w2 ⟨rfl, hb2⟩; obtain ⟨q0, q1, q2, q3, q4, q5⟩ := KP.out _ hb2; have HB2 := hide hb2; clear hb2)))
        all_goals
          have HB3 := hide ((HB1.out.drew).trans (HB2.out.mono HB1.out.size))
          have HU3 := hide (HU1.out.below HB2.out)
          cases fb with
          | false =>
            rw [if_neg (by decide)] at hq
            go_wp2
            go_ret
            exact ⟨retI hq, HB3.out⟩
          | true =>
            rw [if_pos rfl] at hq
            have HQ := hide hq
            clear hq
            go_wp2
            go_roundw
            case rel => exact ⟨k + 1, by have := HLT.out; omega, by go_num, HU3.out, HQ.out, HB3.out⟩
            case measure => have := HLT.out; simp [intOf]; omega
    · have hkl : k = l.length := by omega
      subst hkl
      rw [List.drop_length, roomF] at hq
      go_wp2
      go_ret
      exact ⟨retI hq, HBL.out⟩
set_option maxHeartbeats 2000000 in
set_option maxRecDepth 20000 in
/-- (*pool.Pool).May -/
theorem may_any (l : List Ne) (uo : Option Addr) (uc : Nat) (o : Int) (ho : -9223372036854775808 ≤ o ∧ o ≤ 9223372036854775807) (p a b : Nat) (R : List Rk) (H : List Hd) (w : World) (h : PoAt w p a b R H) (hr : NeRd w uo l) (hf : FitL l) (hlen : l.length ≤ 140737488355328) (hH : H.length ≤ 1000000) (hR : R.length ≤ 1000000) : Calls Try.prog 30 #[ptr p, .int .i64 o, .slice uo l.length uc] w fun e w' => e = .returned (.int .i64 (mayF R H o l)) ∧ Below w.heap.size w w' := by
  have HHO := hide (holds_any o ho p a b R H w h)
  have HRI := hide (fun w' (hb : Below w.heap.size w w') => right_any l uo uc p a b R H w' (h.below hb) (hr.below hb) hf hlen hR)
  have HKN := hide h.fine.kn
  have HRO := hide (fun w' (hb : Below w.heap.size w w') (h0 : rightF R [] l = 0) => room_any l uo uc p a b R H w' (h.below hb) (hr.below hb) hf hlen hH (fun n hn => by
    obtain ⟨k, hk, _⟩ := (rightF_le R h.fine.kn l [] List.nodup_nil (fun a ha => by simp at ha) h0).2 n hn
    exact ⟨k, hk⟩))
  unfold mayF
  unfold ptr at *
  clear h hr hf
  generalize holdsB H o = hb at *
  generalize rightF R [] l = ri at *
  cases hb with
  | true =>
    rw [if_pos rfl]
    go_enter Try.func30, Try.ntmps30
    go_wp2_with fail
    refine HHO.out.mono ?_
    rintro e w1 ⟨rfl, hb1⟩
    have HB1 := hide hb1
    clear hb1
    go_wp2
    go_ret
    exact ⟨rfl, HB1.out⟩
  | false =>
    rw [if_neg (by decide)]
    by_cases h0 : ri = 0
    · subst h0
      rw [if_neg (by simp)]
      go_enter Try.func30, Try.ntmps30
      go_wp2_with fail
      refine HHO.out.mono ?_
      rintro e w1 ⟨rfl, hb1⟩
      have HB1 := hide hb1
      clear hb1
      go_wp2_with fail
      refine (HRI.out w1 HB1.out).mono ?_
      rintro e w2 ⟨rfl, hb2⟩
      have HB2 := hide (HB1.out.trans (hb2.mono HB1.out.size))
      clear hb2
      go_wp2_with fail
      refine (HRO.out w2 HB2.out (by first | exact rfl | trivial)).mono ?_
      rintro e w3 ⟨rfl, hb3⟩
      have HB3 := hide (HB2.out.trans (hb3.mono HB2.out.size))
      clear hb3
      go_wp2
      go_ret
      exact ⟨rfl, HB3.out⟩
    · rw [if_pos h0]
      go_enter Try.func30, Try.ntmps30
      go_wp2_with fail
      refine HHO.out.mono ?_
      rintro e w1 ⟨rfl, hb1⟩
      have HB1 := hide hb1
      clear hb1
      go_wp2_with fail
      refine (HRI.out w1 HB1.out).mono ?_
      rintro e w2 ⟨rfl, hb2⟩
      have HB2 := hide (HB1.out.trans (hb2.mono HB1.out.size))
      clear hb2
      go_wp2
      go_ret
      exact ⟨rfl, HB2.out⟩
theorem may_nil (o : Int) (v : Value) (w : World) : Calls Try.prog 30 #[.pointer none, .int .i64 o, v] w fun e w' => e = .returned (.int .i64 2) ∧ w' = w := by
  go_enter Try.func30, Try.ntmps30
  go_wp2
  go_ret
  exact ⟨rfl, rfl⟩
end Go.Proofs.Ytkpambipgcjaiaa
