/- Package pool: Take. -/
import Derived.Test.YtkpambipgcjaiaaPlH
namespace Go.Proofs.Ytkpambipgcjaiaa
open Go.ChangeShapes Go.WideShapes Go.ChangeAt Go.RowKit Go.DsMem Go.DsCo Go.DsPl Go.DsMap
set_option linter.unusedVariables false
set_option linter.unusedSimpArgs false
theorem ins_fine {R : List Rk} {H : List Hd} (hf : FineP R H) (o : Int) (ho : -9223372036854775808 ≤ o ∧ o ≤ 9223372036854775807) (n : Ne) (k : Kd) (hk : findK R n.nm = some k) (hs : suitsB k n = true) (hnew : ∀ x ∈ H, x.1 ≠ (o, n.nm)) : FineP R (insH ((o, n.nm), shareF k n) H) := by
  refine ⟨hf.kn, hf.ru, hf.rs, hf.up.ins hnew, fun x hx => ?_, fun x hx => ?_⟩
  · rcases mem_insH.1 hx with rfl | hx
    · exact ⟨k, hk, suits_share hs⟩
    · exact hf.hin x hx
  · rcases mem_insH.1 hx with rfl | hx
    · exact ho
    · exact hf.ho x hx
set_option maxHeartbeats 8000000 in
set_option maxRecDepth 20000 in
/-- (*pool.Pool).Take -/
theorem take_any (l : List Ne) (uo : Option Addr) (uc : Nat) (o : Int) (ho : -9223372036854775808 ≤ o ∧ o ≤ 9223372036854775807) (p a b : Nat) (R : List Rk) (H : List Hd) (w : World) (h : PoAt w p a b R H) (hr : NeRd w uo l) (hf : FitL l) (hlen : l.length ≤ 140737488355328) (hH : H.length + R.length ≤ 1000000) : Calls Try.prog 27 #[ptr p, .int .i64 o, .slice uo l.length uc] w fun e w' => e = .returned (.int .i64 (takeF R H o l).2) ∧ PoAt w' p a b R (takeF R H o l).1 ∧ Only (· = b) w w' := by
  have HMAY := hide (may_any l uo uc o ho p a b R H w h hr hf hlen (by omega) (by omega))
  have HP := hide h
  have HR := hide hr
  have HF := hide hf
  have hnab : ¬ a = b := h.ab
  have hnpb : ¬ p = b := h.pb
  unfold takeF
  by_cases hm : mayF R H o l = 0
  · rw [if_neg (by simpa using hm)]
    rw [hm] at HMAY
    obtain ⟨h1, h2, h3⟩ := mayF_zero hm
    obtain ⟨h4, h5⟩ := rightF_le R h.fine.kn l [] List.nodup_nil (fun a ha => by simp at ha) h2
    rw [List.append_nil] at h4
    have hll : l.length ≤ R.length := by
      have := nodup_len _ (R.map (·.1)) h4 (fun x hx => by
        obtain ⟨n, hn, rfl⟩ := List.mem_map.1 hx
        obtain ⟨k, hk, _⟩ := h5 n hn
        exact List.mem_map.2 ⟨_, findK_in hk, rfl⟩)
      simpa using this
    have HND := hide h4
    have HSU := hide h5
    have HNO : Hid (∀ x ∈ H, x.1.1 = o → x.1.2 ∉ l.map (·.nm)) := hide (fun x hx hxo => by
      have : holdsB H o = true := holdsB_iff.2 ⟨x, hx, hxo⟩
      rw [h1] at this; cases this)
    obtain ⟨Q, hQ⟩ : ∃ Q, takeL R o H l = Q := ⟨_, rfl⟩
    simp only
    rw [hQ]
    have HQ := hide hQ
    clear h hr hf hm h1 h2 h3 h4 h5 hQ
    unfold ptr at HMAY ⊢
    go_enter Try.func27, Try.ntmps27
    go_wp2_with fail
    refine HMAY.out.mono ?_
    rintro e w0 ⟨rfl, hb0⟩
    have HP0 := hide (HP.out.below hb0)
    have HO0 : Hid (Only (· = b) w w0) := hide (Only.below hb0)
    clear hb0
    go_wp2
    go_loopw [19] (fun i wr => ∃ (k : Nat) (H' : List Hd), k ≤ l.length ∧ i = .int .i64 k ∧ PoAt wr p a b R H' ∧ takeL R o H' (l.drop k) = Q ∧ H'.length + (l.drop k).length ≤ H.length + l.length ∧ (∀ x ∈ H', x.1.1 = o → x.1.2 ∉ (l.drop k).map (·.nm)) ∧ ((l.drop k).map (·.nm)).Nodup ∧ Only (· = b) w wr) (fun i _ => l.length - (intOf i).toNat)
    case atStart => exact ⟨0, H, Nat.zero_le _, rfl, HP0.out, HQ.out, by simp, HNO.out, HND.out, HO0.out⟩
    case round =>
      obtain ⟨k, H', hk, rfl, hpo, hq, hle, hno, hnd, hon⟩ := hrel
      have HPO := hide hpo
      have HON := hide hon
      have hsw := hon.size
      have hlw := HP.out.lt
      clear hpo hon HP0 HO0 HQ HMAY HNO HND
      by_cases hlt : k < l.length
      · have HLT := hide hlt
        rw [drop_cons hlt] at hq hle hno hnd
        have hfn : FitN (l[k]).nm := HF.out _ (List.getElem_mem hlt)
        obtain ⟨kd, hkd, hsu⟩ := HSU.out _ (List.getElem_mem hlt)
        obtain ⟨g, hgo, hg, hcells⟩ := HR.out (by omega)
        obtain ⟨e0, e1, e2⟩ := hcells k l[k] (List.getElem?_eq_getElem hlt)
        subst hgo
        have hgb : ¬ g = b := fun e => by
          obtain ⟨es, clock, hm⟩ := HP.out.mhs.map
          rw [e] at e0
          unfold World.cell? at e0
          rw [hm] at e0
          cases e0
        have e0 := HON.out.cell e0 hgb
        have e1 := HON.out.cell e1 hgb
        have e2 := HON.out.cell e2 hgb
        clear hcells
        generalize hn : l[k] = n at *
        clear hn
        rw [List.map_cons, List.nodup_cons] at hnd
        have hnew : ∀ x ∈ H', x.1 ≠ (o, n.nm) := fun x hx e => hno x hx (by rw [e]) (by rw [e]; simp)
        have HNO2 : Hid (∀ x ∈ insH ((o, n.nm), shareF kd n) H', x.1.1 = o → x.1.2 ∉ (l.drop (k + 1)).map (·.nm)) := hide (fun x hx hxo hm => by
          rcases mem_insH.1 hx with rfl | hx
          · exact hnd.1 hm
          · exact hno x hx hxo (by simp only [List.map_cons, List.mem_cons]; exact .inr hm))
        have HND2 := hide hnd.2
        have HFI := hide (ins_fine HPO.out.fine o ho n kd hkd hsu hnew)
        have HLE2 : Hid ((insH ((o, n.nm), shareF kd n) H').length + (l.drop (k + 1)).length ≤ H.length + l.length) := hide (by rw [len_insH]; simp only [List.length_cons] at hle; omega)
        have HQ2 : Hid (takeL R o (insH ((o, n.nm), shareF kd n) H') (l.drop (k + 1)) = Q) := hide (by rw [← hq]; show _ = takeL R o (insH ((o, n.nm), shareF ((findK R n.nm).getD .lock) n) H') _; rw [hkd]; rfl)
        have hHl : H'.length ≤ 1000000 := by simp only [List.length_cons] at hle; omega
        have HNEW := hide hnew
        obtain ⟨nm, m, md⟩ := n
        simp only at e0 e1 e2 hfn hkd
        obtain ⟨w1, hw1⟩ : ∃ w1, w1 = wr.alloc (.cells #[.string nm, .int .i64 m, .int .i64 md] 61) := ⟨_, rfl⟩
        have hb1 : Below wr.heap.size wr w1 := by rw [hw1]; exact bel1 _ _
        have k0 : w1.cell? ⟨wr.heap.size, 0, none⟩ = some (.string nm) := by rw [hw1]; simp [go_sem]
        have k1 : w1.cell? ⟨wr.heap.size, 1, none⟩ = some (.int .i64 m) := by rw [hw1]; simp [go_sem]
        have k2 : w1.cell? ⟨wr.heap.size, 2, none⟩ = some (.int .i64 md) := by rw [hw1]; simp [go_sem]
        have hz1 : w1.heap.size = wr.heap.size + 1 := by rw [hw1]; simp
        have hP1 := (HPO.out.below hb1).drew
        have c0 := hP1.c0
        have c1 := hP1.c1
        have LK := lookK hP1.mks nm hfn false
        rw [hkd] at LK
        simp only [Option.map_some, Option.getD_some, Bool.false_eq_true, if_false] at LK
        have HSH := hide (fun w => share_any kd ⟨nm, m, md⟩ w)
        have KP : Hid (∀ w2 w', Below w1.drew.heap.size w1.drew w2 → Only (· = b) w2 w' → w'.cell? ⟨p, 0, none⟩ = some (.map (some a)) ∧ w'.cell? ⟨p, 1, none⟩ = some (.map (some b)) ∧ w'.cell? ⟨wr.heap.size, 0, none⟩ = some (.string nm) ∧ w'.cell? ⟨wr.heap.size, 1, none⟩ = some (.int .i64 m) ∧ w'.cell? ⟨wr.heap.size, 2, none⟩ = some (.int .i64 md) ∧
            (Instr.lookup 73 (.map (some a)) (.string nm) false).run Try.prog w' = .ok (kdV kd) w') := hide (fun w2 w' hb ho' => by
          have h2 := hP1.below hb
          have hlb := HPO.out.lt
          refine ⟨ho'.cell h2.c0 h2.pb, ho'.cell h2.c1 h2.pb, ho'.cell (Below.keeps hb (Nat.le_refl _) (show w1.drew.cell? _ = _ from k0)) (by simp only; omega), ho'.cell (Below.keeps hb (Nat.le_refl _) (show w1.drew.cell? _ = _ from k1)) (by simp only; omega), ho'.cell (Below.keeps hb (Nat.le_refl _) (show w1.drew.cell? _ = _ from k2)) (by simp only; omega), ?_⟩
          have := lookK (h2.mks.only ho' h2.ab) nm hfn false
          rw [hkd] at this; exact this)
        have HPUT : Hid (∀ w2, Below w1.drew.heap.size w1.drew w2 → ∃ w3, (Instr.mapUpdate 74 (.map (some b)) (hkV (o, nm)) (shV (shareF kd ⟨nm, m, md⟩))).run Try.prog w2 = .ok () w3 ∧ PoAt w3 p a b R (insH ((o, nm), shareF kd ⟨nm, m, md⟩) H') ∧ Only (· = b) w2 w3 ∧ Only (· = b) w w3) := hide (fun w2 hb => by
          have h2 := hP1.below hb
          obtain ⟨w3, hr, hm3, ho3⟩ := h2.mhs.put mkH (c := (o, nm)) ⟨hfn, ho⟩ (fun x hx => HNEW.out _ hx rfl) (shareF kd ⟨nm, m, md⟩) hHl
          refine ⟨w3, hr, ⟨?_, h2.mks.only ho3 h2.ab, hm3.perm ((insH_perm _ _).trans (List.perm_append_singleton _ _).symm), h2.ab, HFI.out⟩, ho3, ?_⟩
          · rw [ho3.block p h2.lt.1 h2.pb]; exact h2.blk
          · exact (((HON.out.trans (Only.below hb1) (fun _ _ h => h)).drew).trans (Only.below hb) (fun _ _ h => h)).trans ho3 (fun _ _ h => h))
        clear hP1 hb1 hno hnd hnew hq hkd hsu
        generalize shareF kd ⟨nm, m, md⟩ = sh at *
        obtain ⟨s1, s2⟩ := sh
        unfold shV neV at HSH
        unfold hkV shV at HPUT
        simp only at HSH HPUT
        rcases kd with m0 | _
        all_goals
          simp only [shaF, kdI, kdV] at HSH LK KP
          go_wp2_with fail
          rw [← hw1]
          clear hw1
          first
          | (go_region_held3 (fun w' => w'.cell? ⟨p, 0, none⟩ = some (.map (some a)) ∧ w'.cell? ⟨p, 1, none⟩ = some (.map (some b)) ∧ w'.cell? ⟨wr.heap.size, 0, none⟩ = some (.string nm) ∧ w'.cell? ⟨wr.heap.size, 1, none⟩ = some (.int .i64 m) ∧ w'.cell? ⟨wr.heap.size, 2, none⟩ = some (.int .i64 md) ∧ (Instr.lookup 73 (.map (some a)) (.string nm) false).run Try.prog w' = .ok (.iface 93 (.agg #[.int .i64 m0])) w')
              (go_keep)
              (first
              | (go_at_call 140; refine (HSH.out _).mono ?_; rintro e w2 ⟨rfl, hb2⟩; obtain ⟨q0, q1, q2, q3, q4, q5⟩ := KP.out _ _ hb2 (Only.refl _ _); obtain ⟨w3, hrun, hp3, ho3, hon3⟩ := HPUT.out _ hb2; obtain ⟨r0, r1, r2, r3, r4, r5⟩ := KP.out _ _ hb2 ho3; have HP3 := hide hp3; have HO3 := hide hon3; clear hb2 hp3 ho3 hon3)))
          | (go_region_held3 (fun w' => w'.cell? ⟨p, 0, none⟩ = some (.map (some a)) ∧ w'.cell? ⟨p, 1, none⟩ = some (.map (some b)) ∧ w'.cell? ⟨wr.heap.size, 0, none⟩ = some (.string nm) ∧ w'.cell? ⟨wr.heap.size, 1, none⟩ = some (.int .i64 m) ∧ w'.cell? ⟨wr.heap.size, 2, none⟩ = some (.int .i64 md) ∧ (Instr.lookup 73 (.map (some a)) (.string nm) false).run Try.prog w' = .ok (.iface 123 (.agg #[])) w')
              (go_keep)
              (first
              | (go_at_call 143; refine (HSH.out _).mono ?_; rintro e w2 ⟨rfl, hb2⟩; obtain ⟨q0, q1, q2, q3, q4, q5⟩ := KP.out _ _ hb2 (Only.refl _ _); obtain ⟨w3, hrun, hp3, ho3, hon3⟩ := HPUT.out _ hb2; obtain ⟨r0, r1, r2, r3, r4, r5⟩ := KP.out _ _ hb2 ho3; have HP3 := hide hp3; have HO3 := hide hon3; clear hb2 hp3 ho3 hon3)))
          all_goals
            go_wp2
            go_roundw
            case rel => exact ⟨k + 1, _, by have := HLT.out; omega, by go_num, HP3.out, HQ2.out, HLE2.out, HNO2.out, HND2.out, HO3.out⟩
            case measure => have := HLT.out; simp [intOf]; omega
      · have hkl : k = l.length := by omega
        subst hkl
        rw [List.drop_length] at hq
        have hq2 : H' = Q := hq
        subst hq2
        go_wp2
        go_ret
        exact ⟨rfl, HPO.out, HON.out⟩
  · rw [if_pos hm]
    simp only
    generalize mayF R H o l = m at *
    clear h hr hf
    unfold ptr at HMAY ⊢
    go_enter Try.func27, Try.ntmps27
    go_wp2_with fail
    refine HMAY.out.mono ?_
    rintro e w0 ⟨rfl, hb0⟩
    have HP0 := hide (HP.out.below hb0)
    have HO0 : Hid (Only (· = b) w w0) := hide (Only.below hb0)
    clear hb0
    go_wp2
    go_ret
    exact ⟨rfl, HP0.out, HO0.out⟩
end Go.Proofs.Ytkpambipgcjaiaa
