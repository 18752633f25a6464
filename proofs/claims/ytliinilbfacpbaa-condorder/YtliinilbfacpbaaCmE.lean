/- Law CondOrder of layer 11. -/
import Derived.Test.YtliinilbfacpbaaCmD
namespace Go.Proofs.Ytliinilbfacpbaa
open Go.ChangeShapes Go.WideShapes Go.ChangeAt Go.RowKit Go.DsMem Go.DsCo
set_option linter.unusedVariables false
theorem add_mem {L : List Cn} (c : Cn) (h : L.length < 128) (x : Cn) : x ∈ (addF L c).1 ↔ x ∈ L ∨ (x = c ∧ okC c) := by
  unfold addF
  split
  · rename_i h1
    exact ⟨.inl, fun h => h.elim id (fun h => absurd h.2 h1)⟩
  · rename_i h1
    have h1 : okC c := Classical.not_not.1 h1
    split
    · rename_i h2
      exact ⟨.inl, fun h => h.elim id (fun h => h.1 ▸ h2)⟩
    · split
      · omega
      · rw [mem_insL]
        constructor
        · rintro (h | h)
          · exact .inr ⟨h, h1⟩
          · exact .inl h
        · rintro (h | h)
          · exact .inr h
          · exact .inl h.1
theorem add_len (L : List Cn) (c : Cn) : (addF L c).1.length ≤ L.length + 1 := by
  unfold addF
  split
  · simp
  · split
    · simp
    · split
      · simp
      · simp [len_insL]
set_option maxHeartbeats 16000000 in
set_option maxRecDepth 20000 in
/-- law CondOrder -/
theorem order11 (l : List Cn) (uo : Option Addr) (uc : Nat) (w : World) (hl : CnsRd w uo l) (hlc : l.length ≤ uc) (hfl : ∀ x ∈ l, fitC x) (hn : l.length ≤ 140737488355000) :
    Calls Try.prog 4 #[.slice uo l.length uc] w fun e w' => e = .returned (.bool true) ∧ Below w.heap.size w w' := by
  have HLR := hide hl
  have HFL := hide hfl
  clear hl hfl
  obtain ⟨b, hb⟩ : ∃ b, w.heap.size = b := ⟨_, rfl⟩
  have HN := hide (cnew_any w)
  rw [hb] at HN ⊢
  unfold ptr at HN
  go_enter Try.func4, Try.ntmps4
  go_wp2_with fail
  refine HN.out.mono ?_
  rintro e w1 ⟨rfl, hs1, hb1⟩
  have HS1 := hide hs1
  have HB1 := hide hb1
  have hlt1 := hs1.ltp
  have HN2 := hide (cnew_any w1)
  unfold ptr at HN2
  obtain ⟨q, hq⟩ : ∃ q, w1.heap.size = q := ⟨_, rfl⟩
  rw [hq] at HN2 hlt1
  have HQ := hide hq
  clear hs1 hb1 hq HN
  go_wp2_with fail
  refine HN2.out.mono ?_
  rintro e w2 ⟨rfl, hs2, hb2⟩
  have HS2 := hide hs2
  have HT2 : Hid (StAt w2 (b + 1) b []) := HS1.out.below (by rw [HQ.out]; exact hb2)
  have HB2 : Hid (Below b w w2) := HB1.out.trans (hb2.mono (by omega))
  clear hs2 hb2 HN2
  by_cases hbig : 128 < l.length
  · go_wp2_with fail
    refine (known11 w2).mono ?_
    rintro e w3 ⟨rfl, hb3⟩
    have HB3 := hide (HB2.out.trans (hb3.mono (by have := HB2.out.size; omega)))
    clear hb3
    go_wp2
    go_ret
    exact ⟨rfl, HB3.out⟩
  · go_wp2
    go_loopw [5] (fun i wr => ∃ (k : Nat) (L M : List Cn), k ≤ l.length ∧ i = .int .i64 k ∧ StAt wr (b + 1) b L ∧ StAt wr (q + 1) q M ∧ Below b w wr ∧ L.length ≤ k ∧ M.length ≤ k ∧ (∀ c, c ∈ L ↔ c ∈ l.take k ∧ okC c) ∧ ∀ c, c ∈ M ↔ c ∈ l.drop (l.length - k) ∧ okC c) (fun i _ => l.length - (intOf i).toNat)
    case atStart => exact ⟨0, [], [], Nat.zero_le _, rfl, HT2.out, HS2.out, HB2.out, by simp, by simp, fun c => by simp, fun c => by simp⟩
    case round =>
      obtain ⟨k, L, M, hk, rfl, hst, hst', hbl, hLk, hMk, hL, hM⟩ := hrel
      have HST := hide hst
      have HST' := hide hst'
      have HBL := hide hbl
      have HL := hide hL
      have HM := hide hM
      have hszr : b ≤ wr.heap.size := by have := hbl.size; omega
      clear hst hst' hbl hL hM
      by_cases hlt : k < l.length
      · obtain ⟨g, o, rfl, hin⟩ := (HLR.out.mono (fun a u hc => Below.keeps HBL.out (by omega) hc)) k hlt
        have hjl : l.length - 1 - k < l.length := by omega
        have HIN2 := hide (HLR.out (l.length - 1 - k) hjl)
        have hTK : l.take (k + 1) = l.take k ++ [l[k]] := List.take_succ_eq_append_getElem hlt
        have HL2 : Hid (∀ c, c ∈ (addF L l[k]).1 ↔ c ∈ l.take (k + 1) ∧ okC c) := fun c => by
          rw [add_mem _ (by omega), HL.out c, hTK, List.mem_append, List.mem_singleton]
          constructor
          · rintro (⟨h1, h2⟩ | ⟨h1, h2⟩)
            · exact ⟨.inl h1, h2⟩
            · exact ⟨.inr h1, h1 ▸ h2⟩
          · rintro ⟨h1 | h1, h2⟩
            · exact .inl ⟨h1, h2⟩
            · exact .inr ⟨h1, h1 ▸ h2⟩
        have hDR : l.drop (l.length - (k + 1)) = l[l.length - 1 - k] :: l.drop (l.length - k) := by
          rw [List.drop_eq_getElem_cons (by omega)]
          have e1 : l.length - (k + 1) = l.length - 1 - k := by omega
          have e2 : l.length - (k + 1) + 1 = l.length - k := by omega
          rw [e2]
          simp only [e1]
        have HM2 : Hid (∀ c, c ∈ (addF M l[l.length - 1 - k]).1 ↔ c ∈ l.drop (l.length - (k + 1)) ∧ okC c) := fun c => by
          rw [add_mem _ (by omega), HM.out c, hDR, List.mem_cons]
          constructor
          · rintro (⟨h1, h2⟩ | ⟨h1, h2⟩)
            · exact ⟨.inr h1, h2⟩
            · exact ⟨.inl h1, h1 ▸ h2⟩
          · rintro ⟨h1 | h1, h2⟩
            · exact .inr ⟨h1, h1 ▸ h2⟩
            · exact .inl ⟨h1, h2⟩
        have HA := hide (cadd_any l[k] (b + 1) b L wr HST.out (HFL.out _ (List.getElem_mem hlt)))
        have HA2 := hide (fun w h => cadd_any l[l.length - 1 - k] (q + 1) q M w h (HFL.out _ (List.getElem_mem hjl)))
        have HLL := hide (Nat.le_trans (add_len L l[k]) (Nat.succ_le_succ hLk))
        have HML := hide (Nat.le_trans (add_len M l[l.length - 1 - k]) (Nat.succ_le_succ hMk))
        unfold ptr cvl at HA HA2
        have hj : (l.length : Int) - 1 - (k : Int) = ((l.length - 1 - k : Nat) : Int) := by omega
        have HJL := hide hjl
        clear hTK hDR
        generalize l[k] = x at *
        generalize l[l.length - 1 - k] = y at *
        generalize l.length - 1 - k = j at *
        obtain ⟨x0, x1⟩ := hin
        go_wp2_with fail
        refine HA.out.mono ?_
        rintro e w3 ⟨rfl, hst3, ho3⟩
        have HST3 := hide hst3
        have HST3' := hide (HST'.out.only ho3 (by omega) (by omega))
        have HBL3 := hide (HBL.out.trans (ho3.toBelow hszr (fun i hi => by omega)))
        clear hst3 ho3 x0 x1 HA
        obtain ⟨g', o', e', hin⟩ := HIN2.out
        have hin := hin.mono (fun a u hc => Below.keeps HBL3.out (by omega) hc)
        obtain ⟨rfl, rfl⟩ : g = g' ∧ o = o' := by simpa using e'
        obtain ⟨x0, x1⟩ := hin
        have hjl' := HJL.out
        clear e'
        go_wp2_with fail
        refine (HA2.out w3 HST3'.out).mono ?_
        rintro e w4 ⟨rfl, hst4, ho4⟩
        have HST4 := hide hst4
        have HST4' := hide (HST3.out.only ho4 (by omega) (by omega))
        have HBL4 := hide (HBL3.out.trans (ho4.toBelow (by have := HBL3.out.size; omega) (fun i hi => by omega)))
        clear hst4 ho4 x0 x1 HA2 hj
        go_wp2
        go_roundw
        case rel => exact ⟨k + 1, _, _, by omega, by go_num, HST4'.out, HST4.out, HBL4.out, HLL.out, HML.out, HL2.out, HM2.out⟩
        case measure => simp [intOf]; omega
      · have hLM : L = M := up_ext HST.out.fine.up HST'.out.fine.up fun c => by
          rw [HL.out c, HM.out c, List.take_of_length_le (by omega), show l.length - k = 0 by omega, List.drop_zero]
        subst hLM
        have HLI := hide (clist_any (b + 1) b L wr HST.out)
        have HLI2 := hide (fun w h => clist_any (q + 1) q L w h)
        unfold ptr at HLI HLI2
        have h128 := HST.out.fine.le
        go_wp2_with fail
        refine HLI.out.mono ?_
        rintro e w3 ⟨g, cap, rfl, hrow, hb3⟩
        obtain ⟨cur, _, _, hcap, _⟩ := hrow.block
        have HROW := hide hrow
        have HST3 := hide (HST'.out.below hb3)
        have HBL3 := hide (HBL.out.trans (hb3.mono hszr))
        clear hrow hb3
        go_wp2_with fail
        refine (HLI2.out w3 HST3.out).mono ?_
        rintro e w4 ⟨g', cap', rfl, hrow, hb4⟩
        obtain ⟨cur', _, _, hcap', _⟩ := hrow.block
        have HRD1 := hide (HROW.out.same (hb4.block g HROW.out.lt)).rd
        have HRD2 := hide hrow.rd
        have HBL4 := hide (HBL3.out.trans (hb4.mono (by have := HBL3.out.size; omega)))
        clear hrow hb4
        go_wp2_with fail
        refine (csame_any L L _ _ cap cap' w4 HRD1.out HRD2.out hcap hcap' (by omega)).mono ?_
        rintro e w5 ⟨rfl, hb5⟩
        rw [eqB_true rfl]
        have HBL5 := hide (HBL4.out.trans (hb5.mono (by have := HBL4.out.size; omega)))
        clear hb5
        go_wp2_with fail
        refine (known11 w5).mono ?_
        rintro e w6 ⟨rfl, hb6⟩
        have HBL6 := hide (HBL5.out.trans (hb6.mono (by have := HBL5.out.size; omega)))
        clear hb6
        go_wp2
        go_ret
        exact ⟨rfl, HBL6.out⟩
end Go.Proofs.Ytliinilbfacpbaa
