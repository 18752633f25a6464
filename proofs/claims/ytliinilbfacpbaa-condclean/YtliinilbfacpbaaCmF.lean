/- Law CondClean of layer 11. -/
import Derived.Test.YtliinilbfacpbaaCmE
namespace Go.Proofs.Ytliinilbfacpbaa
open Go.ChangeShapes Go.WideShapes Go.ChangeAt Go.RowKit Go.DsMem Go.DsCo
set_option linter.unusedVariables false
theorem clean_len (L : List Cn) (d : Int) : (cleanF L d).length ≤ L.length := List.length_filter_le _ _
theorem mem_clean (L : List Cn) (d : Int) (c : Cn) : c ∈ cleanF L d ↔ c ∈ L ∧ d ≤ c.day := by unfold cleanF; simp [List.mem_filter]
set_option maxHeartbeats 16000000 in
set_option maxRecDepth 20000 in
/-- law CondClean -/
theorem clean11 (l : List Cn) (d : Int) (uo : Option Addr) (uc : Nat) (w : World) (hl : CnsRd w uo l) (hlc : l.length ≤ uc) (hfl : ∀ x ∈ l, fitC x) :
    Calls Try.prog 5 #[.slice uo l.length uc, .int .i64 d] w fun e w' => e = .returned (.bool true) ∧ Below w.heap.size w w' := by
  have HLR := hide hl
  have HFL := hide hfl
  clear hl hfl
  obtain ⟨b, hb⟩ : ∃ b, w.heap.size = b := ⟨_, rfl⟩
  have HN := hide (cnew_any w)
  rw [hb] at HN ⊢
  unfold ptr at HN
  go_enter Try.func5, Try.ntmps5
  go_wp2_with fail
  refine HN.out.mono ?_
  rintro e w1 ⟨rfl, hs1, hb1⟩
  have HS1 := hide hs1
  have HB1 := hide hb1
  clear hs1 hb1 HN
  go_wp2
  go_loopw [6] (fun i wr => ∃ (k : Nat) (L : List Cn), k ≤ l.length ∧ i = .int .i64 k ∧ k ≤ 200 ∧ StAt wr (b + 1) b L ∧ Below b w wr) (fun i _ => 200 - (intOf i).toNat)
  case atStart => exact ⟨0, [], Nat.zero_le _, rfl, by omega, HS1.out, HB1.out⟩
  case round =>
    obtain ⟨k, L, hk, rfl, hk200, hst, hbl⟩ := hrel
    have HST := hide hst
    have HBL := hide hbl
    have hszr : b ≤ wr.heap.size := by have := hbl.size; omega
    clear hst hbl
    by_cases hlt : k < l.length ∧ k < 200
    · obtain ⟨h1, h2⟩ := hlt
      obtain ⟨g, o, rfl, hin⟩ := (HLR.out.mono (fun a u hc => Below.keeps HBL.out (by omega) hc)) k h1
      obtain ⟨x0, x1⟩ := hin
      have HA := hide (cadd_any l[k] (b + 1) b L wr HST.out (HFL.out _ (List.getElem_mem h1)))
      unfold ptr cvl at HA
      generalize l[k] = x at *
      go_wp2_with fail
      refine HA.out.mono ?_
      rintro e w2 ⟨rfl, hst2, ho2⟩
      have HST2 := hide hst2
      have HBL2 := hide (HBL.out.trans (ho2.toBelow hszr (fun i hi => by omega)))
      clear hst2 ho2 x0 x1 HA
      go_wp2
      go_roundw
      case rel => exact ⟨k + 1, _, by omega, by go_num, by omega, HST2.out, HBL2.out⟩
      case measure => simp [intOf]; omega
    · have HLI := hide (clist_any (b + 1) b L wr HST.out)
      have HCL := hide (fun w h => cclean_any d (b + 1) b L w h)
      have HHS := hide (fun c hc w h => chas_any c (b + 1) b (cleanF L d) w h hc)
      have HLN := hide (fun w h => clen_any (b + 1) b (cleanF L d) w h)
      have HMC := hide (mem_clean L d)
      have hcl := clean_len L d
      have HFN := hide HST.out.fine
      unfold ptr cvl at *
      have h128 := HST.out.fine.le
      generalize cleanF L d = M at *
      by_cases hg1 : k < l.length
      all_goals
        go_wp2_with fail
        refine HLI.out.mono ?_
        rintro e w2 ⟨g, cap, rfl, hrow, hb2⟩
        have hge := hrow.ge
        obtain ⟨cur, hcur, _, hcap, _⟩ := hrow.block
        have HROW := hide hrow
        have HST2 := hide (HST.out.below hb2)
        have HBL2 := hide (HBL.out.trans (hb2.mono hszr))
        have hgB : ¬ g = b := by have := HST.out.ltB; omega
        clear hrow hb2 HLI hcur
        go_wp2_with fail
        refine (HCL.out w2 HST2.out).mono ?_
        rintro e w3 ⟨rfl, hst3, ho3⟩
        have HST3 := hide hst3
        have HROW3 := hide (HROW.out.only ho3 hgB)
        have HBL3 := hide (HBL2.out.trans (ho3.toBelow (by have := HBL2.out.size; omega) (fun i hi => by omega)))
        clear hst3 ho3
        go_wp2
        go_loopw [9] (fun i w4 => ∃ j : Nat, j ≤ L.length ∧ i = .int .i64 j ∧ StAt w4 (b + 1) b M ∧ CnRow w4 wr.heap.size g cap L ∧ Below b w w4) (fun i _ => L.length - (intOf i).toNat)
        case atStart => exact ⟨0, Nat.zero_le _, rfl, HST3.out, HROW3.out, HBL3.out⟩
        case round =>
          rename World => w4
          obtain ⟨j, hj, rfl, hst, hrow, hbl⟩ := hrel
          have HST4 := hide hst
          have HROW4 := hide hrow
          have HBL4 := hide hbl
          have hgl := hrow.lt
          clear hst hrow hbl
          by_cases hlj : j < L.length
          · obtain ⟨g', o', e', hin⟩ := HROW4.out.rd j hlj
            obtain ⟨rfl, rfl⟩ : g = g' ∧ 0 = o' := by simpa using e'
            rw [Nat.zero_add] at hin
            have hmem : L[j] ∈ L := List.getElem_mem hlj
            have HX : Hid (L[j] ∈ M ↔ d ≤ L[j].day) := by
              refine hide ?_
              rw [HMC.out]
              exact ⟨fun h => h.2, fun h => ⟨hmem, h⟩⟩
            have HHX := hide (HHS.out L[j] (okC.fit (HFN.out.ok _ hmem)))
            have hj0 : (0 : Int) ≤ (j : Int) := by omega
            have hj1 : (j : Int) < ((L.length : Nat) : Int) := by omega
            clear hmem e'
            generalize L[j] = x at *
            obtain ⟨x0, x1⟩ := hin
            have HSTD := hide HST4.out.drew
            have KP : Hid (∀ w', Below w4.drew.heap.size w4.drew w' → w'.cell? ⟨g, j * 2, none⟩ = some (.string x.nm) ∧ w'.cell? ⟨g, j * 2 + 1, none⟩ = some (.int .i64 x.day)) := fun w' h => ⟨Below.keeps h (Nat.le_refl _) x0, Below.keeps h (Nat.le_refl _) x1⟩
            by_cases hd : d ≤ x.day
            all_goals
              first
                | rw [inB_true (HX.out.2 hd)] at HHX
                | rw [inB_false (fun h => hd (HX.out.1 h))] at HHX
              go_wp2
              first
                | (go_region_held3 (fun w' => w'.cell? ⟨g, j * 2, none⟩ = some (.string x.nm) ∧ w'.cell? ⟨g, j * 2 + 1, none⟩ = some (.int .i64 x.day))
                    (go_keep)
                    ((go_at_call 17; refine (HHX.out _ (by exact HSTD.out)).mono ?_; rintro e w5 ⟨rfl, hb5⟩; obtain ⟨y0, y1⟩ := KP.out _ hb5)))
                | fail
              have hb5 := (show Below w4.heap.size w4 w5 from ⟨hb5.os, hb5.tape, hb5.output, hb5.size, hb5.block⟩)
              have HST5 := hide (HST4.out.below hb5)
              have HROW5 := hide (HROW4.out.same (hb5.block g HROW4.out.lt))
              have HBL5 := hide (HBL4.out.trans (hb5.mono (by have := HBL4.out.size; omega)))
              clear hb5 y0 y1
              go_wp2
              go_roundw
              case rel => exact ⟨j + 1, by omega, by go_num, HST5.out, HROW5.out, HBL5.out⟩
              case measure => simp [intOf]; omega
          · go_wp2_with fail
            refine (HLN.out w4 HST4.out).mono ?_
            rintro e w5 ⟨rfl, rfl⟩
            have heq : ((M.length : Int) == (L.length : Int) - ((L.length : Int) - (M.length : Int))) = true := by simp; omega
            go_wp2_with fail
            refine (known11 w5).mono ?_
            rintro e w6 ⟨rfl, hb6⟩
            have HBL6 := hide (HBL4.out.trans (hb6.mono (by have := HBL4.out.size; omega)))
            clear hb6
            go_wp2
            go_ret
            exact ⟨rfl, HBL6.out⟩
end Go.Proofs.Ytliinilbfacpbaa
