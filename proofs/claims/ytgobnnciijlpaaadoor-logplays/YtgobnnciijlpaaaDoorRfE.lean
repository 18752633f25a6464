/- The walk of Crash of dayshiftref03. -/
import Derived.Test.YtgobnnciijlpaaaDoorRfB
namespace Go.Proofs.YtgobnnciijlpaaaDoor
open Go.ChangeShapes Go.WideShapes Go.ChangeAt Go.RowKit Go.DsMem Go.DsDk
set_option linter.unusedVariables false

theorem RefAt.alike {w : World} {S : Nat → Prop} {r g : Nat} {v : Nat → Value} {D E : Dk} (h : RefAt w S r g v D) (he : Dk.alike D E) : RefAt w S r g v E := by
  obtain ⟨h1, h2, h3⟩ := he
  refine ⟨by rw [h2, h3]; exact h.hd, ?_, h.ne, fun k hk => by rw [(h1 k hk).1]; exact h.rd k hk, h.inn, h.sr, h.sg, h.lt, fun f hf => by rw [(h1 f hf).1, (h1 f hf).2]; exact h.ok f hf, by unfold Dk.Few; rw [h2]; exact h.few⟩
  have e : fcells v D.s = fcells v E.s := by
    unfold fcells
    rw [(h1 0 (by decide)).2, (h1 1 (by decide)).2, (h1 2 (by decide)).2, (h1 3 (by decide)).2, (h1 4 (by decide)).2, (h1 5 (by decide)).2, (h1 6 (by decide)).2, (h1 7 (by decide)).2]
  unfold RF
  rw [← e]
  exact h.fl
theorem RMoved.alike {w w' : World} {S : Nat → Prop} {r g : Nat} {v' : Nat → Value} {D E : Dk} (h : RMoved w S r g w' v' D) (he : Dk.alike D E) : RMoved w S r g w' v' E := ⟨h.dk.alike he, h.only⟩
theorem rcut_end {w : World} {o : Obj} {S : Nat → Prop} {r g k n : Nat} {v : Nat → Value} {D : Dk} {ao : Option Addr} {cap : Nat} {x : Int} (h : RefAt w S r g v D) (hk : k < 8) (hv : v k = .slice ao (D.b k).length cap) (hn : n ≤ (D.b k).length) (hx : x = n) :
    RMoved w S r g (((w.setCell ⟨g, k * 2, none⟩ (.slice ao n n)).setCell ⟨g, k * 2 + 1, none⟩ (.int .i64 x)).alloc o).drew (upd v k (.slice ao n n)) (D.cutTo k n) := by
  subst hx
  have hon : Only (· = g) w (((w.setCell ⟨g, k * 2, none⟩ (.slice ao n n)).setCell ⟨g, k * 2 + 1, none⟩ (.int .i64 (n : Int))).alloc o) := ((Only.set _ _ _ _).trans (Only.set _ _ _ _) fun _ _ e => e).trans (Only.alloc _ _ _) fun _ _ e => e
  have hon1 : Only (fun i => i = r ∨ i = g) w (((w.setCell ⟨g, k * 2, none⟩ (.slice ao n n)).setCell ⟨g, k * 2 + 1, none⟩ (.int .i64 (n : Int))).alloc o) := hon.mono fun _ _ e => .inr e
  have hlen : ((D.b k).take n).length = n := by rw [List.length_take]; omega
  refine RMoved.mk' h hon1.drew (h.hd.only (S := (· = g)) hon.drew h.ne) (((h.fl.setBytes hk (.slice ao n n)).setSafe hk n).only (S := fun _ => False) (Only.alloc _ _ _).drew (fun h => h)) (fun i hi => ?_) (fun i hi => ?_) (h.ok.cutTo k n hn) h.few
  · show Rd _ _ (upd D.b k ((D.b k).take n) i)
    by_cases e : i = k
    · subst e
      rw [upd_same, upd_same]
      obtain ⟨ao', cap', he, hl, hnl, hr⟩ := h.rows hon1 hk
      rw [hv] at he
      simp only [Value.slice.injEq] at he
      obtain ⟨rfl, _, rfl⟩ := he
      refine ⟨ao, n, by rw [hlen], by omega, fun h0 => by have := hnl h0; omega, fun a ha j u hu => ?_⟩
      rw [List.getElem?_take] at hu
      split at hu
      · exact hr a ha j u hu
      · cases hu
    · rw [upd_ne _ _ e, upd_ne _ _ e]
      exact h.rows hon1 hi
  · by_cases e : i = k
    · subst e
      rw [upd_same]
      intro a m c he
      simp only [Value.slice.injEq] at he
      obtain ⟨rfl, _, _⟩ := he
      obtain ⟨h1, h2⟩ := h.inn i hk a _ _ hv
      exact ⟨.inl h1, h2⟩
    · rw [upd_ne _ _ e]; exact (h.inn i hi).mono fun i hi => ⟨.inl hi.1, hi.2⟩

set_option maxHeartbeats 4000000 in
set_option maxRecDepth 20000 in
/-- Crash -/
theorem rcrash_any (S : Nat → Prop) (r g : Nat) (v : Nat → Value) (D : Dk) (keep : List Int) (sl : Value) (w : World) (h : RefAt w S r g v D) (hk : RdI w sl keep) (hT : 0 < keep.length → InT (fun k => k ≠ r ∧ k ≠ g) sl) :
    Calls Tryd.prog 26 #[.pointer (some ⟨r, 0, none⟩), sl] w fun e w' => e = .returned (.tuple #[]) ∧ ∃ v', RMoved w S r g w' v' (D.crash keep) := by
  obtain ⟨ao, cap, rfl, hlc, hnil, hrd⟩ := hk
  go_enter Tryd.func26, Tryd.ntmps26
  go_wp2
  go_loopw [4] (fun i wr => ∃ k : Nat, k ≤ 8 ∧ i = .int .i64 k ∧ ∃ v', RMoved w S r g wr v' (cutAll D keep k)) (fun i _ => 8 - (intOf i).toNat)
  case atStart => exact ⟨0, Nat.zero_le _, rfl, v, RMoved.refl h⟩
  case round =>
    obtain ⟨k, hk8, rfl, v', hmv⟩ := hrel
    obtain ⟨fc, hfc, hc0⟩ := hmv.dk.hd.filesC
    by_cases hlt : k < 8
    · have HC : Hid (∀ (st : Int) (n : Nat), st.toNat = (keep.getD k 0).toNat → n = (cutAll D keep k).s k + Nat.min st.toNat (((cutAll D keep k).b k).length - (cutAll D keep k).s k) → (cutAll D keep k).cutTo k n = cutAll D keep (k + 1)) := by
        intro st n hst hn
        have e1 := cutAll_b D keep k k
        have e2 := cutAll_s D keep k k
        rw [if_neg (Nat.lt_irrefl _)] at e1 e2
        rw [hn, e1, e2, hst]
        rfl
      have hlen := (hmv.dk.ok k hlt).2
      have hsafe := (hmv.dk.ok k hlt).1
      obtain ⟨bo, bc, hv, hbc, -⟩ := hmv.dk.rd k hlt
      have hcb := hmv.dk.fl.bytes hlt
      rw [hv] at hcb
      have hcs := hmv.dk.fl.safe hlt
      have hfb := hmv.dk.fl.free (k * 2)
      have hfs := hmv.dk.fl.free (k * 2 + 1)
      have hr1 := hmv.dk.hd.lt
      have hg1 := hmv.dk.fl.lt
      have hne := h.ne
      have HV := hide hv
      have HM := hide hmv
      generalize hE : cutAll D keep k = E at *
      generalize hlk : (E.b k).length = ln at *
      generalize hsk : E.s k = sk at *
      have HLK := hide hlk
      have HSK := hide hsk
      have HE := hide hE
      by_cases hin : k < keep.length
      · obtain ⟨a, rfl⟩ : ∃ a, ao = some a := by
          cases ao with
          | none => have := hnil rfl; omega
          | some a => exact ⟨a, rfl⟩
        have hc := hmv.only.cell (hrd a rfl k keep[k] (List.getElem?_eq_getElem hin)) (by rw [add_block]; intro e; have := hT (by omega) a _ _ rfl; rcases e with e | e; exact this.1 e; exact this.2 e)
        obtain ⟨st, hst⟩ : ∃ st, st = keep[k] := ⟨_, rfl⟩
        rw [← hst] at hc
        have HN := hide (fun n => HC.out st n (by rw [getD_of hin, hst]))
        clear hrd hnil hst hmv hv hE hlk hsk HC
        by_cases hpos : 0 < st
        · by_cases hfew : st ≤ (ln : Int) - (sk : Int)
          · obtain ⟨n, hn⟩ : ∃ n : Nat, (sk : Int) + st = (n : Int) := ⟨sk + st.toNat, by omega⟩
            have hnl : n ≤ ln := by omega
            go_wp2
            go_region
            have HFIN := hide (HM.out.trans (rcut_end (n := n) (o := .cells #[.slice bo ln bc, .int .i64 sk] 95) HM.out.dk hlt (by rw [HLK.out]; exact HV.out) (by rw [HLK.out]; exact hnl) rfl))
            have HN2 := hide (HN.out n (by simp only [Nat.min_def]; split <;> omega))
            clear hcb hcs hfb hfs hc0
            go_wp2
            go_roundw
            case rel =>
              refine ⟨k + 1, by omega, by go_num, upd v' k (.slice bo n n), ?_⟩
              rw [← HN2.out]
              exact HFIN.out
            case measure => simp [intOf]; omega
          · obtain ⟨n, hn⟩ : ∃ n : Nat, (sk : Int) + ((ln : Int) - (sk : Int)) = (n : Int) := ⟨ln, by omega⟩
            have hnl : n ≤ ln := by omega
            go_wp2
            go_region
            have HFIN := hide (HM.out.trans (rcut_end (n := n) (o := .cells #[.slice bo ln bc, .int .i64 sk] 95) HM.out.dk hlt (by rw [HLK.out]; exact HV.out) (by rw [HLK.out]; exact hnl) rfl))
            have HN2 := hide (HN.out n (by simp only [Nat.min_def]; split <;> omega))
            clear hcb hcs hfb hfs hc0
            go_wp2
            go_roundw
            case rel =>
              refine ⟨k + 1, by omega, by go_num, upd v' k (.slice bo n n), ?_⟩
              rw [← HN2.out]
              exact HFIN.out
            case measure => simp [intOf]; omega
        · obtain ⟨n, hn⟩ : ∃ n : Nat, (sk : Int) + 0 = (n : Int) := ⟨sk, by omega⟩
          have hnl : n ≤ ln := by omega
          have hz : ¬ (ln : Int) - (sk : Int) < 0 := by omega
          go_wp2
          go_region
          have HFIN := hide (HM.out.trans (rcut_end (n := n) (o := .cells #[.slice bo ln bc, .int .i64 sk] 95) HM.out.dk hlt (by rw [HLK.out]; exact HV.out) (by rw [HLK.out]; exact hnl) rfl))
          have HN2 := hide (HN.out n (by simp only [Nat.min_def]; split <;> omega))
          clear hcb hcs hfb hfs hc0
          go_wp2
          go_roundw
          case rel =>
            refine ⟨k + 1, by omega, by go_num, upd v' k (.slice bo n n), ?_⟩
            rw [← HN2.out]
            exact HFIN.out
          case measure => simp [intOf]; omega
      · have HN := hide (fun n => HC.out 0 n (by simp [List.getD, List.getElem?_eq_none (show keep.length ≤ k by omega)]))
        clear hrd hnil hmv hv hE hlk hsk HC
        obtain ⟨n, hn⟩ : ∃ n : Nat, (sk : Int) + 0 = (n : Int) := ⟨sk, by omega⟩
        have hnl : n ≤ ln := by omega
        have hz : ¬ (ln : Int) - (sk : Int) < 0 := by omega
        go_wp2
        go_region
        have HFIN := hide (HM.out.trans (rcut_end (n := n) (o := .cells #[.slice bo ln bc, .int .i64 sk] 95) HM.out.dk hlt (by rw [HLK.out]; exact HV.out) (by rw [HLK.out]; exact hnl) rfl))
        have HN2 := hide (HN.out n (by simp only [Nat.min_def]; split <;> omega))
        clear hcb hcs hfb hfs hc0
        go_wp2
        go_roundw
        case rel =>
          refine ⟨k + 1, by omega, by go_num, upd v' k (.slice bo n n), ?_⟩
          rw [← HN2.out]
          exact HFIN.out
        case measure => simp [intOf]; omega
    · obtain rfl : k = 8 := by omega
      have hl := hmv.dk.hd.leftC
      have hd := hmv.dk.hd.deadC
      have hf1 := hmv.dk.hd.free 1
      have hf2 := hmv.dk.hd.free 2
      have HM := hide hmv
      clear hmv hrd hnil hT
      go_wp2
      go_end0
      have hM := HM.out.dk
      have hon : Only (· = r) wr ((wr.setCell ⟨r, 1, none⟩ (.int .i64 0)).setCell ⟨r, 2, none⟩ (.bool false)) := (Only.set _ _ _ _).trans (Only.set _ _ _ _) fun _ _ e => e
      exact ⟨rfl, v', (HM.out.trans (RMoved.same (D' := ({ (cutAll D keep 8) with left := 0, dead := false } : Dk)) hM (hon.mono fun _ _ e => .inl e) rfl ((hM.hd.setLeft 0).setDead false) (hM.fl.only hon (fun e => hM.ne e.symm)) hM.ok (Nat.zero_le _))).alike (crash_alike D keep)⟩
end Go.Proofs.YtgobnnciijlpaaaDoor
