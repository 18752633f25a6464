/- The walks of Rename and Append of package disk. -/
import Derived.Test.YtgobnnciijlpaaaDoorDkC
import Derived.Test.YtgobnnciijlpaaaDoorApp
namespace Go.Proofs.YtgobnnciijlpaaaDoor
open Go.ChangeShapes Go.WideShapes Go.ChangeAt Go.RowKit Go.DsMem Go.DsDk
set_option linter.unusedVariables false

/-- a file takes another one's place -/
theorem Moved.renamed {w w' : World} {p : Nat} {v : Nat → Value} {D D' : Dk} (h : DiskAt w p v D) (ho : Only (· = p) w w') {k g : Nat} (hk : k < 8) (hg : g < 8) (hne : k ≠ g) (hb : D'.b = upd (upd D.b g (D.b k)) k [])
    (hd : DB w' p (upd (upd v g (v k)) k (.slice none 0 0)) D'.s D'.left D'.dead) (hok : D'.Ok) (hf : D'.Few) : Moved w p v w' (upd (upd v g (v k)) k (.slice none 0 0)) D' := by
  refine ⟨⟨hd, fun f h8 => ?_, fun f f2 h8 g8 hn i hi => ?_, hok, hf⟩, only_foot ho, fun i hi => ?_⟩
  · rw [hb]
    by_cases e : f = k
    · subst e; rw [upd_same, upd_same]; exact nil_own _ _
    · rw [upd_ne _ _ e, upd_ne _ _ e]
      by_cases e2 : f = g
      · subst e2; rw [upd_same, upd_same]; exact h.rows ho hk
      · rw [upd_ne _ _ e2, upd_ne _ _ e2]; exact h.rows ho h8
  · by_cases e : f = k
    · subst e; rw [upd_same] at hi; simp [Value.ownBlock] at hi
    · rw [upd_ne _ _ e] at hi
      by_cases e2 : f2 = k
      · subst e2; rw [upd_same]; simp [Value.ownBlock]
      · rw [upd_ne _ _ e2]
        by_cases e3 : f = g
        · subst e3; rw [upd_same] at hi
          rw [upd_ne _ _ (fun h => hn h.symm)]
          exact h.sep k f2 hk g8 (fun h => e2 h.symm) i hi
        · rw [upd_ne _ _ e3] at hi
          by_cases e4 : f2 = g
          · subst e4; rw [upd_same]; exact h.sep f k h8 hk e i hi
          · rw [upd_ne _ _ e4]; exact h.sep f f2 h8 g8 hn i hi
  · rcases hi with rfl | ⟨f, h8, hfi⟩
    · exact .inl (.inl rfl)
    · by_cases e : f = k
      · subst e; rw [upd_same] at hfi; simp [Value.ownBlock] at hfi
      · rw [upd_ne _ _ e] at hfi
        by_cases e3 : f = g
        · subst e3; rw [upd_same] at hfi; exact .inl (.inr ⟨k, hk, hfi⟩)
        · rw [upd_ne _ _ e3] at hfi; exact .inl (.inr ⟨f, h8, hfi⟩)

set_option maxHeartbeats 1000000 in
/-- (*Disk).Rename -/
theorem rename_any (p : Nat) (v : Nat → Value) (D : Dk) (f g : Int) (w : World) (h : DiskAt w p v D) :
    Calls Tryd.prog 69 #[.pointer (some ⟨p, 0, none⟩), .int .i64 f, .int .i64 g] w fun e w' => e = .returned (.int .i64 (D.rename f g).2) ∧ ∃ v', Moved w p v w' v' (D.rename f g).1 := by
  have hb1 := h.blk.only (Only.alloc (fun _ => False) w (.cells #[.int .i64 f, .int .i64 g] 3)) (fun h => h)
  have hst := start_any p v D [f, g] _ _ hb1 h.few (RdI.new2 w f g 3) (by simp)
  simp only [List.all_cons, List.all_nil, Bool.and_true] at hst
  have HS := hide hst
  clear hst hb1
  by_cases h0 : (D.start (okf f && okf g)).2 = 0
  · by_cases hfg : f = g
    · have HE : Hid (D.rename f g = D.start (okf f && okf g)) := by
        show D.rename f g = _
        unfold Dk.rename; rw [if_pos h0, if_pos hfg]
      have hne : (f != g) = false := by simp [hfg]
      have H0 := hide h0
      clear hfg
      go_enter Tryd.func69, Tryd.ntmps69
      go_wp2_with (go_at_call 74; refine HS.out.mono ?_; rintro e w' ⟨rfl, hdb, hon⟩; have HDB := hide hdb; clear hdb)
      go_ret
      rw [HE.out, H0.out]
      exact ⟨rfl, v, Moved.same h (Only.alloc1 hon) (start_b _ _) HDB.out (h.ok.start _) (h.few.start _)⟩
    · have hoks := start_ok h0
      rw [Bool.and_eq_true] at hoks
      obtain ⟨hf0, hf8⟩ := okf_bd hoks.1
      obtain ⟨hg0, hg8⟩ := okf_bd hoks.2
      obtain ⟨k, rfl⟩ := Int.eq_ofNat_of_zero_le hf0
      obtain ⟨j, rfl⟩ := Int.eq_ofNat_of_zero_le hg0
      have hk : k < 8 := by omega
      have hj : j < 8 := by omega
      have hkj : k ≠ j := by omega
      have HE : Hid (D.rename (k : Int) (j : Int) = ({ (D.start (okf k && okf j)).1 with b := upd (upd D.b j (D.b k)) k [], s := upd (upd D.s j (D.s k)) k 0 }, 0)) := by
        show D.rename (k : Int) (j : Int) = _
        unfold Dk.rename; rw [if_pos h0, if_neg hfg]; simp
      have hne : ((k : Int) != (j : Int)) = true := by simp; omega
      clear hoks
      obtain ⟨ao, cap, hv, hcap⟩ := own_shape (h.own k hk)
      have HV := hide hv
      clear hv
      go_enter Tryd.func69, Tryd.ntmps69
      go_wp2_with (go_at_call 74; refine HS.out.mono ?_; rintro e w' ⟨rfl, hdb, hon⟩; have hcb := hdb.bytes hk; rw [HV.out] at hcb; have hcs := hdb.safe hk; have hgb := hdb.bytes hj; have hgs := hdb.safe hj; have hfb := hdb.free (k * 2); have hfz := hdb.free (k * 2 + 1); have hgfb := hdb.free (j * 2); have hgfz := hdb.free (j * 2 + 1); have HDB := hide hdb; clear hdb)
      go_region
      all_goals go_wp2
      go_ret
      rw [HE.out]
      refine ⟨rfl, _, Moved.renamed h (((((Only.alloc1 hon).trans (Only.set _ _ _ _) (fun _ _ h => h)).trans (Only.set _ _ _ _) (fun _ _ h => h)).trans (Only.set _ _ _ _) (fun _ _ h => h)).trans (Only.set _ _ _ _) (fun _ _ h => h)).drew hk hj hkj rfl ?_ ?_ (h.few.start _)⟩
      · have := (((HDB.out.setBytes hj (.slice ao (D.b k).length cap)).setSafe hj ((D.start (okf k && okf j)).1.s k)).setBytes hk (.slice none 0 0)).setSafe hk 0
        rw [start_s, ← HV.out] at this
        rw [start_s, ← HV.out]
        exact this
      · have := h.ok.rename (k : Int) (j : Int)
        rw [HE.out] at this; exact this
  · have HE : Hid (D.rename f g = D.start (okf f && okf g)) := by show _ = _; unfold Dk.rename; rw [if_neg h0]
    have hne : ((D.start (okf f && okf g)).2 != 0) = true := by simp [h0]
    go_enter Tryd.func69, Tryd.ntmps69
    go_wp2_with (go_at_call 74; refine HS.out.mono ?_; rintro e w' ⟨rfl, hdb, hon⟩; have HDB := hide hdb; clear hdb)
    go_ret
    rw [HE.out]
    exact ⟨rfl, v, Moved.same h (Only.alloc1 hon) (start_b _ _) HDB.out (h.ok.start _) (h.few.start _)⟩

/-- a file's row has grown -/
theorem Moved.grown {w w' : World} {p : Nat} {v : Nat → Value} {D D' : Dk} (h : DiskAt w p v D) {k : Nat} (hk : k < 8) {x : Value} {b : List UInt8}
    (ho : Only (fun i => i = p ∨ (v k).ownBlock = some i) w w') (hb : D'.b = upd D.b k b) (hx : w'.ownsRow (p + 1) 5 1 x b.length (bvs b))
    (hxo : x.ownBlock = (v k).ownBlock ∨ ∀ i, x.ownBlock = some i → w.heap.size ≤ i) (hd : DB w' p (upd v k x) D'.s D'.left D'.dead) (hok : D'.Ok) (hf : D'.Few) : Moved w p v w' (upd v k x) D' := by
  have hsep : ∀ f, f < 8 → f ≠ k → ∀ i, (v f).ownBlock = some i → x.ownBlock ≠ some i := by
    intro f h8 hn i hi hxi
    rcases hxo with e | e
    · exact h.sep f k h8 hk hn i hi (e ▸ hxi)
    · have := e i hxi; have := ((h.own f h8).lt i hi).2; omega
  refine ⟨⟨hd, fun f h8 => ?_, fun f g h8 g8 hn i hi => ?_, hok, hf⟩, ho.mono (fun i _ hi => ?_), fun i hi => ?_⟩
  · rw [hb]
    by_cases e : f = k
    · subst e; rw [upd_same, upd_same]; exact hx
    · rw [upd_ne _ _ e, upd_ne _ _ e]
      refine own_only (h.own f h8) ho (fun i hi hs => ?_)
      rcases hs with rfl | hs
      · exact h.ne h8 hi rfl
      · exact h.sep f k h8 hk e i hi hs
  · by_cases e : f = k
    · subst e; rw [upd_same] at hi
      rw [upd_ne _ _ (fun h => hn h.symm)]
      exact fun hg => hsep g g8 (fun h => hn h.symm) i hg hi
    · rw [upd_ne _ _ e] at hi
      by_cases e2 : g = k
      · subst e2; rw [upd_same]; exact hsep f h8 e i hi
      · rw [upd_ne _ _ e2]; exact h.sep f g h8 g8 hn i hi
  · rcases hi with rfl | hi
    · exact .inl rfl
    · exact .inr ⟨k, hk, hi⟩
  · rcases hi with rfl | ⟨f, h8, hfi⟩
    · exact .inl (.inl rfl)
    · by_cases e : f = k
      · subst e; rw [upd_same] at hfi
        rcases hxo with e | e
        · exact .inl (.inr ⟨f, h8, e ▸ hfi⟩)
        · exact .inr (e i hfi)
      · rw [upd_ne _ _ e] at hfi; exact .inl (.inr ⟨f, h8, hfi⟩)

theorem appends_no {D : Dk} {f : Int} {b : List UInt8} (h : okf f = false) : D.append f b = (D, 1) := by simp [Dk.append, h]
theorem appends_dead {D : Dk} {f : Int} {b : List UInt8} (h : okf f = true) (hd : D.dead = true) : D.append f b = (D, 13) := by simp [Dk.append, h, hd]
theorem appends_full {D : Dk} {k : Nat} {b : List UInt8} (h : okf k = true) (hd : D.dead = false) (hb : 1048576 < b.length + (D.b k).length) : D.append (k : Int) b = (D, 4) := by simp [Dk.append, h, hd, hb]
theorem appends_yes {D : Dk} {k : Nat} {b : List UInt8} (h : okf k = true) (hd : D.dead = false) (hb : ¬ 1048576 < b.length + (D.b k).length) :
    D.append (k : Int) b = (({ D with b := upd D.b k (D.b k ++ b) } : Dk).called, D.err) := by simp [Dk.append, h, hd, hb]
theorem Moved.stay {w w' : World} {p : Nat} {v : Nat → Value} {D : Dk} (h : DiskAt w p v D) (ho : Only (fun _ => False) w w') : Moved w p v w' v D :=
  ⟨h.stays ho (fun _ _ h => h), ho.mono (fun _ _ h => h.elim), fun _ hk => .inl hk⟩

set_option maxHeartbeats 1000000 in
/-- (*Disk).Append -/
theorem append_any (p : Nat) (v : Nat → Value) (D : Dk) (f : Int) (sl : Value) (b : List UInt8) (w : World) (hAt : DiskAt w p v D) (hrd : Rd w sl b) :
    Calls Tryd.prog 23 #[.pointer (some ⟨p, 0, none⟩), .int .i64 f, sl] w fun e w' => e = .returned (.int .i64 (D.append f b).2) ∧ ∃ v', Moved w p v w' v' (D.append f b).1 := by
  have ho1 := Only.alloc (fun _ => False) w (.cells #[.int .i64 f] 3)
  have hA := hAt.stays ho1 (fun _ _ h => h)
  have hb1 := hA.blk
  have hrf := refuse_any p D.dead [f] _ _ (RdI.new1 w f 3) (by simp) hb1.deadC
  simp only [List.all_cons, List.all_nil, Bool.and_true] at hrf
  have HR := hide hrf
  clear hrf
  have HRD := hide (hrd.mono (fun a u hc => ho1.cell hc (fun h => h)))
  obtain ⟨ao, cap, rfl, hlc, _, _⟩ := hrd
  cases hok : okf f
  · have HE := hide (appends_no (D := D) (b := b) hok)
    have HO := hide hok
    clear hok
    go_enter Tryd.func23, Tryd.ntmps23
    go_wp2_with (go_at_call 54; refine HR.out.mono ?_; rintro e w' ⟨rfl, rfl⟩; rw [HO.out]; simp only [refuses])
    go_ret
    rw [HE.out]
    exact ⟨rfl, v, Moved.stay hAt ho1⟩
  cases hdd : D.dead
  · obtain ⟨hf0, hf8⟩ := okf_bd hok
    obtain ⟨k, rfl⟩ := Int.eq_ofNat_of_zero_le hf0
    have hk : k < 8 := by omega
    obtain ⟨ao2, cap2, hv, hcap⟩ := own_shape (hAt.own k hk)
    have HV := hide hv
    clear hv
    have hlen := (hAt.ok k hk).2
    have hcb := hb1.bytes hk
    rw [HV.out] at hcb
    have hfb := hb1.free (k * 2)
    have HO := hide hok
    have HDD := hide hdd
    have hlt := hAt.lt
    have HB := hide hb1
    have HA := hide hA
    have HO1 := hide ho1
    by_cases hbig : 1048576 < b.length + (D.b k).length
    · have HE := hide (appends_full (b := b) hok hdd hbig)
      clear hok hdd hA ho1 hb1
      go_enter Tryd.func23, Tryd.ntmps23
      go_wp2_with (go_at_call 54; refine HR.out.mono ?_; rintro e w' ⟨rfl, rfl⟩; rw [HO.out, HDD.out]; simp only [refuses])
      go_ret
      rw [HE.out]
      exact ⟨rfl, v, Moved.stay hAt HO1.out⟩
    · have hown1 := hA.own k hk
      rw [HV.out] at hown1
      have HOWN := hide hown1
      clear hown1
      have HE := hide (appends_yes (b := b) hok hdd hbig)
      have HNP : Hid (¬ (v k).ownBlock = some p) := fun e => hA.ne hk e rfl
      clear hok hdd hA ho1 hb1
      go_enter Tryd.func23, Tryd.ntmps23
      go_wp2_with (go_at_call 54; refine HR.out.mono ?_; rintro e w' ⟨rfl, rfl⟩; rw [HO.out, HDD.out]; simp only [refuses])
      go_region_law (refine step_append_rd (by rfl) (.tmp 35) (.tmp 36) 28 (by rfl) 5 (by exact Tryd.underlying28) (by exact info5) (p + 1) (.slice ao2 (D.b k).length cap2) (D.b k).length (D.b k) (by rfl) (by exact own_drew HOWN.out) (.slice ao b.length cap) b (by rfl) (by exact Rd.drew HRD.out) (by omega) (by simp; omega) ?_; intro v2 w2 hown2 hgrow2 hwhere2; rw [← HV.out] at hgrow2 hwhere2; have hDB2 := HB.out.drew.only (Only.grown hgrow2) HNP.out; have hc2 := hDB2.bytes hk; have hf2 := hDB2.free (k * 2); obtain ⟨ao3, cap3, rfl, _⟩ := own_shape hown2; have HG2 := hide hgrow2; have HW2 := hide hwhere2; have HO2 := hide hown2; have HDB2 := hide hDB2; clear hgrow2 hwhere2 hown2 hDB2)
      go_wp2_with (go_at_call 55; refine (call_any p (upd v k (.slice ao3 ((D.b k).length + b.length) cap3)) ({ D with b := upd D.b k (D.b k ++ b) } : Dk) _ (by exact HDB2.out.setBytes hk _) hAt.few).mono ?_; rintro e w3 ⟨rfl, hdb3, hon3⟩)
      go_ret
      rw [HE.out]
      have hon : Only (fun i => i = p ∨ (v k).ownBlock = some i) w w3 :=
        (((HO1.out.mono (T := fun i => i = p ∨ (v k).ownBlock = some i) (fun _ _ h => h.elim)).drew.trans (Only.grown HG2.out) (fun _ _ h => .inr h)).trans (Only.set w2 p (k * 2) _) (fun _ _ h => .inl h)).trans hon3 (fun _ _ h => .inl h)
      refine ⟨rfl, _, Moved.grown hAt hk hon (called_b _) ?_ ?_ hdb3 ?_ ?_⟩
      · rw [List.length_append]
        refine own_only (S := (· = p)) (w := w2) HO2.out ((Only.set w2 p (k * 2) _).trans hon3 (fun _ _ h => h)) (fun i hi e => ?_)
        have := (HO2.out.lt i hi).1
        omega
      · rcases HW2.out with e | e
        · exact .inl e
        · refine .inr fun i hi => ?_
          rw [e] at hi
          have := Option.some.inj hi
          simp at this; omega
      · have := hAt.ok.append (k : Int) b
        rw [HE.out] at this; exact this
      · have := hAt.few.append (k : Int) b
        rw [HE.out] at this; exact this
  · have HE := hide (appends_dead (b := b) hok hdd)
    have HO := hide hok
    have HDD := hide hdd
    clear hok hdd
    go_enter Tryd.func23, Tryd.ntmps23
    go_wp2_with (go_at_call 54; refine HR.out.mono ?_; rintro e w' ⟨rfl, rfl⟩; rw [HO.out, HDD.out]; simp only [refuses])
    go_ret
    rw [HE.out]
    exact ⟨rfl, v, Moved.stay hAt ho1⟩
end Go.Proofs.YtgobnnciijlpaaaDoor
