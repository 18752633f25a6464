/- Package cal: the walk of meet. -/
import Derived.Test.YthbfjkdklnffjaaDoorCdD
namespace Go.Proofs.YthbfjkdklnffjaaDoor
open Go.ChangeShapes Go.WideShapes Go.ChangeAt Go.RowKit Go.DsMem Go.DsMk
set_option linter.unusedVariables false

theorem NBox.only {w w' : World} {pw p : Nat} {op : Int} {no : Option Addr} {nl nc : Nat} {ko : Option Addr} {kl kc : Nat} {nm : ByteArray} (h : NBox w p op no nl nc ko kl kc nm) (ho : Only (· = pw) w w') (hn : ¬ p = pw) : NBox w' p op no nl nc ko kl kc nm :=
  ⟨ho.cell h.c0 hn, ho.cell h.c1 hn, ho.cell h.c2 hn, ho.cell h.c3 hn⟩
/-- kids up to one -/
def metK (cs : List (ByteArray × Nd)) (f refs : Nat) (inw : Bool) (m : Nat) (l : List Nd) : Int × Nat := l.foldl (fun st k => if st.1 ≠ 0 then st else meetF cs f k refs inw st.2) (0, m)
theorem metK_snoc (cs : List (ByteArray × Nd)) (f refs : Nat) (inw : Bool) (m : Nat) (l : List Nd) (k : Nd) (h : (metK cs f refs inw m l).1 = 0) : metK cs f refs inw m (l ++ [k]) = meetF cs f k refs inw (metK cs f refs inw m l).2 := by
  unfold metK at *
  rw [List.foldl_append]
  simp only [List.foldl_cons, List.foldl_nil]
  rw [if_neg (by rw [h]; simp)]
theorem metK_err (cs : List (ByteArray × Nd)) (f refs : Nat) (inw : Bool) (m : Nat) (l r : List Nd) (h : (metK cs f refs inw m l).1 ≠ 0) : metK cs f refs inw m (l ++ r) = metK cs f refs inw m l := by
  unfold metK at *
  rw [List.foldl_append]
  generalize l.foldl (fun st k => if st.1 ≠ 0 then st else meetF cs f k refs inw st.2) (0, m) = st at *
  induction r with
  | nil => rfl
  | cons k r ih => simp only [List.foldl_cons]; rw [if_pos h]; exact ih
theorem metK_small (cs : List (ByteArray × Nd)) (f refs : Nat) (inw : Bool) (m : Nat) (hm : m ≤ 256) (l : List Nd) : (metK cs f refs inw m l).1 = 0 → (metK cs f refs inw m l).2 ≤ 256 := by
  have := foldl_keep (fun a b : Int × Nat => (a.1 = 0 → a.2 ≤ 256) → (b.1 = 0 → b.2 ≤ 256)) (fun _ h => h) (fun _ _ _ h1 h2 h => h2 (h1 h)) (fun st k => if st.1 ≠ 0 then st else meetF cs f k refs inw st.2) l (fun a k _ => by
    show (a.1 = 0 → a.2 ≤ 256) → ((if a.1 ≠ 0 then a else meetF cs f k refs inw a.2).1 = 0 → (if a.1 ≠ 0 then a else meetF cs f k refs inw a.2).2 ≤ 256)
    intro ha
    split
    · exact ha
    · exact meetF_small cs f k refs inw a.2) (0, m)
  exact this (fun _ => hm)
theorem metK_up (cs : List (ByteArray × Nd)) (f refs : Nat) (inw : Bool) (m : Nat) (l : List Nd) : m ≤ (metK cs f refs inw m l).2 :=
  foldl_keep (fun a b : Int × Nat => a.2 ≤ b.2) (fun _ => Nat.le_refl _) (fun _ _ _ => Nat.le_trans) (fun st k => if st.1 ≠ 0 then st else meetF cs f k refs inw st.2) l (fun a k _ => by
    show a.2 ≤ (if a.1 ≠ 0 then a else meetF cs f k refs inw a.2).2
    split
    · exact Nat.le_refl _
    · exact Nat.le_of_lt (meetF_up cs f k refs inw a.2)) (0, m)

theorem block_lt_cell {w : World} {p k : Nat} {v : Value} (h : w.cell? ⟨p, k, none⟩ = some v) : p < w.heap.size := World.block_lt_of_cell? w _ h
/-- the world behind the first rows of meet -/
theorem met_world {w : World} {pw : Nat} {co : Option Addr} {cl cc met : Nat} (h : WkAt w pw co cl cc met) (op : Int) (no : Option Addr) (nl nc : Nat) (ko : Option Addr) (kl kc : Nat) (nm : ByteArray) (refs : Nat) (inw : Bool) :
    WkAt (((w.setCell ⟨pw, 1, none⟩ (.int .i64 ((met : Int) + 1))).alloc (.cells #[.int .i64 op, .slice no nl nc, .slice ko kl kc, .string nm] 31)).alloc (.cells #[.int .i64 refs, .bool inw] 65)) pw co cl cc (met + 1) ∧
    Only (· = pw) w (((w.setCell ⟨pw, 1, none⟩ (.int .i64 ((met : Int) + 1))).alloc (.cells #[.int .i64 op, .slice no nl nc, .slice ko kl kc, .string nm] 31)).alloc (.cells #[.int .i64 refs, .bool inw] 65)) ∧
    NBox (((w.setCell ⟨pw, 1, none⟩ (.int .i64 ((met : Int) + 1))).alloc (.cells #[.int .i64 op, .slice no nl nc, .slice ko kl kc, .string nm] 31)).alloc (.cells #[.int .i64 refs, .bool inw] 65)) w.heap.size op no nl nc ko kl kc nm ∧
    (((w.setCell ⟨pw, 1, none⟩ (.int .i64 ((met : Int) + 1))).alloc (.cells #[.int .i64 op, .slice no nl nc, .slice ko kl kc, .string nm] 31)).alloc (.cells #[.int .i64 refs, .bool inw] 65)).heap[w.heap.size + 1]? = some (.cells #[.int .i64 refs, .bool inw] 65 (0, 0)) := by
  have hs := h.set (met + 1)
  have ec : (((met + 1 : Nat) : Int)) = (met : Int) + 1 := by omega
  rw [ec] at hs
  obtain ⟨wS, hwS⟩ : ∃ wS, wS = w.setCell ⟨pw, 1, none⟩ (.int .i64 ((met : Int) + 1)) := ⟨_, rfl⟩
  have hz : wS.heap.size = w.heap.size := by rw [hwS]; simp [World.setCell]
  have ho : Only (· = pw) w wS := by rw [hwS]; exact Only.set _ _ _ _
  rw [← hwS] at hs ⊢
  clear hwS
  have hA := Only.alloc (fun k => k = pw) wS (.cells #[.int .i64 op, .slice no nl nc, .slice ko kl kc, .string nm] 31)
  have hbx := NBox.new wS op no nl nc ko kl kc nm
  rw [hz] at hbx
  obtain ⟨wT, hwT⟩ : ∃ wT, wT = wS.alloc (.cells #[.int .i64 op, .slice no nl nc, .slice ko kl kc, .string nm] 31) := ⟨_, rfl⟩
  have hzT : wT.heap.size = w.heap.size + 1 := by rw [hwT]; simp [hz]
  have hsT : WkAt wT pw co cl cc (met + 1) := by rw [hwT]; exact hs.below ((Below.refl _ _).alloc (Nat.le_refl _) _)
  rw [← hwT] at hA hbx ⊢
  clear hwT
  have hN := heap_alloc_new wT (.cells #[.int .i64 refs, .bool inw] 65)
  rw [hzT] at hN
  exact ⟨hsT.below ((Below.refl _ _).alloc (Nat.le_refl _) _), (ho.trans hA (fun _ _ h => h)).trans (Only.alloc (fun k => k = pw) wT _) (fun _ _ h => h), hbx.below ((Below.refl _ _).alloc (Nat.le_refl _) _), hN⟩
set_option maxHeartbeats 8000000 in
set_option maxRecDepth 20000 in
/-- cal.walk.meet -/
theorem meet_step (f : Nat) (ih : MeetOk f) : MeetOk (f + 1) := by
  intro t v refs inw met W w pw co cc cs g o V h hp hv hc hw hm hf hr
  have HIH := hide ih
  have HG := hide h
  have HC := hide hc
  have HW := hide hw
  clear ih h hc hw
  obtain ⟨op, ns, kids, nm, no, nc, ko, kc, kg, kO, K, hn, hnl, hkl, hkc, hko, hcs, hks⟩ := hv
  have HCS := hide hcs
  have HKS := hide hks
  have HKO := hide hko
  clear hn hcs hks hko
  have HMF : Hid (meetF cs (f + 1) (.mk op ns kids nm) refs inw met = if 256 < met + 1 ∨ (op = 5 ∧ inw = true) then (23, met + 1) else if op = 10 ∨ op = 5 then followF cs f nm op refs inw (met + 1) else metK cs f refs inw (met + 1) kids) := by
    show _ = _
    unfold meetF followF metK
    rfl
  unfold NVal.val
  simp only
  unfold ndV spV
  have hpw : pw < w.heap.size := block_lt HW.out
  obtain ⟨k1, f1⟩ := HW.out.c1
  have ne4 : ¬ pw = w.heap.size := by omega
  have ne5 : ¬ pw = w.heap.size + 1 := by omega
  have ne4' : ¬ w.heap.size = pw := by omega
  have ne5' : ¬ w.heap.size + 1 = pw := by omega
  by_cases c1 : 256 < met + 1
  · have HR : Hid (meetF cs (f + 1) (.mk op ns kids nm) refs inw met = (23, met + 1)) := by show _ = _; rw [HMF.out, if_pos (.inl c1)]
    have c1' : (256 : Int) < (met : Int) + 1 := by omega
    go_enter Tryd.func24, Tryd.ntmps24
    go_wp2
    go_ret
    obtain ⟨hwk, hon, -, -⟩ := met_world HW.out op no ns.length nc ko kids.length kc nm refs inw
    exact Met.of ⟨ret_int (by rw [HR.out]), by rw [HR.out]; exact hwk, hon⟩
  have c1' : ¬ (256 : Int) < (met : Int) + 1 := by omega
  by_cases c2 : op = 5 ∧ inw = true
  · have HR : Hid (meetF cs (f + 1) (.mk op ns kids nm) refs inw met = (23, met + 1)) := by show _ = _; rw [HMF.out, if_pos (.inr c2)]
    obtain ⟨rfl, rfl⟩ := c2
    go_enter Tryd.func24, Tryd.ntmps24
    go_wp2
    go_ret
    obtain ⟨hwk, hon, -, -⟩ := met_world HW.out 5 no ns.length nc ko kids.length kc nm refs true
    exact Met.of ⟨ret_int (by rw [HR.out]), by rw [HR.out]; exact hwk, hon⟩
  by_cases c5 : op = 5
  · have HR : Hid (meetF cs (f + 1) (.mk op ns kids nm) refs inw met = followF cs f nm op refs inw (met + 1)) := by show _ = _; rw [HMF.out, if_neg (fun h => h.elim c1 c2), if_pos (.inr c5)]
    obtain rfl : inw = false := by cases inw <;> simp_all
    subst c5
    clear c2
    go_enter Tryd.func24, Tryd.ntmps24
    go_wp2_with fail
    obtain ⟨wA, hwA⟩ : ∃ wA, wA = ((w.setCell ⟨pw, 1, none⟩ (.int .i64 ((met : Int) + 1))).alloc (.cells #[.int .i64 5, .slice no ns.length nc, .slice ko kids.length kc, .string nm] 31)).alloc (.cells #[.int .i64 refs, .bool false] 65) := ⟨_, rfl⟩
    obtain ⟨hwk, hon, hbx, hsp⟩ := met_world HW.out 5 no ns.length nc ko kids.length kc nm refs false
    rw [← hwA] at hwk hon hbx hsp
    rw [← hwA]
    have HWK := hide hwk
    have HON := hide hon
    clear hwk hon hbx hsp hwA
    have HCALL := hide (follow_step f HIH.out 5 no ns.length nc ko kids.length kc nm refs false (met + 1) W wA pw co cc cs g o V (Only.gc HG.out HON.out hp) hp HC.out HWK.out (by omega) (by omega) hr)
    unfold ndV spV at HCALL
    refine HCALL.out.mono ?_
    rintro e w2 ⟨rfl, hwk, hon⟩
    have HWK2 := hide hwk
    have HON2 := hide hon
    clear hwk hon
    go_wp2
    go_ret
    exact Met.of ⟨ret_int (by rw [HR.out]), by rw [HR.out]; exact HWK2.out, HON.out.trans HON2.out (fun _ _ h => h)⟩
  by_cases c10 : op = 10
  · have HR : Hid (meetF cs (f + 1) (.mk op ns kids nm) refs inw met = followF cs f nm op refs inw (met + 1)) := by show _ = _; rw [HMF.out, if_neg (fun h => h.elim c1 c2), if_pos (.inl c10)]
    subst c10
    clear c2 c5
    go_enter Tryd.func24, Tryd.ntmps24
    go_wp2_with fail
    obtain ⟨wA, hwA⟩ : ∃ wA, wA = ((w.setCell ⟨pw, 1, none⟩ (.int .i64 ((met : Int) + 1))).alloc (.cells #[.int .i64 10, .slice no ns.length nc, .slice ko kids.length kc, .string nm] 31)).alloc (.cells #[.int .i64 refs, .bool inw] 65) := ⟨_, rfl⟩
    obtain ⟨hwk, hon, hbx, hsp⟩ := met_world HW.out 10 no ns.length nc ko kids.length kc nm refs inw
    rw [← hwA] at hwk hon hbx hsp
    rw [← hwA]
    have HWK := hide hwk
    have HON := hide hon
    clear hwk hon hbx hsp hwA
    have HCALL := hide (follow_step f HIH.out 10 no ns.length nc ko kids.length kc nm refs inw (met + 1) W wA pw co cc cs g o V (Only.gc HG.out HON.out hp) hp HC.out HWK.out (by omega) (by omega) hr)
    unfold ndV spV at HCALL
    refine HCALL.out.mono ?_
    rintro e w2 ⟨rfl, hwk, hon⟩
    have HWK2 := hide hwk
    have HON2 := hide hon
    clear hwk hon
    go_wp2
    go_ret
    exact Met.of ⟨ret_int (by rw [HR.out]), by rw [HR.out]; exact HWK2.out, HON.out.trans HON2.out (fun _ _ h => h)⟩
  have HR : Hid (meetF cs (f + 1) (.mk op ns kids nm) refs inw met = metK cs f refs inw (met + 1) kids) := by show _ = _; rw [HMF.out, if_neg (fun h => h.elim c1 c2), if_neg (by omega)]
  have b5 : (op == 5) = false := by simpa using c5
  have b10 : (op == 10) = false := by simpa using c10
  clear c2 c5 c10
  go_enter Tryd.func24, Tryd.ntmps24
  go_wp2
  obtain ⟨wA, hwA⟩ : ∃ wA, wA = ((w.setCell ⟨pw, 1, none⟩ (.int .i64 ((met : Int) + 1))).alloc (.cells #[.int .i64 op, .slice no ns.length nc, .slice ko kids.length kc, .string nm] 31)).alloc (.cells #[.int .i64 refs, .bool inw] 65) := ⟨_, rfl⟩
  obtain ⟨hwk, hon, hbx, hsp⟩ := met_world HW.out op no ns.length nc ko kids.length kc nm refs inw
  rw [← hwA] at hwk hon hbx hsp
  rw [← hwA]
  have HWK := hide hwk
  have HON := hide hon
  have HSP := hide hsp
  have HZA : Hid (w.heap.size < wA.heap.size) := block_lt_cell hbx.c0
  clear hwk hon hbx hsp hwA
  generalize hp5 : w.heap.size + 1 = p5 at HSP ⊢
  go_loopw [46] (fun t wr => ∃ i : Nat, i ≤ kids.length ∧ t = .int .i64 i ∧ (metK cs f refs inw (met + 1) (kids.take i)).1 = 0 ∧ WkAt wr pw co cs.length cc (metK cs f refs inw (met + 1) (kids.take i)).2 ∧ Only (· = pw) wA wr) (fun t _ => kids.length - (intOf t).toNat)
  case atStart => exact ⟨0, Nat.zero_le _, rfl, rfl, HWK.out, Only.refl _ _⟩
  case round =>
    obtain ⟨i, hi, rfl, hm0, hwk, hon⟩ := hrel
    have HM0 := hide hm0
    have HWKr := hide hwk
    have HONr := hide hon
    have HSM := hide (metK_small cs f refs inw (met + 1) (by omega) (kids.take i) hm0)
    have HUP := hide (metK_up cs f refs inw (met + 1) (kids.take i))
    clear hm0 hwk hon
    have HGr : Hid (Gc W wr) := Only.gc (Only.gc HG.out HON.out hp) HONr.out hp
    by_cases hlt : i < kids.length
    · obtain rfl := HKO.out (by omega)
      have HBW : Hid (∀ a u, W.cell? a = some u → wr.cell? a = some u) := fun a u hc => Below.keeps HGr.out.below (Nat.le_refl _) hc
      have hin := (HCS.out i hlt).mono HBW.out
      obtain ⟨n0, n1, n2, n3⟩ := hin
      have hspr : wr.heap[p5]? = some (.cells #[.int .i64 refs, .bool inw] 65 (0, 0)) := by rw [HONr.out.block p5 (block_lt HSP.out) (by omega)]; exact HSP.out
      have s0 : wr.cell? ⟨p5, 0, none⟩ = some (.int .i64 refs) := by rw [cell_of hspr]; rfl
      have s1 : wr.cell? ⟨p5, 1, none⟩ = some (.bool inw) := by rw [cell_of hspr]; rfl
      have HKD := hide (HKS.out i hlt)
      have HTK : Hid (kids.take (i + 1) = kids.take i ++ [kids[i]]) := List.take_succ_eq_append_getElem hlt
      have HTD : Hid (kids = kids.take (i + 1) ++ kids.drop (i + 1)) := (List.take_append_drop _ _).symm
      generalize hke : kids[i] = kt at *
      clear hke
      generalize K i = kv at *
      generalize hme : (metK cs f refs inw (met + 1) (kids.take i)).2 = mi at *
      have HME := hide hme
      have HST := hide (metK_snoc cs f refs inw (met + 1) (kids.take i) kt HM0.out)
      rw [hme] at HST
      clear hme hspr
      have hp5r : p5 < wr.heap.size := World.block_lt_of_cell? wr _ s0
      have ne1 : ¬ p5 = wr.heap.size := by omega
      obtain ⟨wC, hwC⟩ : ∃ wC, wC = wr.alloc (.cells #[.int .i64 kv.op, .slice kv.no kv.nl kv.nc, .slice kv.ko kv.kl kv.kc, .string kv.nm] 31) := ⟨_, rfl⟩
      have HBC : Hid (Below wr.heap.size wr wC) := by rw [hwC]; exact (Below.refl _ _).alloc (Nat.le_refl _) _
      have HCALL := hide (HIH.out kt kv refs inw mi W wC pw co cc cs g o V (HGr.out.more HBC.out) hp HKD.out HC.out (HWKr.out.below HBC.out) HSM.out (by have := HUP.out; omega) hr)
      unfold NVal.val ndV spV at HCALL
      go_wp2_with fail
      rw [← hwC]
      refine HCALL.out.mono ?_
      rintro e w2 ⟨rfl, hwk2, hon2⟩
      have HWK2 := hide hwk2
      have HON2 : Hid (Only (· = pw) wA w2) := HONr.out.trans ((Only.below HBC.out).trans hon2 (fun _ _ h => h)) (fun _ _ h => h)
      clear hwk2 hon2 hwC n0 n1 n2 n3 s0 s1
      have HSM2 := hide (meetF_small cs f kt refs inw mi)
      generalize hre : meetF cs f kt refs inw mi = r at *
      clear hre
      obtain ⟨r1, r2⟩ := r
      by_cases e0 : r1 = 0
      · subst e0
        go_wp2
        go_roundw
        case rel => exact ⟨i + 1, by omega, by go_num, by rw [HTK.out, HST.out], by rw [HTK.out, HST.out]; exact HWK2.out, HON2.out⟩
        case measure => simp [intOf]; omega
      · have HE : Hid (metK cs f refs inw (met + 1) kids = (r1, r2)) := by
          show _ = _
          rw [HTD.out, metK_err cs f refs inw (met + 1) _ _ (by rw [HTK.out, HST.out]; exact e0), HTK.out, HST.out]
        have b0 : (r1 == 0) = false := by simpa using e0
        clear e0
        go_wp2
        go_ret
        exact Met.of ⟨ret_int (by rw [HR.out, HE.out]), by rw [HR.out, HE.out]; exact HWK2.out, HON.out.trans HON2.out (fun _ _ h => h)⟩
    · have HE : Hid (kids.take i = kids) := List.take_of_length_le (by omega)
      have HM1 := HM0.out
      have HW1 := HWKr.out
      rw [HE.out] at HM1 HW1
      have HMM := hide HM1
      have HWW := hide HW1
      clear HM1 HW1
      go_wp2
      go_ret
      exact Met.of ⟨ret_int (by rw [HR.out, HMM.out]), by rw [HR.out]; exact HWW.out, HON.out.trans HONr.out (fun _ _ h => h)⟩
theorem meet_any : ∀ f, MeetOk f
  | 0 => fun t v refs inw met W w pw co cc cs g o V _ _ _ _ _ hm hf _ => by omega
  | f + 1 => meet_step f (meet_any f)
end Go.Proofs.YthbfjkdklnffjaaDoor
