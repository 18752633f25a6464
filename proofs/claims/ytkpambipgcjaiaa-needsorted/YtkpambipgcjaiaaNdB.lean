/- Package need: Fits, Both. -/
import Derived.Test.YtkpambipgcjaiaaNdA
namespace Go.Proofs.Ytkpambipgcjaiaa
open Go.ChangeShapes Go.WideShapes Go.ChangeAt Go.RowKit Go.DsMem Go.DsCo Go.DsPl Go.DsMap
set_option linter.unusedVariables false
set_option linter.unusedSimpArgs false
theorem ret_boolN {a b : Bool} (h : a = b) : Ending.returned (.bool a) = .returned (.bool b) := by rw [h]
set_option maxHeartbeats 2000000 in
/-- need.Fits -/
theorem nfits_any (l : List Ne) (uo : Option Addr) (uc : Nat) (p a b : Nat) (R : List Rk) (H : List Hd) (w : World) (h : PoAt w p a b R H) (hr : NeRd w uo l) (hf : FitL l) (hlen : l.length ≤ 1000000) (hH : H.length ≤ 100000) (hR : R.length ≤ 100000) :
    Calls Try.prog 34 #[ptr p, .slice uo l.length uc] w fun e w' => e = .returned (.int .i64 (mayF R [] 1 l)) ∧ Below w.heap.size w w' := by
  have HE := hide (emptied_any p a b R H w h hH hR)
  have HM := hide (fun q a' b' w' (hb : Below w.heap.size w w') (h : PoAt w' q a' b' R []) => may_any l uo uc 1 (by decide) q a' b' R [] w' h (hr.below hb) hf (by omega) (by simp) (by omega))
  clear h hr hf
  unfold Emptied at HE
  unfold ptr at *
  go_enter Try.func34, Try.ntmps34
  go_wp2_with fail
  refine HE.out.mono ?_
  rintro e w1 ⟨q, a', b', rfl, hp, hb, _, _⟩
  have HB1 := hide hb
  have HP1 := hide hp
  clear hb hp
  go_wp2_with fail
  refine (HM.out _ _ _ _ HB1.out HP1.out).mono ?_
  rintro e w2 ⟨rfl, hb⟩
  have HB2 := hide (HB1.out.trans (hb.mono HB1.out.size))
  clear hb
  go_wp2
  go_ret
  exact ⟨rfl, HB2.out⟩
set_option maxHeartbeats 4000000 in
/-- need.Both -/
theorem nboth_any (l m : List Ne) (uo vo : Option Addr) (uc vc : Nat) (p a b : Nat) (R : List Rk) (H : List Hd) (w : World) (h : PoAt w p a b R H) (hr : NeRd w uo l) (hs : NeRd w vo m) (hf : FitL l) (hg : FitL m) (hlen : l.length ≤ 1000000) (hlm : m.length ≤ 1000000) (hH : H.length ≤ 100000) (hR : R.length ≤ 100000) :
    Calls Try.prog 36 #[ptr p, .slice uo l.length uc, .slice vo m.length vc] w fun e w' => e = .returned (.bool (bothF R l m)) ∧ Below w.heap.size w w' := by
  have HE := hide (emptied_any p a b R H w h hH hR)
  have HT1 := hide (fun q a' b' w' (hb : Below w.heap.size w w') (h : PoAt w' q a' b' R []) => take_any l uo uc 1 (by decide) q a' b' R [] w' h (hr.below hb) hf (by omega) (by simp; omega))
  have hfl : ∀ {q a' b' : Nat} {w' : World} (h : PoAt w' q a' b' R []), (takeF R [] 1 l).1.length ≤ 100000 := fun h => by
    have := (take_fine (o := 1) (l := l) h.fine (by decide)).2
    simp only [List.length_nil] at this
    omega
  have HT2 := hide (fun q a' b' w' (hb : Below w.heap.size w w') (hl : (takeF R [] 1 l).1.length ≤ 100000) (h : PoAt w' q a' b' R (takeF R [] 1 l).1) => take_any m vo vc 2 (by decide) q a' b' R (takeF R [] 1 l).1 w' h (hs.below hb) hg (by omega) (by omega))
  have HFL := hide (fun q a' b' w' (h : PoAt w' q a' b' R []) => hfl h)
  obtain ⟨Q, hQ⟩ : ∃ Q, bothF R l m = Q := ⟨_, rfl⟩
  rw [hQ]
  unfold bothF at hQ
  clear h hr hs hf hg hfl
  generalize takeF R [] 1 l = T at *
  obtain ⟨H1, e1⟩ := T
  simp only at HT1 HT2 hQ HFL
  generalize takeF R H1 2 m = T2 at *
  obtain ⟨H2, e2⟩ := T2
  simp only at HT2 hQ
  unfold Emptied at HE
  unfold ptr at *
  by_cases h1 : e1 = 0
  · subst h1
    have h2 : ((e2 == (0 : Int)) : Bool) = Q := by rw [← hQ]; by_cases e : e2 = 0 <;> simp [e]
    have HQ := hide h2
    clear hQ h2
    go_enter Try.func36, Try.ntmps36
    go_wp2_with fail
    refine HE.out.mono ?_
    rintro e w1 ⟨q, a', b', rfl, hp, hb, hbb, _⟩
    have HB1 := hide hb
    have HP1 := hide hp
    clear hb hp
    go_wp2_with fail
    refine (HT1.out _ _ _ _ HB1.out HP1.out).mono ?_
    rintro e w2 ⟨rfl, hp, ho⟩
    have HP2 := hide hp
    have HB2 : Hid (Below w.heap.size w w2) := hide (HB1.out.trans (ho.toBelow HB1.out.size (fun i e => by rw [e]; exact hbb)))
    clear hp ho
    go_wp2_with fail
    refine (HT2.out _ _ _ _ HB2.out (HFL.out _ _ _ _ HP1.out) HP2.out).mono ?_
    rintro e w3 ⟨rfl, hp, ho⟩
    have HB3 : Hid (Below w.heap.size w w3) := hide (HB2.out.trans (ho.toBelow HB2.out.size (fun i e => by rw [e]; exact hbb)))
    clear hp ho
    go_wp2
    go_ret
    exact ⟨ret_boolN HQ.out, HB3.out⟩
  · have h1' : ((e1 == (0 : Int)) : Bool) = false := by simpa using h1
    have HQ : Hid (Q = false) := hide (by rw [← hQ]; simp [h1])
    rw [HQ.out]
    clear hQ h1
    go_enter Try.func36, Try.ntmps36
    go_wp2_with fail
    refine HE.out.mono ?_
    rintro e w1 ⟨q, a', b', rfl, hp, hb, hbb, _⟩
    have HB1 := hide hb
    have HP1 := hide hp
    clear hb hp
    go_wp2_with fail
    refine (HT1.out _ _ _ _ HB1.out HP1.out).mono ?_
    rintro e w2 ⟨rfl, hp, ho⟩
    have HB2 : Hid (Below w.heap.size w w2) := hide (HB1.out.trans (ho.toBelow HB1.out.size (fun i e => by rw [e]; exact hbb)))
    clear hp ho
    go_wp2
    go_ret
    exact ⟨rfl, HB2.out⟩
end Go.Proofs.Ytkpambipgcjaiaa
