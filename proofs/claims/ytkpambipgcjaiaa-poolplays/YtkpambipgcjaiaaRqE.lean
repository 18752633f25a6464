/- Package dayshiftref13: Resize. -/
import Derived.Test.YtkpambipgcjaiaaRqD
import Derived.Deep.RegionHeld3
namespace Go.Proofs.Ytkpambipgcjaiaa
open Go.ChangeShapes Go.WideShapes Go.ChangeAt Go.RowKit Go.DsMem Go.DsCo Go.DsPl Go.DsMap
set_option linter.unusedVariables false
set_option linter.unusedSimpArgs false
/-- what the reference's Resize tells -/
def RRes (w : World) (pr b0 : Nat) (X : List Rt) (H : List Hd) (uo vo : Option Addr) (uc vc : Nat) (nm : ByteArray) (n : Int) (e : Ending) (w' : World) : Prop :=
  e = .returned (.int .i64 (resizeF (rkR X) nm n).2) ∧ (∃ X', RpAt w' pr b0 X' H uo vo uc vc ∧ rkR X' = (resizeF (rkR X) nm n).1 ∧ X'.length = X.length) ∧ Only (fun k => (Value.slice uo X.length uc).ownBlock = some k) w w'
set_option maxHeartbeats 8000000 in
set_option maxRecDepth 20000 in
theorem rresize_any (nm : ByteArray) (n : Int) (pr b0 : Nat) (X : List Rt) (H : List Hd) (uo vo : Option Addr) (uc vc : Nat) (w : World) (h : RpAt w pr b0 X H uo vo uc vc) (hX : X.length ≤ 1000000) (hfn : FineP (rkR X) H) :
    Calls Try.prog 56 #[ptr pr, .string nm, .int .i64 n] w (RRes w pr b0 X H uo vo uc vc nm n) := by
  have HU := hide (runits_any nm pr b0 X H uo vo uc vc w h hX)
  have HFD := hide (fun w h => rfind_any nm pr b0 X H uo vo uc vc w h hX)
  have HP := hide h
  have hor := idxV_or nm X 0
  have hkn := hfn.kn
  obtain ⟨Q, hQ⟩ : ∃ Q, resizeF (rkR X) nm n = Q := ⟨_, rfl⟩
  unfold RRes
  rw [hQ]
  unfold resizeF at hQ
  unfold ptr at *
  by_cases h1 : (unitsF (rkR X) nm).2 = 0
  · rw [if_neg (by simp [h1])] at hQ
    obtain ⟨m, hm⟩ := unitsF_zero h1
    rw [h1] at HU
    generalize (unitsF (rkR X) nm).1 = u at *
    by_cases h2 : n < 0 ∨ 1000 < n
    · rw [if_pos h2] at hQ
      subst hQ
      clear h hor hkn hfn h1 hm
      rcases h2 with h2 | h2
      · go_enter Try.func56, Try.ntmps56
        go_wp2_with fail
        refine HU.out.mono ?_
        rintro e w1 ⟨rfl, hb⟩
        have HB := hide hb
        clear hb
        go_wp2
        go_ret
        exact ⟨rfl, ⟨X, HP.out.below HB.out, rfl, rfl⟩, Only.below HB.out⟩
      · have h3 : ¬ n < 0 := by omega
        go_enter Try.func56, Try.ntmps56
        go_wp2_with fail
        refine HU.out.mono ?_
        rintro e w1 ⟨rfl, hb⟩
        have HB := hide hb
        clear hb
        go_wp2
        go_ret
        exact ⟨rfl, ⟨X, HP.out.below HB.out, rfl, rfl⟩, Only.below HB.out⟩
    · rw [if_neg h2] at hQ
      subst hQ
      have h3 : ¬ n < 0 := by omega
      have h4 : ¬ 1000 < n := by omega
      rcases hor with ⟨_, h5⟩ | ⟨i, hi, h5, h6, h7⟩
      · rw [h5] at hm; cases hm
      · rw [hm] at h7
        have hlk : X[i].2.2 = false := by
          have := Option.some.inj h7
          unfold kdR at this
          cases hb : X[i].2.2
          · rfl
          · rw [hb] at this; simp at this
        have HRK : Hid (rkR (X.set i (X[i].1, n, X[i].2.2)) = setL (rkR X) nm (.units n)) := hide (by rw [rkR_set hi n hlk hkn, h6])
        rw [h5, Nat.zero_add] at HFD
        obtain ⟨g, rfl, hg, hcells⟩ := h.rdX (by omega)
        have hgp : ¬ g = pr := h.nx g rfl
        have hgp2 : ¬ pr = g := fun e => hgp e.symm
        have hi0 : (0 : Int) ≤ (i : Int) := by omega
        have hi1 : (i : Int) < ((X.length : Nat) : Int) := by omega
        have HI := hide hi
        clear h hkn hfn h1 hm h2 h5 h6 h7 hlk hcells
        go_enter Try.func56, Try.ntmps56
        go_wp2_with fail
        refine HU.out.mono ?_
        rintro e w1 ⟨rfl, hb⟩
        have HB := hide hb
        have hp1 := HP.out.below (hb.drew)
        have c0 := hp1.c0
        have HF1 := hide (HFD.out w1.drew hp1)
        have KP : Hid (∀ w', Below w1.drew.heap.size w1.drew w' → w'.cell? ⟨pr, 0, none⟩ = some (.slice (some ⟨g, 0, none⟩) X.length uc) ∧ (∃ u1, w'.cell? ⟨g, i * 3 + 1, none⟩ = some (.int .i64 u1)) ∧ w'.frozen? ⟨g, i * 3 + 1, none⟩ = false) := hide (fun w' hb' => by
          have hp2 := hp1.below hb'
          obtain ⟨g2, e2, _, hc2⟩ := hp2.rdX (by have := HI.out; omega)
          cases e2
          exact ⟨hp2.c0, ⟨_, (hc2 i HI.out).2.1⟩, (hp2.setX i HI.out n).2.2⟩)
        have HP1 := hide hp1
        have c0 : w1.cell? ⟨pr, 0, none⟩ = some (.slice (some ⟨g, 0, none⟩) X.length uc) := c0
        clear hb hp1
        go_wp2_with fail
        first
          | (go_region_held3 (fun w' => w'.cell? ⟨pr, 0, none⟩ = some (.slice (some ⟨g, 0, none⟩) X.length uc)) (go_keep)
              (first
                | (go_at_call 51; refine HF1.out.mono ?_; rintro e w2 ⟨rfl, hb2⟩; obtain ⟨q0, ⟨u1, q1⟩, q2⟩ := KP.out _ hb2; have HB2 := hide hb2; clear hb2)))
          | fail
        all_goals
          have HSX := hide ((HP1.out.below HB2.out).setX i HI.out n)
          have HO2 : Hid (Only (fun k => (Value.slice (some ⟨g, 0, none⟩) X.length uc).ownBlock = some k) w (w2.setCell ⟨g, i * 3 + 1, none⟩ (.int .i64 n))) := hide ((Only.below (HB.out.drew.trans (HB2.out.mono HB.out.size))).trans HSX.out.2.1 (fun k _ e => by have : k = g := e; rw [this]; rfl))
          go_wp2
          go_ret
          exact ⟨rfl, ⟨_, HSX.out.1, HRK.out, List.length_set⟩, HO2.out⟩
  · rw [if_pos h1] at hQ
    subst hQ
    have h1' : ((unitsF (rkR X) nm).2 != 0) = true := by simpa using h1
    generalize (unitsF (rkR X) nm).2 = e0 at *
    generalize (unitsF (rkR X) nm).1 = u at *
    clear h hor hkn hfn h1
    go_enter Try.func56, Try.ntmps56
    go_wp2_with fail
    refine HU.out.mono ?_
    rintro e w1 ⟨rfl, hb⟩
    have HB := hide hb
    clear hb
    go_wp2
    go_ret
    exact ⟨rfl, ⟨X, HP.out.below HB.out, rfl, rfl⟩, Only.below HB.out⟩
end Go.Proofs.Ytkpambipgcjaiaa
