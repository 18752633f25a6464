/- Law 13: do. Written by gen_prc.py. -/
import Derived.Test.YtkpambipgcjaiaaPrB
namespace Go.Proofs.Ytkpambipgcjaiaa
open Go.ChangeShapes Go.WideShapes Go.ChangeAt Go.RowKit Go.DsMem Go.DsCo Go.DsPl Go.DsMap
set_option linter.unusedVariables false
set_option linter.unusedSimpArgs false
set_option maxHeartbeats 16000000 in
set_option maxRecDepth 20000 in
theorem do13_any (c : A13) (W : World) (hin : A13In W c) (hcl : c.l.length ≤ 20) (w : World) (p a b pr : Nat) (R : List Rk) (H : List Hd) (X : List Rt) (uo vo : Option Addr) (uc vc : Nat) (d : Duo W w p a b R H pr X uo vo uc vc) (hH : H.length ≤ 2000) :
    Calls Try.prog 20 #[ptr p, ptr pr, .agg #[.int .i64 c.kind, .int .i64 c.o, .slice c.vo c.l.length c.vc, .string c.nm, .int .i64 c.n]] w (DoT W w p a b pr R H X uo uc) := by
  obtain ⟨w0, hw0⟩ : ∃ w0, w.alloc (.cells #[.int .i64 c.kind, .int .i64 c.o, .slice c.vo c.l.length c.vc, .string c.nm, .int .i64 c.n] 33) = w0 := ⟨_, rfl⟩
  have hb0 : Below w.heap.size w w0 := by rw [← hw0]; exact bel1 _ _
  have hblk : w0.heap[w.heap.size]? = some (.cells #[.int .i64 c.kind, .int .i64 c.o, .slice c.vo c.l.length c.vc, .string c.nm, .int .i64 c.n] 33 (0, 0)) := by rw [← hw0]; exact heap_alloc_new w _
  have k0 := cell_of (k := 0) hblk
  have k1 := cell_of (k := 1) hblk
  have k2 := cell_of (k := 2) hblk
  have k3 := cell_of (k := 3) hblk
  have k4 := cell_of (k := 4) hblk
  simp at k0 k1 k2 k3 k4
  have D0 := hide (d.below hb0)
  have hlt := d.po.lt
  have hDa : ¬ w.heap.size = a := by omega
  have hDb : ¬ w.heap.size = b := by omega
  have hDr : ¬ w.heap.size = pr := by have := block_lt d.rp.blk; omega
  have hD0 : w.heap.size < w0.heap.size := block_lt hblk
  have hWw : W.heap.size ≤ w0.heap.size := D0.out.bel.size
  have HIN := hide hin
  have HB0 := hide hb0
  -- what stays, whatever has been done
  have KS : Hid (∀ w' w'' : World, Only (fun k => k = a ∨ k = b ∨ k = pr ∨ (Value.slice uo X.length uc).ownBlock = some k) w' w'' → w'.cell? ⟨w.heap.size, 1, none⟩ = some (.int .i64 c.o) ∧ w'.cell? ⟨w.heap.size, 2, none⟩ = some (.slice c.vo c.l.length c.vc) ∧ w'.cell? ⟨w.heap.size, 3, none⟩ = some (.string c.nm) ∧ w'.cell? ⟨w.heap.size, 4, none⟩ = some (.int .i64 c.n) → w''.cell? ⟨w.heap.size, 1, none⟩ = some (.int .i64 c.o) ∧ w''.cell? ⟨w.heap.size, 2, none⟩ = some (.slice c.vo c.l.length c.vc) ∧ w''.cell? ⟨w.heap.size, 3, none⟩ = some (.string c.nm) ∧ w''.cell? ⟨w.heap.size, 4, none⟩ = some (.int .i64 c.n)) := hide (fun w' w'' ho ⟨h1, h2, h3, h4⟩ => by
    have hn : ¬ (w.heap.size = a ∨ w.heap.size = b ∨ w.heap.size = pr ∨ (Value.slice uo X.length uc).ownBlock = some w.heap.size) := fun e => by
      rcases e with e | e | e | e
      · exact hDa e
      · exact hDb e
      · exact hDr e
      · have := (d.rp.rs.lt _ e).2; omega
    exact ⟨ho.cell h1 hn, ho.cell h2 hn, ho.cell h3 hn, ho.cell h4 hn⟩)
  have K0 := hide (And.intro k1 (And.intro k2 (And.intro k3 k4)))
  have hrl := d.rl
  have hxl := d.xl
  have hrk := d.rk
  have HFN : Hid (FineP (rkR X) H) := hide (by rw [hrk]; exact d.po.fine)
  have HRK := hide hrk
  have hprs : pr + 1 ≤ w0.heap.size := block_lt D0.out.rp.blk
  have HNS := hide (fun w' (hb : Below W.heap.size W w') => needs13_any c.l c.vo c.vc w' (by omega) (hin.at_.keep hb))
  have HNG := hide (fun (h0 : 0 < c.l.length) g o' (e : c.vo = some ⟨g, o', none⟩) => show ¬ g = pr from by
    obtain ⟨g', o'', e', _, hg, _⟩ := hin.at_ h0
    rw [e'] at e
    simp only [Option.some.injEq, Addr.mk.injEq] at e
    have := d.gr
    omega)
  have HGA := hide d.ga
  have HGB := hide d.gb
  have HGR := hide d.gr
  have OA : Hid (Only (fun k => k = a ∨ k = b ∨ k = pr ∨ (Value.slice uo X.length uc).ownBlock = some k) w w0.drew) := hide (Only.below hb0.drew)
  clear hin hb0 hblk d hlt hrk k1 k2 k3 k4
  obtain ⟨kd, ow, nl, no, nc, nm, nn⟩ := c
  simp only at *
  unfold ptr
  have hcase : (kd = 0 ∨ kd = 1 ∨ kd = 2 ∨ kd = 3 ∨ kd = 4) ∨ (kd = 5 ∨ kd = 6) ∨ kd = 7 ∨ ((kd == 0) = false ∧ (kd == 1) = false ∧ (kd == 2) = false ∧ (kd == 3) = false ∧ (kd == 4) = false ∧ (kd == 5) = false ∧ (kd == 6) = false ∧ (kd == 7) = false) := by
    simp only [beq_eq_false_iff_ne, ne_eq]
    omega
  go_enter Try.func20, Try.ntmps20
  go_upto_region 1 with fail
  try rw [hw0]
  clear hw0
  rcases hcase with (rfl | rfl | rfl | rfl | rfl) | (rfl | rfl) | rfl | ⟨z0, z1, z2, z3, z4, z5, z6, z7⟩
  · have HTK := hide (fun w' no' nc' (h : PoAt w' p a b R H) hn => take_any nl no' nc' ow HIN.out.lo p a b R H w' h hn HIN.out.fit (by omega) (by omega))
    have HRT := hide (fun w' (h : RpAt w' pr (pr + 1) X H uo vo uc vc) (hs : pr + 1 ≤ w'.heap.size) hn => rtake_any ow nl no nc pr (pr + 1) X H uo vo uc vc w' h hs (by omega) (by omega) HFN.out hn HNG.out (by omega))
    rw [HRK.out] at HRT
    have HTF := hide (take_fine (o := ow) (l := nl) (show FineP R H from by rw [← HRK.out]; exact HFN.out) HIN.out.lo)
    generalize takeF R H ow nl = T at *
    obtain ⟨H1, e1⟩ := T
    simp only at HTK HRT HTF
    unfold ptr at HTK HRT
    obtain ⟨k1, k2, k3, k4⟩ := K0.out
    have hb0d : Below w0.heap.size w0 w0.drew := (Below.refl _ _).drew
    have DD := hide (D0.out.below hb0d)
    have KD := hide (show w0.drew.cell? ⟨w.heap.size, 1, none⟩ = some (.int .i64 ow) ∧ w0.drew.cell? ⟨w.heap.size, 2, none⟩ = some (.slice no nl.length nc) ∧ w0.drew.cell? ⟨w.heap.size, 3, none⟩ = some (.string nm) ∧ w0.drew.cell? ⟨w.heap.size, 4, none⟩ = some (.int .i64 nn) from ⟨k1, k2, k3, k4⟩)
    clear hb0d
    go_wp2_with fail
    first
      | (go_region_held3 (fun w' => w'.cell? ⟨w.heap.size, 1, none⟩ = some (.int .i64 ow) ∧ w'.cell? ⟨w.heap.size, 2, none⟩ = some (.slice no nl.length nc) ∧ w'.cell? ⟨w.heap.size, 3, none⟩ = some (.string nm) ∧ w'.cell? ⟨w.heap.size, 4, none⟩ = some (.int .i64 nn)) (go_keep)
          (first
            | (go_at_call 28; refine (HNS.out _ DD.out.bel).mono ?_; rintro e w3 ⟨no3, nc3, rfl, hn3, hb3⟩; have HN3 := hide hn3; have D3 := hide (DD.out.below hb3); have K3 := hide (KS.out _ _ (Only.below hb3) KD.out); have OA3 := hide (OA.out.trans (Only.below hb3) (fun _ _ e => e)); obtain ⟨q1, q2, q3, q4⟩ := K3.out; clear hn3 hb3)
            | (go_at_call 27; refine (HTK.out _ _ _ D3.out.po HN3.out).mono ?_; rintro e w4 ⟨rfl, hp4, ho4⟩; have HP4 := hide hp4; have OA4 := hide (OA3.out.trans ho4 (fun _ _ e => .inr (.inl e))); have K4 := hide (KS.out _ _ (ho4.mono (fun i _ e => .inr (.inl e))) K3.out); have HR4 := hide (D3.out.rp.keepP D3.out.po (ho4.mono (fun i _ e => .inr e))); have HW4 : Hid (Below W.heap.size W w4) := hide (D3.out.bel.trans (ho4.toBelow D3.out.bel.size (fun i e => by rw [e]; exact HGB.out))); obtain ⟨r1, r2, r3, r4⟩ := K4.out; clear hp4 ho4)
            | (go_at_call 29; refine (HRT.out _ HR4.out (block_lt HR4.out.blk) (HIN.out.at_.keep HW4.out)).mono ?_; rintro e w5 ⟨rfl, ⟨vo5, vc5, hr5⟩, ho5⟩; have HR5 := hide hr5; have OA5 := hide (OA4.out.trans ho5 (fun _ _ e => .inr (.inr (.inl e)))); have HP5 := hide (HP4.out.keepR HR4.out (ho5.mono (fun i _ e => .inl e))); have K5 := hide (KS.out _ _ (ho5.mono (fun i _ e => .inr (.inr (.inl e)))) K4.out); have HW5 : Hid (Below W.heap.size W w5) := hide (HW4.out.trans (ho5.toBelow HW4.out.size (fun i e => by rw [e]; exact HGR.out))); obtain ⟨s1, s2, s3, s4⟩ := K5.out; clear hr5 ho5)))
      | fail
    all_goals
      go_wp2
      go_ret
      exact ⟨rfl, ⟨R, H1, X, vo5, vc5, ⟨HP5.out, HR5.out, HRK.out, HW5.out, HGA.out, HGB.out, HGR.out, hrl⟩, by have := HTF.out.2; omega⟩, OA5.out⟩
  · have HTK := hide (fun w' no' nc' (h : PoAt w' p a b R H) hn => take_any nl no' nc' ow HIN.out.lo p a b R H w' h hn HIN.out.fit (by omega) (by omega))
    have HRT := hide (fun w' (h : RpAt w' pr (pr + 1) X H uo vo uc vc) (hs : pr + 1 ≤ w'.heap.size) hn => rtake_any ow nl no nc pr (pr + 1) X H uo vo uc vc w' h hs (by omega) (by omega) HFN.out hn HNG.out (by omega))
    rw [HRK.out] at HRT
    have HTF := hide (take_fine (o := ow) (l := nl) (show FineP R H from by rw [← HRK.out]; exact HFN.out) HIN.out.lo)
    generalize takeF R H ow nl = T at *
    obtain ⟨H1, e1⟩ := T
    simp only at HTK HRT HTF
    unfold ptr at HTK HRT
    obtain ⟨k1, k2, k3, k4⟩ := K0.out
    have hb0d : Below w0.heap.size w0 w0.drew := (Below.refl _ _).drew
    have DD := hide (D0.out.below hb0d)
    have KD := hide (show w0.drew.cell? ⟨w.heap.size, 1, none⟩ = some (.int .i64 ow) ∧ w0.drew.cell? ⟨w.heap.size, 2, none⟩ = some (.slice no nl.length nc) ∧ w0.drew.cell? ⟨w.heap.size, 3, none⟩ = some (.string nm) ∧ w0.drew.cell? ⟨w.heap.size, 4, none⟩ = some (.int .i64 nn) from ⟨k1, k2, k3, k4⟩)
    clear hb0d
    go_wp2_with fail
    first
      | (go_region_held3 (fun w' => w'.cell? ⟨w.heap.size, 1, none⟩ = some (.int .i64 ow) ∧ w'.cell? ⟨w.heap.size, 2, none⟩ = some (.slice no nl.length nc) ∧ w'.cell? ⟨w.heap.size, 3, none⟩ = some (.string nm) ∧ w'.cell? ⟨w.heap.size, 4, none⟩ = some (.int .i64 nn)) (go_keep)
          (first
            | (go_at_call 28; refine (HNS.out _ DD.out.bel).mono ?_; rintro e w3 ⟨no3, nc3, rfl, hn3, hb3⟩; have HN3 := hide hn3; have D3 := hide (DD.out.below hb3); have K3 := hide (KS.out _ _ (Only.below hb3) KD.out); have OA3 := hide (OA.out.trans (Only.below hb3) (fun _ _ e => e)); obtain ⟨q1, q2, q3, q4⟩ := K3.out; clear hn3 hb3)
            | (go_at_call 27; refine (HTK.out _ _ _ D3.out.po HN3.out).mono ?_; rintro e w4 ⟨rfl, hp4, ho4⟩; have HP4 := hide hp4; have OA4 := hide (OA3.out.trans ho4 (fun _ _ e => .inr (.inl e))); have K4 := hide (KS.out _ _ (ho4.mono (fun i _ e => .inr (.inl e))) K3.out); have HR4 := hide (D3.out.rp.keepP D3.out.po (ho4.mono (fun i _ e => .inr e))); have HW4 : Hid (Below W.heap.size W w4) := hide (D3.out.bel.trans (ho4.toBelow D3.out.bel.size (fun i e => by rw [e]; exact HGB.out))); obtain ⟨r1, r2, r3, r4⟩ := K4.out; clear hp4 ho4)
            | (go_at_call 29; refine (HRT.out _ HR4.out (block_lt HR4.out.blk) (HIN.out.at_.keep HW4.out)).mono ?_; rintro e w5 ⟨rfl, ⟨vo5, vc5, hr5⟩, ho5⟩; have HR5 := hide hr5; have OA5 := hide (OA4.out.trans ho5 (fun _ _ e => .inr (.inr (.inl e)))); have HP5 := hide (HP4.out.keepR HR4.out (ho5.mono (fun i _ e => .inl e))); have K5 := hide (KS.out _ _ (ho5.mono (fun i _ e => .inr (.inr (.inl e)))) K4.out); have HW5 : Hid (Below W.heap.size W w5) := hide (HW4.out.trans (ho5.toBelow HW4.out.size (fun i e => by rw [e]; exact HGR.out))); obtain ⟨s1, s2, s3, s4⟩ := K5.out; clear hr5 ho5)))
      | fail
    all_goals
      go_wp2
      go_ret
      exact ⟨rfl, ⟨R, H1, X, vo5, vc5, ⟨HP5.out, HR5.out, HRK.out, HW5.out, HGA.out, HGB.out, HGR.out, hrl⟩, by have := HTF.out.2; omega⟩, OA5.out⟩
  · have HTK := hide (fun w' no' nc' (h : PoAt w' p a b R H) hn => take_any nl no' nc' ow HIN.out.lo p a b R H w' h hn HIN.out.fit (by omega) (by omega))
    have HRT := hide (fun w' (h : RpAt w' pr (pr + 1) X H uo vo uc vc) (hs : pr + 1 ≤ w'.heap.size) hn => rtake_any ow nl no nc pr (pr + 1) X H uo vo uc vc w' h hs (by omega) (by omega) HFN.out hn HNG.out (by omega))
    rw [HRK.out] at HRT
    have HTF := hide (take_fine (o := ow) (l := nl) (show FineP R H from by rw [← HRK.out]; exact HFN.out) HIN.out.lo)
    generalize takeF R H ow nl = T at *
    obtain ⟨H1, e1⟩ := T
    simp only at HTK HRT HTF
    unfold ptr at HTK HRT
    obtain ⟨k1, k2, k3, k4⟩ := K0.out
    have hb0d : Below w0.heap.size w0 w0.drew := (Below.refl _ _).drew
    have DD := hide (D0.out.below hb0d)
    have KD := hide (show w0.drew.cell? ⟨w.heap.size, 1, none⟩ = some (.int .i64 ow) ∧ w0.drew.cell? ⟨w.heap.size, 2, none⟩ = some (.slice no nl.length nc) ∧ w0.drew.cell? ⟨w.heap.size, 3, none⟩ = some (.string nm) ∧ w0.drew.cell? ⟨w.heap.size, 4, none⟩ = some (.int .i64 nn) from ⟨k1, k2, k3, k4⟩)
    clear hb0d
    go_wp2_with fail
    first
      | (go_region_held3 (fun w' => w'.cell? ⟨w.heap.size, 1, none⟩ = some (.int .i64 ow) ∧ w'.cell? ⟨w.heap.size, 2, none⟩ = some (.slice no nl.length nc) ∧ w'.cell? ⟨w.heap.size, 3, none⟩ = some (.string nm) ∧ w'.cell? ⟨w.heap.size, 4, none⟩ = some (.int .i64 nn)) (go_keep)
          (first
            | (go_at_call 28; refine (HNS.out _ DD.out.bel).mono ?_; rintro e w3 ⟨no3, nc3, rfl, hn3, hb3⟩; have HN3 := hide hn3; have D3 := hide (DD.out.below hb3); have K3 := hide (KS.out _ _ (Only.below hb3) KD.out); have OA3 := hide (OA.out.trans (Only.below hb3) (fun _ _ e => e)); obtain ⟨q1, q2, q3, q4⟩ := K3.out; clear hn3 hb3)
            | (go_at_call 27; refine (HTK.out _ _ _ D3.out.po HN3.out).mono ?_; rintro e w4 ⟨rfl, hp4, ho4⟩; have HP4 := hide hp4; have OA4 := hide (OA3.out.trans ho4 (fun _ _ e => .inr (.inl e))); have K4 := hide (KS.out _ _ (ho4.mono (fun i _ e => .inr (.inl e))) K3.out); have HR4 := hide (D3.out.rp.keepP D3.out.po (ho4.mono (fun i _ e => .inr e))); have HW4 : Hid (Below W.heap.size W w4) := hide (D3.out.bel.trans (ho4.toBelow D3.out.bel.size (fun i e => by rw [e]; exact HGB.out))); obtain ⟨r1, r2, r3, r4⟩ := K4.out; clear hp4 ho4)
            | (go_at_call 29; refine (HRT.out _ HR4.out (block_lt HR4.out.blk) (HIN.out.at_.keep HW4.out)).mono ?_; rintro e w5 ⟨rfl, ⟨vo5, vc5, hr5⟩, ho5⟩; have HR5 := hide hr5; have OA5 := hide (OA4.out.trans ho5 (fun _ _ e => .inr (.inr (.inl e)))); have HP5 := hide (HP4.out.keepR HR4.out (ho5.mono (fun i _ e => .inl e))); have K5 := hide (KS.out _ _ (ho5.mono (fun i _ e => .inr (.inr (.inl e)))) K4.out); have HW5 : Hid (Below W.heap.size W w5) := hide (HW4.out.trans (ho5.toBelow HW4.out.size (fun i e => by rw [e]; exact HGR.out))); obtain ⟨s1, s2, s3, s4⟩ := K5.out; clear hr5 ho5)))
      | fail
    all_goals
      go_wp2
      go_ret
      exact ⟨rfl, ⟨R, H1, X, vo5, vc5, ⟨HP5.out, HR5.out, HRK.out, HW5.out, HGA.out, HGB.out, HGR.out, hrl⟩, by have := HTF.out.2; omega⟩, OA5.out⟩
  · have HTK := hide (fun w' no' nc' (h : PoAt w' p a b R H) hn => take_any nl no' nc' ow HIN.out.lo p a b R H w' h hn HIN.out.fit (by omega) (by omega))
    have HRT := hide (fun w' (h : RpAt w' pr (pr + 1) X H uo vo uc vc) (hs : pr + 1 ≤ w'.heap.size) hn => rtake_any ow nl no nc pr (pr + 1) X H uo vo uc vc w' h hs (by omega) (by omega) HFN.out hn HNG.out (by omega))
    rw [HRK.out] at HRT
    have HTF := hide (take_fine (o := ow) (l := nl) (show FineP R H from by rw [← HRK.out]; exact HFN.out) HIN.out.lo)
    generalize takeF R H ow nl = T at *
    obtain ⟨H1, e1⟩ := T
    simp only at HTK HRT HTF
    unfold ptr at HTK HRT
    obtain ⟨k1, k2, k3, k4⟩ := K0.out
    have hb0d : Below w0.heap.size w0 w0.drew := (Below.refl _ _).drew
    have DD := hide (D0.out.below hb0d)
    have KD := hide (show w0.drew.cell? ⟨w.heap.size, 1, none⟩ = some (.int .i64 ow) ∧ w0.drew.cell? ⟨w.heap.size, 2, none⟩ = some (.slice no nl.length nc) ∧ w0.drew.cell? ⟨w.heap.size, 3, none⟩ = some (.string nm) ∧ w0.drew.cell? ⟨w.heap.size, 4, none⟩ = some (.int .i64 nn) from ⟨k1, k2, k3, k4⟩)
    clear hb0d
    go_wp2_with fail
    first
      | (go_region_held3 (fun w' => w'.cell? ⟨w.heap.size, 1, none⟩ = some (.int .i64 ow) ∧ w'.cell? ⟨w.heap.size, 2, none⟩ = some (.slice no nl.length nc) ∧ w'.cell? ⟨w.heap.size, 3, none⟩ = some (.string nm) ∧ w'.cell? ⟨w.heap.size, 4, none⟩ = some (.int .i64 nn)) (go_keep)
          (first
            | (go_at_call 28; refine (HNS.out _ DD.out.bel).mono ?_; rintro e w3 ⟨no3, nc3, rfl, hn3, hb3⟩; have HN3 := hide hn3; have D3 := hide (DD.out.below hb3); have K3 := hide (KS.out _ _ (Only.below hb3) KD.out); have OA3 := hide (OA.out.trans (Only.below hb3) (fun _ _ e => e)); obtain ⟨q1, q2, q3, q4⟩ := K3.out; clear hn3 hb3)
            | (go_at_call 27; refine (HTK.out _ _ _ D3.out.po HN3.out).mono ?_; rintro e w4 ⟨rfl, hp4, ho4⟩; have HP4 := hide hp4; have OA4 := hide (OA3.out.trans ho4 (fun _ _ e => .inr (.inl e))); have K4 := hide (KS.out _ _ (ho4.mono (fun i _ e => .inr (.inl e))) K3.out); have HR4 := hide (D3.out.rp.keepP D3.out.po (ho4.mono (fun i _ e => .inr e))); have HW4 : Hid (Below W.heap.size W w4) := hide (D3.out.bel.trans (ho4.toBelow D3.out.bel.size (fun i e => by rw [e]; exact HGB.out))); obtain ⟨r1, r2, r3, r4⟩ := K4.out; clear hp4 ho4)
            | (go_at_call 29; refine (HRT.out _ HR4.out (block_lt HR4.out.blk) (HIN.out.at_.keep HW4.out)).mono ?_; rintro e w5 ⟨rfl, ⟨vo5, vc5, hr5⟩, ho5⟩; have HR5 := hide hr5; have OA5 := hide (OA4.out.trans ho5 (fun _ _ e => .inr (.inr (.inl e)))); have HP5 := hide (HP4.out.keepR HR4.out (ho5.mono (fun i _ e => .inl e))); have K5 := hide (KS.out _ _ (ho5.mono (fun i _ e => .inr (.inr (.inl e)))) K4.out); have HW5 : Hid (Below W.heap.size W w5) := hide (HW4.out.trans (ho5.toBelow HW4.out.size (fun i e => by rw [e]; exact HGR.out))); obtain ⟨s1, s2, s3, s4⟩ := K5.out; clear hr5 ho5)))
      | fail
    all_goals
      go_wp2
      go_ret
      exact ⟨rfl, ⟨R, H1, X, vo5, vc5, ⟨HP5.out, HR5.out, HRK.out, HW5.out, HGA.out, HGB.out, HGR.out, hrl⟩, by have := HTF.out.2; omega⟩, OA5.out⟩
  · have HTK := hide (fun w' no' nc' (h : PoAt w' p a b R H) hn => take_any nl no' nc' ow HIN.out.lo p a b R H w' h hn HIN.out.fit (by omega) (by omega))
    have HRT := hide (fun w' (h : RpAt w' pr (pr + 1) X H uo vo uc vc) (hs : pr + 1 ≤ w'.heap.size) hn => rtake_any ow nl no nc pr (pr + 1) X H uo vo uc vc w' h hs (by omega) (by omega) HFN.out hn HNG.out (by omega))
    rw [HRK.out] at HRT
    have HTF := hide (take_fine (o := ow) (l := nl) (show FineP R H from by rw [← HRK.out]; exact HFN.out) HIN.out.lo)
    generalize takeF R H ow nl = T at *
    obtain ⟨H1, e1⟩ := T
    simp only at HTK HRT HTF
    unfold ptr at HTK HRT
    obtain ⟨k1, k2, k3, k4⟩ := K0.out
    have hb0d : Below w0.heap.size w0 w0.drew := (Below.refl _ _).drew
    have DD := hide (D0.out.below hb0d)
    have KD := hide (show w0.drew.cell? ⟨w.heap.size, 1, none⟩ = some (.int .i64 ow) ∧ w0.drew.cell? ⟨w.heap.size, 2, none⟩ = some (.slice no nl.length nc) ∧ w0.drew.cell? ⟨w.heap.size, 3, none⟩ = some (.string nm) ∧ w0.drew.cell? ⟨w.heap.size, 4, none⟩ = some (.int .i64 nn) from ⟨k1, k2, k3, k4⟩)
    clear hb0d
    go_wp2_with fail
    first
      | (go_region_held3 (fun w' => w'.cell? ⟨w.heap.size, 1, none⟩ = some (.int .i64 ow) ∧ w'.cell? ⟨w.heap.size, 2, none⟩ = some (.slice no nl.length nc) ∧ w'.cell? ⟨w.heap.size, 3, none⟩ = some (.string nm) ∧ w'.cell? ⟨w.heap.size, 4, none⟩ = some (.int .i64 nn)) (go_keep)
          (first
            | (go_at_call 28; refine (HNS.out _ DD.out.bel).mono ?_; rintro e w3 ⟨no3, nc3, rfl, hn3, hb3⟩; have HN3 := hide hn3; have D3 := hide (DD.out.below hb3); have K3 := hide (KS.out _ _ (Only.below hb3) KD.out); have OA3 := hide (OA.out.trans (Only.below hb3) (fun _ _ e => e)); obtain ⟨q1, q2, q3, q4⟩ := K3.out; clear hn3 hb3)
            | (go_at_call 27; refine (HTK.out _ _ _ D3.out.po HN3.out).mono ?_; rintro e w4 ⟨rfl, hp4, ho4⟩; have HP4 := hide hp4; have OA4 := hide (OA3.out.trans ho4 (fun _ _ e => .inr (.inl e))); have K4 := hide (KS.out _ _ (ho4.mono (fun i _ e => .inr (.inl e))) K3.out); have HR4 := hide (D3.out.rp.keepP D3.out.po (ho4.mono (fun i _ e => .inr e))); have HW4 : Hid (Below W.heap.size W w4) := hide (D3.out.bel.trans (ho4.toBelow D3.out.bel.size (fun i e => by rw [e]; exact HGB.out))); obtain ⟨r1, r2, r3, r4⟩ := K4.out; clear hp4 ho4)
            | (go_at_call 29; refine (HRT.out _ HR4.out (block_lt HR4.out.blk) (HIN.out.at_.keep HW4.out)).mono ?_; rintro e w5 ⟨rfl, ⟨vo5, vc5, hr5⟩, ho5⟩; have HR5 := hide hr5; have OA5 := hide (OA4.out.trans ho5 (fun _ _ e => .inr (.inr (.inl e)))); have HP5 := hide (HP4.out.keepR HR4.out (ho5.mono (fun i _ e => .inl e))); have K5 := hide (KS.out _ _ (ho5.mono (fun i _ e => .inr (.inr (.inl e)))) K4.out); have HW5 : Hid (Below W.heap.size W w5) := hide (HW4.out.trans (ho5.toBelow HW4.out.size (fun i e => by rw [e]; exact HGR.out))); obtain ⟨s1, s2, s3, s4⟩ := K5.out; clear hr5 ho5)))
      | fail
    all_goals
      go_wp2
      go_ret
      exact ⟨rfl, ⟨R, H1, X, vo5, vc5, ⟨HP5.out, HR5.out, HRK.out, HW5.out, HGA.out, HGB.out, HGR.out, hrl⟩, by have := HTF.out.2; omega⟩, OA5.out⟩
  · have HGV := hide (fun w' (h : PoAt w' p a b R H) => give_any ow HIN.out.lo p a b R H w' h (by omega))
    have HRG := hide (fun w' (h : RpAt w' pr (pr + 1) X H uo vo uc vc) (hs : pr + 1 ≤ w'.heap.size) => rgive_any ow pr (pr + 1) X H uo vo uc vc w' h (by omega) hs)
    have HLE := hide (give_len H ow)
    generalize giveF H ow = H1 at *
    obtain ⟨V, hV⟩ : ∃ V : Int, ((H.length : Nat) : Int) - ((H1.length : Nat) : Int) = V := ⟨_, rfl⟩
    rw [hV] at HGV HRG
    clear hV
    unfold ptr at HGV HRG
    obtain ⟨k1, k2, k3, k4⟩ := K0.out
    have hb0d : Below w0.heap.size w0 w0.drew := (Below.refl _ _).drew
    have DD := hide (D0.out.below hb0d)
    have KD := hide (show w0.drew.cell? ⟨w.heap.size, 1, none⟩ = some (.int .i64 ow) ∧ w0.drew.cell? ⟨w.heap.size, 2, none⟩ = some (.slice no nl.length nc) ∧ w0.drew.cell? ⟨w.heap.size, 3, none⟩ = some (.string nm) ∧ w0.drew.cell? ⟨w.heap.size, 4, none⟩ = some (.int .i64 nn) from ⟨k1, k2, k3, k4⟩)
    clear hb0d
    go_wp2_with fail
    first
      | (go_region_held3 (fun w' => w'.cell? ⟨w.heap.size, 1, none⟩ = some (.int .i64 ow) ∧ w'.cell? ⟨w.heap.size, 2, none⟩ = some (.slice no nl.length nc) ∧ w'.cell? ⟨w.heap.size, 3, none⟩ = some (.string nm) ∧ w'.cell? ⟨w.heap.size, 4, none⟩ = some (.int .i64 nn)) (go_keep)
          (first
            | (go_at_call 19; refine (HGV.out _ DD.out.po).mono ?_; rintro e w4 ⟨rfl, hp4, ho4⟩; have HP4 := hide hp4; have OA4 := hide (OA.out.trans ho4 (fun _ _ e => .inr (.inl e))); have K4 := hide (KS.out _ _ (ho4.mono (fun i _ e => .inr (.inl e))) KD.out); have HR4 := hide (DD.out.rp.keepP DD.out.po (ho4.mono (fun i _ e => .inr e))); have HW4 : Hid (Below W.heap.size W w4) := hide (DD.out.bel.trans (ho4.toBelow DD.out.bel.size (fun i e => by rw [e]; exact HGB.out))); obtain ⟨r1, r2, r3, r4⟩ := K4.out; clear hp4 ho4)
            | (go_at_call 54; refine (HRG.out _ HR4.out (block_lt HR4.out.blk)).mono ?_; rintro e w5 ⟨rfl, ⟨vo5, vc5, hr5⟩, ho5⟩; have HR5 := hide hr5; have OA5 := hide (OA4.out.trans ho5 (fun _ _ e => .inr (.inr (.inl e)))); have HP5 := hide (HP4.out.keepR HR4.out (ho5.mono (fun i _ e => .inl e))); have K5 := hide (KS.out _ _ (ho5.mono (fun i _ e => .inr (.inr (.inl e)))) K4.out); have HW5 : Hid (Below W.heap.size W w5) := hide (HW4.out.trans (ho5.toBelow HW4.out.size (fun i e => by rw [e]; exact HGR.out))); obtain ⟨s1, s2, s3, s4⟩ := K5.out; clear hr5 ho5)))
      | fail
    all_goals
      go_wp2
      go_ret
      exact ⟨rfl, ⟨R, H1, X, vo5, vc5, ⟨HP5.out, HR5.out, HRK.out, HW5.out, HGA.out, HGB.out, HGR.out, hrl⟩, by have := HLE.out; omega⟩, OA5.out⟩
  · have HGV := hide (fun w' (h : PoAt w' p a b R H) => give_any ow HIN.out.lo p a b R H w' h (by omega))
    have HRG := hide (fun w' (h : RpAt w' pr (pr + 1) X H uo vo uc vc) (hs : pr + 1 ≤ w'.heap.size) => rgive_any ow pr (pr + 1) X H uo vo uc vc w' h (by omega) hs)
    have HLE := hide (give_len H ow)
    generalize giveF H ow = H1 at *
    obtain ⟨V, hV⟩ : ∃ V : Int, ((H.length : Nat) : Int) - ((H1.length : Nat) : Int) = V := ⟨_, rfl⟩
    rw [hV] at HGV HRG
    clear hV
    unfold ptr at HGV HRG
    obtain ⟨k1, k2, k3, k4⟩ := K0.out
    have hb0d : Below w0.heap.size w0 w0.drew := (Below.refl _ _).drew
    have DD := hide (D0.out.below hb0d)
    have KD := hide (show w0.drew.cell? ⟨w.heap.size, 1, none⟩ = some (.int .i64 ow) ∧ w0.drew.cell? ⟨w.heap.size, 2, none⟩ = some (.slice no nl.length nc) ∧ w0.drew.cell? ⟨w.heap.size, 3, none⟩ = some (.string nm) ∧ w0.drew.cell? ⟨w.heap.size, 4, none⟩ = some (.int .i64 nn) from ⟨k1, k2, k3, k4⟩)
    clear hb0d
    go_wp2_with fail
    first
      | (go_region_held3 (fun w' => w'.cell? ⟨w.heap.size, 1, none⟩ = some (.int .i64 ow) ∧ w'.cell? ⟨w.heap.size, 2, none⟩ = some (.slice no nl.length nc) ∧ w'.cell? ⟨w.heap.size, 3, none⟩ = some (.string nm) ∧ w'.cell? ⟨w.heap.size, 4, none⟩ = some (.int .i64 nn)) (go_keep)
          (first
            | (go_at_call 19; refine (HGV.out _ DD.out.po).mono ?_; rintro e w4 ⟨rfl, hp4, ho4⟩; have HP4 := hide hp4; have OA4 := hide (OA.out.trans ho4 (fun _ _ e => .inr (.inl e))); have K4 := hide (KS.out _ _ (ho4.mono (fun i _ e => .inr (.inl e))) KD.out); have HR4 := hide (DD.out.rp.keepP DD.out.po (ho4.mono (fun i _ e => .inr e))); have HW4 : Hid (Below W.heap.size W w4) := hide (DD.out.bel.trans (ho4.toBelow DD.out.bel.size (fun i e => by rw [e]; exact HGB.out))); obtain ⟨r1, r2, r3, r4⟩ := K4.out; clear hp4 ho4)
            | (go_at_call 54; refine (HRG.out _ HR4.out (block_lt HR4.out.blk)).mono ?_; rintro e w5 ⟨rfl, ⟨vo5, vc5, hr5⟩, ho5⟩; have HR5 := hide hr5; have OA5 := hide (OA4.out.trans ho5 (fun _ _ e => .inr (.inr (.inl e)))); have HP5 := hide (HP4.out.keepR HR4.out (ho5.mono (fun i _ e => .inl e))); have K5 := hide (KS.out _ _ (ho5.mono (fun i _ e => .inr (.inr (.inl e)))) K4.out); have HW5 : Hid (Below W.heap.size W w5) := hide (HW4.out.trans (ho5.toBelow HW4.out.size (fun i e => by rw [e]; exact HGR.out))); obtain ⟨s1, s2, s3, s4⟩ := K5.out; clear hr5 ho5)))
      | fail
    all_goals
      go_wp2
      go_ret
      exact ⟨rfl, ⟨R, H1, X, vo5, vc5, ⟨HP5.out, HR5.out, HRK.out, HW5.out, HGA.out, HGB.out, HGR.out, hrl⟩, by have := HLE.out; omega⟩, OA5.out⟩
  · have HPR := hide (fun w' (h : PoAt w' p a b R H) => presize_any nm HIN.out.nmf nn p a b R H w' h (by omega))
    have HRR := hide (fun w' (h : RpAt w' pr (pr + 1) X H uo vo uc vc) => rresize_any nm nn pr (pr + 1) X H uo vo uc vc w' h (by omega) HFN.out)
    unfold RRes at HRR
    rw [HRK.out] at HRR
    have HLE := hide (resize_fine (show FineP R H from by rw [← HRK.out]; exact HFN.out) nm nn).2
    generalize resizeF R nm nn = T at *
    obtain ⟨R1, e1⟩ := T
    simp only at HPR HRR HLE
    unfold ptr at HPR HRR
    obtain ⟨k1, k2, k3, k4⟩ := K0.out
    have hb0d : Below w0.heap.size w0 w0.drew := (Below.refl _ _).drew
    have DD := hide (D0.out.below hb0d)
    have HUB := hide (fun k (e : (Value.slice uo X.length uc).ownBlock = some k) => (D0.out.rp.rs.lt k e).1)
    have KD := hide (show w0.drew.cell? ⟨w.heap.size, 1, none⟩ = some (.int .i64 ow) ∧ w0.drew.cell? ⟨w.heap.size, 2, none⟩ = some (.slice no nl.length nc) ∧ w0.drew.cell? ⟨w.heap.size, 3, none⟩ = some (.string nm) ∧ w0.drew.cell? ⟨w.heap.size, 4, none⟩ = some (.int .i64 nn) from ⟨k1, k2, k3, k4⟩)
    clear hb0d
    go_wp2_with fail
    first
      | (go_region_held3 (fun w' => w'.cell? ⟨w.heap.size, 1, none⟩ = some (.int .i64 ow) ∧ w'.cell? ⟨w.heap.size, 2, none⟩ = some (.slice no nl.length nc) ∧ w'.cell? ⟨w.heap.size, 3, none⟩ = some (.string nm) ∧ w'.cell? ⟨w.heap.size, 4, none⟩ = some (.int .i64 nn)) (go_keep)
          (first
            | (go_at_call 55; refine (HPR.out _ DD.out.po).mono ?_; rintro e w4 ⟨rfl, hp4, ho4⟩; have HP4 := hide hp4; have OA4 := hide (OA.out.trans ho4 (fun _ _ e => .inl e)); have K4 := hide (KS.out _ _ (ho4.mono (fun i _ e => .inl e)) KD.out); have HR4 := hide (DD.out.rp.keepP DD.out.po (ho4.mono (fun i _ e => .inl e))); have HW4 : Hid (Below W.heap.size W w4) := hide (DD.out.bel.trans (ho4.toBelow DD.out.bel.size (fun i e => by rw [e]; exact HGA.out))); obtain ⟨r1, r2, r3, r4⟩ := K4.out; clear hp4 ho4)
            | (go_at_call 56; refine (HRR.out _ HR4.out).mono ?_; rintro e w5 ⟨rfl, ⟨X5, hr5, hk5, hl5⟩, ho5⟩; have HR5 := hide hr5; have OA5 := hide (OA4.out.trans ho5 (fun _ _ e => .inr (.inr (.inr e)))); have HK5 := hide hk5; have HP5 := hide (HP4.out.keepR HR4.out (ho5.mono (fun i _ e => .inr e))); have K5 := hide (KS.out _ _ (ho5.mono (fun i _ e => .inr (.inr (.inr e)))) K4.out); have HW5 : Hid (Below W.heap.size W w5) := hide (HW4.out.trans (ho5.toBelow HW4.out.size (fun i e => by have := HUB.out i e; have := HGR.out; omega))); obtain ⟨s1, s2, s3, s4⟩ := K5.out; clear hr5 ho5 hk5 hl5)))
      | fail
    all_goals
      go_wp2
      go_ret
      exact ⟨rfl, ⟨R1, H, X5, vo, vc, ⟨HP5.out, HR5.out, HK5.out, HW5.out, HGA.out, HGB.out, HGR.out, by have := HLE.out; omega⟩, by omega⟩, OA5.out⟩
  · have HMY := hide (fun w' no' nc' (h : PoAt w' p a b R H) hn => may_any nl no' nc' ow HIN.out.lo p a b R H w' h hn HIN.out.fit (by omega) (by omega) (by omega))
    have HRM := hide (fun w' (h : RpAt w' pr (pr + 1) X H uo vo uc vc) hn => rmay_any ow nl no nc pr (pr + 1) X H uo vo uc vc w' h (by omega) (by omega) HFN.out hn (by omega))
    rw [HRK.out] at HRM
    generalize mayF R H ow nl = e1 at *
    unfold ptr at HMY HRM
    obtain ⟨k1, k2, k3, k4⟩ := K0.out
    have hb0d : Below w0.heap.size w0 w0.drew := (Below.refl _ _).drew
    have DD := hide (D0.out.below hb0d)
    have KD := hide (show w0.drew.cell? ⟨w.heap.size, 1, none⟩ = some (.int .i64 ow) ∧ w0.drew.cell? ⟨w.heap.size, 2, none⟩ = some (.slice no nl.length nc) ∧ w0.drew.cell? ⟨w.heap.size, 3, none⟩ = some (.string nm) ∧ w0.drew.cell? ⟨w.heap.size, 4, none⟩ = some (.int .i64 nn) from ⟨k1, k2, k3, k4⟩)
    clear hb0d
    go_wp2_with fail
    first
      | (go_region_held3 (fun w' => w'.cell? ⟨w.heap.size, 1, none⟩ = some (.int .i64 ow) ∧ w'.cell? ⟨w.heap.size, 2, none⟩ = some (.slice no nl.length nc) ∧ w'.cell? ⟨w.heap.size, 3, none⟩ = some (.string nm) ∧ w'.cell? ⟨w.heap.size, 4, none⟩ = some (.int .i64 nn)) (go_keep)
          (first
            | (go_at_call 28; refine (HNS.out _ DD.out.bel).mono ?_; rintro e w3 ⟨no3, nc3, rfl, hn3, hb3⟩; have HN3 := hide hn3; have D3 := hide (DD.out.below hb3); have K3 := hide (KS.out _ _ (Only.below hb3) KD.out); have OA3 := hide (OA.out.trans (Only.below hb3) (fun _ _ e => e)); obtain ⟨q1, q2, q3, q4⟩ := K3.out; clear hn3 hb3)
            | (go_at_call 30; refine (HMY.out _ _ _ D3.out.po HN3.out).mono ?_; rintro e w4 ⟨rfl, hb4⟩; have D4 := hide (D3.out.below hb4); have OA4 := hide (OA3.out.trans (Only.below hb4) (fun _ _ e => e)); have K4 := hide (KS.out _ _ (Only.below hb4) K3.out); obtain ⟨r1, r2, r3, r4⟩ := K4.out; clear hb4)
            | (go_at_call 57; refine (HRM.out _ D4.out.rp (HIN.out.at_.keep D4.out.bel)).mono ?_; rintro e w5 ⟨rfl, hb5⟩; have D5 := hide (D4.out.below hb5); have OA5 := hide (OA4.out.trans (Only.below hb5) (fun _ _ e => e)); have K5 := hide (KS.out _ _ (Only.below hb5) K4.out); obtain ⟨s1, s2, s3, s4⟩ := K5.out; clear hb5)))
      | fail
    all_goals
      go_wp2
      go_ret
      exact ⟨rfl, ⟨R, H, X, vo, vc, D5.out, by omega⟩, OA5.out⟩
end Go.Proofs.Ytkpambipgcjaiaa
