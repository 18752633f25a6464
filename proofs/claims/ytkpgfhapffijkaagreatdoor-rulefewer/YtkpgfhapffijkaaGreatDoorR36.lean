/- Package rule: calendars and resources. -/
import Derived.Test.YtkpgfhapffijkaaGreatDoorR33
import Derived.Test.YtkpgfhapffijkaaGreatDoorR35
namespace Go.Proofs.YtkpgfhapffijkaaGreatDoor
open Go.ChangeShapes Go.WideShapes Go.ChangeAt Go.RowKit Go.DsMem Go.DsLx Go.DsJd Go.DsMk Go.DsMap
set_option linter.unusedVariables false
set_option linter.unusedSimpArgs false
theorem inF_err (cs : List (ByteArray × Nd)) (t : Nd) (d : Int) : (inF cs t d).2 = refF cs t d := by
  unfold inF; split
  · rename_i h; exact h.symm
  · rfl
theorem map_cell {w : World} {B : Nat} {S : Sl} (h : MpT w B S) {a : Addr} {u : Value} (hc : w.cell? a = some u) : ¬ a.block = B := fun e => by
  obtain ⟨es, clock, hm⟩ := h.map
  simp only [World.cell?, e, hm] at hc
  first
  | (cases hc; done)
  | (simp at hc; done)
  | (split at hc <;> simp at hc)
theorem mpT_keep {w w' : World} {B : Nat} {S : Sl} (h : MpT w B S) (ho : Only (· = B) w w') : ∀ a u, w.cell? a = some u → w'.cell? a = some u := fun a u hc => ho.cell hc (map_cell h hc)
theorem CalsAt.mono {w w' : World} {co : Option Addr} {cc : Nat} {cs : List (ByteArray × Nd)} {g o : Nat} {V : Nat → NVal} (h : CalsAt w co cc cs g o V) (hc : ∀ a u, w.cell? a = some u → w'.cell? a = some u) : CalsAt w' co cc cs g o V :=
  ⟨h.len, h.cap, h.at_, fun j hj => hc _ _ (h.name j hj), fun j hj => (h.cell j hj).mono hc, fun j hj => (h.node j hj).mono hc⟩
theorem fitK (a : Int) (n : ByteArray) (c : Int) (hn : n.size ≤ 140737488355000) (h1 : 0 ≤ a) (h2 : a ≤ 100) (h3 : 0 ≤ c) (h4 : c ≤ 100) : FitK (a, (n, c)) := ⟨hn, ⟨by simp only; omega, by simp only; omega⟩, by simp only; omega, by simp only; omega⟩
set_option maxHeartbeats 4000000 in
set_option maxRecDepth 20000 in
/-- rule.checker.days -/
theorem cdays_any {W w : World} (h : Gc W w) {cs : List (ByteArray × Nd)} {co : Option Addr} {cc g o : Nat} {V : Nat → NVal} (hc : CalsAt w co cc cs g o V) {t : Nd} {v : NVal} (hv : NdAt w v t) (a0 a1 : Int) (ro : Option Addr) (rn rc : Nat) (jo : Option Addr) (jn jc B : Nat) :
    Calls Tryz.prog 54 #[.agg #[.int .i64 a0, .int .i64 a1, .slice co cs.length cc, .slice ro rn rc, .slice jo jn jc, .map (some B)], .agg #[.int .i64 v.op, .slice v.no v.nl v.nc, .slice v.ko v.kl v.kc, .string v.nm]] w fun e w' => e = .returned (.int .i64 (refF cs t 1)) ∧ Below w.heap.size w w' := by
  have hg := h.here
  clear h
  obtain ⟨op, no, nl, nc, ko, kl, kc, nm⟩ := v
  obtain ⟨w1, hw1⟩ : ∃ w1, (w.alloc (.cells #[.int .i64 a0, .int .i64 a1, .slice co cs.length cc, .slice ro rn rc, .slice jo jn jc, .map (some B)] 111)).alloc (.cells #[.int .i64 op, .slice no nl nc, .slice ko kl kc, .string nm] 49) = w1 := ⟨_, rfl⟩
  have hb1 : Below w.heap.size w w1 := by rw [← hw1]; exact ((Below.refl _ _).alloc (Nat.le_refl _) _).alloc (by simp) _
  have f0 : w1.heap[w.heap.size]? = some (.cells #[.int .i64 a0, .int .i64 a1, .slice co cs.length cc, .slice ro rn rc, .slice jo jn jc, .map (some B)] 111 (0, 0)) := by rw [← hw1]; exact heap_keep (heap_alloc_new w _)
  have f1 : w1.heap[w.heap.size + 1]? = some (.cells #[.int .i64 op, .slice no nl nc, .slice ko kl kc, .string nm] 49 (0, 0)) := by
    rw [← hw1]
    have := heap_alloc_new (w.alloc (.cells #[.int .i64 a0, .int .i64 a1, .slice co cs.length cc, .slice ro rn rc, .slice jo jn jc, .map (some B)] 111)) (.cells #[.int .i64 op, .slice no nl nc, .slice ko kl kc, .string nm] 49)
    simpa using this
  have x2 : w1.cell? ⟨w.heap.size, 2, none⟩ = some (.slice co cs.length cc) := by rw [cell_of f0]; rfl
  have y0 : w1.cell? ⟨w.heap.size + 1, 0, none⟩ = some (.int .i64 op) := by rw [cell_of f1]; rfl
  have y1 : w1.cell? ⟨w.heap.size + 1, 1, none⟩ = some (.slice no nl nc) := by rw [cell_of f1]; rfl
  have y2 : w1.cell? ⟨w.heap.size + 1, 2, none⟩ = some (.slice ko kl kc) := by rw [cell_of f1]; rfl
  have y3 : w1.cell? ⟨w.heap.size + 1, 3, none⟩ = some (.string nm) := by rw [cell_of f1]; rfl
  have HG1 := hide (hg.more hb1)
  have HI := hide ((hg.more hb1).here.inAny co cc cs g o V (hc.grew hb1) t _ (hv.grew hb1) 1)
  rw [inF_err] at HI
  unfold NVal.val ndV at HI
  have HB1 := hide hb1
  simp only at HI ⊢
  generalize (inF cs t 1).1 = q at HI
  generalize refF cs t 1 = r at *
  clear hg hc hv hb1 f0 f1
  generalize hp : w.heap.size = p at *
  go_enter Tryz.func54, Tryz.ntmps54
  go_wp2_with fail
  try rw [hw1]
  refine HI.out.mono ?_
  rintro e w2 ⟨rfl, hg2⟩
  have HB2 := hide (HB1.out.trans (hg2.below.mono (by have := HB1.out.size; omega)))
  clear hg2 hw1
  go_wp2
  go_ret
  exact ⟨rfl, HB2.out⟩
set_option maxHeartbeats 8000000 in
set_option maxRecDepth 20000 in
/-- rule.checker.calendar -/
theorem ccal_any {W w : World} (h : Gc W w) {cs : List (ByteArray × Nd)} {co : Option Addr} {cc g o : Nat} {V : Nat → NVal} (hc : CalsAt w co cc cs g o V) (a0 a1 : Int) (ro : Option Addr) (rn rc : Nat) (jo : Option Addr) (jn jc : Nat) {B : Nat} (hWB : W.heap.size ≤ B) {S : Sl} (hm : MpT w B S) (hl : S.length ≤ 100000)
    (i : Nat) (hi : i < cs.length) (hn : cs[i].1.size ≤ 140737488355000) :
    Calls Tryz.prog 35 #[.agg #[.int .i64 a0, .int .i64 a1, .slice co cs.length cc, .slice ro rn rc, .slice jo jn jc, .map (some B)], .int .i64 i] w fun e w' => e = .returned (.int .i64 (calErr cs S cs[i])) ∧ MpT w' B (twS S (1, (cs[i].1, 0)) i) ∧ Only (· = B) w w' := by
  have hlen := hc.len
  have hcap := hc.cap
  obtain rfl := hc.at_ (by omega)
  have kn := hc.name i hi
  obtain ⟨k0, k1, k2, k3⟩ := hc.cell i hi
  have HND := hide (hc.node i hi)
  have HC := hide hc
  have HG := hide h
  have HM := hide hm
  have HE : Hid (calErr cs S cs[i] = if twF S (1, (cs[i].1, 0)) then 22 else refF cs cs[i].2 1) := hide rfl
  have HFK : Hid (FitK (1, (cs[i].1, 0))) := hide (fitK 1 _ 0 hn (by decide) (by decide) (by decide) (by decide))
  generalize calErr cs S cs[i] = er at *
  generalize cs[i].1 = cn at *
  generalize cs[i].2 = ct at *
  generalize V i = kv at *
  obtain ⟨op, no, nl, nc, ko, kl, kc, nm⟩ := kv
  simp only at k0 k1 k2 k3
  obtain ⟨w0, hw0⟩ : ∃ w0, w.alloc (.cells #[.int .i64 a0, .int .i64 a1, .slice (some ⟨g, o, none⟩) cs.length cc, .slice ro rn rc, .slice jo jn jc, .map (some B)] 111) = w0 := ⟨_, rfl⟩
  have hb0 : Below w.heap.size w w0 := by rw [← hw0]; exact (Below.refl _ _).alloc (Nat.le_refl _) _
  have hs0 : w0.heap.size = w.heap.size + 1 := by rw [← hw0]; simp
  have g0 : w0.heap[w.heap.size]? = some (.cells #[.int .i64 a0, .int .i64 a1, .slice (some ⟨g, o, none⟩) cs.length cc, .slice ro rn rc, .slice jo jn jc, .map (some B)] 111 (0, 0)) := by rw [← hw0]; exact heap_alloc_new w _
  have x2 : w0.cell? ⟨w.heap.size, 2, none⟩ = some (.slice (some ⟨g, o, none⟩) cs.length cc) := by rw [cell_of g0]; rfl
  have kn := Below.keeps hb0 (Nat.le_refl _) kn
  have k0 := Below.keeps hb0 (Nat.le_refl _) k0
  have k1 := Below.keeps hb0 (Nat.le_refl _) k1
  have k2 := Below.keeps hb0 (Nat.le_refl _) k2
  have k3 := Below.keeps hb0 (Nat.le_refl _) k3
  obtain ⟨w1, hw1⟩ : ∃ w1, w0.alloc (.cells #[.string cn, .int .i64 op, .slice no nl nc, .slice ko kl kc, .string nm] 105) = w1 := ⟨_, rfl⟩
  have hb01 : Below w0.heap.size w0 w1 := by rw [← hw1]; exact (Below.refl _ _).alloc (Nat.le_refl _) _
  have hb1 : Below w.heap.size w w1 := hb0.trans (hb01.mono (by omega))
  have hs1 : w1.heap.size = w.heap.size + 2 := by rw [← hw1]; simp [hs0]
  have f0 : w1.heap[w.heap.size]? = some (.cells #[.int .i64 a0, .int .i64 a1, .slice (some ⟨g, o, none⟩) cs.length cc, .slice ro rn rc, .slice jo jn jc, .map (some B)] 111 (0, 0)) := (hb01.block _ (by omega)).trans g0
  have f1 : w1.heap[w.heap.size + 1]? = some (.cells #[.string cn, .int .i64 op, .slice no nl nc, .slice ko kl kc, .string nm] 105 (0, 0)) := by
    rw [← hw1, ← hs0]
    exact heap_alloc_new w0 _
  have HB1 := hide hb1
  have HO1 : Hid (Only (· = B) w w1) := hide (Only.below hb1)
  have HM1 := hide (hm.below hb1)
  have HC1 := hide (hc.grew hb1)
  have HN1 := hide (HND.out.grew hb1)
  have HF := hide (And.intro f0 f1)
  have HT := hide (twice_any HM1.out (1, (cn, 0)) HFK.out i (by omega))
  simp only at HT
  have HBlt := hide hm.lt
  have HKP : Hid (∀ w2, Only (· = B) w1 w2 → (∀ a u, w1.cell? a = some u → w2.cell? a = some u)) := hide (fun w2 ho => mpT_keep HM1.out ho)
  have x5 : w1.cell? ⟨w.heap.size, 5, none⟩ = some (.map (some B)) := by rw [cell_of f0]; rfl
  have y0 : w1.cell? ⟨w.heap.size + 1, 0, none⟩ = some (.string cn) := by rw [cell_of f1]; rfl
  clear h hc hm hb0 hb01 hb1 g0 f0 f1 hn
  generalize htw : twF S (1, (cn, 0)) = tb at *
  generalize htS : twS S (1, (cn, 0)) i = S' at *
  generalize hp : w.heap.size = p at *
  go_enter Tryz.func35, Tryz.ntmps35
  go_upto_region 1 with fail
  try rw [hw0]
  go_upto_region 2 with fail
  try rw [hs0]
  try rw [hw1]
  clear hw0 hw1 x2 kn k0 k1 k2 k3
  go_wp2_with fail
  refine HT.out.mono ?_
  rintro e w2 ⟨rfl, hm2, ho2⟩
  have HM2 := hide hm2
  have HO2 := hide (HO1.out.trans ho2 (fun _ _ h => h))
  have HGC2 := hide (Only.gcS HG.out HO2.out (fun i hi => by omega))
  have HC2 := hide (HC1.out.mono (HKP.out w2 ho2))
  have HN2 := hide (HN1.out.mono (HKP.out w2 ho2))
  have q := HKP.out w2 ho2
  have z0 := q _ _ (show w1.cell? ⟨p, 0, none⟩ = some (.int .i64 a0) by rw [cell_of HF.out.1]; rfl)
  have z1 := q _ _ (show w1.cell? ⟨p, 1, none⟩ = some (.int .i64 a1) by rw [cell_of HF.out.1]; rfl)
  have z2 := q _ _ (show w1.cell? ⟨p, 2, none⟩ = some (.slice (some ⟨g, o, none⟩) cs.length cc) by rw [cell_of HF.out.1]; rfl)
  have z3 := q _ _ (show w1.cell? ⟨p, 3, none⟩ = some (.slice ro rn rc) by rw [cell_of HF.out.1]; rfl)
  have z4 := q _ _ (show w1.cell? ⟨p, 4, none⟩ = some (.slice jo jn jc) by rw [cell_of HF.out.1]; rfl)
  have z5 := q _ _ (show w1.cell? ⟨p, 5, none⟩ = some (.map (some B)) by rw [cell_of HF.out.1]; rfl)
  have v1 := q _ _ (show w1.cell? ⟨p + 1, 1, none⟩ = some (.int .i64 op) by rw [cell_of HF.out.2]; rfl)
  have v2 := q _ _ (show w1.cell? ⟨p + 1, 2, none⟩ = some (.slice no nl nc) by rw [cell_of HF.out.2]; rfl)
  have v3 := q _ _ (show w1.cell? ⟨p + 1, 3, none⟩ = some (.slice ko kl kc) by rw [cell_of HF.out.2]; rfl)
  have v4 := q _ _ (show w1.cell? ⟨p + 1, 4, none⟩ = some (.string nm) by rw [cell_of HF.out.2]; rfl)
  have HD := hide (cdays_any HGC2.out HC2.out HN2.out a0 a1 ro rn rc jo jn jc B)
  simp only at HD
  clear q hm2 ho2 HKP HT HF
  cases tb with
  | true =>
    go_wp2
    go_ret
    exact ⟨by rw [HE.out]; rfl, HM2.out, HO2.out⟩
  | false =>
    go_wp2_with fail
    refine HD.out.mono ?_
    rintro e w3 ⟨rfl, hb3⟩
    have HB3 := hide hb3
    have HM3 := hide (HM2.out.below hb3)
    have HO3 := hide (HO2.out.trans (Only.below (S := (· = B)) hb3) (fun _ _ h => h))
    clear hb3
    go_wp2
    go_ret
    exact ⟨by rw [HE.out]; rfl, HM3.out, HO3.out⟩
/-- resources that are only read -/
structure ResRd (w : World) (ro : Option Addr) (rc : Nat) (res : List Rs) (g : Nat) : Prop where
  cap : res.length ≤ rc
  at_ : 0 < res.length → ro = some ⟨g, 0, none⟩
  c0 : ∀ i (hi : i < res.length), w.cell? ⟨g, i * 3, none⟩ = some (.string res[i].1)
  c1 : ∀ i (hi : i < res.length), w.cell? ⟨g, i * 3 + 1, none⟩ = some (.int .i64 res[i].2.1)
  c2 : ∀ i (hi : i < res.length), w.cell? ⟨g, i * 3 + 2, none⟩ = some (.bool res[i].2.2)
theorem ResRd.mono {w w' : World} {ro : Option Addr} {rc : Nat} {res : List Rs} {g : Nat} (h : ResRd w ro rc res g) (hc : ∀ a u, w.cell? a = some u → w'.cell? a = some u) : ResRd w' ro rc res g :=
  ⟨h.cap, h.at_, fun i hi => hc _ _ (h.c0 i hi), fun i hi => hc _ _ (h.c1 i hi), fun i hi => hc _ _ (h.c2 i hi)⟩
theorem ResRd.grew {w w' : World} {ro : Option Addr} {rc : Nat} {res : List Rs} {g : Nat} (h : ResRd w ro rc res g) (hb : Below w.heap.size w w') : ResRd w' ro rc res g := h.mono fun _ _ hc => Below.keeps hb (Nat.le_refl _) hc
set_option maxHeartbeats 8000000 in
set_option maxRecDepth 20000 in
/-- rule.checker.resource -/
theorem cres_any {w : World} {res : List Rs} {ro : Option Addr} {rc g : Nat} (hr : ResRd w ro rc res g) (a0 a1 : Int) (co : Option Addr) (cn cc : Nat) (jo : Option Addr) (jn jc : Nat) {B : Nat} {S : Sl} (hm : MpT w B S) (hl : S.length ≤ 100000)
    (i : Nat) (hi : i < res.length) (hn : res[i].1.size ≤ 140737488355000) (hlen : res.length ≤ 100000) :
    Calls Tryz.prog 36 #[.agg #[.int .i64 a0, .int .i64 a1, .slice co cn cc, .slice ro res.length rc, .slice jo jn jc, .map (some B)], .int .i64 i] w fun e w' => e = .returned (.int .i64 (resErr S res[i])) ∧ MpT w' B (twS S (2, (res[i].1, 0)) i) ∧ Only (· = B) w w' := by
  have hcap := hr.cap
  obtain rfl := hr.at_ (by omega)
  have k0 := hr.c0 i hi
  have k1 := hr.c1 i hi
  have k2 := hr.c2 i hi
  have HM := hide hm
  have HE : Hid (resErr S res[i] = if twF S (2, (res[i].1, 0)) then 22 else if 1000 < res[i].2.1 then 6 else 0) := hide rfl
  have HFK : Hid (FitK (2, (res[i].1, 0))) := hide (fitK 2 _ 0 hn (by decide) (by decide) (by decide) (by decide))
  generalize resErr S res[i] = er at *
  generalize res[i].1 = nm at *
  generalize res[i].2.1 = un at *
  generalize res[i].2.2 = lk at *
  obtain ⟨w0, hw0⟩ : ∃ w0, w.alloc (.cells #[.int .i64 a0, .int .i64 a1, .slice co cn cc, .slice (some ⟨g, 0, none⟩) res.length rc, .slice jo jn jc, .map (some B)] 111) = w0 := ⟨_, rfl⟩
  have hb0 : Below w.heap.size w w0 := by rw [← hw0]; exact (Below.refl _ _).alloc (Nat.le_refl _) _
  have hs0 : w0.heap.size = w.heap.size + 1 := by rw [← hw0]; simp
  have g0 : w0.heap[w.heap.size]? = some (.cells #[.int .i64 a0, .int .i64 a1, .slice co cn cc, .slice (some ⟨g, 0, none⟩) res.length rc, .slice jo jn jc, .map (some B)] 111 (0, 0)) := by rw [← hw0]; exact heap_alloc_new w _
  have x3 : w0.cell? ⟨w.heap.size, 3, none⟩ = some (.slice (some ⟨g, 0, none⟩) res.length rc) := by rw [cell_of g0]; rfl
  have k0 := Below.keeps hb0 (Nat.le_refl _) k0
  have k1 := Below.keeps hb0 (Nat.le_refl _) k1
  have k2 := Below.keeps hb0 (Nat.le_refl _) k2
  obtain ⟨w1, hw1⟩ : ∃ w1, w0.alloc (.cells #[.string nm, .int .i64 un, .bool lk] 32) = w1 := ⟨_, rfl⟩
  have hb01 : Below w0.heap.size w0 w1 := by rw [← hw1]; exact (Below.refl _ _).alloc (Nat.le_refl _) _
  have hb1 : Below w.heap.size w w1 := hb0.trans (hb01.mono (by omega))
  have f0 : w1.heap[w.heap.size]? = some (.cells #[.int .i64 a0, .int .i64 a1, .slice co cn cc, .slice (some ⟨g, 0, none⟩) res.length rc, .slice jo jn jc, .map (some B)] 111 (0, 0)) := (hb01.block _ (by omega)).trans g0
  have f1 : w1.heap[w.heap.size + 1]? = some (.cells #[.string nm, .int .i64 un, .bool lk] 32 (0, 0)) := by
    rw [← hw1, ← hs0]
    exact heap_alloc_new w0 _
  have HB1 := hide hb1
  have HO1 : Hid (Only (· = B) w w1) := hide (Only.below hb1)
  have HM1 := hide (hm.below hb1)
  have HT := hide (twice_any HM1.out (2, (nm, 0)) HFK.out i (by omega))
  simp only at HT
  have HKP : Hid (∀ w2, Only (· = B) w1 w2 → (∀ a u, w1.cell? a = some u → w2.cell? a = some u)) := hide (fun w2 ho => mpT_keep HM1.out ho)
  have x5 : w1.cell? ⟨w.heap.size, 5, none⟩ = some (.map (some B)) := by rw [cell_of f0]; rfl
  have y0 : w1.cell? ⟨w.heap.size + 1, 0, none⟩ = some (.string nm) := by rw [cell_of f1]; rfl
  have y1 : w1.cell? ⟨w.heap.size + 1, 1, none⟩ = some (.int .i64 un) := by rw [cell_of f1]; rfl
  have Y1 := hide y1
  clear hm hr hb0 hb01 hb1 g0 f0 f1 hn y1
  generalize htw : twF S (2, (nm, 0)) = tb at *
  generalize htS : twS S (2, (nm, 0)) i = S' at *
  generalize hp : w.heap.size = p at *
  go_enter Tryz.func36, Tryz.ntmps36
  go_upto_region 1 with fail
  try rw [hw0]
  go_upto_region 2 with fail
  try rw [hs0]
  try rw [hw1]
  clear hw0 hw1 x3 k0 k1 k2
  go_wp2_with fail
  refine HT.out.mono ?_
  rintro e w2 ⟨rfl, hm2, ho2⟩
  have HM2 := hide hm2
  have HO2 := hide (HO1.out.trans ho2 (fun _ _ h => h))
  have z1 := HKP.out w2 ho2 _ _ Y1.out
  clear hm2 ho2 HKP HT
  cases tb with
  | true =>
    go_wp2
    go_ret
    exact ⟨by rw [HE.out]; rfl, HM2.out, HO2.out⟩
  | false =>
    by_cases hu : 1000 < un
    · have HE1 : Hid (er = 6) := hide (by rw [HE.out, if_neg (by decide), if_pos hu])
      go_wp2
      go_ret
      exact ⟨by rw [HE1.out]; rfl, HM2.out, HO2.out⟩
    · have HE1 : Hid (er = 0) := hide (by rw [HE.out, if_neg (by decide), if_neg hu])
      go_wp2
      go_ret
      exact ⟨by rw [HE1.out]; rfl, HM2.out, HO2.out⟩
theorem look_some {S : Sl} {k : Sk} {i : Int} (h : lookF S k = some i) : (k, i) ∈ S := by
  unfold lookF at h
  obtain ⟨p, hp, rfl⟩ := Option.map_eq_some_iff.1 h
  have h1 := List.find?_some hp
  have h2 := List.mem_of_find?_eq_some hp
  obtain rfl := of_decide_eq_true h1
  exact h2
theorem look_none {S : Sl} {k : Sk} (h : lookF S k = none) : ∀ x, (k, x) ∉ S := by
  unfold lookF at h
  rw [Option.map_eq_none_iff, List.find?_eq_none] at h
  exact fun x hx => h _ hx (decide_eq_true rfl)
/-- of what stood, resources stand at places of the list -/
def ResOk (S : Sl) (n : Nat) : Prop := ∀ nm i, ((2, (nm, 0)), i) ∈ S → ∃ k : Nat, i = (k : Int) ∧ k < n
set_option maxHeartbeats 8000000 in
set_option maxRecDepth 20000 in
/-- rule.checker.need -/
theorem cneed_any {w : World} {res : List Rs} {ro : Option Addr} {rc g : Nat} (hr : ResRd w ro rc res g) (a0 a1 : Int) (co : Option Addr) (cn cc : Nat) (jo : Option Addr) (jn jc : Nat) {B : Nat} {S : Sl} (hm : MpT w B S)
    (hok : ResOk S res.length) (hlen : res.length ≤ 100000) (n : Nv) (hn : n.1.size ≤ 140737488355000) :
    Calls Tryz.prog 76 #[.agg #[.int .i64 a0, .int .i64 a1, .slice co cn cc, .slice ro res.length rc, .slice jo jn jc, .map (some B)], .agg #[.string n.1, .int .i64 n.2.1, .int .i64 n.2.2]] w fun e w' => e = .returned (.int .i64 (needErr S res n)) ∧ Below w.heap.size w w' := by
  obtain ⟨nm, un, md⟩ := n
  simp only at hn ⊢
  have hfk := fitK 2 nm 0 hn (by decide) (by decide) (by decide) (by decide)
  obtain ⟨w1, hw1⟩ : ∃ w1, (w.alloc (.cells #[.int .i64 a0, .int .i64 a1, .slice co cn cc, .slice ro res.length rc, .slice jo jn jc, .map (some B)] 111)).alloc (.cells #[.string nm, .int .i64 un, .int .i64 md] 58) = w1 := ⟨_, rfl⟩
  have hb1 : Below w.heap.size w w1 := by rw [← hw1]; exact ((Below.refl _ _).alloc (Nat.le_refl _) _).alloc (by simp) _
  have f0 : w1.heap[w.heap.size]? = some (.cells #[.int .i64 a0, .int .i64 a1, .slice co cn cc, .slice ro res.length rc, .slice jo jn jc, .map (some B)] 111 (0, 0)) := by rw [← hw1]; exact heap_keep (heap_alloc_new w _)
  have f1 : w1.heap[w.heap.size + 1]? = some (.cells #[.string nm, .int .i64 un, .int .i64 md] 58 (0, 0)) := by
    rw [← hw1]
    have := heap_alloc_new (w.alloc (.cells #[.int .i64 a0, .int .i64 a1, .slice co cn cc, .slice ro res.length rc, .slice jo jn jc, .map (some B)] 111)) (.cells #[.string nm, .int .i64 un, .int .i64 md] 58)
    simpa using this
  have HB1 := hide hb1
  have hm1 := hm.below hb1
  have hr1 := hr.grew hb1
  have x5 : w1.cell? ⟨w.heap.size, 5, none⟩ = some (.map (some B)) := by rw [cell_of f0]; rfl
  have x3 : w1.cell? ⟨w.heap.size, 3, none⟩ = some (.slice ro res.length rc) := by rw [cell_of f0]; rfl
  have y0 : w1.cell? ⟨w.heap.size + 1, 0, none⟩ = some (.string nm) := by rw [cell_of f1]; rfl
  have y2 : w1.cell? ⟨w.heap.size + 1, 2, none⟩ = some (.int .i64 md) := by rw [cell_of f1]; rfl
  clear hm hr hb1 f0 f1
  obtain ⟨R, hR⟩ : ∃ R, needErr S res (nm, (un, md)) = R := ⟨_, rfl⟩
  rw [hR]
  unfold needErr at hR
  dsimp only at hR
  cases hlk : lookF S (2, (nm, 0)) with
  | none =>
    rw [hlk] at hR
    dsimp only at hR
    subst hR
    have hrun := hm1.look_not mkT (zeroT w1) hfk (look_none hlk) true
    unfold skV inV at hrun
    dsimp only at hrun
    rw [if_pos rfl] at hrun
    clear hok hlk hm1 hr1
    generalize hp : w.heap.size = p at *
    go_enter Tryz.func76, Tryz.ntmps76
    go_upto_region 1 with fail
    try rw [hw1]
    clear hw1
    go_wp2
    go_ret
    exact ⟨rfl, HB1.out⟩
  | some ii =>
    obtain ⟨k, rfl, hk⟩ := hok _ _ (look_some hlk)
    have hrun := hm1.look mkT (zeroT w1) (look_some hlk) true
    unfold skV inV at hrun
    dsimp only at hrun
    rw [if_pos rfl] at hrun
    have hcap := hr1.cap
    obtain rfl := hr1.at_ (by omega)
    have c2 := hr1.c2 k hk
    have hget : res[((k : Nat) : Int).toNat]? = some res[k] := by simp [hk]
    rw [hlk] at hR
    dsimp only at hR
    rw [hget] at hR
    dsimp only at hR
    have hR2 : ∀ lk, res[k].2.2 = lk → R = if lk = decide (md ≠ 0) then 0 else 1 := by intro lk h; subst h; rw [← hR]
    clear hR
    obtain ⟨lk, hlk2⟩ : ∃ lk, res[k].2.2 = lk := ⟨_, rfl⟩
    rw [hlk2] at c2
    have hR := hR2 lk hlk2
    clear hok hlk hm1 hr1 hget hR2 hlk2
    obtain ⟨mb, hmb⟩ : ∃ mb, (md != 0) = mb := ⟨_, rfl⟩
    have hd : decide (md ≠ 0) = mb := by rw [← hmb]; by_cases h : md = 0 <;> simp [h]
    rw [hd] at hR
    clear hd
    generalize hp : w.heap.size = p at *
    cases lk <;> cases mb
    all_goals
      subst hR
      go_enter Tryz.func76, Tryz.ntmps76
      go_upto_region 1 with fail
      try rw [hw1]
      clear hw1
      go_wp2_with fail
      go_region
      go_wp2
      go_ret
      exact ⟨rfl, HB1.out.drew⟩
end Go.Proofs.YtkpgfhapffijkaaGreatDoor
