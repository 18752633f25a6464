/- Package cal: the function that asking makes. -/
import Derived.Test.YthbfjkdklnffjaaDoorJ7
namespace Go.Proofs.YthbfjkdklnffjaaDoor
open Go.ChangeShapes Go.WideShapes Go.ChangeAt Go.RowKit Go.DsMem Go.DsMk
set_option linter.unusedVariables false

theorem AskSt.below {cs : List (ByteArray × Nd)} {k : Nat} {t : Nd} {v : NVal} {co : Option Addr} {cc B pa pk pn pd : Nat} {w w' : World} {n : Nat} (h : AskSt cs k t v co cc B pa pk pn pd w n) (hb : Below w.heap.size w w') : AskSt cs k t v co cc B pa pk pn pd w' n := by
  obtain ⟨⟨y, m, f, s, d, ha, hdd, hwas⟩, hk, hnd, hm⟩ := h
  exact ⟨⟨y, m, f, s, d, by rw [hb.block pa (block_lt ha)]; exact ha, by rw [hb.block pd (block_lt hdd)]; exact hdd, hwas⟩, by rw [hb.block pk (block_lt hk)]; exact hk, by rw [hb.block pn (block_lt hnd)]; exact hnd, hm.below hb⟩
/-- what the function answers: whether the day is one of the node's -/
def Asked (cs : List (ByteArray × Nd)) (k : Nat) (t : Nd) (day : Int) (e : Ending) : Prop := ∃ M : Mo, M.ok ∧ M.f ≤ day ∧ day < M.f + M.s ∧ e = .returned (.bool (hasB (daysF cs M k t) (day - M.f + 1)))
/-- the function's end: the days of the month that it holds -/
def AskD (cs : List (ByteArray × Nd)) (k : Nat) (t : Nd) (v : NVal) (co : Option Addr) (cc B pa pk pn pd n : Nat) (day : Int) (w : World) (e : Ending) (w' : World) : Prop :=
  Asked cs k t day e ∧ (∃ n', n' ≤ n ∧ AskSt cs k t v co cc B pa pk pn pd w' n') ∧ Only (fun i => i = B ∨ i = pa ∨ i = pd) w w'
def AskFn : Prop := ∀ (cs : List (ByteArray × Nd)) (k : Nat) (t : Nd) (v : NVal) (co : Option Addr) (cc B pa pk pn pd n : Nat) (day : Int) (W w : World) (g o : Nat) (V : Nat → NVal),
  Gc W w → (W.heap.size ≤ B ∧ W.heap.size ≤ pa ∧ W.heap.size ≤ pd ∧ ¬ pa = B ∧ ¬ pd = B ∧ ¬ pa = pd ∧ ¬ pk = pa ∧ ¬ pk = pd ∧ ¬ pk = B ∧ ¬ pn = pa ∧ ¬ pn = pd ∧ ¬ pn = B) → NdAt W v t → CalsAt W co cc cs g o V → cs.length ≤ 24 → okD cs k t → n + costF cs k t ≤ 100000 → 1 ≤ day → day ≤ 3652059 → AskSt cs k t v co cc B pa pk pn pd w n →
  Calls Tryd.prog 25 #[.int .i64 day, .pointer (some ⟨pa, 0, none⟩), .pointer (some ⟨pk, 0, none⟩), .pointer (some ⟨pn, 0, none⟩), .pointer (some ⟨pd, 0, none⟩)] w (AskD cs k t v co cc B pa pk pn pd (n + costF cs k t) day w)
set_option maxHeartbeats 4000000 in
theorem askFn : AskFn := by
  intro cs k t v co cc B pa pk pn pd n day W w g o V h hd hv hc h24 hok hn hd1 hd2 hs
  obtain ⟨⟨y, m, f, s, d, ha, hdd, hwas⟩, hk, hnd, hm⟩ := hs
  have HG := hide h
  have HD := hide hd
  have HV := hide hv
  have HC := hide hc
  have HOK := hide hok
  have HM := hide hm
  have HK := hide hk
  have HN := hide hnd
  have HA := hide ha
  have HDD := hide hdd
  have HW := hide hwas
  have c2 : w.cell? ⟨pa, 2, none⟩ = some (.int .i64 f) := by rw [cell_of ha]; rfl
  have c3 : w.cell? ⟨pa, 3, none⟩ = some (.int .i64 s) := by rw [cell_of ha]; rfl
  have hfs : 0 ≤ f ∧ f ≤ 3652059 ∧ 0 ≤ s ∧ s ≤ 31 := by
    rcases hwas with ⟨rfl, rfl⟩ | ⟨h, _⟩
    · omega
    · have := isMo_bd h; omega
  obtain ⟨f1, f2, s1, s2⟩ := hfs
  clear h hd hv hc hok hm hk hnd ha hdd hwas
  --BRANCHES
  rcases Int.lt_or_le day f with hlt0 | hle0
  · go_enter Tryd.func25, Tryd.ntmps25
    go_wp2_with fail
    have HG1 := hide (HG.out.here.monthOf day hd1 hd2)
    refine HG1.out.mono ?_
    rintro e w1 ⟨⟨y1, m1, f1, s1, rfl, hmo, hle, hlt⟩, hg1⟩
    have HMO := hide hmo
    have HG2 := hide hg1
    have hb1 := hg1.below
    have ha1 : w1.heap[pa]? = some (.cells #[.int .i64 y, .int .i64 m, .int .i64 f, .int .i64 s] 67 (0, 0)) := by rw [hb1.block pa (block_lt HA.out)]; exact HA.out
    have HA1 := hide ha1
    have q0 : w1.cell? ⟨pa, 0, none⟩ = some (.int .i64 y) ∧ w1.frozen? ⟨pa, 0, none⟩ = false := ⟨by rw [cell_of ha1]; rfl, frozen_of ha1⟩
    obtain ⟨q0, z0⟩ := q0
    have z1 : w1.frozen? ⟨pa, 1, none⟩ = false := frozen_of ha1
    have z2 : w1.frozen? ⟨pa, 2, none⟩ = false := frozen_of ha1
    have z3 : w1.frozen? ⟨pa, 3, none⟩ = false := frozen_of ha1
    have q1 : w1.cell? ⟨pa, 1, none⟩ = some (.int .i64 m) := by rw [cell_of ha1]; rfl
    have q2 : w1.cell? ⟨pa, 2, none⟩ = some (.int .i64 f) := by rw [cell_of ha1]; rfl
    have q3 : w1.cell? ⟨pa, 3, none⟩ = some (.int .i64 s) := by rw [cell_of ha1]; rfl
    have hk1 : w1.heap[pk]? = some (.cells #[.slice co cs.length cc, .map (some B)] 53 (0, 0)) := by rw [hb1.block pk (block_lt HK.out)]; exact HK.out
    have hn1 : w1.heap[pn]? = some (.cells #[.int .i64 v.op, .slice v.no v.nl v.nc, .slice v.ko v.kl v.kc, .string v.nm] 31 (0, 0)) := by rw [hb1.block pn (block_lt HN.out)]; exact HN.out
    have hdd1 : w1.heap[pd]? = some (.cells #[.int .u32 d] 69 (0, 0)) := by rw [hb1.block pd (block_lt HDD.out)]; exact HDD.out
    have HK1 := hide hk1
    have HN1 := hide hn1
    have HDD1 := hide hdd1
    have HM1 := hide (HM.out.below hb1)
    obtain ⟨wB, wpa, wpd, npaB, npdB, npad, nkpa, nkpd, nkB, nnpa, nnpd, nnB⟩ := HD.out
    have nkpa' : ¬ pa = pk := fun e => nkpa e.symm
    have nnpa' : ¬ pa = pn := fun e => nnpa e.symm
    have npad' : ¬ pd = pa := fun e => npad e.symm
    have kk0 : w1.cell? ⟨pk, 0, none⟩ = some (.slice co cs.length cc) := by rw [cell_of hk1]; rfl
    have kk1 : w1.cell? ⟨pk, 1, none⟩ = some (.map (some B)) := by rw [cell_of hk1]; rfl
    have nn0 : w1.cell? ⟨pn, 0, none⟩ = some (.int .i64 v.op) := by rw [cell_of hn1]; rfl
    have nn1 : w1.cell? ⟨pn, 1, none⟩ = some (.slice v.no v.nl v.nc) := by rw [cell_of hn1]; rfl
    have nn2 : w1.cell? ⟨pn, 2, none⟩ = some (.slice v.ko v.kl v.kc) := by rw [cell_of hn1]; rfl
    have nn3 : w1.cell? ⟨pn, 3, none⟩ = some (.string v.nm) := by rw [cell_of hn1]; rfl
    clear ha1 hmo hg1 hb1 hk1 hn1 hdd1
    unfold moV
    go_wp2_with fail
    obtain ⟨wS, hwS⟩ : ∃ wS, wS = (((w1.setCell ⟨pa, 0, none⟩ (.int .i64 y1)).setCell ⟨pa, 1, none⟩ (.int .i64 m1)).setCell ⟨pa, 2, none⟩ (.int .i64 f1)).setCell ⟨pa, 3, none⟩ (.int .i64 s1) := ⟨_, rfl⟩
    rw [← hwS]
    have haS : wS.heap[pa]? = some (.cells #[.int .i64 y1, .int .i64 m1, .int .i64 f1, .int .i64 s1] 67 (0, 0)) := by
      rw [hwS, hset_same (hset_same (hset_same (hset_same HA1.out _) _) _) _]; rfl
    have hoS : Only (· = pa) w1 wS := by rw [hwS]; exact (((Only.set _ _ _ _).trans (Only.set _ _ _ _) (fun _ _ h => h)).trans (Only.set _ _ _ _) (fun _ _ h => h)).trans (Only.set _ _ _ _) (fun _ _ h => h)
    have hkS := hoS.block pk (block_lt HK1.out) nkpa
    have hnS := hoS.block pn (block_lt HN1.out) nnpa
    have hdS := hoS.block pd (block_lt HDD1.out) npad'
    rw [HK1.out] at hkS
    rw [HN1.out] at hnS
    rw [HDD1.out] at hdS
    have hmS : Memo cs wS B n := HM1.out.same (hoS.block B HM1.out.lt (fun e => npaB e.symm))
    have HGS : Hid (Gc W wS) := Only.gc (HG.out.more HG2.out.below) hoS wpa
    have hf1 := isMo_bd HMO.out
    obtain ⟨-, -, -, -, hf1, hf2, -, -⟩ := hf1
    have HAS := hide haS
    have HOS := hide hoS
    have HKS := hide hkS
    have HNS := hide hnS
    have HDS := hide hdS
    have HMS := hide hmS
    clear haS hoS hkS hnS hdS hmS hwS q0 q1 q2 q3 z0 z1 z2 z3 kk0 kk1 nn0 nn1 nn2 nn3
    refine (days_any2 k t v ⟨y1, m1, f1, s1⟩ n W wS B co cc cs g o V HGS.out wB HV.out HC.out h24 HMS.out HMO.out HOK.out hn).mono ?_
    obtain ⟨dd, hdv⟩ : ∃ dd, dd = daysF cs ⟨y1, m1, f1, s1⟩ k t := ⟨_, rfl⟩
    have HDV := hide hdv
    have HDL : Hid (dd < 4294967296) := by rw [hdv]; exact Nat.lt_trans (daysF_lt cs ⟨y1, m1, f1, s1⟩ k t) (by decide)
    rw [← hdv]
    rintro e w2 ⟨rfl, ⟨n2, hn2, hm2⟩, ho2⟩
    have ha2 := ho2.block pa (block_lt HAS.out) npaB
    have hd2' := ho2.block pd (block_lt HDS.out) npdB
    have hk2 := ho2.block pk (block_lt HKS.out) nkB
    have hnn2 := ho2.block pn (block_lt HNS.out) nnB
    rw [HAS.out] at ha2
    rw [HDS.out] at hd2'
    rw [HKS.out] at hk2
    rw [HNS.out] at hnn2
    have HA2 := hide ha2
    have HD2 := hide hd2'
    have HK2 := hide hk2
    have HNN2 := hide hnn2
    have HN2 := hide hn2
    have HM2 := hide hm2
    have HO2 := hide ho2
    have r0 : w2.cell? ⟨pd, 0, none⟩ = some (.int .u32 d) := by rw [cell_of hd2']; rfl
    have r1 : w2.frozen? ⟨pd, 0, none⟩ = false := frozen_of hd2'
    clear ha2 hd2' hk2 hnn2 hn2 hm2 ho2 hdv
    go_wp2_with fail
    obtain ⟨wT, hwT⟩ : ∃ wT, wT = w2.setCell ⟨pd, 0, none⟩ (.int .u32 dd) := ⟨_, rfl⟩
    rw [← hwT]
    have hoT : Only (· = pd) w2 wT := by rw [hwT]; exact Only.set _ _ _ _
    have HDT : Hid (wT.heap[pd]? = some (.cells #[.int .u32 dd] 69 (0, 0))) := by refine hide ?_; rw [hwT, hset_same HD2.out _]; rfl
    have HAT : Hid (wT.heap[pa]? = some (.cells #[.int .i64 y1, .int .i64 m1, .int .i64 f1, .int .i64 s1] 67 (0, 0))) := by refine hide ?_; rw [hoT.block pa (block_lt HA2.out) npad]; exact HA2.out
    have HKT : Hid (wT.heap[pk]? = some (.cells #[.slice co cs.length cc, .map (some B)] 53 (0, 0))) := by refine hide ?_; rw [hoT.block pk (block_lt HK2.out) nkpd]; exact HK2.out
    have HNT : Hid (wT.heap[pn]? = some (.cells #[.int .i64 v.op, .slice v.no v.nl v.nc, .slice v.ko v.kl v.kc, .string v.nm] 31 (0, 0))) := by refine hide ?_; rw [hoT.block pn (block_lt HNN2.out) nnpd]; exact HNN2.out
    have HMT : Hid (Memo cs wT B n2) := HM2.out.same (hoT.block B HM2.out.lt (fun e => npdB e.symm))
    have HGT : Hid (Gc W wT) := Only.gc (Only.gc HGS.out HO2.out wB) hoT wpd
    have HOT : Hid (Only (fun i => i = B ∨ i = pa ∨ i = pd) w1 wT) := (HOS.out.mono (T := fun i => i = B ∨ i = pa ∨ i = pd) (fun i _ h => .inr (.inl h))).trans ((HO2.out.mono (T := fun i => i = B ∨ i = pd) (fun i _ h => .inl h)).trans hoT (fun i _ h => .inr h)) (fun i _ h => h.elim .inl (fun h => .inr (.inr h)))
    clear hwT hoT r0 r1
    have KP : Hid (∀ w', Below wT.heap.size wT.drew w' → w'.cell? ⟨pa, 0, none⟩ = some (.int .i64 y1) ∧ w'.cell? ⟨pa, 1, none⟩ = some (.int .i64 m1) ∧ w'.cell? ⟨pa, 2, none⟩ = some (.int .i64 f1) ∧ w'.cell? ⟨pa, 3, none⟩ = some (.int .i64 s1) ∧ w'.cell? ⟨pd, 0, none⟩ = some (.int .u32 dd)) := fun w' hb =>
      ⟨Below.keeps hb (Nat.le_refl _) (a := ⟨pa, 0, none⟩) (by show wT.cell? _ = _; rw [cell_of HAT.out]; rfl), Below.keeps hb (Nat.le_refl _) (a := ⟨pa, 1, none⟩) (by show wT.cell? _ = _; rw [cell_of HAT.out]; rfl), Below.keeps hb (Nat.le_refl _) (a := ⟨pa, 2, none⟩) (by show wT.cell? _ = _; rw [cell_of HAT.out]; rfl), Below.keeps hb (Nat.le_refl _) (a := ⟨pa, 3, none⟩) (by show wT.cell? _ = _; rw [cell_of HAT.out]; rfl), Below.keeps hb (Nat.le_refl _) (a := ⟨pd, 0, none⟩) (by show wT.cell? _ = _; rw [cell_of HDT.out]; rfl)⟩
    obtain ⟨k0, k1, k2, k3, k4⟩ := KP.out wT.drew (Below.refl _ _)
    first
      | (go_region_held3 (fun w' => w'.cell? ⟨pa, 0, none⟩ = some (.int .i64 y1) ∧ w'.cell? ⟨pa, 1, none⟩ = some (.int .i64 m1) ∧ w'.cell? ⟨pa, 2, none⟩ = some (.int .i64 f1) ∧ w'.cell? ⟨pa, 3, none⟩ = some (.int .i64 s1) ∧ w'.cell? ⟨pd, 0, none⟩ = some (.int .u32 dd))
          (first | go_keep | (exact KP.out _ (by assumption)))
          (first
            | (go_at_call 29; refine (HGT.out.drew.here.place y1 m1 f1 s1 day (by omega) (by omega) (by omega) (by omega)).mono ?_; rintro e wq ⟨rfl, hgq⟩; have hbq : Below wT.heap.size wT.drew wq := hgq.below)
            | (go_at_call 28; refine (has_any dd (day - f1 + 1) _ HDL.out).mono ?_; rintro e wr ⟨rfl, rfl⟩)))
      | fail
    have HQ := hide hbq
    clear k0 k1 k2 k3 k4 hgq hbq
    go_wp2
    go_ret
    have hq : Below wT.heap.size wT _ := (Below.refl _ _).drew.trans HQ.out
    refine ⟨⟨⟨y1, m1, f1, s1⟩, HMO.out, hle, hlt, ret_bool (by rw [HDV.out])⟩, ⟨n2, HN2.out, ?_⟩, ?_⟩
    · exact AskSt.below ⟨⟨y1, m1, f1, s1, dd, HAT.out, HDT.out, .inr ⟨HMO.out, HDV.out⟩⟩, HKT.out, HNT.out, HMT.out⟩ hq
    · exact (Only.below (S := fun i => i = B ∨ i = pa ∨ i = pd) HG2.out.below).trans (HOT.out.trans (Only.below hq) (fun _ _ h => h)) (fun _ _ h => h)
  rcases Int.lt_or_le day (f + s) with hlt1 | hle1
  · have hmo : IsMo y m f s ∧ d = daysF cs ⟨y, m, f, s⟩ k t := by
      rcases HW.out with ⟨rfl, rfl⟩ | h
      · omega
      · exact h
    have HMO := hide hmo
    have hf1 := (isMo_bd hmo.1).2.2.2.2.1
    have HDL : Hid (d < 4294967296) := by rw [hmo.2]; exact Nat.lt_trans (daysF_lt cs ⟨y, m, f, s⟩ k t) (by decide)
    clear hmo
    go_enter Tryd.func25, Tryd.ntmps25
    go_wp2_with fail
    have KP : Hid (∀ w', Below w.heap.size w.drew w' → w'.cell? ⟨pa, 0, none⟩ = some (.int .i64 y) ∧ w'.cell? ⟨pa, 1, none⟩ = some (.int .i64 m) ∧ w'.cell? ⟨pa, 2, none⟩ = some (.int .i64 f) ∧ w'.cell? ⟨pa, 3, none⟩ = some (.int .i64 s) ∧ w'.cell? ⟨pd, 0, none⟩ = some (.int .u32 d)) := fun w' hb =>
      ⟨Below.keeps hb (Nat.le_refl _) (a := ⟨pa, 0, none⟩) (by show w.cell? _ = _; rw [cell_of HA.out]; rfl), Below.keeps hb (Nat.le_refl _) (a := ⟨pa, 1, none⟩) (by show w.cell? _ = _; rw [cell_of HA.out]; rfl), Below.keeps hb (Nat.le_refl _) (a := ⟨pa, 2, none⟩) (by show w.cell? _ = _; rw [cell_of HA.out]; rfl), Below.keeps hb (Nat.le_refl _) (a := ⟨pa, 3, none⟩) (by show w.cell? _ = _; rw [cell_of HA.out]; rfl), Below.keeps hb (Nat.le_refl _) (a := ⟨pd, 0, none⟩) (by show w.cell? _ = _; rw [cell_of HDD.out]; rfl)⟩
    obtain ⟨k0, k1, k2, k3, k4⟩ := KP.out w.drew (Below.refl _ _)
    first
      | (go_region_held3 (fun w' => w'.cell? ⟨pa, 0, none⟩ = some (.int .i64 y) ∧ w'.cell? ⟨pa, 1, none⟩ = some (.int .i64 m) ∧ w'.cell? ⟨pa, 2, none⟩ = some (.int .i64 f) ∧ w'.cell? ⟨pa, 3, none⟩ = some (.int .i64 s) ∧ w'.cell? ⟨pd, 0, none⟩ = some (.int .u32 d))
          (first | go_keep | (exact KP.out _ (by assumption)))
          (first
            | (go_at_call 29; refine (HG.out.drew.here.place y m f s day (by omega) (by omega) (by omega) (by omega)).mono ?_; rintro e wq ⟨rfl, hgq⟩; have hbq : Below w.heap.size w.drew wq := hgq.below)
            | (go_at_call 28; refine (has_any d (day - f + 1) _ HDL.out).mono ?_; rintro e wr ⟨rfl, rfl⟩)))
      | fail
    have HQ := hide hbq
    clear k0 k1 k2 k3 k4 hgq hbq
    go_wp2
    go_ret
    have hq : Below w.heap.size w _ := (Below.refl _ _).drew.trans HQ.out
    refine ⟨⟨⟨y, m, f, s⟩, HMO.out.1, hle0, hlt1, ret_bool (by rw [← HMO.out.2])⟩, ⟨n, by omega, ?_⟩, Only.below hq⟩
    exact AskSt.below ⟨⟨y, m, f, s, d, HA.out, HDD.out, HW.out⟩, HK.out, HN.out, HM.out⟩ hq
  · go_enter Tryd.func25, Tryd.ntmps25
    go_wp2_with fail
    have HG1 := hide (HG.out.here.monthOf day hd1 hd2)
    refine HG1.out.mono ?_
    rintro e w1 ⟨⟨y1, m1, f1, s1, rfl, hmo, hle, hlt⟩, hg1⟩
    have HMO := hide hmo
    have HG2 := hide hg1
    have hb1 := hg1.below
    have ha1 : w1.heap[pa]? = some (.cells #[.int .i64 y, .int .i64 m, .int .i64 f, .int .i64 s] 67 (0, 0)) := by rw [hb1.block pa (block_lt HA.out)]; exact HA.out
    have HA1 := hide ha1
    have q0 : w1.cell? ⟨pa, 0, none⟩ = some (.int .i64 y) ∧ w1.frozen? ⟨pa, 0, none⟩ = false := ⟨by rw [cell_of ha1]; rfl, frozen_of ha1⟩
    obtain ⟨q0, z0⟩ := q0
    have z1 : w1.frozen? ⟨pa, 1, none⟩ = false := frozen_of ha1
    have z2 : w1.frozen? ⟨pa, 2, none⟩ = false := frozen_of ha1
    have z3 : w1.frozen? ⟨pa, 3, none⟩ = false := frozen_of ha1
    have q1 : w1.cell? ⟨pa, 1, none⟩ = some (.int .i64 m) := by rw [cell_of ha1]; rfl
    have q2 : w1.cell? ⟨pa, 2, none⟩ = some (.int .i64 f) := by rw [cell_of ha1]; rfl
    have q3 : w1.cell? ⟨pa, 3, none⟩ = some (.int .i64 s) := by rw [cell_of ha1]; rfl
    have hk1 : w1.heap[pk]? = some (.cells #[.slice co cs.length cc, .map (some B)] 53 (0, 0)) := by rw [hb1.block pk (block_lt HK.out)]; exact HK.out
    have hn1 : w1.heap[pn]? = some (.cells #[.int .i64 v.op, .slice v.no v.nl v.nc, .slice v.ko v.kl v.kc, .string v.nm] 31 (0, 0)) := by rw [hb1.block pn (block_lt HN.out)]; exact HN.out
    have hdd1 : w1.heap[pd]? = some (.cells #[.int .u32 d] 69 (0, 0)) := by rw [hb1.block pd (block_lt HDD.out)]; exact HDD.out
    have HK1 := hide hk1
    have HN1 := hide hn1
    have HDD1 := hide hdd1
    have HM1 := hide (HM.out.below hb1)
    obtain ⟨wB, wpa, wpd, npaB, npdB, npad, nkpa, nkpd, nkB, nnpa, nnpd, nnB⟩ := HD.out
    have nkpa' : ¬ pa = pk := fun e => nkpa e.symm
    have nnpa' : ¬ pa = pn := fun e => nnpa e.symm
    have npad' : ¬ pd = pa := fun e => npad e.symm
    have kk0 : w1.cell? ⟨pk, 0, none⟩ = some (.slice co cs.length cc) := by rw [cell_of hk1]; rfl
    have kk1 : w1.cell? ⟨pk, 1, none⟩ = some (.map (some B)) := by rw [cell_of hk1]; rfl
    have nn0 : w1.cell? ⟨pn, 0, none⟩ = some (.int .i64 v.op) := by rw [cell_of hn1]; rfl
    have nn1 : w1.cell? ⟨pn, 1, none⟩ = some (.slice v.no v.nl v.nc) := by rw [cell_of hn1]; rfl
    have nn2 : w1.cell? ⟨pn, 2, none⟩ = some (.slice v.ko v.kl v.kc) := by rw [cell_of hn1]; rfl
    have nn3 : w1.cell? ⟨pn, 3, none⟩ = some (.string v.nm) := by rw [cell_of hn1]; rfl
    clear ha1 hmo hg1 hb1 hk1 hn1 hdd1
    unfold moV
    go_wp2_with fail
    obtain ⟨wS, hwS⟩ : ∃ wS, wS = (((w1.setCell ⟨pa, 0, none⟩ (.int .i64 y1)).setCell ⟨pa, 1, none⟩ (.int .i64 m1)).setCell ⟨pa, 2, none⟩ (.int .i64 f1)).setCell ⟨pa, 3, none⟩ (.int .i64 s1) := ⟨_, rfl⟩
    rw [← hwS]
    have haS : wS.heap[pa]? = some (.cells #[.int .i64 y1, .int .i64 m1, .int .i64 f1, .int .i64 s1] 67 (0, 0)) := by
      rw [hwS, hset_same (hset_same (hset_same (hset_same HA1.out _) _) _) _]; rfl
    have hoS : Only (· = pa) w1 wS := by rw [hwS]; exact (((Only.set _ _ _ _).trans (Only.set _ _ _ _) (fun _ _ h => h)).trans (Only.set _ _ _ _) (fun _ _ h => h)).trans (Only.set _ _ _ _) (fun _ _ h => h)
    have hkS := hoS.block pk (block_lt HK1.out) nkpa
    have hnS := hoS.block pn (block_lt HN1.out) nnpa
    have hdS := hoS.block pd (block_lt HDD1.out) npad'
    rw [HK1.out] at hkS
    rw [HN1.out] at hnS
    rw [HDD1.out] at hdS
    have hmS : Memo cs wS B n := HM1.out.same (hoS.block B HM1.out.lt (fun e => npaB e.symm))
    have HGS : Hid (Gc W wS) := Only.gc (HG.out.more HG2.out.below) hoS wpa
    have hf1 := isMo_bd HMO.out
    obtain ⟨-, -, -, -, hf1, hf2, -, -⟩ := hf1
    have HAS := hide haS
    have HOS := hide hoS
    have HKS := hide hkS
    have HNS := hide hnS
    have HDS := hide hdS
    have HMS := hide hmS
    clear haS hoS hkS hnS hdS hmS hwS q0 q1 q2 q3 z0 z1 z2 z3 kk0 kk1 nn0 nn1 nn2 nn3
    refine (days_any2 k t v ⟨y1, m1, f1, s1⟩ n W wS B co cc cs g o V HGS.out wB HV.out HC.out h24 HMS.out HMO.out HOK.out hn).mono ?_
    obtain ⟨dd, hdv⟩ : ∃ dd, dd = daysF cs ⟨y1, m1, f1, s1⟩ k t := ⟨_, rfl⟩
    have HDV := hide hdv
    have HDL : Hid (dd < 4294967296) := by rw [hdv]; exact Nat.lt_trans (daysF_lt cs ⟨y1, m1, f1, s1⟩ k t) (by decide)
    rw [← hdv]
    rintro e w2 ⟨rfl, ⟨n2, hn2, hm2⟩, ho2⟩
    have ha2 := ho2.block pa (block_lt HAS.out) npaB
    have hd2' := ho2.block pd (block_lt HDS.out) npdB
    have hk2 := ho2.block pk (block_lt HKS.out) nkB
    have hnn2 := ho2.block pn (block_lt HNS.out) nnB
    rw [HAS.out] at ha2
    rw [HDS.out] at hd2'
    rw [HKS.out] at hk2
    rw [HNS.out] at hnn2
    have HA2 := hide ha2
    have HD2 := hide hd2'
    have HK2 := hide hk2
    have HNN2 := hide hnn2
    have HN2 := hide hn2
    have HM2 := hide hm2
    have HO2 := hide ho2
    have r0 : w2.cell? ⟨pd, 0, none⟩ = some (.int .u32 d) := by rw [cell_of hd2']; rfl
    have r1 : w2.frozen? ⟨pd, 0, none⟩ = false := frozen_of hd2'
    clear ha2 hd2' hk2 hnn2 hn2 hm2 ho2 hdv
    go_wp2_with fail
    obtain ⟨wT, hwT⟩ : ∃ wT, wT = w2.setCell ⟨pd, 0, none⟩ (.int .u32 dd) := ⟨_, rfl⟩
    rw [← hwT]
    have hoT : Only (· = pd) w2 wT := by rw [hwT]; exact Only.set _ _ _ _
    have HDT : Hid (wT.heap[pd]? = some (.cells #[.int .u32 dd] 69 (0, 0))) := by refine hide ?_; rw [hwT, hset_same HD2.out _]; rfl
    have HAT : Hid (wT.heap[pa]? = some (.cells #[.int .i64 y1, .int .i64 m1, .int .i64 f1, .int .i64 s1] 67 (0, 0))) := by refine hide ?_; rw [hoT.block pa (block_lt HA2.out) npad]; exact HA2.out
    have HKT : Hid (wT.heap[pk]? = some (.cells #[.slice co cs.length cc, .map (some B)] 53 (0, 0))) := by refine hide ?_; rw [hoT.block pk (block_lt HK2.out) nkpd]; exact HK2.out
    have HNT : Hid (wT.heap[pn]? = some (.cells #[.int .i64 v.op, .slice v.no v.nl v.nc, .slice v.ko v.kl v.kc, .string v.nm] 31 (0, 0))) := by refine hide ?_; rw [hoT.block pn (block_lt HNN2.out) nnpd]; exact HNN2.out
    have HMT : Hid (Memo cs wT B n2) := HM2.out.same (hoT.block B HM2.out.lt (fun e => npdB e.symm))
    have HGT : Hid (Gc W wT) := Only.gc (Only.gc HGS.out HO2.out wB) hoT wpd
    have HOT : Hid (Only (fun i => i = B ∨ i = pa ∨ i = pd) w1 wT) := (HOS.out.mono (T := fun i => i = B ∨ i = pa ∨ i = pd) (fun i _ h => .inr (.inl h))).trans ((HO2.out.mono (T := fun i => i = B ∨ i = pd) (fun i _ h => .inl h)).trans hoT (fun i _ h => .inr h)) (fun i _ h => h.elim .inl (fun h => .inr (.inr h)))
    clear hwT hoT r0 r1
    have KP : Hid (∀ w', Below wT.heap.size wT.drew w' → w'.cell? ⟨pa, 0, none⟩ = some (.int .i64 y1) ∧ w'.cell? ⟨pa, 1, none⟩ = some (.int .i64 m1) ∧ w'.cell? ⟨pa, 2, none⟩ = some (.int .i64 f1) ∧ w'.cell? ⟨pa, 3, none⟩ = some (.int .i64 s1) ∧ w'.cell? ⟨pd, 0, none⟩ = some (.int .u32 dd)) := fun w' hb =>
      ⟨Below.keeps hb (Nat.le_refl _) (a := ⟨pa, 0, none⟩) (by show wT.cell? _ = _; rw [cell_of HAT.out]; rfl), Below.keeps hb (Nat.le_refl _) (a := ⟨pa, 1, none⟩) (by show wT.cell? _ = _; rw [cell_of HAT.out]; rfl), Below.keeps hb (Nat.le_refl _) (a := ⟨pa, 2, none⟩) (by show wT.cell? _ = _; rw [cell_of HAT.out]; rfl), Below.keeps hb (Nat.le_refl _) (a := ⟨pa, 3, none⟩) (by show wT.cell? _ = _; rw [cell_of HAT.out]; rfl), Below.keeps hb (Nat.le_refl _) (a := ⟨pd, 0, none⟩) (by show wT.cell? _ = _; rw [cell_of HDT.out]; rfl)⟩
    obtain ⟨k0, k1, k2, k3, k4⟩ := KP.out wT.drew (Below.refl _ _)
    first
      | (go_region_held3 (fun w' => w'.cell? ⟨pa, 0, none⟩ = some (.int .i64 y1) ∧ w'.cell? ⟨pa, 1, none⟩ = some (.int .i64 m1) ∧ w'.cell? ⟨pa, 2, none⟩ = some (.int .i64 f1) ∧ w'.cell? ⟨pa, 3, none⟩ = some (.int .i64 s1) ∧ w'.cell? ⟨pd, 0, none⟩ = some (.int .u32 dd))
          (first | go_keep | (exact KP.out _ (by assumption)))
          (first
            | (go_at_call 29; refine (HGT.out.drew.here.place y1 m1 f1 s1 day (by omega) (by omega) (by omega) (by omega)).mono ?_; rintro e wq ⟨rfl, hgq⟩; have hbq : Below wT.heap.size wT.drew wq := hgq.below)
            | (go_at_call 28; refine (has_any dd (day - f1 + 1) _ HDL.out).mono ?_; rintro e wr ⟨rfl, rfl⟩)))
      | fail
    have HQ := hide hbq
    clear k0 k1 k2 k3 k4 hgq hbq
    go_wp2
    go_ret
    have hq : Below wT.heap.size wT _ := (Below.refl _ _).drew.trans HQ.out
    refine ⟨⟨⟨y1, m1, f1, s1⟩, HMO.out, hle, hlt, ret_bool (by rw [HDV.out])⟩, ⟨n2, HN2.out, ?_⟩, ?_⟩
    · exact AskSt.below ⟨⟨y1, m1, f1, s1, dd, HAT.out, HDT.out, .inr ⟨HMO.out, HDV.out⟩⟩, HKT.out, HNT.out, HMT.out⟩ hq
    · exact (Only.below (S := fun i => i = B ∨ i = pa ∨ i = pd) HG2.out.below).trans (HOT.out.trans (Only.below hq) (fun _ _ h => h)) (fun _ _ h => h)
end Go.Proofs.YthbfjkdklnffjaaDoor
