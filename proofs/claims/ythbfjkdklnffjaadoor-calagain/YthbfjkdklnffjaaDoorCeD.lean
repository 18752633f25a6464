/- Package cal: the walk of named. -/
import Derived.Test.YthbfjkdklnffjaaDoorCeC
namespace Go.Proofs.YthbfjkdklnffjaaDoor
open Go.ChangeShapes Go.WideShapes Go.ChangeAt Go.RowKit Go.DsMem Go.DsMk
set_option linter.unusedVariables false

theorem bcell {W w1 : World} (hb : Below W.heap.size W w1) : (∀ b o, b < W.heap.size → w1.cell? ⟨b, o, none⟩ = W.cell? ⟨b, o, none⟩) ∧ (∀ b o, b < W.heap.size → w1.frozen? ⟨b, o, none⟩ = W.frozen? ⟨b, o, none⟩) :=
  ⟨fun b o h => hb.cell (p := ⟨b, o, none⟩) h, fun b o h => hb.frozen (p := ⟨b, o, none⟩) h⟩
theorem Gc.setc {W w : World} (h : Gc W w) {p : Nat} (hp : W.heap.size ≤ p) (k : Nat) (x : Value) : Gc W (w.setCell ⟨p, k, none⟩ x) := ⟨h.bits, h.len, h.shp, h.below.setCell hp _⟩
theorem wf32 {n : Int} (h1 : 0 ≤ n) (h2 : n ≤ 4294967295) : (Lit.int .u32 n).wf = true := by
  have e1 : IntKind.u32.min = 0 := rfl
  have e2 : IntKind.u32.max = 4294967295 := rfl
  simp [Lit.wf, e1, e2]; omega
/-- the key lies in block q -/
def KeyIn (wA w : World) (q : Nat) (c f : Int) : Prop := w.heap[q]? = some (.cells #[.int .i64 c, .int .i64 f] 91 (0, 0)) ∧ Gc wA w ∧ wA.heap.size ≤ q
theorem zeroMonth (w : World) : (zeroValue 69).run Tryd.prog w = .ok (.int .u32 0) w := by kernel_rfl

set_option maxHeartbeats 8000000 in
set_option maxRecDepth 20000 in
/-- cal.asker.named -/
theorem named_step (k : Nat) (ih : DaysOk k) (nm : ByteArray) (t : Nd) (M : Mo) (n : Nat) (W w : World) (B : Nat) (co : Option Addr) (cc : Nat) (cs : List (ByteArray × Nd)) (g o : Nat) (V : Nat → NVal)
    (h : Gc W w) (hp : W.heap.size ≤ B) (hc : CalsAt W co cc cs g o V) (h24 : cs.length ≤ 24) (hm : Memo cs w B n) (hM : M.ok) (hcal : calOf cs nm = some t) (hk : okD cs k t) (hn : n + (1 + costF cs k t) ≤ 100000) :
    Calls Tryd.prog 39 #[askrV co cs.length cc B, .string nm, M.val] w (Dayd cs w B (n + (1 + costF cs k t)) (daysF cs M k t)) := by
  obtain ⟨b1, b2, b3, b4, b5, b6, b7, b8⟩ := isMo_bd hM
  have HIH := hide ih
  have HG := hide h
  have HC := hide hc
  have HMM := hide hm
  have HMO := hide hM
  have HK := hide hk
  clear ih h hc hm hM hk
  have hfi : fiC cs nm < cs.length := by
    rcases Nat.lt_or_ge (fiC cs nm) cs.length with h | h
    · exact h
    · rw [calOf_none (by omega)] at hcal; cases hcal
  have HV : Hid (fiV cs nm = (fiC cs nm : Int)) := by show _ = _; unfold fiV; rw [if_pos hfi]
  obtain ⟨i, hi⟩ : ∃ i, fiC cs nm = i := ⟨_, rfl⟩
  have HT : Hid (∀ hj : i < cs.length, cs[i].2 = t) := fun hj => by
    have := calOf_some hfi
    rw [hcal] at this
    subst hi
    exact (Option.some.inj this).symm
  rw [hi] at HV hfi
  clear hi hcal
  have hB : B < w.heap.size := HMM.out.lt
  unfold askrV Mo.val moV
  go_enter Tryd.func39, Tryd.ntmps39
  go_wp2
  obtain ⟨wB, hwB⟩ : ∃ wB, wB = w.alloc (.cells #[.slice co cs.length cc, .map (some B)] 53) := ⟨_, rfl⟩
  have hbx : wB.heap[w.heap.size]? = some (.cells #[.slice co cs.length cc, .map (some B)] 53 (0, 0)) := by rw [hwB]; exact heap_alloc_new w _
  have HZ : Hid (w.heap.size + 1 = wB.heap.size) := by rw [hwB]; show _ = _; simp
  have HBL : Hid (Below w.heap.size w wB) := by rw [hwB]; exact (Below.refl _ _).alloc (Nat.le_refl _) _
  rw [← hwB, HZ.out]
  clear hwB
  obtain ⟨wA, hwA⟩ : ∃ wA, wA = wB.alloc (.cells #[.int .i64 M.y, .int .i64 M.m, .int .i64 M.f, .int .i64 M.s] 67) := ⟨_, rfl⟩
  have hmo : wA.heap[wB.heap.size]? = some (.cells #[.int .i64 M.y, .int .i64 M.m, .int .i64 M.f, .int .i64 M.s] 67 (0, 0)) := by rw [hwA]; exact heap_alloc_new wB _
  have hax : wA.heap[w.heap.size]? = some (.cells #[.slice co cs.length cc, .map (some B)] 53 (0, 0)) := by rw [hwA]; exact heap_keep hbx
  have HBA : Hid (Below w.heap.size w wA) := by rw [hwA]; exact HBL.out.trans (((Below.refl _ _).alloc (Nat.le_refl _) _).mono HBL.out.size)
  rw [← hwA]
  clear hwA hbx
  have HMOB := hide hmo
  have HASK := hide hax
  clear hmo hax
  generalize hp5 : wB.heap.size = p5 at HMOB HZ ⊢
  generalize hp3 : w.heap.size = p3 at HASK HZ ⊢
  have HGA : Hid (Gc W wA) := HG.out.more HBA.out
  have HMA : Hid (Memo cs wA B n) := HMM.out.below HBA.out
  have CEL : Hid (∀ w', Below wA.heap.size wA w' → w'.cell? ⟨p3, 0, none⟩ = some (.slice co cs.length cc) ∧ w'.cell? ⟨p3, 1, none⟩ = some (.map (some B)) ∧ w'.cell? ⟨p5, 0, none⟩ = some (.int .i64 M.y) ∧ w'.cell? ⟨p5, 1, none⟩ = some (.int .i64 M.m) ∧ w'.cell? ⟨p5, 2, none⟩ = some (.int .i64 M.f) ∧ w'.cell? ⟨p5, 3, none⟩ = some (.int .i64 M.s)) := fun w' hb => by
    have e1 := (hb.block p3 (block_lt HASK.out)).trans HASK.out
    have e2 := (hb.block p5 (block_lt HMOB.out)).trans HMOB.out
    exact ⟨by rw [cell_of e1]; rfl, by rw [cell_of e1]; rfl, by rw [cell_of e2]; rfl, by rw [cell_of e2]; rfl, by rw [cell_of e2]; rfl, by rw [cell_of e2]; rfl⟩
  obtain ⟨a0, a1, m0, m1, m2, m3⟩ := CEL.out wA (Below.refl _ _)
  have hg0 : Gc wA wA.drew := HGA.out.here.drew
  have KP : Hid (∀ w', Gc wA w' → w'.cell? ⟨p3, 0, none⟩ = some (.slice co cs.length cc) ∧ w'.cell? ⟨p5, 2, none⟩ = some (.int .i64 M.f)) := fun w' hw => ⟨(CEL.out w' hw.below).1, (CEL.out w' hw.below).2.2.2.2.1⟩
  have HCA : Hid (∀ w', Gc wA w' → CalsAt w' co cc cs g o V) := fun w' hw => HC.out.grew (HGA.out.more hw.below).below
  first
    | (go_region_held3 (fun w' => w'.cell? ⟨p3, 0, none⟩ = some (.slice co cs.length cc) ∧ w'.cell? ⟨p5, 2, none⟩ = some (.int .i64 M.f)) (first | go_keep | (exact KP.out _ (by assumption)) | (exact KP.out _ (Gc.alloc (by assumption) _)) | (exact KP.out _ (Gc.setc (Gc.setc (by assumption) (Nat.le_refl _) _ _) (Nat.le_refl _) _ _)))
      ((go_at_call 49; refine (Gc.find (Gc.here (W := wA) (by first | exact hg0 | exact Gc.alloc hg0 _)) co cc cs g o V (by first | exact HCA.out _ hg0 | exact HCA.out _ (Gc.alloc hg0 _)) nm).mono ?_; rintro e w1 ⟨rfl, hgF⟩; obtain ⟨hcc, hff⟩ := bcell hgF.below; have hzz := hgF.below.size; simp at hcc hff hzz; have hgG : Gc wA w1 := by first | exact Gc.more hg0 hgF.below | exact Gc.more (Gc.alloc hg0 _) hgF.below)))
    | fail
  · obtain ⟨w2, hw2⟩ : ∃ w2, w2 = w1.alloc (.cells #[.int .i64 (fiV cs nm), .int .i64 M.f] 91) := ⟨_, rfl⟩
    have HKI : Hid (KeyIn wA w2 w1.heap.size (fiV cs nm) M.f) := by rw [hw2]; exact ⟨heap_alloc_new w1 _, hgG.alloc _, hgG.below.size⟩
    rw [← hw2]
    generalize w1.heap.size = q at HKI ⊢
    clear hw2 hcc hff hzz hgG hgF hg0 KP a0 a1 m0 m1 m2 m3
    have HG2 : Hid (Gc wA w2) := HKI.out.2.1
    have HM2 : Hid (Memo cs w2 B n) := HMA.out.below HG2.out.below
    obtain ⟨a0, a1, m0, m1, m2, m3⟩ := CEL.out w2 HG2.out.below
    have q0 : w2.cell? ⟨q, 0, none⟩ = some (.int .i64 i) := by rw [cell_of HKI.out.1, HV.out]; rfl
    have q1 : w2.cell? ⟨q, 1, none⟩ = some (.int .i64 M.f) := by rw [cell_of HKI.out.1]; rfl
    rw [HV.out]
    obtain ⟨kl, hkl⟩ := asked_key i M.f (by omega) b5 b6
    have HKL := hide hkl
    obtain ⟨D, hown, hD, hold⟩ := HM2.out
    have HOWN := hide hown
    have HDD := hide hD
    have HOLD := hide hold
    clear hkl hown hD hold
    have hNB : n < 200000 := by omega
    go_wp2_with (at_lookup; refine Hid.out ?_)
    refine hide ?_
    refine wpList_lookup_own_ok_int _ rfl _ _ 51 rfl 91 69 .u32 askedLaw Tryd.underlying51 Tryd.underlying69 (zeroMonth _) B n D rfl HOWN.out _ kl rfl HKL.out ?_
    intro c hat hwc
    obtain ⟨bh, hbh⟩ : ∃ b, Maps.has D kl = b := ⟨_, rfl⟩
    rw [hbh]
    have HBH := hide hbh
    have HAT := hide hat
    clear hbh hat hwc
    cases bh
    · obtain rfl := HC.out.at_ (by omega)
      have HBW : Hid (∀ a u, W.cell? a = some u → w2.cell? a = some u) := fun a u hc => Below.keeps (HGA.out.more HG2.out.below).below (Nat.le_refl _) hc
      obtain ⟨n0, n1, n2, n3⟩ := (HC.out.cell i hfi).mono HBW.out
      have HND : Hid (NdAt W (V i) t) := by have := HC.out.node i hfi; rw [HT.out hfi] at this; exact this
      have hgB : ¬ g = B := fun e => by have := World.block_lt_of_cell? W _ (HC.out.name i hfi); simp at this; omega
      have hq : wA.heap.size ≤ q := HKI.out.2.2
      have hwz : w.heap.size ≤ wA.heap.size := HBA.out.size
      have h3B : ¬ p3 = B := by omega
      have h5B : ¬ p5 = B := by have := HZ.out; omega
      have hqB : ¬ q = B := by omega
      generalize V i = kv at *
      have HGD : Hid (Gc W w2.drew) := (HGA.out.more HG2.out.below).drew
      have HMD : Hid (Memo cs w2.drew B n) := HM2.out.below (Below.refl _ _).drew
      have HCALL := hide (HIH.out t kv M n W w2.drew B (some ⟨g, o, none⟩) cc cs g o V HGD.out hp HND.out HC.out h24 HMD.out HMO.out HK.out (by omega))
      unfold askrV NVal.val ndV Mo.val moV at HCALL
      have CEL2 : Hid (∀ w', Only (· = B) w2.drew w' → (w'.cell? ⟨p3, 0, none⟩ = some (.slice (some ⟨g, o, none⟩) cs.length cc) ∧ w'.cell? ⟨p3, 1, none⟩ = some (.map (some B)) ∧ w'.cell? ⟨p5, 0, none⟩ = some (.int .i64 M.y) ∧ w'.cell? ⟨p5, 1, none⟩ = some (.int .i64 M.m) ∧ w'.cell? ⟨p5, 2, none⟩ = some (.int .i64 M.f) ∧ w'.cell? ⟨p5, 3, none⟩ = some (.int .i64 M.s)) ∧ (w'.cell? ⟨q, 0, none⟩ = some (.int .i64 i) ∧ w'.cell? ⟨q, 1, none⟩ = some (.int .i64 M.f)) ∧
          (w'.cell? ⟨g, o + i * 5 + 1, none⟩ = some (.int .i64 kv.op) ∧ w'.cell? ⟨g, o + i * 5 + 1 + 1, none⟩ = some (.slice kv.no kv.nl kv.nc) ∧ w'.cell? ⟨g, o + i * 5 + 1 + 2, none⟩ = some (.slice kv.ko kv.kl kv.kc) ∧ w'.cell? ⟨g, o + i * 5 + 1 + 3, none⟩ = some (.string kv.nm))) := fun w' ho =>
        ⟨⟨ho.cell (w := w2.drew) a0 h3B, ho.cell (w := w2.drew) a1 h3B, ho.cell (w := w2.drew) m0 h5B, ho.cell (w := w2.drew) m1 h5B, ho.cell (w := w2.drew) m2 h5B, ho.cell (w := w2.drew) m3 h5B⟩, ⟨ho.cell (w := w2.drew) q0 hqB, ho.cell (w := w2.drew) q1 hqB⟩, ho.cell (w := w2.drew) n0 hgB, ho.cell (w := w2.drew) n1 hgB, ho.cell (w := w2.drew) n2 hgB, ho.cell (w := w2.drew) n3 hgB⟩
      have i0 : (0 : Int) ≤ (i : Int) := by omega
      have il : (i : Int) < (cs.length : Int) := by omega
      clear hgB hq hwz h3B h5B hqB
      go_wp2
      first
        | (go_region_held3 (fun w' => w'.cell? ⟨p3, 0, none⟩ = some (.slice (some ⟨g, o, none⟩) cs.length cc) ∧ w'.cell? ⟨p3, 1, none⟩ = some (.map (some B)) ∧ w'.cell? ⟨p5, 0, none⟩ = some (.int .i64 M.y) ∧ w'.cell? ⟨p5, 1, none⟩ = some (.int .i64 M.m) ∧ w'.cell? ⟨p5, 2, none⟩ = some (.int .i64 M.f) ∧ w'.cell? ⟨p5, 3, none⟩ = some (.int .i64 M.s) ∧ w'.cell? ⟨q, 0, none⟩ = some (.int .i64 i) ∧ w'.cell? ⟨g, o + i * 5 + 1, none⟩ = some (.int .i64 kv.op) ∧ w'.cell? ⟨g, o + i * 5 + 1 + 1, none⟩ = some (.slice kv.no kv.nl kv.nc) ∧ w'.cell? ⟨g, o + i * 5 + 1 + 2, none⟩ = some (.slice kv.ko kv.kl kv.kc) ∧ w'.cell? ⟨g, o + i * 5 + 1 + 3, none⟩ = some (.string kv.nm))
            (first | go_keep | (have hx := CEL2.out _ (by assumption); exact ⟨hx.1.1, hx.1.2.1, hx.1.2.2.1, hx.1.2.2.2.1, hx.1.2.2.2.2.1, hx.1.2.2.2.2.2, hx.2.1.1, hx.2.2⟩))
            ((go_at_call 27; refine HCALL.out.mono ?_; rintro e w3 ⟨rfl, hmem, hon⟩)))
        | fail
      have HMEM := hide hmem
      have HON3 := hide hon
      clear hmem hon a0 a1 m0 m1 m2 m3 q0 q1 n0 n1 n2 n3
      obtain ⟨⟨a0, a1, m0, m1, m2, m3⟩, ⟨q0, q1⟩, -⟩ := CEL2.out w3 HON3.out
      obtain ⟨n', hn', D', hown', hD', hold'⟩ := HMEM.out
      have HOW' := hide hown'
      have HD' := hide hD'
      have HOL' := hide hold'
      have HN' := hide hn'
      clear hown' hD' hold' hn'
      have hdl := daysF_lt cs M k t
      have HDV : Hid (plainElem (H := Unit) Tryd.prog 69 (.int .u32 (daysF cs M k t)) = some (.lit (.int .u32 (daysF cs M k t)), [])) := plainElem_int Tryd.underlying69 (wf32 (by omega) (by omega))
      go_wp2_with (at_mapUpdate; refine Hid.out ?_)
      refine hide ?_
      refine wpList_mapUpdate_own _ rfl _ _ _ 51 rfl 91 69 askedLaw Tryd.underlying51 _ B n' D' rfl HOW'.out (by have := HN'.out; unfold maxLen; omega) _ _ kl rfl rfl HKL.out _ [] HDV.out ?_
      intro w4 hown4 hgrow4
      have HM4 : Hid (Memo cs w4 B (n' + 1)) := Memo.put (w := w3) hfi HMO.out HKL.out (by rw [HT.out hfi]; exact HK.out) HD'.out HOL'.out (by rw [HT.out hfi]; exact hown4)
      have HON4 : Hid (Only (· = B) w w4) := (Only.below (HBA.out.trans (HG2.out.below.mono HBA.out.size))).drew.trans (HON3.out.trans ((Only.grown hgrow4).mono (fun i _ h => by simpa using h.symm)) (fun _ _ h => h)) (fun _ _ h => h)
      clear hown4 hgrow4
      go_wp2
      go_ret
      exact Dayd.of ⟨rfl, ⟨n' + 1, by have := HN'.out; omega, HM4.out⟩, HON4.out⟩
    · obtain ⟨k', hk', hat'⟩ := HOLD.out i hfi M kl HMO.out HKL.out HBH.out
      rw [HT.out hfi] at hk' hat'
      have HCE : Hid (c = (daysF cs M k t : Int)) := by
        have e1 := HAT.out
        rw [hat'] at e1
        have e2 : (daysF cs M k' t : Int) = c := by simpa using e1
        rw [← e2, daysF_eq M hk' HK.out]
        rfl
      clear hk' hat'
      go_wp2
      go_ret
      exact Dayd.of ⟨ret_int (by rw [HCE.out]), ⟨n, by omega, HM2.out⟩, Only.below (HBA.out.trans (HG2.out.below.mono HBA.out.size))⟩
  · obtain ⟨w2, hw2⟩ : ∃ w2, w2 = (w1.setCell ⟨wA.heap.size, 0, none⟩ (.int .i64 (fiV cs nm))).setCell ⟨wA.heap.size, 1, none⟩ (.int .i64 M.f) := ⟨_, rfl⟩
    have hblk1 : w1.heap[wA.heap.size]? = some (.cells #[.int .i64 0, .int .i64 0] 91 (0, 0)) := by
      have e := hgF.below.block wA.heap.size (by simp)
      rw [e]
      exact heap_alloc_new wA _
    have HKI : Hid (KeyIn wA w2 wA.heap.size (fiV cs nm) M.f) := by rw [hw2]; exact ⟨hset_same (hset_same hblk1 _) _, Gc.setc (Gc.setc hgG (Nat.le_refl _) _ _) (Nat.le_refl _) _ _, Nat.le_refl _⟩
    rw [← hw2]
    generalize hqe : wA.heap.size = q at HKI ⊢
    clear hw2 hcc hff hzz hgG hgF hg0 KP a0 a1 m0 m1 m2 m3 hblk1
    have HG2 : Hid (Gc wA w2) := HKI.out.2.1
    have HM2 : Hid (Memo cs w2 B n) := HMA.out.below HG2.out.below
    obtain ⟨a0, a1, m0, m1, m2, m3⟩ := CEL.out w2 HG2.out.below
    have q0 : w2.cell? ⟨q, 0, none⟩ = some (.int .i64 i) := by rw [cell_of HKI.out.1, HV.out]; rfl
    have q1 : w2.cell? ⟨q, 1, none⟩ = some (.int .i64 M.f) := by rw [cell_of HKI.out.1]; rfl
    rw [HV.out]
    obtain ⟨kl, hkl⟩ := asked_key i M.f (by omega) b5 b6
    have HKL := hide hkl
    obtain ⟨D, hown, hD, hold⟩ := HM2.out
    have HOWN := hide hown
    have HDD := hide hD
    have HOLD := hide hold
    clear hkl hown hD hold
    have hNB : n < 200000 := by omega
    go_wp2_with (at_lookup; refine Hid.out ?_)
    refine hide ?_
    refine wpList_lookup_own_ok_int _ rfl _ _ 51 rfl 91 69 .u32 askedLaw Tryd.underlying51 Tryd.underlying69 (zeroMonth _) B n D rfl HOWN.out _ kl rfl HKL.out ?_
    intro c hat hwc
    obtain ⟨bh, hbh⟩ : ∃ b, Maps.has D kl = b := ⟨_, rfl⟩
    rw [hbh]
    have HBH := hide hbh
    have HAT := hide hat
    clear hbh hat hwc
    cases bh
    · obtain rfl := HC.out.at_ (by omega)
      have HBW : Hid (∀ a u, W.cell? a = some u → w2.cell? a = some u) := fun a u hc => Below.keeps (HGA.out.more HG2.out.below).below (Nat.le_refl _) hc
      obtain ⟨n0, n1, n2, n3⟩ := (HC.out.cell i hfi).mono HBW.out
      have HND : Hid (NdAt W (V i) t) := by have := HC.out.node i hfi; rw [HT.out hfi] at this; exact this
      have hgB : ¬ g = B := fun e => by have := World.block_lt_of_cell? W _ (HC.out.name i hfi); simp at this; omega
      have hq : wA.heap.size ≤ q := HKI.out.2.2
      have hwz : w.heap.size ≤ wA.heap.size := HBA.out.size
      have h3B : ¬ p3 = B := by omega
      have h5B : ¬ p5 = B := by have := HZ.out; omega
      have hqB : ¬ q = B := by omega
      generalize V i = kv at *
      have HGD : Hid (Gc W w2.drew) := (HGA.out.more HG2.out.below).drew
      have HMD : Hid (Memo cs w2.drew B n) := HM2.out.below (Below.refl _ _).drew
      have HCALL := hide (HIH.out t kv M n W w2.drew B (some ⟨g, o, none⟩) cc cs g o V HGD.out hp HND.out HC.out h24 HMD.out HMO.out HK.out (by omega))
      unfold askrV NVal.val ndV Mo.val moV at HCALL
      have CEL2 : Hid (∀ w', Only (· = B) w2.drew w' → (w'.cell? ⟨p3, 0, none⟩ = some (.slice (some ⟨g, o, none⟩) cs.length cc) ∧ w'.cell? ⟨p3, 1, none⟩ = some (.map (some B)) ∧ w'.cell? ⟨p5, 0, none⟩ = some (.int .i64 M.y) ∧ w'.cell? ⟨p5, 1, none⟩ = some (.int .i64 M.m) ∧ w'.cell? ⟨p5, 2, none⟩ = some (.int .i64 M.f) ∧ w'.cell? ⟨p5, 3, none⟩ = some (.int .i64 M.s)) ∧ (w'.cell? ⟨q, 0, none⟩ = some (.int .i64 i) ∧ w'.cell? ⟨q, 1, none⟩ = some (.int .i64 M.f)) ∧
          (w'.cell? ⟨g, o + i * 5 + 1, none⟩ = some (.int .i64 kv.op) ∧ w'.cell? ⟨g, o + i * 5 + 1 + 1, none⟩ = some (.slice kv.no kv.nl kv.nc) ∧ w'.cell? ⟨g, o + i * 5 + 1 + 2, none⟩ = some (.slice kv.ko kv.kl kv.kc) ∧ w'.cell? ⟨g, o + i * 5 + 1 + 3, none⟩ = some (.string kv.nm))) := fun w' ho =>
        ⟨⟨ho.cell (w := w2.drew) a0 h3B, ho.cell (w := w2.drew) a1 h3B, ho.cell (w := w2.drew) m0 h5B, ho.cell (w := w2.drew) m1 h5B, ho.cell (w := w2.drew) m2 h5B, ho.cell (w := w2.drew) m3 h5B⟩, ⟨ho.cell (w := w2.drew) q0 hqB, ho.cell (w := w2.drew) q1 hqB⟩, ho.cell (w := w2.drew) n0 hgB, ho.cell (w := w2.drew) n1 hgB, ho.cell (w := w2.drew) n2 hgB, ho.cell (w := w2.drew) n3 hgB⟩
      have i0 : (0 : Int) ≤ (i : Int) := by omega
      have il : (i : Int) < (cs.length : Int) := by omega
      clear hgB hq hwz h3B h5B hqB
      go_wp2
      first
        | (go_region_held3 (fun w' => w'.cell? ⟨p3, 0, none⟩ = some (.slice (some ⟨g, o, none⟩) cs.length cc) ∧ w'.cell? ⟨p3, 1, none⟩ = some (.map (some B)) ∧ w'.cell? ⟨p5, 0, none⟩ = some (.int .i64 M.y) ∧ w'.cell? ⟨p5, 1, none⟩ = some (.int .i64 M.m) ∧ w'.cell? ⟨p5, 2, none⟩ = some (.int .i64 M.f) ∧ w'.cell? ⟨p5, 3, none⟩ = some (.int .i64 M.s) ∧ w'.cell? ⟨q, 0, none⟩ = some (.int .i64 i) ∧ w'.cell? ⟨g, o + i * 5 + 1, none⟩ = some (.int .i64 kv.op) ∧ w'.cell? ⟨g, o + i * 5 + 1 + 1, none⟩ = some (.slice kv.no kv.nl kv.nc) ∧ w'.cell? ⟨g, o + i * 5 + 1 + 2, none⟩ = some (.slice kv.ko kv.kl kv.kc) ∧ w'.cell? ⟨g, o + i * 5 + 1 + 3, none⟩ = some (.string kv.nm))
            (first | go_keep | (have hx := CEL2.out _ (by assumption); exact ⟨hx.1.1, hx.1.2.1, hx.1.2.2.1, hx.1.2.2.2.1, hx.1.2.2.2.2.1, hx.1.2.2.2.2.2, hx.2.1.1, hx.2.2⟩))
            ((go_at_call 27; refine HCALL.out.mono ?_; rintro e w3 ⟨rfl, hmem, hon⟩)))
        | fail
      have HMEM := hide hmem
      have HON3 := hide hon
      clear hmem hon a0 a1 m0 m1 m2 m3 q0 q1 n0 n1 n2 n3
      obtain ⟨⟨a0, a1, m0, m1, m2, m3⟩, ⟨q0, q1⟩, -⟩ := CEL2.out w3 HON3.out
      obtain ⟨n', hn', D', hown', hD', hold'⟩ := HMEM.out
      have HOW' := hide hown'
      have HD' := hide hD'
      have HOL' := hide hold'
      have HN' := hide hn'
      clear hown' hD' hold' hn'
      have hdl := daysF_lt cs M k t
      have HDV : Hid (plainElem (H := Unit) Tryd.prog 69 (.int .u32 (daysF cs M k t)) = some (.lit (.int .u32 (daysF cs M k t)), [])) := plainElem_int Tryd.underlying69 (wf32 (by omega) (by omega))
      go_wp2_with (at_mapUpdate; refine Hid.out ?_)
      refine hide ?_
      refine wpList_mapUpdate_own _ rfl _ _ _ 51 rfl 91 69 askedLaw Tryd.underlying51 _ B n' D' rfl HOW'.out (by have := HN'.out; unfold maxLen; omega) _ _ kl rfl rfl HKL.out _ [] HDV.out ?_
      intro w4 hown4 hgrow4
      have HM4 : Hid (Memo cs w4 B (n' + 1)) := Memo.put (w := w3) hfi HMO.out HKL.out (by rw [HT.out hfi]; exact HK.out) HD'.out HOL'.out (by rw [HT.out hfi]; exact hown4)
      have HON4 : Hid (Only (· = B) w w4) := (Only.below (HBA.out.trans (HG2.out.below.mono HBA.out.size))).drew.trans (HON3.out.trans ((Only.grown hgrow4).mono (fun i _ h => by simpa using h.symm)) (fun _ _ h => h)) (fun _ _ h => h)
      clear hown4 hgrow4
      go_wp2
      go_ret
      exact Dayd.of ⟨rfl, ⟨n' + 1, by have := HN'.out; omega, HM4.out⟩, HON4.out⟩
    · obtain ⟨k', hk', hat'⟩ := HOLD.out i hfi M kl HMO.out HKL.out HBH.out
      rw [HT.out hfi] at hk' hat'
      have HCE : Hid (c = (daysF cs M k t : Int)) := by
        have e1 := HAT.out
        rw [hat'] at e1
        have e2 : (daysF cs M k' t : Int) = c := by simpa using e1
        rw [← e2, daysF_eq M hk' HK.out]
        rfl
      clear hk' hat'
      go_wp2
      go_ret
      exact Dayd.of ⟨ret_int (by rw [HCE.out]), ⟨n, by omega, HM2.out⟩, Only.below (HBA.out.trans (HG2.out.below.mono HBA.out.size))⟩
end Go.Proofs.YthbfjkdklnffjaaDoor
