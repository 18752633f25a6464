/- Package cal: isDir, In. -/
import Derived.Test.YthbfjkdklnffjaaDoorCeK
namespace Go.Proofs.YthbfjkdklnffjaaDoor
open Go.ChangeShapes Go.WideShapes Go.ChangeAt Go.RowKit Go.DsMem Go.DsMk
set_option linter.unusedVariables false

theorem Only.gcS {W w w' : World} {S : Nat → Prop} (h : Gc W w) (ho : Only S w w') (hS : ∀ i, S i → W.heap.size ≤ i) : Gc W w' :=
  ⟨h.bits, h.len, h.shp, h.below.trans (ho.toBelow h.below.size hS)⟩
/-- cal.isDir -/
theorem isDir_any (d : Int) (w : World) : Calls Tryd.prog 19 #[.int .i64 d] w fun e w' => e = .returned (.bool (decide (-1 ≤ d ∧ d ≤ 1))) ∧ w' = w := by
  rcases Int.lt_or_le d (-1) with h1 | h1
  · go_enter Tryd.func19, Tryd.ntmps19
    go_wp2
    go_ret
    exact ⟨ret_bool (by simp; omega), rfl⟩
  · go_enter Tryd.func19, Tryd.ntmps19
    go_wp2
    go_ret
    exact ⟨ret_bool (by simp [h1]), rfl⟩
/-- what a refusal of nothing says -/
theorem refF_ok {cs : List (ByteArray × Nd)} {t : Nd} {day : Int} (h : refF cs t day = 0) : cs.length ≤ 24 ∧ 1 ≤ day ∧ day ≤ 3652059 ∧ okD cs 257 t ∧ costF cs 257 t ≤ 256 := by
  unfold refF at h
  split at h
  · omega
  split at h
  · omega
  split at h
  · omega
  split at h
  · omega
  rename_i h1 h2 h3 h4
  simp only [Bool.not_eq_false] at h2 h3 h4
  have hd : 1 ≤ day ∧ day ≤ 3652059 := of_decide_eq_true h4
  have := ok_of_meet cs (fun c hc => by simpa using List.all_eq_true.1 h3 c hc) 257 t 16 0 false 0 h2 h
  have h5 := meetF_small cs 257 t 0 false 0 h
  exact ⟨by omega, hd.1, hd.2, this.1, by omega⟩
def InD (cs : List (ByteArray × Nd)) (t : Nd) (day : Int) (e : Ending) : Prop :=
  (¬ refF cs t day = 0 ∧ e = .returned (.tuple #[.bool false, .int .i64 (refF cs t day)])) ∨
  (refF cs t day = 0 ∧ ∃ M : Mo, M.ok ∧ M.f ≤ day ∧ day < M.f + M.s ∧ e = .returned (.tuple #[.bool (hasB (daysF cs M 257 t) (day - M.f + 1)), .int .i64 0]))
set_option maxHeartbeats 4000000 in
/-- cal.In -/
theorem Gc.in_ {W w : World} (h : Gc W w) (co : Option Addr) (cc : Nat) (cs : List (ByteArray × Nd)) (g o : Nat) (V : Nat → NVal) (hc : CalsAt w co cc cs g o V) (t : Nd) (v : NVal) (hv : NdAt w v t) (day : Int) :
    Calls Tryd.prog 9 #[.slice co cs.length cc, v.val, .int .i64 day] w fun e w' => InD cs t day e ∧ Gc W w' := by
  have HG := hide h
  have HC := hide hc
  have HV := hide hv
  clear h hc hv
  obtain ⟨R, hR⟩ : ∃ R, refF cs t day = R := ⟨_, rfl⟩
  have HR := hide hR
  clear hR
  obtain ⟨nv, hnv⟩ : ∃ nv, nv = v.val := ⟨_, rfl⟩
  have HNV := hide hnv
  unfold NVal.val ndV at hnv ⊢
  go_enter Tryd.func9, Tryd.ntmps9
  go_wp2_with fail
  obtain ⟨wA, hwA⟩ : ∃ wA, wA = w.alloc (.cells #[.int .i64 v.op, .slice v.no v.nl v.nc, .slice v.ko v.kl v.kc, .string v.nm] 31) := ⟨_, rfl⟩
  have HBA : Hid (Below w.heap.size w wA) := by refine hide ?_; rw [hwA]; exact (Below.refl _ _).alloc (Nat.le_refl _) _
  have HX : Hid (wA.heap[w.heap.size]? = some (.cells #[.int .i64 v.op, .slice v.no v.nl v.nc, .slice v.ko v.kl v.kc, .string v.nm] 31 (0, 0))) := by refine hide ?_; rw [hwA]; exact heap_alloc_new w _
  rw [← hwA]
  obtain ⟨p, hp⟩ : ∃ p, p = w.heap.size := ⟨_, rfl⟩
  rw [← hp]
  have HP := hide hp
  clear hwA hp hnv
  refine ((HG.out.here.more HBA.out).here.refuse co cc cs g o V (HC.out.grew HBA.out) t v (HV.out.grew HBA.out) day).mono ?_
  rw [HR.out]
  rintro e wR ⟨rfl, hgR⟩
  have HGR := hide hgR
  have hX : wR.heap[p]? = some (.cells #[.int .i64 v.op, .slice v.no v.nl v.nc, .slice v.ko v.kl v.kc, .string v.nm] 31 (0, 0)) := by
    have hx := HX.out
    rw [← HP.out] at hx
    rw [hgR.below.block p (block_lt hx)]; exact hx
  have HXR := hide hX
  clear hX hgR
  rcases Decidable.em (R = 0) with h0 | h0
  · subst h0
    have HOKS := hide (refF_ok HR.out)
    have KP : Hid (∀ w', Below wR.heap.size wR.drew w' → w'.cell? ⟨p, 0, none⟩ = some (.int .i64 v.op) ∧ w'.cell? ⟨p, 1, none⟩ = some (.slice v.no v.nl v.nc) ∧ w'.cell? ⟨p, 2, none⟩ = some (.slice v.ko v.kl v.kc) ∧ w'.cell? ⟨p, 3, none⟩ = some (.string v.nm)) := fun w' hb =>
      ⟨Below.keeps hb (Nat.le_refl _) (a := ⟨p, 0, none⟩) (by show wR.cell? _ = _; rw [cell_of HXR.out]; rfl), Below.keeps hb (Nat.le_refl _) (a := ⟨p, 1, none⟩) (by show wR.cell? _ = _; rw [cell_of HXR.out]; rfl), Below.keeps hb (Nat.le_refl _) (a := ⟨p, 2, none⟩) (by show wR.cell? _ = _; rw [cell_of HXR.out]; rfl), Below.keeps hb (Nat.le_refl _) (a := ⟨p, 3, none⟩) (by show wR.cell? _ = _; rw [cell_of HXR.out]; rfl)⟩
    obtain ⟨k0, k1, k2, k3⟩ := KP.out wR.drew (Below.refl _ _)
    go_wp2_with fail
    first
      | (go_region_held3 (fun w' => w'.cell? ⟨p, 0, none⟩ = some (.int .i64 v.op) ∧ w'.cell? ⟨p, 1, none⟩ = some (.slice v.no v.nl v.nc) ∧ w'.cell? ⟨p, 2, none⟩ = some (.slice v.ko v.kl v.kc) ∧ w'.cell? ⟨p, 3, none⟩ = some (.string v.nm))
          (first | go_keep | (exact KP.out _ (by assumption)))
          (first
            | (go_at_call 15; refine (Gc.newAsker (W := wR.drew) HGR.out.here.drew.here co cc cs).mono ?_; rintro e w2 ⟨B, rfl, ⟨hB, hm2⟩, hg2⟩; have hb2 : Below wR.heap.size wR.drew w2 := hg2.below)
            | (go_at_call 16; refine (Gc.asking (W := w2) hg2.here.here co cc cs B 0 hm2 257 t v).mono ?_; rintro e w3 ⟨rfl, hst, hg3⟩; have hb3 : Below wR.heap.size wR.drew w3 := hb2.trans (hg3.below.mono hb2.size))))
      | fail
    have HM2 := hide hm2
    have HB3 := hide hb3
    have HST := hide hst
    have HG3 := hide hg3
    have HBB := hide hB
    have HB2 := hide hb2
    clear hm2 hb3 hst hg3 hB hb2 hg2 k0 k1 k2 k3
    go_wp2_with fail
    have hWR : Below w.heap.size w wR := HBA.out.trans (HGR.out.below.mono HBA.out.size)
    have hs1 := hWR.size
    have hs2 : wR.heap.size ≤ w2.heap.size := HB2.out.size
    have hs3 : wR.heap.size ≤ B := HBB.out
    have hs4 := HM2.out.lt
    have hW3 : Below w.heap.size w w3 := hWR.trans ((Below.refl _ _).drew.trans (HB3.out.mono hs1))
    refine (askFn cs 257 t v co cc B (w2.heap.size + 2) w2.heap.size (w2.heap.size + 1) (w2.heap.size + 3) 0 day w w3 g o V (HG.out.here.more hW3) ⟨by omega, by omega, by omega, by omega, by omega, by omega, by omega, by omega, by omega, by omega, by omega, by omega⟩ HV.out HC.out HOKS.out.1 HOKS.out.2.2.2.1 (by have := HOKS.out.2.2.2.2; omega) HOKS.out.2.1 HOKS.out.2.2.1 HST.out).mono ?_
    rintro e w4 ⟨⟨M, hM, hf1, hf2, rfl⟩, hst4, ho4⟩
    have HO4 := hide ho4
    have HW3 := hide hW3
    clear ho4 hst4 hW3 hWR
    go_wp2
    go_ret2
    refine ⟨.inr ⟨HR.out, M, hM, hf1, hf2, rfl⟩, HG.out.more ?_⟩
    exact (Only.gcS (HG.out.here.more HW3.out) HO4.out (fun i hi => by rcases hi with rfl | rfl | rfl <;> omega)).below
  · go_wp2
    go_ret2
    exact ⟨.inl ⟨by rw [HR.out]; exact h0, by rw [HR.out]; rfl⟩, HG.out.more (HBA.out.trans (HGR.out.below.mono HBA.out.size))⟩
end Go.Proofs.YthbfjkdklnffjaaDoor
