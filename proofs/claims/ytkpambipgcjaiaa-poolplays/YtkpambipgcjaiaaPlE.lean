/- Package pool: what all owners together hold. -/
import Derived.Test.YtkpambipgcjaiaaPlD
import Derived.Deep.RegionLaw
namespace Go.Proofs.Ytkpambipgcjaiaa
open Go.ChangeShapes Go.WideShapes Go.ChangeAt Go.RowKit Go.DsMem Go.DsCo Go.DsPl Go.DsMap
set_option linter.unusedVariables false
set_option linter.unusedSimpArgs false
/-- U tells what is held by Dn, by names -/
def UsesOf (Dn : List Hd) (U : List (ByteArray × Us)) : Prop := (∀ nm, (∀ u, (nm, u) ∈ U → u = useF Dn nm) ∧ ((∃ u, (nm, u) ∈ U) ↔ ∃ h ∈ Dn, h.1.2 = nm)) ∧ U.length ≤ Dn.length
/-- the map in block B tells what is held -/
def IsUse (w : World) (B : Nat) (H : List Hd) : Prop := ∃ U, MpU w B U ∧ UsesOf H U
theorem IsUse.below {w w' : World} {B : Nat} {H : List Hd} (h : IsUse w B H) (hb : Below w.heap.size w w') : IsUse w' B H := by
  obtain ⟨U, h1, h2⟩ := h
  exact ⟨U, h1.below hb, h2⟩
theorem IsUse.drew {w : World} {B : Nat} {H : List Hd} (h : IsUse w B H) : IsUse w.drew B H := by
  obtain ⟨U, h1, h2⟩ := h
  exact ⟨U, h1.drew, h2⟩
theorem IsUse.lt {w : World} {B : Nat} {H : List Hd} (h : IsUse w B H) : B < w.heap.size := by
  obtain ⟨U, h1, h2⟩ := h
  exact h1.lt
theorem lookU {w : World} {B : Nat} {H : List Hd} (h : IsUse w B H) (nm : ByteArray) (hn : FitN nm) : (Instr.lookup 99 (.map (some B)) (.string nm) false).run Try.prog w = .ok (usV (useF H nm)) w := by
  obtain ⟨U, h1, h2, _⟩ := h
  obtain ⟨a, b⟩ := h2 nm
  by_cases he : ∃ u, (nm, u) ∈ U
  · obtain ⟨u, hu⟩ := he
    have := h1.look mkU (zeroU w) hu false
    rw [a u hu] at this
    exact this
  · have := h1.look_not mkU (zeroU w) hn (fun u hu => he ⟨u, hu⟩) false
    rw [useF_none (fun x hx e => he (b.2 ⟨x, hx, e⟩))]
    exact this
theorem putU {w : World} {B : Nat} {Dn : List Hd} {U : List (ByteArray × Us)} (h : MpU w B U) (hu : UsesOf Dn U) (x : Hd) (hn : FitN x.1.2) (hl : Dn.length ≤ 1000000) :
    ∃ w' U', (Instr.mapUpdate 99 (.map (some B)) (.string x.1.2) (usV (addU (useF Dn x.1.2) x.2))).run Try.prog w = .ok () w' ∧ MpU w' B U' ∧ UsesOf (x :: Dn) U' ∧ Only (· = B) w w' := by
  obtain ⟨h2, h3⟩ := hu
  have key : ∀ nm, useF (x :: Dn) nm = if x.1.2 = nm then addU (useF Dn nm) x.2 else useF Dn nm := fun nm => by rw [useF]
  by_cases he : ∃ u, (x.1.2, u) ∈ U
  · obtain ⟨u0, hu0⟩ := he
    obtain ⟨w', hr, hm, ho⟩ := h.set mkU hu0 (addU (useF Dn x.1.2) x.2) (by omega)
    refine ⟨w', _, hr, hm, ⟨fun nm => ⟨fun u hu => ?_, ?_⟩, by simp [setL]; omega⟩, ho⟩
    · rw [key]
      rcases mem_setL.1 hu with ⟨rfl, rfl, _⟩ | ⟨hne, hu⟩
      · rw [if_pos rfl]
      · rw [if_neg (fun e => hne e.symm)]
        exact (h2 nm).1 u hu
    · constructor
      · rintro ⟨u, hu⟩
        rcases mem_setL.1 hu with ⟨rfl, _, _⟩ | ⟨hne, hu⟩
        · exact ⟨x, by simp, rfl⟩
        · obtain ⟨y, hy, e⟩ := (h2 nm).2.1 ⟨u, hu⟩
          exact ⟨y, List.mem_cons_of_mem _ hy, e⟩
      · rintro ⟨y, hy, rfl⟩
        by_cases e : y.1.2 = x.1.2
        · exact ⟨_, mem_setL.2 (.inl ⟨e, rfl, u0, hu0⟩)⟩
        · rcases List.mem_cons.1 hy with rfl | hy
          · exact absurd rfl e
          · obtain ⟨u, hu⟩ := (h2 y.1.2).2.2 ⟨y, hy, rfl⟩
            exact ⟨u, mem_setL.2 (.inr ⟨e, hu⟩)⟩
  · obtain ⟨w', hr, hm, ho⟩ := h.put mkU hn (fun u hu => he ⟨u, hu⟩) (addU (useF Dn x.1.2) x.2) (by omega)
    refine ⟨w', _, hr, hm, ⟨fun nm => ⟨fun u hu => ?_, ?_⟩, by simp; omega⟩, ho⟩
    · rw [key]
      rcases List.mem_append.1 hu with hu | hu
      · rw [if_neg (fun e => he ⟨u, by rw [e]; exact hu⟩)]
        exact (h2 nm).1 u hu
      · simp at hu
        obtain ⟨rfl, rfl⟩ := hu
        rw [if_pos rfl]
    · constructor
      · rintro ⟨u, hu⟩
        rcases List.mem_append.1 hu with hu | hu
        · obtain ⟨y, hy, e⟩ := (h2 nm).2.1 ⟨u, hu⟩
          exact ⟨y, List.mem_cons_of_mem _ hy, e⟩
        · simp at hu
          exact ⟨x, by simp, hu.1.symm⟩
      · rintro ⟨y, hy, rfl⟩
        rcases List.mem_cons.1 hy with rfl | hy
        · exact ⟨_, List.mem_append.2 (.inr (List.mem_singleton.2 rfl))⟩
        · obtain ⟨u, hu⟩ := (h2 y.1.2).2.2 ⟨y, hy, rfl⟩
          exact ⟨u, List.mem_append.2 (.inl hu)⟩
theorem pair_one {κ ν : Type} : ∀ {L : List (κ × ν)} {c : κ} {x y : ν}, (L.map (·.1)).Nodup → (c, x) ∈ L → (c, y) ∈ L → x = y
  | p :: L, c, x, y, hn, hx, hy => by
    rw [List.map_cons, List.nodup_cons] at hn
    rcases List.mem_cons.1 hx with e | hx
    · rcases List.mem_cons.1 hy with e' | hy
      · exact congrArg Prod.snd (e.trans e'.symm)
      · exact absurd (List.mem_map.2 ⟨_, hy, by rw [← e]⟩) hn.1
    · rcases List.mem_cons.1 hy with e' | hy
      · exact absurd (List.mem_map.2 ⟨_, hx, by rw [← e']⟩) hn.1
      · exact pair_one hn.2 hx hy
theorem delL_cons {κ ν : Type} {T : List (κ × ν)} {c : κ} {x : ν} (hT : (T.map (·.1)).Nodup) (hx : (c, x) ∈ T) : T.Perm ((c, x) :: delL T c) := by
  refine perm_of_pairs ?_ hT ?_
  · rw [List.map_cons, List.nodup_cons]
    exact ⟨fun hm => by obtain ⟨p, hp, e⟩ := List.mem_map.1 hm; exact (mem_delL.1 hp).2 e, delL_nd hT⟩
  · rintro ⟨d, y⟩
    rw [List.mem_cons, mem_delL]
    constructor
    · intro hp
      by_cases e : d = c
      · subst e
        exact .inl (by rw [pair_one hT hx hp])
      · exact .inr ⟨hp, e⟩
    · rintro (e | ⟨hp, _⟩)
      · rw [e]; exact hx
      · exact hp
theorem delL_perm {κ ν : Type} {H T Dn : List (κ × ν)} {c : κ} {x : ν} (hT : (T.map (·.1)).Nodup) (hx : (c, x) ∈ T) (hp : (Dn ++ T).Perm H) : (((c, x) :: Dn) ++ delL T c).Perm H := by
  refine List.Perm.trans ?_ hp
  rw [List.cons_append]
  exact (List.perm_middle.symm).trans ((delL_cons hT hx).symm.append_left Dn)
set_option maxHeartbeats 4000000 in
set_option maxRecDepth 20000 in
/-- (*pool.Pool).uses -/
theorem uses_any (p a b : Nat) (R : List Rk) (H : List Hd) (w : World) (h : PoAt w p a b R H) (hl : H.length ≤ 1000000) : Calls Try.prog 62 #[ptr p] w fun e w' => e = .returned (.map (some w.heap.size)) ∧ IsUse w' w.heap.size H ∧ Below w.heap.size w w' := by
  have hmm := @run_makeMap Try.prog
  have hlt := h.lt
  have HF := hide h.fine
  have HSM := hide h.fine.small
  have HFS := hide h.fine.hs
  have h1 : PoAt (w.alloc (.map #[] 0)) p a b R H := h.below (bel1 _ _)
  have HU0 : Hid (MpU (w.alloc (.map #[] 0)) w.heap.size []) := hide (Mp.made w)
  obtain ⟨w0, hw0⟩ : ∃ w0, w0 = w.alloc (.map #[] 0) := ⟨_, rfl⟩
  have hb0 : Below w.heap.size w w0 := by rw [hw0]; exact bel1 _ _
  have hs0 : w0.heap.size = w.heap.size + 1 := by rw [hw0]; simp
  have c1 := h1.c1
  have c0 := h1.c0
  rw [← hw0] at h1 HU0
  have HM := hide h1.mhs
  have HB0 := hide hb0
  clear h h1 hb0
  unfold ptr
  go_enter Try.func62, Try.ntmps62
  go_wp2_with (first
    | (at_range; rw [← hw0]; refine wpList_range_mp _ mkH rfl _ rfl b H rfl HM.out ?_; intro w1 hr1 hb1 hs1)
    | go_in)
  try go_frame
  have HR1 := hide hr1
  have HB1 := hide (HB0.out.trans (hb1.mono HB0.out.size))
  have HU1 := hide (HU0.out.below hb1)
  obtain ⟨r, hr⟩ : ∃ r, r = w0.heap.size := ⟨_, rfl⟩
  rw [← hr] at HR1 hs1 hs0
  rw [← hr]
  obtain ⟨B, hB⟩ : ∃ B, B = w.heap.size := ⟨_, rfl⟩
  rw [← hB] at HU1 hs0
  have HBE := hide hB
  have HBr : Hid (B < r) := hide (by omega)
  clear hr1 hb1 hr hw0 HB0 HU0 HM c1 c0 hs1 hs0
  first
  | rw [← hB]
  | skip
  clear hB
  go_loopw [] (fun wr => ∃ (T Dn : List Hd) (U : List (ByteArray × Us)), Rg Try.prog 85 hkV shV FitH wr b r H T ∧ MpU wr B U ∧ (Dn ++ T).Perm H ∧ UsesOf Dn U ∧ Below w.heap.size w wr) (fun wr => wr.rangeLeft b r)
  case atStart => exact ⟨H, [], [], HR1.out, HU1.out, List.Perm.refl _, ⟨fun nm => ⟨fun u hu => by simp at hu, by simp⟩, by simp⟩, HB1.out⟩
  case round =>
    obtain ⟨T, Dn, U, hrg, hmu, hpm, huo, hbl⟩ := hrel
    have HRG := hide hrg
    have HMU := hide hmu
    have HPM := hide hpm
    have HUO := hide huo
    have HBL := hide hbl
    have HLE : Hid (Dn.length ≤ H.length) := hide (by have := hpm.length_eq; simp at this; omega)
    clear hrg hmu hpm huo hbl HR1 HU1 HB1
    go_wp2_with (first
      | (at_next; refine wpList_next_mp _ mkH rfl _ rfl b r H T rfl HRG.out ?_ ?_)
      | go_in)
    · intro hT
      subst hT
      go_wp2
      go_ret
      refine ⟨by show Ending.returned (.map (some B)) = _; rw [HBE.out], ?_, HBL.out⟩
      rw [← HBE.out]
      have hp := HPM.out
      rw [List.append_nil] at hp
      refine ⟨U, HMU.out, fun nm => ⟨fun u hu => ?_, ?_⟩, by rw [← hp.length_eq]; exact HUO.out.2⟩
      · rw [← useF_perm hp nm]; exact (HUO.out.1 nm).1 u hu
      · rw [(HUO.out.1 nm).2]
        exact ⟨fun ⟨x, hx, e⟩ => ⟨x, hp.mem_iff.1 hx, e⟩, fun ⟨x, hx, e⟩ => ⟨x, hp.mem_iff.2 hx, e⟩⟩
    · intro o nm n md w2 hcT hrg2 hlt2 ho2 hsz2 hen
      have hxH : ((o, nm), (n, md)) ∈ H := HRG.out.sub _ hcT
      have hfs : FitN nm := HFS.out _ hxH
      have hsm : 0 ≤ n ∧ n ≤ 1000 := HSM.out _ hxH
      have hbd := useF_bd (H := Dn) nm (fun y hy => HSM.out y (HPM.out.mem_iff.1 (List.mem_append.2 (.inl hy))))
      have hle := HLE.out
      have HPM2 := hide (delL_perm HRG.out.ndT hcT HPM.out)
      have hBr := HBr.out
      have hrb : ¬ r = b := HRG.out.ne
      have hlr := HRG.out.lt
      have HMU2 := hide (HMU.out.only ho2 (show ¬ B = r by omega))
      have HBL2 := hide (HBL.out.trans ((ho2.toBelow (B := r) (by omega) (fun i e => by omega)).mono (by rw [← HBE.out]; omega)))
      have HRG2 := hide hrg2
      have HUO2 := hide HUO.out
      clear hrg2 ho2 hcT
      unfold hkV shV at hen ⊢
      simp only at hen ⊢
      obtain ⟨w3, hw3⟩ : ∃ w3, w3 = (w2.alloc (.cells #[.int .i64 o, .string nm] 85)).alloc (.cells #[.int .i64 n, .int .i64 md] 87) := ⟨_, rfl⟩
      have hb3 : Below w2.heap.size w2 w3 := by rw [hw3]; exact bel2 _ _ _
      have k0 : w3.cell? ⟨w2.heap.size, 0, none⟩ = some (.int .i64 o) := by rw [hw3]; simp [go_sem]
      have k1 : w3.cell? ⟨w2.heap.size, 1, none⟩ = some (.string nm) := by rw [hw3]; simp [go_sem]
      have k2 : w3.cell? ⟨w2.heap.size + 1, 0, none⟩ = some (.int .i64 n) := by rw [hw3]; simp [go_sem]
      have k3 : w3.cell? ⟨w2.heap.size + 1, 1, none⟩ = some (.int .i64 md) := by rw [hw3]; simp [go_sem]
      have hz3 : w3.heap.size = w2.heap.size + 2 := by rw [hw3]; simp
      have HMU3 := hide ((HMU2.out.below hb3).drew)
      have LU := lookU (B := B) (H := Dn) ⟨U, HMU3.out, HUO2.out⟩ nm hfs
      have HB3 := hide hb3
      have HW := hide (fun w => with_any (useF Dn nm) (n, md) w ⟨hbd.1, by omega, hbd.2.2.1, by omega, hbd.2.2.2.2.1, by omega⟩ hsm)
      clear hb3
      unfold usV shV at HW
      unfold usV at LU
      simp only at HW LU
      go_wp2_with fail
      rw [← hw3]
      clear hw3
      rw [hsz2] at k0 k1 k2 k3 hz3
      have HLE := hide hle
      go_region_law (go_simp; go_wp2_with (go_at_call 89; refine (HW.out _).mono ?_; rintro e w5 ⟨rfl, hb5⟩; have d1 := Below.keeps hb5 (Nat.le_refl _) (show w3.drew.cell? ⟨wr.heap.size, 1, none⟩ = some (.string nm) from k1); have HMU5 := hide (HMU3.out.below hb5); obtain ⟨w6, U6, hrun, hm6, hu6, ho6⟩ := putU HMU5.out HUO2.out ((o, nm), (n, md)) hfs (by have := HLE.out; omega); unfold usV at hrun; simp only at hrun; have HM6 := hide hm6; have HU6 := hide hu6; have HO6 := hide ho6; have HB5 := hide hb5; clear hb5 hm6 hu6 ho6))
      all_goals
        have hs5 := HB5.out.size
        have hd : w3.drew.heap.size = w3.heap.size := rfl
        obtain ⟨hg3, hl3⟩ := HRG2.out.below HB3.out
        obtain ⟨hg5, hl5⟩ := (hg3.same (w' := w3.drew) rfl rfl).1.below HB5.out
        have hbb := HRG2.out.mp.lt
        obtain ⟨hg6, hl6⟩ := hg5.only HO6.out (show ¬ b = B from fun e => by rw [HBE.out] at e; omega) (show ¬ r = B by omega)
        have hl3' : w3.drew.rangeLeft b r = w3.rangeLeft b r := rfl
        have HG6 := hide hg6
        have hlt6 : w6.rangeLeft b r < wr.rangeLeft b r := by omega
        have HB6 : Hid (Below w.heap.size w w6) := hide ((((HBL2.out.trans (HB3.out.mono HBL2.out.size)).drew).trans (HB5.out.mono (by have := HBL2.out.size; omega))).trans (HO6.out.toBelow (by have := HBL2.out.size; omega) (fun i e => by rw [e, HBE.out]; exact Nat.le_refl _)))
        clear hg3 hg5 hg6 hl3 hl5 hl6 hl3'
        go_wp2
        go_roundw
        case rel => exact ⟨_, _, _, HG6.out, HM6.out, HPM2.out, HU6.out, HB6.out⟩
        case measure => exact hlt6
end Go.Proofs.Ytkpambipgcjaiaa
