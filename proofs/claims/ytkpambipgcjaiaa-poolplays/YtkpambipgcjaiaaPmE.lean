/- A pool is safe, said plainly. -/
import Derived.Test.YtkpambipgcjaiaaPlA
namespace Go.DsPl
open Go.DsCo
set_option linter.unusedVariables false
/-- no more is held than there is, and who holds a lock exclusive holds it alone -/
structure SafeP (R : List Rk) (H : List Hd) : Prop where
  un : ∀ nm n, findK R nm = some (.units n) → (useF H nm).1 ≤ n
  ex : ∀ nm, (useF H nm).2.2 = 0 ∨ (useF H nm).2.2 = 1 ∧ (useF H nm).2.1 = 0
theorem useF_filter (p : Hd → Bool) : ∀ (H : List Hd) (nm : ByteArray), SmallH H → (useF (H.filter p) nm).1 ≤ (useF H nm).1 ∧ (useF (H.filter p) nm).2.1 ≤ (useF H nm).2.1 ∧ (useF (H.filter p) nm).2.2 ≤ (useF H nm).2.2
  | [], nm, _ => ⟨Int.le_refl _, Int.le_refl _, Int.le_refl _⟩
  | x :: r, nm, h => by
    have ih := useF_filter p r nm (fun y hy => h y (List.mem_cons_of_mem _ hy))
    have hx := h x (by simp)
    rw [List.filter_cons]
    split
    · unfold useF
      split
      · unfold addU
        simp only
        refine ⟨by omega, ?_, ?_⟩ <;> split <;> (try split) <;> omega
      · exact ih
    · show _ ≤ (useF (x :: r) nm).1 ∧ _ ≤ (useF (x :: r) nm).2.1 ∧ _ ≤ (useF (x :: r) nm).2.2
      rw [useF]
      split
      · unfold addU
        simp only
        refine ⟨by omega, ?_, ?_⟩ <;> split <;> (try split) <;> omega
      · exact ih
theorem SafeP.give {R : List Rk} {H : List Hd} (h : SafeP R H) (hf : FineP R H) (o : Int) : SafeP R (giveF H o) := by
  refine ⟨fun nm n hk => ?_, fun nm => ?_⟩
  · have := (useF_filter (fun h => decide (h.1.1 ≠ o)) H nm hf.small).1
    exact Int.le_trans this (h.un nm n hk)
  · have h1 := useF_filter (fun h => decide (h.1.1 ≠ o)) H nm hf.small
    have h2 := useF_bd nm (hf.give o).small
    have h3 := h.ex nm
    unfold giveF at *
    omega
theorem useF_app (nm : ByteArray) (H : List Hd) : ∀ (L : List Hd), (∀ x ∈ L, x.1.2 ≠ nm) → useF (L ++ H) nm = useF H nm
  | [], _ => rfl
  | x :: r, h => by
    rw [List.cons_append, useF, if_neg (h x (by simp))]
    exact useF_app nm H r (fun y hy => h y (List.mem_cons_of_mem _ hy))
theorem useF_new (R : List Rk) (o : Int) (H : List Hd) (nm : ByteArray) : ∀ (l : List Ne), (l.map (·.nm)).Nodup →
    useF (l.map (fun n => ((o, n.nm), shareF ((findK R n.nm).getD .lock) n)) ++ H) nm = useF H nm ∨ ∃ n ∈ l, n.nm = nm ∧ useF (l.map (fun n => ((o, n.nm), shareF ((findK R n.nm).getD .lock) n)) ++ H) nm = addU (useF H nm) (shareF ((findK R n.nm).getD .lock) n)
  | [], _ => .inl rfl
  | n :: r, h => by
    rw [List.map_cons, List.nodup_cons] at h
    rw [List.map_cons, List.cons_append, useF]
    by_cases e : n.nm = nm
    · refine .inr ⟨n, by simp, e, ?_⟩
      rw [if_pos e, useF_app nm H _ (fun x hx e2 => h.1 (by
        obtain ⟨m, hm, rfl⟩ := List.mem_map.1 hx
        rw [e, ← e2]
        exact List.mem_map.2 ⟨m, hm, rfl⟩))]
    · rw [if_neg e]
      rcases useF_new R o H nm r h.2 with h1 | ⟨m, hm, h1, h2⟩
      · exact .inl h1
      · exact .inr ⟨m, List.mem_cons_of_mem _ hm, h1, h2⟩
theorem roomF_zero {R : List Rk} {H : List Hd} : ∀ {l : List Ne}, roomF R H l = 0 → ∀ n ∈ l, ∃ k, findK R n.nm = some k ∧ fitsB k n (useF H n.nm) = true
  | [], _, n, hn => by simp at hn
  | m :: r, h, n, hn => by
    unfold roomF at h
    cases hk : findK R m.nm with
    | none => rw [hk] at h; simp at h
    | some k =>
      rw [hk] at h
      simp only at h
      split at h
      · next hf =>
        rcases List.mem_cons.1 hn with rfl | hn
        · exact ⟨k, hk, hf⟩
        · exact roomF_zero h n hn
      · omega
theorem SafeP.take {R : List Rk} {H : List Hd} (h : SafeP R H) (hf : FineP R H) (o : Int) (l : List Ne) (ho : -9223372036854775808 ≤ o ∧ o ≤ 9223372036854775807) : SafeP R (takeF R H o l).1 := by
  unfold takeF
  split
  · exact h
  · next hm =>
    obtain ⟨h1, h2, h3⟩ := mayF_zero (Classical.not_not.1 hm)
    obtain ⟨h4, h5⟩ := rightF_le R hf.kn l [] List.nodup_nil (fun a ha => by simp at ha) h2
    rw [List.append_nil] at h4
    obtain ⟨a, b, hp⟩ := takeL_fine o ho l H hf (fun x hx hxo => by
      have : holdsB H o = true := holdsB_iff.2 ⟨x, hx, hxo⟩
      rw [h1] at this; cases this) h4 h5
    have hr := roomF_zero h3
    refine ⟨fun nm n hk => ?_, fun nm => ?_⟩
    · rw [useF_perm hp nm]
      rcases useF_new R o H nm l h4 with e | ⟨m, hm, rfl, e⟩
      · rw [e]; exact h.un nm n hk
      · rw [e]
        obtain ⟨k, hk2, hft⟩ := hr m hm
        rw [hk] at hk2
        cases hk2
        rw [hk]
        simp [fitsB] at hft
        simp [addU, shareF]
        omega
    · rw [useF_perm hp nm]
      rcases useF_new R o H nm l h4 with e | ⟨m, hm, rfl, e⟩
      · rw [e]; exact h.ex nm
      · rw [e]
        obtain ⟨k, hk2, hft⟩ := hr m hm
        obtain ⟨k', hk3, hsu⟩ := h5 m hm
        rw [hk2] at hk3
        cases hk3
        rw [hk2]
        have hx := h.ex m.nm
        cases k with
        | units n =>
          rw [Option.getD_some, show shareF (.units n) m = (m.n, 0) from rfl]
          simpa [addU] using hx
        | lock =>
          simp [fitsB] at hft
          simp [suitsB] at hsu
          rw [Option.getD_some, show shareF .lock m = (0, m.md) from rfl]
          generalize m.md = q at *
          generalize useF H m.nm = u at *
          rcases hsu with rfl | rfl
          · simp [addU]; omega
          · simp [addU]; omega
/-- who holds a lock exclusive holds it alone -/
theorem SafeP.alone {R : List Rk} {H : List Hd} (h : SafeP R H) (hf : FineP R H) {i j : Nat} (hi : i < H.length) (hj : j < H.length) (hij : i ≠ j) (h2 : H[i].2.2 = 2) (hn : H[j].1.2 = H[i].1.2) : False := by
  have hne : H[i] ≠ H[j] := fun e => hij ((List.getElem_inj (i := i) (j := j) (h₀ := by simpa using hi) (h₁ := by simpa using hj) hf.up.nodup).1 (by simp [e]))
  have hmi : H[i] ∈ H := List.getElem_mem hi
  have hmj : H[j] ∈ H := List.getElem_mem hj
  obtain ⟨ki, hki, hoi⟩ := hf.hin _ hmi
  obtain ⟨kj, hkj, hoj⟩ := hf.hin _ hmj
  have hsm := hf.small
  have hx := h.ex H[i].1.2
  generalize H[i] = x at *
  generalize H[j] = y at *
  rw [hn, hki] at hkj
  cases hkj
  have hlock : y.2.2 = 1 ∨ y.2.2 = 2 := by
    cases ki with
    | units n => unfold okS at hoi; omega
    | lock => unfold okS at hoj; exact hoj.2
  obtain ⟨s, t, rfl⟩ := List.append_of_mem hmi
  have hmy : y ∈ s ++ t := by
    simp only [List.mem_append, List.mem_cons] at hmj ⊢
    rcases hmj with h | h | h
    · exact .inl h
    · exact absurd h.symm hne
    · exact .inr h
  obtain ⟨s', t', hst⟩ := List.append_of_mem hmy
  have hp : (s ++ x :: t).Perm (x :: y :: (s' ++ t')) := by
    refine List.perm_middle.trans (List.Perm.cons x ?_)
    rw [hst]
    exact List.perm_middle
  rw [useF_perm hp] at hx
  have hs' : SmallH (s' ++ t') := fun z hz => hsm z (hp.mem_iff.2 (List.mem_cons_of_mem _ (List.mem_cons_of_mem _ hz)))
  have hb := useF_bd x.1.2 hs'
  rw [useF, if_pos rfl, useF, if_pos hn] at hx
  unfold addU at hx
  simp only [h2] at hx
  rcases hlock with e | e <;> rw [e] at hx <;> simp at hx <;> omega
/-- what is free is not less than nothing -/
theorem SafeP.free {R : List Rk} {H : List Hd} (h : SafeP R H) (hf : FineP R H) {x : Hd} (hx : x ∈ H) (h0 : x.2.2 = 0) : (freeF R H x.1.2).2 = 0 ∧ 0 ≤ (freeF R H x.1.2).1 ∧ 1 ≤ x.2.1 := by
  obtain ⟨k, hk, ho⟩ := hf.hin x hx
  cases k with
  | lock => unfold okS at ho; omega
  | units n =>
    have := h.un _ _ hk
    unfold okS at ho
    unfold freeF
    rw [hk]
    refine ⟨rfl, ?_, ho.1⟩
    show 0 ≤ n - (useF H x.1.2).1
    omega
theorem safe0 (R : List Rk) (hR : ∀ nm n, (nm, Kd.units n) ∈ R → 0 ≤ n ∧ n ≤ 1000) : SafeP R [] := ⟨fun nm n hk => (hR nm n (findK_in hk)).1, fun nm => .inl rfl⟩
end Go.DsPl
