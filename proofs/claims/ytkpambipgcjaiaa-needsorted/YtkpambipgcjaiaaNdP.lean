/- Needs of two owners, plainly. -/
import Derived.Test.YtkpambipgcjaiaaPlA
namespace Go.DsPl
open Go.DsCo
set_option linter.unusedVariables false
theorem room_iff {R : List Rk} {H : List Hd} : ∀ {l : List Ne}, roomF R H l = 0 ↔ ∀ n ∈ l, ∃ k, findK R n.nm = some k ∧ fitsB k n (useF H n.nm) = true
  | [] => by simp [roomF]
  | n :: r => by
    rw [roomF]
    cases hk : findK R n.nm with
    | none =>
      simp only [List.mem_cons, forall_eq_or_imp]
      constructor
      · intro h; omega
      · rintro ⟨⟨k, h, _⟩, _⟩
        rw [hk] at h; cases h
    | some k =>
      simp only [List.mem_cons, forall_eq_or_imp]
      by_cases hf : fitsB k n (useF H n.nm) = true
      · rw [if_pos hf, room_iff]
        exact ⟨fun h => ⟨⟨k, hk, hf⟩, h⟩, fun h => h.2⟩
      · rw [if_neg hf]
        constructor
        · intro h; omega
        · rintro ⟨⟨k', h, hf'⟩, _⟩
          rw [hk] at h; cases h
          exact absurd hf' hf
/-- what a list of needs makes be held -/
def heldL (R : List Rk) (o : Int) (a : List Ne) : List Hd := a.map (fun n => ((o, n.nm), shareF ((findK R n.nm).getD .lock) n))
theorem use_held_none {R : List Rk} {o : Int} {a : List Ne} {nm : ByteArray} (h : ∀ n ∈ a, n.nm ≠ nm) : useF (heldL R o a) nm = (0, 0, 0) := useF_none (fun x hx => by
  obtain ⟨n, hn, rfl⟩ := List.mem_map.1 hx
  exact h n hn)
theorem use_held_some {R : List Rk} {o : Int} : ∀ {a : List Ne} {n : Ne}, n ∈ a → (a.map (·.nm)).Nodup → useF (heldL R o a) n.nm = addU (0, 0, 0) (shareF ((findK R n.nm).getD .lock) n)
  | x :: r, n, hm, hn => by
    rw [List.map_cons, List.nodup_cons] at hn
    show useF (((o, x.nm), shareF ((findK R x.nm).getD .lock) x) :: heldL R o r) n.nm = _
    rw [useF]
    rcases List.mem_cons.1 hm with rfl | hm
    · rw [if_pos rfl, use_held_none (fun m hm' e => hn.1 (List.mem_map.2 ⟨m, hm', e⟩))]
    · rw [if_neg (fun e => hn.1 (List.mem_map.2 ⟨n, hm, (show x.nm = n.nm from e).symm⟩)), use_held_some hm hn.2]
theorem fits_mono {k : Kd} {n : Ne} {s : Sh} (hs : okS k s) (h : fitsB k n (addU (0, 0, 0) s) = true) : fitsB k n (0, 0, 0) = true := by
  cases k with
  | units m => simp [fitsB, addU, okS] at h hs ⊢; omega
  | lock => simp [fitsB] 
theorem fits_swap {k : Kd} {n m : Ne} (hn : suitsB k n = true) (hm : suitsB k m = true) (h : fitsB k m (addU (0, 0, 0) (shareF k n)) = true) : fitsB k n (addU (0, 0, 0) (shareF k m)) = true := by
  cases k with
  | units u => simp [fitsB, addU, shareF] at h ⊢; omega
  | lock =>
    simp [suitsB] at hn hm
    rcases hn with hn | hn <;> rcases hm with hm | hm <;> simp [fitsB, addU, shareF, hn, hm] at h ⊢
/-- can both be taken, said without an order -/
def BothP (R : List Rk) (a b : List Ne) : Prop := rightF R [] a = 0 ∧ rightF R [] b = 0 ∧ (∀ n ∈ a, ∃ k, findK R n.nm = some k ∧ fitsB k n (0, 0, 0) = true) ∧ ∀ n ∈ b, ∃ k, findK R n.nm = some k ∧ fitsB k n (useF (heldL R 1 a) n.nm) = true
theorem BothP.symm {R : List Rk} (hR : (R.map (·.1)).Nodup) {a b : List Ne} (h : BothP R a b) : BothP R b a := by
  obtain ⟨h1, h2, h3, h4⟩ := h
  obtain ⟨na, sa⟩ := rightF_le R hR a [] List.nodup_nil (fun x hx => by simp at hx) h1
  obtain ⟨nb, sb⟩ := rightF_le R hR b [] List.nodup_nil (fun x hx => by simp at hx) h2
  rw [List.append_nil] at na nb
  refine ⟨h2, h1, fun m hm => ?_, fun n hn => ?_⟩
  · obtain ⟨k, hk, hf⟩ := h4 m hm
    refine ⟨k, hk, ?_⟩
    by_cases hx : ∃ n ∈ a, n.nm = m.nm
    · obtain ⟨n, hn, e⟩ := hx
      rw [← e, use_held_some hn na] at hf
      obtain ⟨k', hk', hs⟩ := sa n hn
      rw [e, hk] at hk'
      cases hk'
      rw [e, hk] at hf
      exact fits_mono (suits_share hs) hf
    · rw [use_held_none (fun n hn e => hx ⟨n, hn, e⟩)] at hf
      exact hf
  · obtain ⟨k, hk, hf0⟩ := h3 n hn
    refine ⟨k, hk, ?_⟩
    by_cases hx : ∃ m ∈ b, m.nm = n.nm
    · obtain ⟨m, hm, e⟩ := hx
      obtain ⟨k2, hk2, hf⟩ := h4 m hm
      rw [e, hk] at hk2
      cases hk2
      rw [e, use_held_some hn na, hk] at hf
      rw [← e, use_held_some hm nb, e, hk]
      obtain ⟨k3, hk3, hs3⟩ := sa n hn
      rw [hk] at hk3
      cases hk3
      obtain ⟨k4, hk4, hs4⟩ := sb m hm
      rw [e, hk] at hk4
      cases hk4
      exact fits_swap hs3 hs4 hf
    · rw [use_held_none (fun m hm e => hx ⟨m, hm, e⟩)]
      exact hf0
/-- could both take? -/
noncomputable def bothF (R : List Rk) (a b : List Ne) : Bool := decide ((takeF R [] 1 a).2 = 0) && decide ((takeF R (takeF R [] 1 a).1 2 b).2 = 0)
theorem take_zero {R : List Rk} {H : List Hd} {o : Int} {l : List Ne} : (takeF R H o l).2 = 0 ↔ mayF R H o l = 0 := by
  unfold takeF
  by_cases h : mayF R H o l = 0
  · rw [if_neg (by simp [h])]; simp [h]
  · rw [if_pos h]
theorem mayF_iff {R : List Rk} {H : List Hd} {o : Int} {l : List Ne} : mayF R H o l = 0 ↔ holdsB H o = false ∧ rightF R [] l = 0 ∧ roomF R H l = 0 := by
  refine ⟨mayF_zero, fun ⟨h1, h2, h3⟩ => ?_⟩
  unfold mayF
  rw [if_neg (by simp [h1]), if_neg (by simp [h2]), h3]
theorem bothF_iff {R : List Rk} (hf : FineP R []) {a b : List Ne} : bothF R a b = true ↔ BothP R a b := by
  have e0 : holdsB [] 1 = false := rfl
  unfold bothF
  rw [Bool.and_eq_true, decide_eq_true_eq, decide_eq_true_eq, take_zero, take_zero]
  constructor
  · rintro ⟨h1, h2⟩
    obtain ⟨_, ra, oa⟩ := mayF_iff.1 h1
    have et : (takeF R [] 1 a).1 = takeL R 1 [] a := by unfold takeF; rw [if_neg (by simp [h1])]
    rw [et] at h2
    obtain ⟨hh, rb, ob⟩ := mayF_iff.1 h2
    obtain ⟨na, sa⟩ := rightF_le R hf.kn a [] List.nodup_nil (fun x hx => by simp at hx) ra
    rw [List.append_nil] at na
    obtain ⟨_, _, hp⟩ := takeL_fine (R := R) 1 (by decide) a [] hf (fun x hx => by simp at hx) na sa
    rw [List.append_nil] at hp
    refine ⟨ra, rb, room_iff.1 oa, fun n hn => ?_⟩
    obtain ⟨k, hk, hfi⟩ := room_iff.1 ob n hn
    exact ⟨k, hk, by rw [useF_perm hp] at hfi; exact hfi⟩
  · rintro ⟨ra, rb, oa, ob⟩
    have h1 : mayF R [] 1 a = 0 := mayF_iff.2 ⟨rfl, ra, room_iff.2 oa⟩
    have et : (takeF R [] 1 a).1 = takeL R 1 [] a := by unfold takeF; rw [if_neg (by simp [h1])]
    rw [et]
    obtain ⟨na, sa⟩ := rightF_le R hf.kn a [] List.nodup_nil (fun x hx => by simp at hx) ra
    rw [List.append_nil] at na
    obtain ⟨_, _, hp⟩ := takeL_fine (R := R) 1 (by decide) a [] hf (fun x hx => by simp at hx) na sa
    rw [List.append_nil] at hp
    refine ⟨h1, mayF_iff.2 ⟨?_, rb, room_iff.2 (fun n hn => ?_)⟩⟩
    · rw [Bool.eq_false_iff]
      intro e
      obtain ⟨x, hx, ho⟩ := holdsB_iff.1 e
      obtain ⟨n, hn, rfl⟩ := List.mem_map.1 (hp.mem_iff.1 hx)
      have h12 : (1 : Int) = 2 := ho
      omega
    · obtain ⟨k, hk, hfi⟩ := ob n hn
      exact ⟨k, hk, by rw [useF_perm hp]; exact hfi⟩
theorem bothF_symm {R : List Rk} (hf : FineP R []) (a b : List Ne) : bothF R a b = bothF R b a := by
  rw [Bool.eq_iff_iff, bothF_iff hf, bothF_iff hf]
  exact ⟨BothP.symm hf.kn, BothP.symm hf.kn⟩
theorem bothF_fits {R : List Rk} (hf : FineP R []) {a b : List Ne} (h : bothF R a b = true) : mayF R [] 1 a = 0 ∧ mayF R [] 1 b = 0 := by
  have hp := (bothF_iff hf).1 h
  have hq := hp.symm hf.kn
  exact ⟨mayF_iff.2 ⟨rfl, hp.1, room_iff.2 hp.2.2.1⟩, mayF_iff.2 ⟨rfl, hq.1, room_iff.2 hq.2.2.1⟩⟩
/-- whether needs can be met is the same in any order -/
theorem rightF_perm {R : List Rk} (hR : (R.map (·.1)).Nodup) {a b : List Ne} (h : a.Perm b) (h0 : rightF R [] a = 0) : rightF R [] b = 0 := by
  obtain ⟨na, sa⟩ := rightF_le R hR a [] List.nodup_nil (fun x hx => by simp at hx) h0
  rw [List.append_nil] at na
  have key : ∀ (l : List Ne) (A : List ByteArray), (l.map (·.nm)).Nodup → (∀ n ∈ l, n.nm ∉ A) → (∀ n ∈ l, ∃ k, findK R n.nm = some k ∧ suitsB k n = true) → rightF R A l = 0 := by
    intro l
    induction l with
    | nil => intro A _ _ _; rfl
    | cons n r ih =>
      intro A hn hA hs
      rw [List.map_cons, List.nodup_cons] at hn
      obtain ⟨k, hk, hsu⟩ := hs n (by simp)
      rw [rightF, hk]
      simp only
      rw [if_neg (by simp [hsu]), if_neg (by
        intro e
        obtain ⟨x, hx, e'⟩ := List.any_eq_true.1 e
        have : x = n.nm := by simpa using e'
        exact hA n (by simp) (this ▸ hx))]
      refine ih _ hn.2 (fun m hm e => ?_) (fun m hm => hs m (List.mem_cons_of_mem _ hm))
      rcases List.mem_cons.1 e with e | e
      · exact hn.1 (List.mem_map.2 ⟨m, hm, e⟩)
      · exact hA m (List.mem_cons_of_mem _ hm) e
  exact key b [] ((h.map _).nodup_iff.1 na) (fun n hn => by simp) (fun n hn => sa n (h.mem_iff.2 hn))
theorem mayF_perm_zero {R : List Rk} (hR : (R.map (·.1)).Nodup) {a b : List Ne} (h : a.Perm b) : mayF R [] 1 a = 0 ↔ mayF R [] 1 b = 0 := by
  rw [mayF_iff, mayF_iff, room_iff, room_iff]
  exact ⟨fun ⟨x, y, z⟩ => ⟨x, rightF_perm hR h y, fun n hn => z n (h.mem_iff.2 hn)⟩, fun ⟨x, y, z⟩ => ⟨x, rightF_perm hR h.symm y, fun n hn => z n (h.mem_iff.1 hn)⟩⟩
end Go.DsPl
