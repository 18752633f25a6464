/- Resources and who holds them, said plainly. -/
import Derived.Test.YtkpambipgcjaiaaMpA
import Derived.Test.YtkpambipgcjaiaaClA
namespace Go.DsPl
open Go.DsCo
set_option linter.unusedVariables false
/-- what a resource is -/
inductive Kd where
  | units (n : Int)
  | lock
abbrev Rk := ByteArray × Kd
abbrev Hk := Int × ByteArray
abbrev Sh := Int × Int
abbrev Hd := Hk × Sh
/-- a need -/
structure Ne where
  nm : ByteArray
  n : Int
  md : Int
abbrev Us := Int × Int × Int
def findK : List Rk → ByteArray → Option Kd
  | [], _ => none
  | p :: r, nm => if p.1 = nm then some p.2 else findK r nm
theorem findK_in : ∀ {R : List Rk} {nm : ByteArray} {k : Kd}, findK R nm = some k → (nm, k) ∈ R
  | p :: r, nm, k, h => by
    unfold findK at h
    split at h
    · next e =>
      cases h
      rw [← e]; exact List.mem_cons_self
    · exact List.mem_cons_of_mem _ (findK_in h)
theorem findK_none : ∀ {R : List Rk} {nm : ByteArray}, findK R nm = none → ∀ k, (nm, k) ∉ R
  | [], nm, _, k => by simp
  | p :: r, nm, h, k => by
    unfold findK at h
    split at h
    · cases h
    · next e =>
      intro hm
      rcases List.mem_cons.1 hm with rfl | hm
      · exact e rfl
      · exact findK_none h k hm
theorem findK_of : ∀ {R : List Rk} {nm : ByteArray} {k : Kd}, (R.map (·.1)).Nodup → (nm, k) ∈ R → findK R nm = some k
  | p :: r, nm, k, hn, hm => by
    rw [List.map_cons, List.nodup_cons] at hn
    unfold findK
    rcases List.mem_cons.1 hm with rfl | hm
    · rw [if_pos rfl]
    · rw [if_neg (fun e => hn.1 (List.mem_map.2 ⟨_, hm, e.symm⟩))]
      exact findK_of hn.2 hm
/-- what is held of a name -/
def addU (u : Us) (s : Sh) : Us := (u.1 + s.1, u.2.1 + (if s.2 = 1 then 1 else 0), u.2.2 + (if s.2 = 1 then 0 else if s.2 = 2 then 1 else 0))
def useF : List Hd → ByteArray → Us
  | [], _ => (0, 0, 0)
  | h :: r, nm => if h.1.2 = nm then addU (useF r nm) h.2 else useF r nm
theorem addU_comm (u : Us) (s t : Sh) : addU (addU u s) t = addU (addU u t) s := by
  unfold addU
  simp only
  refine Prod.ext (by simp only; omega) (Prod.ext (by simp only; omega) (by simp only; omega))
theorem useF_perm {H H' : List Hd} (h : H.Perm H') (nm : ByteArray) : useF H nm = useF H' nm := by
  induction h with
  | nil => rfl
  | cons x _ ih => unfold useF; rw [ih]
  | swap x y l =>
    unfold useF
    unfold useF
    by_cases h1 : x.1.2 = nm <;> by_cases h2 : y.1.2 = nm <;> simp [h1, h2, addU_comm]
  | trans _ _ ih1 ih2 => exact ih1.trans ih2
theorem useF_none : ∀ {H : List Hd} {nm : ByteArray}, (∀ h ∈ H, h.1.2 ≠ nm) → useF H nm = (0, 0, 0)
  | [], nm, _ => rfl
  | x :: r, nm, h => by
    unfold useF
    rw [if_neg (h x (by simp))]
    exact useF_none (fun y hy => h y (List.mem_cons_of_mem _ hy))
/-- each of what is held is small -/
def SmallH (H : List Hd) : Prop := ∀ h ∈ H, 0 ≤ h.2.1 ∧ h.2.1 ≤ 1000
theorem useF_bd : ∀ {H : List Hd} (nm : ByteArray), SmallH H → 0 ≤ (useF H nm).1 ∧ (useF H nm).1 ≤ 1000 * H.length ∧ 0 ≤ (useF H nm).2.1 ∧ (useF H nm).2.1 ≤ H.length ∧ 0 ≤ (useF H nm).2.2 ∧ (useF H nm).2.2 ≤ H.length
  | [], nm, _ => by simp [useF]
  | x :: r, nm, h => by
    have ih := useF_bd (H := r) nm (fun y hy => h y (List.mem_cons_of_mem _ hy))
    have hx := h x (by simp)
    unfold useF
    split
    · unfold addU
      simp only [List.length_cons]
      refine ⟨by omega, by omega, ?_, ?_, ?_, ?_⟩ <;> split <;> (try split) <;> omega
    · simp only [List.length_cons]
      omega
/-- units, and what is free -/
def unitsF (R : List Rk) (nm : ByteArray) : Int × Int := match findK R nm with | none => (0, 21) | some .lock => (0, 1) | some (.units n) => (n, 0)
def freeF (R : List Rk) (H : List Hd) (nm : ByteArray) : Int × Int := match findK R nm with | none => (0, 21) | some .lock => (0, 1) | some (.units n) => (n - (useF H nm).1, 0)
def suitsB : Kd → Ne → Bool
  | .units _, n => decide (n.md = 0 ∧ 1 ≤ n.n ∧ n.n ≤ 1000)
  | .lock, n => decide (n.md = 1 ∨ n.md = 2)
def fitsB : Kd → Ne → Us → Bool
  | .units k, n, u => decide (n.n ≤ k - u.1)
  | .lock, n, u => decide (u.2.2 = 0 ∧ (n.md = 1 ∨ u.2.1 = 0))
def shareF : Kd → Ne → Sh
  | .units _, n => (n.n, 0)
  | .lock, n => (0, n.md)
def rightF (R : List Rk) : List ByteArray → List Ne → Int
  | _, [] => 0
  | A, n :: r => match findK R n.nm with
    | none => 21
    | some k => if suitsB k n = false then 1 else if A.any (fun a => decide (a = n.nm)) = true then 22 else rightF R (n.nm :: A) r
def roomF (R : List Rk) (H : List Hd) : List Ne → Int
  | [] => 0
  | n :: r => match findK R n.nm with
    | none => 32
    | some k => if fitsB k n (useF H n.nm) = true then roomF R H r else 32
def holdsB (H : List Hd) (o : Int) : Bool := H.any (fun h => decide (h.1.1 = o))
theorem holdsB_iff {H : List Hd} {o : Int} : holdsB H o = true ↔ ∃ h ∈ H, h.1.1 = o := by unfold holdsB; simp
def mayF (R : List Rk) (H : List Hd) (o : Int) (l : List Ne) : Int := if holdsB H o = true then 5 else if rightF R [] l ≠ 0 then rightF R [] l else roomF R H l
/-- the one stands ahead of the other -/
def aheadH (a b : Hk) : Prop := a.1 < b.1 ∨ a.1 = b.1 ∧ a.2.data.toList < b.2.data.toList
theorem aheadH_irrefl (a : Hk) : ¬ aheadH a a := fun h => by
  rcases h with h | ⟨_, h⟩
  · omega
  · exact k_irrefl _ h
theorem aheadH_trans {a b c : Hk} (h : aheadH a b) (h' : aheadH b c) : aheadH a c := by
  rcases h with h | ⟨h, h2⟩ <;> rcases h' with h' | ⟨h', h2'⟩
  · exact .inl (by omega)
  · exact .inl (by omega)
  · exact .inl (by omega)
  · exact .inr ⟨h.trans h', k_trans h2 h2'⟩
theorem aheadH_total (a b : Hk) : aheadH a b ∨ a = b ∨ aheadH b a := by
  by_cases h1 : a.1 < b.1
  · exact .inl (.inl h1)
  · by_cases h2 : b.1 < a.1
    · exact .inr (.inr (.inl h2))
    · have e : a.1 = b.1 := by omega
      rcases k_total a.2.data.toList b.2.data.toList with h | h | h
      · exact .inl (.inr ⟨e, h⟩)
      · exact .inr (.inl (Prod.ext e (nm_of_k h)))
      · exact .inr (.inr (.inr ⟨e.symm, h⟩))
def UpH (H : List Hd) : Prop := H.Pairwise (fun a b => aheadH a.1 b.1)
open Classical in
/-- one more, at its place -/
noncomputable def insH (h : Hd) : List Hd → List Hd
  | [] => [h]
  | x :: r => if aheadH h.1 x.1 then h :: x :: r else x :: insH h r
theorem insH_perm (h : Hd) : ∀ H, (insH h H).Perm (h :: H)
  | [] => List.Perm.refl _
  | x :: r => by
    unfold insH
    split
    · exact List.Perm.refl _
    · exact ((insH_perm h r).cons x).trans (List.Perm.swap h x r)
theorem mem_insH {h x : Hd} {H : List Hd} : x ∈ insH h H ↔ x = h ∨ x ∈ H := by rw [(insH_perm h H).mem_iff]; simp
theorem len_insH (h : Hd) (H : List Hd) : (insH h H).length = H.length + 1 := by rw [(insH_perm h H).length_eq]; rfl
theorem UpH.ins {H : List Hd} (hu : UpH H) {h : Hd} (hn : ∀ x ∈ H, x.1 ≠ h.1) : UpH (insH h H) := by
  induction H with
  | nil => exact List.pairwise_singleton _ _
  | cons y r ih =>
    have h' := List.pairwise_cons.1 hu
    unfold insH
    split
    · rename_i ha
      exact List.pairwise_cons.2 ⟨fun x hx => by
        rcases List.mem_cons.1 hx with rfl | hx
        · exact ha
        · exact aheadH_trans ha (h'.1 x hx), hu⟩
    · rename_i ha
      refine List.pairwise_cons.2 ⟨fun x hx => ?_, ih h'.2 (fun x hx => hn x (List.mem_cons_of_mem _ hx))⟩
      rcases mem_insH.1 hx with rfl | hx
      · rcases aheadH_total x.1 y.1 with a | a | a
        · exact absurd a ha
        · exact absurd a.symm (hn y (by simp))
        · exact a
      · exact h'.1 x hx
theorem UpH.nodup {H : List Hd} (h : UpH H) : (H.map (·.1)).Nodup := by
  unfold List.Nodup
  rw [List.pairwise_map]
  exact List.Pairwise.imp (fun {a b} hab e => by rw [e] at hab; exact aheadH_irrefl _ hab) h
theorem upH_ext {L M : List Hd} (hL : UpH L) (hM : UpH M) (h : L.Perm M) : L = M := by
  induction L generalizing M with
  | nil => exact (List.nil_perm.1 h).symm
  | cons a L ih =>
    cases M with
    | nil => exact absurd h.length_eq (by simp)
    | cons m M =>
      have hL' := List.pairwise_cons.1 hL
      have hM' := List.pairwise_cons.1 hM
      have e : a = m := by
        rcases List.mem_cons.1 (h.mem_iff.1 (List.mem_cons_self (a := a) (l := L))) with e | h1
        · exact e
        · rcases List.mem_cons.1 (h.mem_iff.2 (List.mem_cons_self (a := m) (l := M))) with e | h2
          · exact e.symm
          · exact absurd (aheadH_trans (hL'.1 m h2) (hM'.1 a h1)) (aheadH_irrefl _)
      subst e
      rw [ih hL'.2 hM'.2 ((List.perm_cons a).1 h)]
noncomputable def takeL (R : List Rk) (o : Int) (H : List Hd) (l : List Ne) : List Hd := l.foldl (fun H n => insH ((o, n.nm), shareF ((findK R n.nm).getD .lock) n) H) H
noncomputable def takeF (R : List Rk) (H : List Hd) (o : Int) (l : List Ne) : List Hd × Int := if mayF R H o l ≠ 0 then (H, mayF R H o l) else (takeL R o H l, 0)
def giveF (H : List Hd) (o : Int) : List Hd := H.filter (fun h => decide (h.1.1 ≠ o))
/-- a share that can be of a resource -/
def okS : Kd → Sh → Prop
  | .units _, s => 1 ≤ s.1 ∧ s.1 ≤ 1000 ∧ s.2 = 0
  | .lock, s => s.1 = 0 ∧ (s.2 = 1 ∨ s.2 = 2)
/-- what a pool is -/
structure FineP (R : List Rk) (H : List Hd) : Prop where
  kn : (R.map (·.1)).Nodup
  ru : ∀ nm n, (nm, Kd.units n) ∈ R → 0 ≤ n ∧ n ≤ 1000
  rs : ∀ p ∈ R, p.1.size ≤ 140737488355000
  up : UpH H
  hin : ∀ h ∈ H, ∃ k, findK R h.1.2 = some k ∧ okS k h.2
  ho : ∀ h ∈ H, -9223372036854775808 ≤ h.1.1 ∧ h.1.1 ≤ 9223372036854775807
theorem FineP.small {R : List Rk} {H : List Hd} (h : FineP R H) : SmallH H := fun x hx => by
  obtain ⟨k, _, hk⟩ := h.hin x hx
  cases k with
  | units n => unfold okS at hk; omega
  | lock => unfold okS at hk; omega
theorem FineP.hs {R : List Rk} {H : List Hd} (h : FineP R H) : ∀ x ∈ H, x.1.2.size ≤ 140737488355000 := fun x hx => by
  obtain ⟨k, hk, _⟩ := h.hin x hx
  exact h.rs _ (findK_in hk)
theorem FineP.sub {R : List Rk} {H : List Hd} (h : FineP R H) (p : Hd → Bool) : FineP R (H.filter p) :=
  ⟨h.kn, h.ru, h.rs, List.Pairwise.filter p h.up, fun x hx => h.hin x (List.mem_filter.1 hx).1, fun x hx => h.ho x (List.mem_filter.1 hx).1⟩
theorem FineP.give {R : List Rk} {H : List Hd} (h : FineP R H) (o : Int) : FineP R (giveF H o) := h.sub _
theorem rightF_le (R : List Rk) (hR : (R.map (·.1)).Nodup) : ∀ (l : List Ne) (A : List ByteArray), A.Nodup → (∀ a ∈ A, ∃ k, (a, k) ∈ R) → rightF R A l = 0 → (l.map (·.nm) ++ A).Nodup ∧ ∀ n ∈ l, ∃ k, findK R n.nm = some k ∧ suitsB k n = true
  | [], A, hA, _, _ => ⟨by simpa using hA, fun n hn => by simp at hn⟩
  | n :: r, A, hA, hAR, h => by
    unfold rightF at h
    cases hk : findK R n.nm with
    | none => rw [hk] at h; simp at h
    | some k =>
      rw [hk] at h
      simp only at h
      split at h
      · omega
      · next hs =>
        split at h
        · omega
        · next hm =>
          have hm : n.nm ∉ A := fun e => hm (List.any_eq_true.2 ⟨n.nm, e, by simp⟩)
          obtain ⟨h1, h2⟩ := rightF_le R hR r (n.nm :: A) (List.nodup_cons.2 ⟨hm, hA⟩) (fun a ha => by
            rcases List.mem_cons.1 ha with rfl | ha
            · exact ⟨k, findK_in hk⟩
            · exact hAR a ha) h
          refine ⟨?_, fun m hm' => ?_⟩
          · rw [List.map_cons, List.cons_append]
            exact (List.perm_middle.nodup_iff).1 h1
          · rcases List.mem_cons.1 hm' with rfl | hm'
            · exact ⟨k, hk, by simpa using hs⟩
            · exact h2 m hm'
theorem suits_share {k : Kd} {n : Ne} (h : suitsB k n = true) : okS k (shareF k n) := by
  cases k with
  | units m => simp [suitsB] at h; simp [okS, shareF]; omega
  | lock => simp [suitsB] at h; simp [okS, shareF]; exact h
/-- what was taken is there -/
theorem takeL_fine {R : List Rk} (o : Int) (ho : -9223372036854775808 ≤ o ∧ o ≤ 9223372036854775807) : ∀ (l : List Ne) (H : List Hd), FineP R H → (∀ h ∈ H, h.1.1 = o → h.1.2 ∉ l.map (·.nm)) → (l.map (·.nm)).Nodup → (∀ n ∈ l, ∃ k, findK R n.nm = some k ∧ suitsB k n = true) →
    FineP R (takeL R o H l) ∧ (takeL R o H l).length = H.length + l.length ∧ (takeL R o H l).Perm (l.map (fun n => ((o, n.nm), shareF ((findK R n.nm).getD .lock) n)) ++ H)
  | [], H, hf, _, _, _ => ⟨hf, rfl, List.Perm.refl _⟩
  | n :: r, H, hf, hno, hnd, hs => by
    obtain ⟨k, hk, hsk⟩ := hs n (by simp)
    rw [List.map_cons, List.nodup_cons] at hnd
    have hnew : ∀ x ∈ H, x.1 ≠ (o, n.nm) := fun x hx e => hno x hx (by rw [e]) (by rw [e]; simp)
    have hf2 : FineP R (insH ((o, n.nm), shareF ((findK R n.nm).getD .lock) n) H) := by
      refine ⟨hf.kn, hf.ru, hf.rs, hf.up.ins hnew, fun x hx => ?_, fun x hx => ?_⟩
      · rcases mem_insH.1 hx with rfl | hx
        · exact ⟨k, hk, by rw [hk]; exact suits_share hsk⟩
        · exact hf.hin x hx
      · rcases mem_insH.1 hx with rfl | hx
        · exact ho
        · exact hf.ho x hx
    obtain ⟨a, b, c⟩ := takeL_fine o ho r (insH ((o, n.nm), shareF ((findK R n.nm).getD .lock) n) H) hf2 (fun x hx hxo hm => by
      rcases mem_insH.1 hx with rfl | hx
      · exact hnd.1 hm
      · exact hno x hx hxo (by simp only [List.map_cons, List.mem_cons]; exact .inr hm)) hnd.2 (fun m hm => hs m (List.mem_cons_of_mem _ hm))
    refine ⟨a, ?_, ?_⟩
    · show (takeL R o _ r).length = _
      rw [b, len_insH, List.length_cons]; omega
    · show (takeL R o _ r).Perm _
      refine c.trans ?_
      rw [List.map_cons, List.cons_append]
      exact ((insH_perm _ H).append_left _).trans List.perm_middle
theorem mayF_zero {R : List Rk} {H : List Hd} {o : Int} {l : List Ne} (h : mayF R H o l = 0) : holdsB H o = false ∧ rightF R [] l = 0 ∧ roomF R H l = 0 := by
  unfold mayF at h
  split at h
  · omega
  · next h1 =>
    split at h
    · next h2 => exact absurd h h2
    · next h2 => exact ⟨by simpa using h1, by omega, h⟩
theorem nodup_len {α : Type} : ∀ (l m : List α), l.Nodup → (∀ x ∈ l, x ∈ m) → l.length ≤ m.length
  | [], m, _, _ => Nat.zero_le _
  | a :: l, m, hn, h => by
    rw [List.nodup_cons] at hn
    obtain ⟨s, t, rfl⟩ := List.append_of_mem (h a (by simp))
    have := nodup_len l (s ++ t) hn.2 (fun x hx => by
      have hxa : x ≠ a := fun e => hn.1 (e ▸ hx)
      have := h x (List.mem_cons_of_mem _ hx)
      simp only [List.mem_append, List.mem_cons] at this ⊢
      rcases this with h | h | h
      · exact .inl h
      · exact absurd h hxa
      · exact .inr h)
    simp only [List.length_append, List.length_cons] at this ⊢
    omega
theorem take_fine {R : List Rk} {H : List Hd} {o : Int} {l : List Ne} (hf : FineP R H) (ho : -9223372036854775808 ≤ o ∧ o ≤ 9223372036854775807) : FineP R (takeF R H o l).1 ∧ (takeF R H o l).1.length ≤ H.length + R.length := by
  unfold takeF
  split
  · exact ⟨hf, by simp⟩
  · next h =>
    obtain ⟨h1, h2, h3⟩ := mayF_zero (Classical.not_not.1 h)
    obtain ⟨h4, h5⟩ := rightF_le R hf.kn l [] List.nodup_nil (fun a ha => by simp at ha) h2
    rw [List.append_nil] at h4
    obtain ⟨a, b, _⟩ := takeL_fine o ho l H hf (fun x hx hxo => by
      have : holdsB H o = true := holdsB_iff.2 ⟨x, hx, hxo⟩
      rw [h1] at this; cases this) h4 h5
    refine ⟨a, ?_⟩
    simp only
    have : (l.map (·.nm)).length ≤ (R.map (·.1)).length := nodup_len _ _ h4 (fun x hx => by
      obtain ⟨n, hn, rfl⟩ := List.mem_map.1 hx
      obtain ⟨k, hk, _⟩ := h5 n hn
      exact List.mem_map.2 ⟨_, findK_in hk, rfl⟩)
    simp only [List.length_map] at this
    omega
end Go.DsPl
