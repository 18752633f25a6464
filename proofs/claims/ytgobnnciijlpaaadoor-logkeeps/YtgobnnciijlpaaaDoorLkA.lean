/- A log's disk through failing calls and crashes, plainly: what is there stays. No program in sight. -/
import Derived.Test.YtgobnnciijlpaaaDoorLgQ
namespace Go.DsLg
open Go.DsDk
set_option linter.unusedVariables false

theorem okf0 : okf 0 = true := by decide
theorem okf1 : okf 1 = true := by decide
theorem okf2 : okf 2 = true := by decide
theorem okf3 : okf 3 = true := by decide

/-- what stands on a disk: the snapshot and the records behind it, all of it safe; behind the records bytes t that are no frame -/
structure Stands (D : Dk) (snap : List UInt8) (recs : List (List UInt8)) (next seq f : Nat) (all : List (List UInt8)) (t : List UInt8) : Prop where
  snap : snapB (D.b 1) = (seq, snap, 0)
  s1 : D.s 1 = (D.b 1).length
  b0 : D.b 0 = wrB f all ++ t
  s0 : D.s 0 = (D.b 0).length
  none : unfB t = none
  few : ∀ r ∈ all, r.length ≤ 60000
  pos : 1 ≤ f
  top : f + all.length ≤ 18446744073709551616
  low : f ≤ seq + 1 ∧ seq + 1 ≤ f + all.length
  nxt : next = seq + 1 + recs.length
  recs : recs = all.drop (seq + 1 - f)
  num : next = f + all.length

/-- the same two files -/
theorem Stands.files {D E : Dk} {snap : List UInt8} {recs : List (List UInt8)} {next seq f : Nat} {all : List (List UInt8)} {t : List UInt8} (h : Stands D snap recs next seq f all t) (h0 : E.b 0 = D.b 0) (h1 : E.b 1 = D.b 1) (h2 : E.s 0 = D.s 0) (h3 : E.s 1 = D.s 1) : Stands E snap recs next seq f all t :=
  ⟨by rw [h1]; exact h.snap, by rw [h3, h1]; exact h.s1, by rw [h0]; exact h.b0, by rw [h2, h0]; exact h.s0, h.none, h.few, h.pos, h.top, h.low, h.nxt, h.recs, h.num⟩
theorem Stands.crash {D : Dk} {snap : List UInt8} {recs : List (List UInt8)} {next seq f : Nat} {all : List (List UInt8)} {t : List UInt8} (h : Stands D snap recs next seq f all t) (keep : List Int) : Stands (D.crash keep) snap recs next seq f all t := by
  have k0 : D.kept keep 0 = (D.b 0).length := by unfold Dk.kept stay; rw [h.s0]; simp
  have k1 : D.kept keep 1 = (D.b 1).length := by unfold Dk.kept stay; rw [h.s1]; simp
  refine h.files ?_ ?_ ?_ ?_
  · simp only [Dk.crash]; rw [k0, List.take_length]
  · simp only [Dk.crash]; rw [k1, List.take_length]
  · simp only [Dk.crash]; rw [k0, h.s0]
  · simp only [Dk.crash]; rw [k1, h.s1]
theorem Stands.scan {D : Dk} {snap : List UInt8} {recs : List (List UInt8)} {next seq f : Nat} {all : List (List UInt8)} {t : List UInt8} (h : Stands D snap recs next seq f all t) : scanB (D.b 0) = (if all.length = 0 then 0 else f, all, (wrB f all).length) := by
  rw [h.b0]
  exact scanB_wr h.pos h.top h.few h.none
theorem Stands.beh {D : Dk} {snap : List UInt8} {recs : List (List UInt8)} {next seq f : Nat} {all : List (List UInt8)} {t : List UInt8} (h : Stands D snap recs next seq f all t) : behB seq (if all.length = 0 then 0 else f) all = (recs, 0) := by
  by_cases h0 : all.length = 0
  · have e : all = [] := List.eq_nil_of_length_eq_zero h0
    have := h.recs
    rw [e] at this ⊢
    simp at this
    rw [this]
    simp [behB]
  · rw [if_neg h0, h.recs]
    obtain ⟨h1, h2⟩ := h.low
    unfold behB
    rw [if_neg h0]
    by_cases h3 : seq < f
    · rw [if_pos h3, if_pos (by omega), show seq + 1 - f = 0 by omega, List.drop_zero]
    · rw [if_neg h3]
      by_cases h4 : all.length ≤ seq - f + 1
      · rw [if_pos h4, List.drop_eq_nil_of_le (by omega)]
      · rw [if_neg h4, show seq - f + 1 = seq + 1 - f by omega]

/-- a file as it was -/
def Other (k : Nat) (D E : Dk) : Prop := E.b k = D.b k ∧ E.s k = D.s k
theorem Other.refl (k : Nat) (D : Dk) : Other k D D := ⟨rfl, rfl⟩
theorem Other.trans {k : Nat} {A B C : Dk} (h : Other k A B) (h2 : Other k B C) : Other k A C := ⟨h2.1.trans h.1, h2.2.trans h.2⟩
theorem start_other (k : Nat) (D : Dk) (ok : Bool) : Other k D (D.start ok).1 := ⟨by rw [start_b], by rw [start_s]⟩
theorem called_other (k : Nat) (D : Dk) : Other k D D.called := ⟨by rw [called_b], by rw [called_s]⟩
theorem clear_other {k : Nat} (D : Dk) {f : Int} (h : k ≠ f.toNat) : Other k D (D.clear f).1 := by
  unfold Dk.clear
  split
  · exact ⟨by simp only; rw [upd_ne _ _ h], by simp only; rw [upd_ne _ _ h]⟩
  · exact start_other k D _
theorem sync_other {k : Nat} (D : Dk) {f : Int} (h : k ≠ f.toNat) : Other k D (D.sync f).1 := by
  unfold Dk.sync
  split
  · exact ⟨by simp only [start_b], by simp only; rw [upd_ne _ _ h]⟩
  · exact start_other k D _
theorem append_other {k : Nat} (D : Dk) {f : Int} (b : List UInt8) (h : k ≠ f.toNat) : Other k D (D.append f b).1 := by
  unfold Dk.append
  split
  · split
    · exact Other.refl k D
    · split
      · exact Other.refl k D
      · exact ⟨by rw [called_b]; simp only; rw [upd_ne _ _ h], by rw [called_s]⟩
  · exact Other.refl k D
theorem rename_other {k : Nat} (D : Dk) {f g : Int} (h1 : k ≠ f.toNat) (h2 : k ≠ g.toNat) : Other k D (D.rename f g).1 := by
  unfold Dk.rename
  split
  · split
    · exact start_other k D _
    · exact ⟨by simp only; rw [upd_ne _ _ h1, upd_ne _ _ h2], by simp only; rw [upd_ne _ _ h1, upd_ne _ _ h2]⟩
  · exact start_other k D _
theorem rename_fail {k : Nat} {D : Dk} {f g : Int} (h : (D.rename f g).2 ≠ 0) : Other k D (D.rename f g).1 := by
  unfold Dk.rename at h ⊢
  by_cases h0 : (D.start (okf f && okf g)).2 = 0
  · rw [if_pos h0] at h ⊢
    by_cases h1 : f = g
    · rw [if_pos h1] at h ⊢
      exact start_other k D _
    · rw [if_neg h1] at h
      simp at h
  · rw [if_neg h0]
    exact start_other k D _
theorem rename_ok {D : Dk} {f g : Int} (h : (D.rename f g).2 = 0) (hfg : f ≠ g) (hn : f.toNat ≠ g.toNat) : (D.rename f g).1.b g.toNat = D.b f.toNat ∧ (D.rename f g).1.s g.toNat = D.s f.toNat := by
  unfold Dk.rename at h ⊢
  by_cases h0 : (D.start (okf f && okf g)).2 = 0
  · rw [if_pos h0] at h ⊢
    rw [if_neg hfg] at h ⊢
    exact ⟨by simp only; rw [upd_ne _ _ (fun e => hn e.symm), upd_same], by simp only; rw [upd_ne _ _ (fun e => hn e.symm), upd_same]⟩
  · rw [if_neg h0] at h
    exact absurd h h0
theorem clear_ok {D : Dk} {f : Int} (h : (D.clear f).2 = 0) : (D.clear f).1.b f.toNat = [] ∧ (D.clear f).1.s f.toNat = 0 := by
  unfold Dk.clear at h ⊢
  by_cases h0 : (D.start (okf f)).2 = 0
  · rw [if_pos h0]
    exact ⟨upd_same _ _ _, upd_same _ _ _⟩
  · rw [if_neg h0] at h
    exact absurd h h0
theorem clear_fail {k : Nat} {D : Dk} {f : Int} (h : (D.clear f).2 ≠ 0) : Other k D (D.clear f).1 := by
  unfold Dk.clear at h ⊢
  by_cases h0 : (D.start (okf f)).2 = 0
  · rw [if_pos h0] at h; simp at h
  · rw [if_neg h0]; exact start_other k D _
theorem sync_ok {D : Dk} {f : Int} (h : (D.sync f).2 = 0) : (D.sync f).1.b = D.b ∧ (D.sync f).1.s f.toNat = (D.b f.toNat).length := by
  unfold Dk.sync at h ⊢
  by_cases h0 : (D.start (okf f)).2 = 0
  · rw [if_pos h0]
    exact ⟨by simp only [start_b], upd_same _ _ _⟩
  · rw [if_neg h0] at h
    exact absurd h h0
theorem sync_fail {k : Nat} {D : Dk} {f : Int} (h : (D.sync f).2 ≠ 0) : Other k D (D.sync f).1 := by
  unfold Dk.sync at h ⊢
  by_cases h0 : (D.start (okf f)).2 = 0
  · rw [if_pos h0] at h; simp at h
  · rw [if_neg h0]; exact start_other k D _
/-- bytes behind a file: they are there, or nothing has turned -/
theorem append_b {D : Dk} {f : Int} {b : List UInt8} (hf : okf f = true) (hd : D.dead = false) (hl : b.length + (D.b f.toNat).length ≤ 1048576) : (D.append f b).1.b f.toNat = D.b f.toNat ++ b ∧ (D.append f b).1.s f.toNat = D.s f.toNat ∧ ((D.append f b).2 = 0 ∨ (D.append f b).2 = 13) := by
  unfold Dk.append
  rw [if_pos hf, hd, if_neg (by decide), if_neg (by omega)]
  refine ⟨by rw [called_b]; exact upd_same _ _ _, by rw [called_s], ?_⟩
  rcases (show D.left = 1 ∨ D.left ≠ 1 by omega) with h | h
  · exact .inr (err_one h)
  · exact .inl (err_no h)

theorem start_two (D : Dk) : (D.start true).2 = 0 ∨ (D.start true).2 = 13 := by
  unfold Dk.start
  rw [if_pos rfl]
  split
  · exact .inr rfl
  · unfold Dk.err; split <;> simp
theorem start_live {D : Dk} {ok : Bool} (h : (D.start ok).2 = 0) : (D.start ok).1.dead = false := by
  unfold Dk.start at h ⊢
  cases ok with
  | false => simp at h
  | true =>
    cases hd : D.dead with
    | true => simp [hd] at h
    | false =>
      simp only [hd, if_true, Bool.false_eq_true, if_false] at h ⊢
      have : D.left ≠ 1 := fun e => by simp [Dk.err, e] at h
      unfold Dk.called
      split
      · exact hd
      · simp [hd, this]
theorem clear_two (D : Dk) {f : Int} (hf : okf f = true) : (D.clear f).2 = 0 ∨ (D.clear f).2 = 13 := by
  unfold Dk.clear
  split
  · exact .inl rfl
  · rw [hf]; exact start_two D
theorem sync_two (D : Dk) {f : Int} (hf : okf f = true) : (D.sync f).2 = 0 ∨ (D.sync f).2 = 13 := by
  unfold Dk.sync
  split
  · exact .inl rfl
  · rw [hf]; exact start_two D
theorem rename_two (D : Dk) {f g : Int} (hf : okf f = true) (hg : okf g = true) : (D.rename f g).2 = 0 ∨ (D.rename f g).2 = 13 := by
  unfold Dk.rename
  rw [hf, hg]
  split
  · split
    · exact start_two D
    · exact .inl rfl
  · exact start_two D
theorem clear_live {D : Dk} {f : Int} (h : (D.clear f).2 = 0) : (D.clear f).1.dead = false := by
  unfold Dk.clear at h ⊢
  by_cases h0 : (D.start (okf f)).2 = 0
  · rw [if_pos h0]; exact start_live h0
  · rw [if_neg h0] at h; exact absurd h h0
theorem sync_live {D : Dk} {f : Int} (h : (D.sync f).2 = 0) : (D.sync f).1.dead = false := by
  unfold Dk.sync at h ⊢
  by_cases h0 : (D.start (okf f)).2 = 0
  · rw [if_pos h0]; exact start_live h0
  · rw [if_neg h0] at h; exact absurd h h0
theorem rename_live {D : Dk} {f g : Int} (h : (D.rename f g).2 = 0) : (D.rename f g).1.dead = false := by
  unfold Dk.rename at h ⊢
  by_cases h0 : (D.start (okf f && okf g)).2 = 0
  · rw [if_pos h0] at h ⊢
    split
    · exact start_live h0
    · exact start_live h0
  · rw [if_neg h0] at h; exact absurd h h0
theorem append_live {D : Dk} {f : Int} {b : List UInt8} (h : (D.append f b).2 = 0) : (D.append f b).1.dead = false := by
  unfold Dk.append at h ⊢
  split at h
  · rename_i hf
    rw [if_pos hf]
    split at h
    · simp at h
    · rename_i hd
      rw [if_neg hd]
      split at h
      · simp at h
      · rename_i hl
        rw [if_neg hl]
        have hl1 : D.left ≠ 1 := fun e => by simp [Dk.err, e] at h
        have hd' : D.dead = false := by simpa using hd
        unfold Dk.called
        split
        · exact hd'
        · simp [hd', hl1]
  · simp at h

/-- a file is written beside another one and takes its place: it does, or that one is as it was -/
theorem repl_all {D : Dk} {room to : Int} {c : List UInt8} (hr : okf room = true) (ht : okf to = true) (hne : room.toNat ≠ to.toNat) (hD : D.dead = false) (hc : c.length ≤ 1048576) :
    ((replB D room to c).2 = 0 ∧ (replB D room to c).1.b to.toNat = c ∧ (replB D room to c).1.s to.toNat = c.length ∧ (replB D room to c).1.dead = false ∨ (replB D room to c).2 = 13 ∧ Other to.toNat D (replB D room to c).1) ∧
    ∀ k, k ≠ room.toNat → k ≠ to.toNat → Other k D (replB D room to c).1 := by
  have hne2 : room ≠ to := fun e => hne (by rw [e])
  unfold replB
  by_cases h1 : (D.clear room).2 = 0
  · rw [if_pos h1]
    have l1 := clear_live h1
    obtain ⟨b1, s1⟩ := clear_ok h1
    by_cases h2 : ((D.clear room).1.append room c).2 = 0
    · rw [if_pos h2]
      have l2 := append_live h2
      obtain ⟨b2, s2, _⟩ := append_b (D := (D.clear room).1) (b := c) hr l1 (by rw [b1]; simp; omega)
      rw [b1, List.nil_append] at b2
      by_cases h3 : (((D.clear room).1.append room c).1.sync room).2 = 0
      · rw [if_pos h3]
        obtain ⟨b3, s3⟩ := sync_ok h3
        have hoth : ∀ k, k ≠ room.toNat → Other k D (((D.clear room).1.append room c).1.sync room).1 := fun k hk => ((clear_other D hk).trans (append_other _ c hk)).trans (sync_other _ hk)
        refine ⟨?_, fun k hk1 hk2 => (hoth k hk1).trans (rename_other _ hk1 hk2)⟩
        rcases rename_two (((D.clear room).1.append room c).1.sync room).1 hr ht with h4 | h4
        · obtain ⟨b4, s4⟩ := rename_ok h4 hne2 hne
          exact .inl ⟨h4, by rw [b4, b3, b2], by rw [s4, s3, b2], rename_live h4⟩
        · exact .inr ⟨h4, (hoth _ (fun e => hne e.symm)).trans (rename_fail (by rw [h4]; decide))⟩
      · rw [if_neg h3]
        have h13 := (sync_two ((D.clear room).1.append room c).1 hr).resolve_left h3
        have hoth : ∀ k, k ≠ room.toNat → Other k D (((D.clear room).1.append room c).1.sync room).1 := fun k hk => ((clear_other D hk).trans (append_other _ c hk)).trans (sync_other _ hk)
        exact ⟨.inr ⟨h13, hoth _ (fun e => hne e.symm)⟩, fun k hk _ => hoth k hk⟩
    · rw [if_neg h2]
      obtain ⟨_, _, h13⟩ := append_b (D := (D.clear room).1) (b := c) hr l1 (by rw [b1]; simp; omega)
      have hoth : ∀ k, k ≠ room.toNat → Other k D ((D.clear room).1.append room c).1 := fun k hk => (clear_other D hk).trans (append_other _ c hk)
      exact ⟨.inr ⟨h13.resolve_left h2, hoth _ (fun e => hne e.symm)⟩, fun k hk _ => hoth k hk⟩
  · rw [if_neg h1]
    exact ⟨.inr ⟨(clear_two D hr).resolve_left h1, clear_fail h1⟩, fun k _ _ => clear_fail h1⟩
end Go.DsLg
