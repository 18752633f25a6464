/- What stands on a log's disk is told behind a crash: where no call fails. No program in sight. -/
import Derived.Test.YtgobnnciijlpaaaDoorLkB
namespace Go.DsLg
open Go.DsDk
set_option linter.unusedVariables false

/-- no call fails -/
def Calm (D : Dk) : Prop := D.left = 0 ∧ D.dead = false
theorem Calm.crash (D : Dk) (keep : List Int) : Calm (D.crash keep) := ⟨rfl, rfl⟩
theorem Calm.start {D : Dk} (h : Calm D) : D.start true = (D, 0) := by
  unfold Dk.start Dk.called Dk.err
  rw [h.1, h.2]
  rfl
theorem Calm.clear {D : Dk} (h : Calm D) {f : Int} (hf : okf f = true) : (D.clear f).2 = 0 ∧ Calm (D.clear f).1 := by
  unfold Dk.clear
  rw [hf, h.start]
  exact ⟨rfl, h.1, h.2⟩
theorem Calm.sync {D : Dk} (h : Calm D) {f : Int} (hf : okf f = true) : (D.sync f).2 = 0 ∧ Calm (D.sync f).1 := by
  unfold Dk.sync
  rw [hf, h.start]
  exact ⟨rfl, h.1, h.2⟩
theorem Calm.rename {D : Dk} (h : Calm D) {f g : Int} (hf : okf f = true) (hg : okf g = true) : (D.rename f g).2 = 0 ∧ Calm (D.rename f g).1 := by
  unfold Dk.rename
  rw [hf, hg, Bool.and_self, h.start]
  rw [if_pos rfl]
  split
  · exact ⟨rfl, h.1, h.2⟩
  · exact ⟨rfl, h.1, h.2⟩
theorem Calm.append {D : Dk} (h : Calm D) {f : Int} {b : List UInt8} (hf : okf f = true) (hl : b.length + (D.b f.toNat).length ≤ 1048576) : (D.append f b).2 = 0 ∧ Calm (D.append f b).1 := by
  unfold Dk.append
  rw [if_pos hf, h.2, if_neg (by decide), if_neg (by omega)]
  refine ⟨err_no (by rw [h.1]; decide), ?_⟩
  unfold Dk.called
  rw [if_pos h.1]
  exact ⟨h.1, rfl⟩
theorem Calm.repl {D : Dk} (h : Calm D) {f g : Int} {c : List UInt8} (hf : okf f = true) (hg : okf g = true) (hl : c.length ≤ 1048576) : (replB D f g c).2 = 0 ∧ Calm (replB D f g c).1 := by
  obtain ⟨e1, c1⟩ := h.clear hf
  obtain ⟨b1, _⟩ := clear_ok e1
  obtain ⟨e2, c2⟩ := c1.append (b := c) hf (by rw [b1]; simpa using hl)
  obtain ⟨e3, c3⟩ := c2.sync hf
  unfold replB
  rw [if_pos e1, if_pos e2, if_pos e3]
  exact c3.rename hf hg

theorem ne0 : (0 : Int) ≠ 13 := by decide
theorem ne11 : (11 : Int) ≠ 13 := by decide
section
variable {D : Dk} {snap : List UInt8} {recs : List (List UInt8)} {next seq f : Nat} {all : List (List UInt8)} {t : List UInt8}
theorem Calm.open (hc : Calm D) (hl : (D.b 0).length ≤ 1048576) : Calm (openB D).1 ∧ ((openB D).2.err ≠ 13) := by
  have hr := hc.repl (f := 2) (g := 0) (c := (D.b 0).take (scanB (D.b 0)).2.2) okf2 okf0 (by rw [List.length_take]; omega)
  unfold openB
  split
  · split
    · split
      · rw [if_pos hr.1]
        exact ⟨hr.2, ne0⟩
      · exact ⟨hc, ne0⟩
    · refine ⟨hc, ?_⟩
      unfold behB
      split
      · first | exact ne0 | exact ne11
      · split
        · split <;> first | exact ne0 | exact ne11
        · split <;> first | exact ne0 | exact ne11
  · refine ⟨hc, ?_⟩
    unfold snapB
    split
    · first | exact ne0 | exact ne11
    · split
      · first | exact ne0 | exact ne11
      · split <;> first | exact ne0 | exact ne11
/-- behind a crash Open tells what stands there -/
theorem Stands.back (h : Stands D snap recs next seq f all t) (hc : Calm D) (hl : (D.b 0).length ≤ 1048576) (hn : next < 18446744073709551616) :
    (openB D).2 = ⟨0, next, snap, recs⟩ ∧ Stands (openB D).1 snap recs next seq f all [] ∧ Calm (openB D).1 ∧ ((openB D).1.b 0).length ≤ (D.b 0).length := by
  obtain ⟨h1, h2⟩ := hc.open hl
  rcases h.opened hc.2 hl hn with ⟨e, hs, _, hb⟩ | ⟨e, _⟩
  · exact ⟨e, hs, h1, hb⟩
  · exact absurd e h2
/-- what stands on a disk, so that a crash leaves it so -/
structure Fine (D : Dk) (snap : List UInt8) (recs : List (List UInt8)) (k : Nat) : Prop where
  calm : Calm D
  len : (D.b 0).length ≤ 1016 * k
  stands : ∃ next seq f all t, Stands D snap recs next seq f all t ∧ next ≤ k + 1
theorem Fine.count {k : Nat} (h : Fine D snap recs k) : recs.length ≤ k := by
  obtain ⟨next, seq, f, all, t, h1, h2⟩ := h.stands
  have := h1.nxt
  omega
theorem Fine.few {k : Nat} (h : Fine D snap recs k) (hk : k ≤ 41) : snap.length ≤ 60000 := by
  obtain ⟨next, seq, f, all, t, h1, h2⟩ := h.stands
  have := (snapB_lt (D.b 1)).2
  rw [h1.snap] at this
  exact this
/-- Open -/
theorem Fine.open {k : Nat} (h : Fine D snap recs k) (hk : k ≤ 41) : ∃ next seq f all, (openB D).2 = ⟨0, next, snap, recs⟩ ∧ Stands (openB D).1 snap recs next seq f all [] ∧ Calm (openB D).1 ∧ ((openB D).1.b 0).length ≤ 1016 * k ∧ next ≤ k + 1 := by
  obtain ⟨next, seq, f, all, t, h1, h2⟩ := h.stands
  have hl := h.len
  obtain ⟨a1, a2, a3, a4⟩ := h1.back h.calm (by omega) (by omega)
  exact ⟨next, seq, f, all, a1, a2, a3, by omega, h2⟩
theorem Fine.opened {k : Nat} (h : Fine D snap recs k) (hk : k ≤ 41) : (openB D).2.err = 0 ∧ (openB D).2.snap = snap ∧ (openB D).2.recs = recs ∧ Fine (openB D).1 snap recs k := by
  obtain ⟨next, seq, f, all, h1, h2, h3, h4, h5⟩ := h.open hk
  rw [h1]
  exact ⟨rfl, rfl, rfl, h3, h4, next, seq, f, all, [], h2, h5⟩
/-- the power goes while it is opened -/
theorem Fine.torn {k : Nat} (h : Fine D snap recs k) (hk : k ≤ 41) (n : Int) (keep : List Int) : Fine ((openB (D.fail n)).1.crash keep) snap recs k := by
  obtain ⟨next, seq, f, all, t, h1, h2⟩ := h.stands
  have hl := h.len
  have hF : Stands (D.fail n) snap recs next seq f all t := h1.files rfl rfl rfl rfl
  rcases hF.opened (show (D.fail n).dead = false from h.calm.2) (show ((D.fail n).b 0).length ≤ 1048576 by show (D.b 0).length ≤ _; omega) (by omega) with ⟨_, hs, _, hb⟩ | ⟨_, hs, hb⟩
  · refine ⟨Calm.crash _ _, Nat.le_trans (crash_len _ keep) (Nat.le_trans hb hl), next, seq, f, all, [], hs.crash keep, h2⟩
  · refine ⟨Calm.crash _ _, Nat.le_trans (crash_len _ keep) ?_, next, seq, f, all, t, hs.crash keep, h2⟩
    rw [hb]; exact hl
end
end Go.DsLg
