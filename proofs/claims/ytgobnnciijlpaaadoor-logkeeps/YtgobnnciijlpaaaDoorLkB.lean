/- What stands on a log's disk, through Open, Append, Install and crashes, plainly. No program in sight. -/
import Derived.Test.YtgobnnciijlpaaaDoorLkA
namespace Go.DsLg
open Go.DsDk
set_option linter.unusedVariables false

section
variable {D : Dk} {snap : List UInt8} {recs : List (List UInt8)} {next seq f : Nat} {all : List (List UInt8)} {t : List UInt8}
theorem Stands.new : Stands Dk.new [] [] 1 0 1 [] [] :=
  ⟨by decide, rfl, rfl, rfl, unf_nil, fun r h => by simp at h, Nat.le_refl _, by decide, ⟨by decide, by decide⟩, rfl, rfl, rfl⟩
/-- Open: it tells what stands there, and behind the records there is nothing then; or the power has gone, and it stands as it did -/
theorem Stands.opened (h : Stands D snap recs next seq f all t) (hd : D.dead = false) (hl : (D.b 0).length ≤ 1048576) (hn : next < 18446744073709551616) :
    ((openB D).2 = ⟨0, next, snap, recs⟩ ∧ Stands (openB D).1 snap recs next seq f all [] ∧ (openB D).1.dead = false ∧ ((openB D).1.b 0).length ≤ (D.b 0).length) ∨
    ((openB D).2.err = 13 ∧ Stands (openB D).1 snap recs next seq f all t ∧ (openB D).1.b 0 = D.b 0) := by
  have hsc := h.scan
  have hbe := h.beh
  have hnx : (seq + recs.length + 1) % 18446744073709551616 = next := by rw [h.nxt] at hn ⊢; rw [Nat.mod_eq_of_lt (by omega)]; omega
  have hO : openB D = if (wrB f all).length < (D.b 0).length then
      (if (replB D 2 0 ((D.b 0).take (wrB f all).length)).2 = 0 then ((replB D 2 0 ((D.b 0).take (wrB f all).length)).1, ⟨0, next, snap, recs⟩)
       else ((replB D 2 0 ((D.b 0).take (wrB f all).length)).1, ⟨(replB D 2 0 ((D.b 0).take (wrB f all).length)).2, 0, [], []⟩)) else (D, ⟨0, next, snap, recs⟩) := by
    unfold openB
    rw [h.snap, hsc]
    simp only
    rw [if_pos trivial, hbe]
    simp only
    rw [if_pos trivial, hnx]
  rw [hO]
  by_cases hat : (wrB f all).length < (D.b 0).length
  · rw [if_pos hat]
    have htk : (D.b 0).take (wrB f all).length = wrB f all := by rw [h.b0, List.take_left]
    rw [htk]
    obtain ⟨hcase, hoth⟩ := repl_all (D := D) (c := wrB f all) okf2 okf0 (by decide) hd (by omega)
    have h1 := hoth 1 (by decide) (by decide)
    rcases hcase with ⟨hz, hb, hs, hlv⟩ | ⟨h13, ho⟩
    · rw [if_pos hz]
      have hb' : (replB D 2 0 (wrB f all)).1.b 0 = wrB f all := hb
      have hs' : (replB D 2 0 (wrB f all)).1.s 0 = (wrB f all).length := hs
      refine .inl ⟨rfl, ⟨by rw [h1.1]; exact h.snap, by rw [h1.2, h1.1]; exact h.s1, by rw [hb', List.append_nil], by rw [hs', hb'], unf_nil, h.few, h.pos, h.top, h.low, h.nxt, h.recs, h.num⟩, hlv, ?_⟩
      show ((replB D 2 0 (wrB f all)).1.b 0).length ≤ _
      rw [hb']; omega
    · rw [if_neg (by rw [h13]; decide)]
      exact .inr ⟨h13, h.files ho.1 h1.1 ho.2 h1.2, ho.1⟩
  · rw [if_neg hat]
    have ht : t = [] := by
      have := congrArg List.length h.b0
      rw [List.length_append] at this
      exact List.eq_nil_of_length_eq_zero (by omega)
    subst ht
    exact .inl ⟨rfl, h, hd, Nat.le_refl _⟩
/-- a record more, of which some may be lost -/
theorem Stands.more (h : Stands D snap recs next seq f all []) {E : Dk} {rec : List UInt8} (hrec : rec.length ≤ 60000) (hn : next < 18446744073709551616) (hb : E.b 0 = D.b 0 ++ frameB next rec) (hs : E.s 0 = D.s 0) (h1 : Other 1 D E) (keep : List Int) :
    (∃ t, Stands (E.crash keep) snap recs next seq f all t) ∨ Stands (E.crash keep) snap (recs ++ [rec]) (next + 1) seq f (all ++ [rec]) [] := by
  have hb0 := h.b0
  rw [List.append_nil] at hb0
  have hfl := frameB_len next rec
  have k1 : E.kept keep 1 = (E.b 1).length := by unfold Dk.kept stay; rw [h1.2, h1.1, h.s1]; simp
  have hc1 : (E.crash keep).b 1 = D.b 1 := by simp only [Dk.crash]; rw [k1, List.take_length, h1.1]
  have hcs1 : (E.crash keep).s 1 = (D.b 1).length := by simp only [Dk.crash]; rw [k1, h1.1]
  obtain ⟨j, hj, hkj⟩ : ∃ j, j ≤ (frameB next rec).length ∧ E.kept keep 0 = (wrB f all).length + j := by
    refine ⟨stay keep 0 ((E.b 0).length - E.s 0), ?_, ?_⟩
    · unfold stay
      have e : (E.b 0).length - E.s 0 = (frameB next rec).length := by rw [hb, hs, h.s0, List.length_append]; omega
      rw [e]; exact Nat.min_le_right _ _
    · unfold Dk.kept; rw [hs, h.s0, hb0]
  have hc0 : (E.crash keep).b 0 = wrB f all ++ (frameB next rec).take j := by
    simp only [Dk.crash]
    rw [hkj, hb, hb0, List.take_append, List.take_of_length_le (by omega), show (wrB f all).length + j - (wrB f all).length = j by omega]
  have hcs0 : (E.crash keep).s 0 = ((E.crash keep).b 0).length := by
    rw [hc0, List.length_append, List.length_take, Nat.min_eq_left hj]
    simp only [Dk.crash]; exact hkj
  by_cases hjl : j < (frameB next rec).length
  · refine .inl ⟨(frameB next rec).take j, by rw [hc1]; exact h.snap, by rw [hcs1, hc1], hc0, hcs0, unf_part hrec (List.take_prefix _ _) ?_, h.few, h.pos, h.top, h.low, h.nxt, h.recs, h.num⟩
    rw [List.length_take]; omega
  · have hje : (frameB next rec).take j = frameB next rec := List.take_of_length_le (by omega)
    obtain ⟨l1, l2⟩ := h.low
    have hnum := h.num
    have hnxt := h.nxt
    refine .inr ⟨by rw [hc1]; exact h.snap, by rw [hcs1, hc1], ?_, hcs0, unf_nil, ?_, h.pos, by rw [List.length_append]; simp; omega, by rw [List.length_append]; simp; omega, by rw [List.length_append]; simp; omega, ?_, by rw [List.length_append]; simp; omega⟩
    · rw [hc0, hje, wrB_snoc, hnum, List.append_nil]
    · intro r hr
      rcases List.mem_append.1 hr with hr | hr
      · exact h.few r hr
      · simp at hr; subst hr; exact hrec
    · have hle : seq + 1 - f ≤ all.length := by omega
      rw [List.drop_append_of_le_length hle, ← h.recs]

/-- a record more, all of it safe -/
theorem Stands.added (h : Stands D snap recs next seq f all []) {E : Dk} {rec : List UInt8} (hrec : rec.length ≤ 60000) (hn : next < 18446744073709551616) (hb : E.b 0 = D.b 0 ++ frameB next rec) (hs : E.s 0 = (E.b 0).length) (h1 : Other 1 D E) : Stands E snap (recs ++ [rec]) (next + 1) seq f (all ++ [rec]) [] := by
  have hb0 := h.b0
  rw [List.append_nil] at hb0
  obtain ⟨l1, l2⟩ := h.low
  have hnum := h.num
  have hnxt := h.nxt
  refine ⟨by rw [h1.1]; exact h.snap, by rw [h1.2, h1.1]; exact h.s1, ?_, hs, unf_nil, ?_, h.pos, by rw [List.length_append]; simp; omega, by rw [List.length_append]; simp; omega, by rw [List.length_append]; simp; omega, ?_, by rw [List.length_append]; simp; omega⟩
  · rw [hb, hb0, wrB_snoc, hnum, List.append_nil]
  · intro r hr
    rcases List.mem_append.1 hr with hr | hr
    · exact h.few r hr
    · simp at hr; subst hr; exact hrec
  · have hle : seq + 1 - f ≤ all.length := by omega
    rw [List.drop_append_of_le_length hle, ← h.recs]
theorem crash_len (E : Dk) (keep : List Int) : ((E.crash keep).b 0).length ≤ (E.b 0).length := by simp only [Dk.crash]; rw [List.length_take]; exact Nat.min_le_right _ _
/-- Append -/
theorem Stands.appended (h : Stands D snap recs next seq f all []) (hd : D.dead = false) (size : Nat) {rec : List UInt8} (hrec : rec.length ≤ 1000) (hl : (D.b 0).length + 1016 ≤ 1048576) (hn : next + 1 < 18446744073709551616) :
    ((appB D ⟨next, size, false⟩ rec).2 = (⟨next + 1, size + 1, false⟩, 0) ∧ Stands (appB D ⟨next, size, false⟩ rec).1 snap (recs ++ [rec]) (next + 1) seq f (all ++ [rec]) [] ∧ (appB D ⟨next, size, false⟩ rec).1.dead = false ∧ ((appB D ⟨next, size, false⟩ rec).1.b 0).length ≤ (D.b 0).length + 1016) ∨
    ((appB D ⟨next, size, false⟩ rec).2.2 = 13 ∧ ∀ keep, ((∃ t, Stands ((appB D ⟨next, size, false⟩ rec).1.crash keep) snap recs next seq f all t) ∨ Stands ((appB D ⟨next, size, false⟩ rec).1.crash keep) snap (recs ++ [rec]) (next + 1) seq f (all ++ [rec]) []) ∧ (((appB D ⟨next, size, false⟩ rec).1.crash keep).b 0).length ≤ (D.b 0).length + 1016) := by
  have hfl := frameB_len next rec
  have hX : appB D ⟨next, size, false⟩ rec = if (addB D (frameB next rec)).2 = 0 then ((addB D (frameB next rec)).1, ⟨next + 1, size + 1, false⟩, 0) else ((addB D (frameB next rec)).1, ⟨next, size, true⟩, (addB D (frameB next rec)).2) := by
    unfold appB
    simp only
    rw [if_neg (by decide), if_neg (by omega), Nat.mod_eq_of_lt hn]
  rw [hX]
  obtain ⟨b1, s1, e1⟩ := append_b (D := D) (f := 0) (b := frameB next rec) okf0 hd (by show _ + (D.b 0).length ≤ _; omega)
  have b1' : (D.append 0 (frameB next rec)).1.b 0 = D.b 0 ++ frameB next rec := b1
  have s1' : (D.append 0 (frameB next rec)).1.s 0 = D.s 0 := s1
  have o1 := append_other (k := 1) D (f := 0) (frameB next rec) (by decide)
  by_cases h1 : (D.append 0 (frameB next rec)).2 = 0
  · have hA : addB D (frameB next rec) = (D.append 0 (frameB next rec)).1.sync 0 := by unfold addB; rw [if_pos h1]
    rw [hA]
    have o2 := sync_other (k := 1) (D.append 0 (frameB next rec)).1 (f := 0) (by decide)
    by_cases h2 : ((D.append 0 (frameB next rec)).1.sync 0).2 = 0
    · rw [if_pos h2]
      obtain ⟨b2, s2⟩ := sync_ok h2
      have b2' : ((D.append 0 (frameB next rec)).1.sync 0).1.b 0 = D.b 0 ++ frameB next rec := by rw [b2, b1']
      have s2' : ((D.append 0 (frameB next rec)).1.sync 0).1.s 0 = (((D.append 0 (frameB next rec)).1.sync 0).1.b 0).length := by rw [b2]; exact s2
      refine .inl ⟨rfl, h.added (by omega) (by omega) b2' s2' (o1.trans o2), sync_live h2, ?_⟩
      show (((D.append 0 (frameB next rec)).1.sync 0).1.b 0).length ≤ _
      rw [b2', List.length_append]; omega
    · rw [if_neg h2]
      have o3 := sync_fail (k := 0) h2
      have b3 : ((D.append 0 (frameB next rec)).1.sync 0).1.b 0 = D.b 0 ++ frameB next rec := by rw [o3.1, b1']
      refine .inr ⟨(sync_two _ okf0).resolve_left h2, fun keep => ⟨h.more (by omega) (by omega) b3 (by rw [o3.2, s1']) (o1.trans o2) keep, ?_⟩⟩
      refine Nat.le_trans (crash_len _ keep) ?_
      show (((D.append 0 (frameB next rec)).1.sync 0).1.b 0).length ≤ _
      rw [b3, List.length_append]; omega
  · have hA : addB D (frameB next rec) = D.append 0 (frameB next rec) := by unfold addB; rw [if_neg h1]
    rw [hA, if_neg h1]
    refine .inr ⟨e1.resolve_left h1, fun keep => ⟨h.more (by omega) (by omega) b1' s1' o1 keep, ?_⟩⟩
    refine Nat.le_trans (crash_len _ keep) ?_
    show ((D.append 0 (frameB next rec)).1.b 0).length ≤ _
    rw [b1', List.length_append]; omega
theorem snap_frame (q : Nat) (sn : List UInt8) (hq : q < 18446744073709551616) (hs : sn.length ≤ 60000) : snapB (frameB q sn) = (q, sn, 0) := by
  have hl := frameB_len q sn
  have hu := unf_frame hq hs []
  rw [List.append_nil] at hu
  unfold snapB
  rw [if_neg (by omega), hu]
  simp only
  rw [if_pos hl.symm]
/-- a snapshot stands in the place of all records -/
theorem Stands.snapped (h : Stands D snap recs next seq f all t) {E : Dk} {sn : List UInt8} (hsn : sn.length ≤ 60000) (hn : next < 18446744073709551616) (h1 : E.b 1 = frameB (next - 1) sn) (hs : E.s 1 = (frameB (next - 1) sn).length) (h0 : Other 0 D E) : Stands E sn [] next (next - 1) f all t := by
  have hnum := h.num
  have hpos := h.pos
  have hnxt := h.nxt
  refine ⟨by rw [h1]; exact snap_frame _ _ (by omega) hsn, by rw [hs, h1], by rw [h0.1]; exact h.b0, by rw [h0.2, h0.1]; exact h.s0, h.none, h.few, h.pos, h.top, ⟨by omega, by omega⟩, by simp; omega, ?_, h.num⟩
  rw [List.drop_eq_nil_of_le (by omega)]
/-- Install -/
theorem Stands.installed (h : Stands D snap recs next seq f all []) (hd : D.dead = false) (size : Nat) {sn : List UInt8} (hsn : sn.length ≤ 1000) (hn : next < 18446744073709551616) :
    ((insB D ⟨next, size, false⟩ sn).2 = (⟨next, 0, false⟩, 0) ∧ Stands (insB D ⟨next, size, false⟩ sn).1 sn [] next (next - 1) next [] [] ∧ (insB D ⟨next, size, false⟩ sn).1.dead = false ∧ ((insB D ⟨next, size, false⟩ sn).1.b 0).length ≤ (D.b 0).length) ∨
    ((insB D ⟨next, size, false⟩ sn).2.2 = 13 ∧ (Stands (insB D ⟨next, size, false⟩ sn).1 snap recs next seq f all [] ∨ Stands (insB D ⟨next, size, false⟩ sn).1 sn [] next (next - 1) f all []) ∧ ((insB D ⟨next, size, false⟩ sn).1.b 0).length ≤ (D.b 0).length) := by
  have hpos : 1 ≤ next := by have := h.nxt; omega
  have hls : lessN next = next - 1 := by unfold lessN; omega
  have hfl := frameB_len (next - 1) sn
  have hX : insB D ⟨next, size, false⟩ sn = if (setB D (frameB (next - 1) sn)).2 = 0 then ((setB D (frameB (next - 1) sn)).1, ⟨next, 0, false⟩, 0) else ((setB D (frameB (next - 1) sn)).1, ⟨next, size, true⟩, (setB D (frameB (next - 1) sn)).2) := by
    unfold insB
    simp only
    rw [if_neg (by decide), if_neg (by omega), hls]
  rw [hX]
  obtain ⟨hcase, hoth⟩ := repl_all (D := D) (c := frameB (next - 1) sn) okf3 okf1 (by decide) hd (by omega)
  have o0 := hoth 0 (by decide) (by decide)
  rcases hcase with ⟨hz, hb, hs, hlv⟩ | ⟨h13, ho⟩
  · have hS : setB D (frameB (next - 1) sn) = (replB D 3 1 (frameB (next - 1) sn)).1.clear 0 := by unfold setB; rw [if_pos hz]
    rw [hS]
    have hst := h.snapped (E := (replB D 3 1 (frameB (next - 1) sn)).1) (sn := sn) (by omega) hn hb hs o0
    have oc := clear_other (k := 1) (replB D 3 1 (frameB (next - 1) sn)).1 (f := 0) (by decide)
    by_cases h2 : ((replB D 3 1 (frameB (next - 1) sn)).1.clear 0).2 = 0
    · rw [if_pos h2]
      obtain ⟨bc, sc⟩ := clear_ok h2
      have bc' : ((replB D 3 1 (frameB (next - 1) sn)).1.clear 0).1.b 0 = [] := bc
      have sc' : ((replB D 3 1 (frameB (next - 1) sn)).1.clear 0).1.s 0 = 0 := sc
      refine .inl ⟨rfl, ⟨by rw [oc.1]; exact hst.snap, by rw [oc.2, oc.1]; exact hst.s1, by rw [bc']; rfl, by rw [sc', bc']; rfl, unf_nil, fun r hr => by simp at hr, hpos, by simp; omega, ⟨by omega, by simp; omega⟩, by simp; omega, by simp, by simp⟩, clear_live h2, ?_⟩
      show (((replB D 3 1 (frameB (next - 1) sn)).1.clear 0).1.b 0).length ≤ _
      rw [bc']; simp
    · rw [if_neg h2]
      have of := clear_fail (k := 0) h2
      refine .inr ⟨(clear_two _ okf0).resolve_left h2, .inr (hst.files of.1 oc.1 of.2 oc.2), ?_⟩
      show (((replB D 3 1 (frameB (next - 1) sn)).1.clear 0).1.b 0).length ≤ _
      rw [of.1, o0.1]; exact Nat.le_refl _
  · have hne : ¬ (replB D 3 1 (frameB (next - 1) sn)).2 = 0 := by rw [h13]; decide
    have hS : setB D (frameB (next - 1) sn) = replB D 3 1 (frameB (next - 1) sn) := by unfold setB; rw [if_neg hne]
    rw [hS, if_neg hne]
    refine .inr ⟨h13, .inl (h.files o0.1 ho.1 o0.2 ho.2), ?_⟩
    show ((replB D 3 1 (frameB (next - 1) sn)).1.b 0).length ≤ _
    rw [o0.1]; exact Nat.le_refl _
end
end Go.DsLg
