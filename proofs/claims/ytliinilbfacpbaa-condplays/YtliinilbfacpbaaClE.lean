/- Package cond: a range over a map of conditions; Any. -/
import Derived.Test.YtliinilbfacpbaaClD
namespace Go.Proofs.Ytliinilbfacpbaa
open Go.ChangeShapes Go.WideShapes Go.ChangeAt Go.RowKit Go.DsMem Go.DsCo
set_option linter.unusedVariables false
set_option linter.unusedSimpArgs false

/-- what reads as a key is a condition -/
theorem cn_inv {key : Value} {kl : Lit} (h : keyOf Try.prog 24 key = some kl) : ∃ c : Cn, key = cvl c := by
  unfold keyOf at h
  rw [Try.underlying24] at h
  simp only at h
  split at h
  · rename_i hf
    rw [Bool.and_eq_true] at hf
    cases key with
    | agg cs =>
      obtain ⟨m, hm⟩ : ∃ m, Try.prog.types.size = m + 1 := ⟨Try.prog.types.size - 1, by have := cnRow; omega⟩
      have h2 : cs.size = 2 := by have := hf.2; simpa [Value.formed, Try.underlying24, cnCells] using this
      obtain ⟨l, rfl⟩ : ∃ l : List Value, cs = l.toArray := ⟨cs.toList, rfl⟩
      have h2 : l.length = 2 := by simpa using h2
      match l, h2 with
      | [a, b], _ =>
        rw [hm] at h
        unfold Program.keyLits at h
        rw [Try.underlying24] at h
        simp only [Value.cells, cnCells] at h
        obtain ⟨s, rfl⟩ : ∃ s, a = .string s := by
          cases a <;> simp [cnStr1, cnInt1, Program.keyLits, Try.underlying9] at h
          exact ⟨_, rfl⟩
        obtain ⟨n, rfl⟩ : ∃ n, b = .int .i64 n := by
          simp [cnStr1, cnInt1, Program.keyLits, Try.underlying9] at h
          by_cases hs : s.size ≤ maxLen
          · rw [if_pos hs] at h
            obtain ⟨q, n, rfl⟩ : ∃ q n, b = .int q n := by
              cases b <;> simp [Program.keyLits, Try.underlying2] at h
              exact ⟨_, _, rfl⟩
            by_cases hq : q = .i64
            · subst hq
              exact ⟨_, rfl⟩
            · simp [Program.keyLits, Try.underlying2, hq] at h
          · rw [if_neg hs] at h
            cases h
        exact ⟨⟨s, n⟩, rfl⟩
    | _ => simp [Value.formed, Try.underlying24] at hf
  · cases h

/-- a loop over the map in block B is under way: L is there, T is still to come -/
def Rng (w : World) (B r : Nat) (L T : List Cn) : Prop :=
  (∃ (D : DataW Unit) (n : Nat) (lf : Lit → Bool) (cnt : Nat), w.ranges Try.prog 24 unitElem B r n D lf cnt ∧ Maps.size D = L.length ∧
    (∀ (c : Cn) (kl : Lit), keyOf Try.prog 24 (cvl c) = some kl → (Maps.has D kl = true ↔ c ∈ L)) ∧
    ∀ (c : Cn) (kl : Lit), keyOf Try.prog 24 (cvl c) = some kl → (lf kl = true ↔ c ∈ T)) ∧ ∀ c ∈ T, c ∈ L
theorem Rng.sto {w : World} {B r : Nat} {L T : List Cn} (h : Rng w B r L T) : Sto w B L := by
  obtain ⟨⟨D, n, lf, cnt, h1, h2, h3, h4⟩, _⟩ := h
  exact ⟨D, by rw [← h2]; exact own_tight h1.owns, h2, h3⟩
theorem Rng.sub {w : World} {B r : Nat} {L T : List Cn} (h : Rng w B r L T) : ∀ c ∈ T, c ∈ L := h.2
theorem Rng.lt {w : World} {B r : Nat} {L T : List Cn} (h : Rng w B r L T) : r < w.heap.size := by
  obtain ⟨⟨D, n, lf, cnt, h1, _⟩, _⟩ := h
  exact h1.lt
theorem Rng.ne {w : World} {B r : Nat} {L T : List Cn} (h : Rng w B r L T) : r ≠ B := by
  obtain ⟨⟨D, n, lf, cnt, h1, _⟩, _⟩ := h
  exact h1.ne
theorem Rng.same {w w' : World} {B r : Nat} {L T : List Cn} (h : Rng w B r L T) (hB : w'.heap[B]? = w.heap[B]?) (hr : w'.heap[r]? = w.heap[r]?) : Rng w' B r L T ∧ w'.rangeLeft B r = w.rangeLeft B r := by
  refine ⟨?_, by unfold World.rangeLeft; rw [hB, hr]⟩
  obtain ⟨⟨D, n, lf, cnt, ⟨es, clock, since, seen, c0, a1, a2, a3, a4, a5, a6⟩, h2⟩, h3⟩ := h
  exact ⟨⟨D, n, lf, cnt, ⟨es, clock, since, seen, c0, by rw [hB]; exact a1, a2, a3, a4, by rw [hr]; exact a5, a6⟩, h2⟩, h3⟩
theorem Rng.only {S : Nat → Prop} {w w' : World} {B r : Nat} {L T : List Cn} (h : Rng w B r L T) (ho : Only S w w') (h1 : ¬ S B) (h2 : ¬ S r) : Rng w' B r L T ∧ w'.rangeLeft B r = w.rangeLeft B r :=
  h.same (ho.block B h.sto.lt h1) (ho.block r h.lt h2)
theorem Rng.below {w w' : World} {B r : Nat} {L T : List Cn} (h : Rng w B r L T) (hb : Below w.heap.size w w') : Rng w' B r L T ∧ w'.rangeLeft B r = w.rangeLeft B r := h.same (hb.block B h.sto.lt) (hb.block r h.lt)

section
variable (w : World) {ops : Array Oper} {rest : List Oper} {o : Oper} {a : Act} {Q : Exit → Act → World → Prop}
/-- 'range m' -/
theorem wpList_range_cn (hg : o.guard = none) (m : Operand) (hop : o.op = Op.range 49 m) (B : Nat) (L : List Cn)
    (hm : a.eval m = .map (some B)) (h : Sto w B L)
    (hK : ∀ w', Rng w' B w.heap.size L L → Below w.heap.size w w' → wpList Try.prog ops Q rest (a.put o.dst (.pointer (some ⟨w.heap.size, 0, none⟩))) w') :
    wpList Try.prog ops Q (o :: rest) a w := by
  obtain ⟨D, h1, h2, h3⟩ := h
  refine wpList_range_own w hg m _ hop _ _ cnLaw Try.underlying49 _ B _ D hm h1 fun w' r1 r2 r3 => hK w' ⟨⟨D, _, _, _, r1, h2, h3, h3⟩, fun _ h => h⟩ ?_
  exact ⟨r2.os, r2.tape, r2.output, r2.size, fun i hi => r2.block i hi (by simp)⟩
/-- the step -/
theorem wpList_next_cn (hg : o.guard = none) (it : Operand) (hop : o.op = Op.next it false) (B r : Nat) (L T : List Cn) (hit : a.eval it = .pointer (some ⟨r, 0, none⟩)) (h : Rng w B r L T) (hL : ∀ c ∈ L, okC c)
    (hDone : T = [] → wpList Try.prog ops Q rest (a.put o.dst (.tuple #[.bool false])) w)
    (hMore : ∀ (c : Cn) (w' : World), c ∈ T → Rng w' B r L (dropF T c) → w'.rangeLeft B r < w.rangeLeft B r → Only (· = r) w w' → w'.heap.size = w.heap.size →
      (Instr.entry (.pointer (some ⟨r, 0, none⟩))).run Try.prog w' = .ok (.tuple #[.agg #[.string c.nm, .int .i64 c.day], .agg #[]]) w' → wpList Try.prog ops Q rest (a.put o.dst (.tuple #[.bool true, .agg #[.string c.nm, .int .i64 c.day], .agg #[]])) w') :
    wpList Try.prog ops Q (o :: rest) a w := by
  obtain ⟨⟨D, n, lf, cnt, h1, h2, h3, h4⟩, h5⟩ := h
  refine wpList_next_ranges w hg it hop _ cnLaw unitElem cvl (fun _ : Unit => .agg #[]) (fun key kl hk => cn_inv hk) (fun v y hv => ⟨(), (unitElem_inv hv).1⟩) B r n D lf cnt hit h1 (fun _ hl => hDone ?_) fun c _ kl y w' cnt' hk hl _ _ hr hlt hgr hsz hen => ?_
  · cases T with
    | nil => rfl
    | cons c T =>
      obtain ⟨kl, hk⟩ := cn_key c (okC.fit (hL c (h5 c (by simp))))
      have := (h4 c kl hk).2 (by simp)
      rw [hl kl] at this
      cases this
  · refine hMore c w' ((h4 c kl hk).1 hl) ⟨⟨D, n, _, cnt', hr, h2, h3, fun d kd hkd => ?_⟩, fun d hd => h5 d ((mem_drop T c d).1 hd).1⟩ (by rw [hr.left_eq, h1.left_eq]; exact hlt) ?_ hsz hen
    · rw [mem_drop, Bool.and_eq_true, h4 d kd hkd]
      constructor
      · rintro ⟨ha, hb⟩
        refine ⟨ha, fun e => ?_⟩
        subst e
        obtain rfl : kd = kl := Option.some.inj (hkd.symm.trans hk)
        rw [WideAt.sameKey_self (cnLaw.key hk)] at hb
        cases hb
      · rintro ⟨ha, hb⟩
        refine ⟨ha, ?_⟩
        have hne : ¬ kd = kl := fun e => by subst e; exact hb (cn_keys hkd hk)
        rw [Maps.sameKey_ne hne]
        rfl
    · exact ⟨hgr.os, hgr.tape, hgr.output, hgr.size, fun i hi hs => hgr.block i hi (fun e => hs (Option.some.inj e))⟩
end
theorem str_neC {y x : ByteArray} (h : ¬ y = x) : (y.toList == x.toList) = false := by
  rw [Lib.toList_data, Lib.toList_data]
  cases hb : y.data.toList == x.data.toList with
  | false => rfl
  | true => exact absurd (nm_of_k (by simpa using hb)) h
/-- is one of that name there -/
noncomputable def anyB (s : ByteArray) (L : List Cn) : Bool := @decide (∃ c ∈ L, c.nm = s) (Classical.propDecidable _)
theorem anyB_iff (s : ByteArray) (L : List Cn) : anyB s L = true ↔ ∃ c ∈ L, c.nm = s := by unfold anyB; exact @decide_eq_true_iff _ (Classical.propDecidable _)
theorem anyB_false {s : ByteArray} {L : List Cn} (h : ∀ c ∈ L, ¬ c.nm = s) : anyB s L = false := by
  cases hb : anyB s L with
  | false => rfl
  | true => obtain ⟨c, h1, h2⟩ := (anyB_iff s L).1 hb; exact absurd h2 (h c h1)
set_option maxHeartbeats 4000000 in
set_option maxRecDepth 20000 in
/-- cond.Store.Any -/
theorem cany_any (s : ByteArray) (p B : Nat) (L : List Cn) (w : World) (h : StAt w p B L) : Calls Try.prog 19 #[ptr p, .string s] w fun e w' => e = .returned (.bool (anyB s L)) ∧ Below w.heap.size w w' := by
  have HS := hide h.sto
  have HF := hide h.fine
  have c0 := h.c0
  clear h
  unfold ptr
  go_enter Try.func19, Try.ntmps19
  go_wp2_with (first
    | (at_range; refine wpList_range_cn _ rfl _ rfl B L rfl HS.out ?_; intro w1 hr1 hb1)
    | go_in)
  go_frame
  have HR1 := hide hr1
  have HB1 := hide hb1
  clear hr1 hb1
  go_loopw [5] (fun _ wr => ∃ T : List Cn, Rng wr B w.heap.size L T ∧ Below w.heap.size w wr ∧ ∀ c ∈ L, c ∉ T → ¬ c.nm = s) (fun _ wr => wr.rangeLeft B w.heap.size)
  case atStart => exact ⟨L, HR1.out, HB1.out, fun c h1 h2 => absurd h1 h2⟩
  case round =>
    obtain ⟨T, hrg, hbl, hall⟩ := hrel
    have HRG := hide hrg
    have HBL := hide hbl
    have HAL := hide hall
    clear hrg hbl hall
    go_wp2_with (first
      | (at_next; refine wpList_next_cn _ rfl _ rfl B w.heap.size L T rfl HRG.out HF.out.ok ?_ ?_)
      | go_in)
    · intro hT
      subst hT
      have hf : Hid (anyB s L = false) := anyB_false fun c hc => HAL.out c hc (by simp)
      go_wp2
      go_ret
      exact ⟨ret_boolC hf.out.symm, HBL.out⟩
    · intro c w2 hc hr2 hlt ho2 hs2 hen
      have HR2 := hide hr2
      have HO2 := hide ho2
      have hsz : w.heap.size ≤ wr.heap.size := HBL.out.size
      have HB2 : Hid (Below w.heap.size w w2) := HBL.out.trans (ho2.toBelow hsz (fun i hi => by omega))
      have HC := hide hc
      have HLT := hide hlt
      clear hr2 ho2 hc hlt
      by_cases hnm : c.nm = s
      · have htr : Hid (anyB s L = true) := (anyB_iff s L).2 ⟨c, HRG.out.sub c HC.out, hnm⟩
        have HB3 := hide (HB2.out.alloc (by omega) (.cells #[.string s, .int .i64 c.day] 24))
        rw [hnm] at hen
        rw [hnm]
        go_wp2
        go_ret
        exact ⟨ret_boolC htr.out.symm, HB3.out⟩
      · have hne : (c.nm.toList == s.toList) = false := str_neC hnm
        have HB3 := hide (HB2.out.alloc (by omega) (.cells #[.string c.nm, .int .i64 c.day] 24))
        have HR3 := hide (HR2.out.below ((Below.refl _ _).alloc (Nat.le_refl _) (.cells #[.string c.nm, .int .i64 c.day] 24)))
        go_wp2
        go_roundw
        case rel =>
          refine ⟨_, HR3.out.1, HB3.out, fun d hd hn => ?_⟩
          by_cases e : d = c
          · rw [e]; exact hnm
          · exact HAL.out d hd (fun hm => hn ((mem_drop T c d).2 ⟨hm, e⟩))
        case measure => rw [HR3.out.2]; exact HLT.out
theorem cany_nil (s : ByteArray) (w : World) : Calls Try.prog 19 #[.pointer none, .string s] w fun e w' => e = .returned (.bool false) ∧ w' = w := by
  go_enter Try.func19, Try.ntmps19
  go_wp2
  go_ret
  exact ⟨rfl, rfl⟩
end Go.Proofs.Ytliinilbfacpbaa
