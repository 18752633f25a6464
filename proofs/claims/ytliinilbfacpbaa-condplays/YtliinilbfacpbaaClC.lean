/- Package cond: New, Len, Has, right, Add, Drop. -/
import Derived.Test.YtliinilbfacpbaaClB
import Derived.Deep.RegionHeld3
import Derived.Deep.QuietTactic
import Derived.BigQuiet
namespace Go.Proofs.Ytliinilbfacpbaa
open Go.ChangeShapes Go.WideShapes Go.ChangeAt Go.RowKit Go.DsMem Go.DsCo
set_option linter.unusedVariables false
theorem ret_boolC {a b : Bool} (h : a = b) : Ending.returned (.bool a) = .returned (.bool b) := by rw [h]

theorem ret_intC {k : IntKind} {a b : Int} (h : a = b) : Ending.returned (.int k a) = .returned (.int k b) := by rw [h]
/-- the store at p is the conditions of L -/
structure StAt (w : World) (p B : Nat) (L : List Cn) : Prop where
  c0 : w.cell? ⟨p, 0, none⟩ = some (.map (some B))
  sto : Sto w B L
  fine : Fine L
theorem StAt.ne {w : World} {p B : Nat} {L : List Cn} (h : StAt w p B L) : ¬ p = B := fun e => by
  obtain ⟨D, ⟨es, clock, h1, h2⟩, h3⟩ := h.sto
  have := h.c0
  rw [e] at this
  simp [World.cell?, h1] at this
theorem StAt.ltp {w : World} {p B : Nat} {L : List Cn} (h : StAt w p B L) : p < w.heap.size := World.block_lt_of_cell? w _ h.c0
theorem StAt.ltB {w : World} {p B : Nat} {L : List Cn} (h : StAt w p B L) : B < w.heap.size := h.sto.lt
theorem StAt.only {S : Nat → Prop} {w w' : World} {p B : Nat} {L : List Cn} (h : StAt w p B L) (ho : Only S w w') (h1 : ¬ S p) (h2 : ¬ S B) : StAt w' p B L := ⟨ho.cell h.c0 h1, h.sto.only ho h2, h.fine⟩
theorem StAt.below {w w' : World} {p B : Nat} {L : List Cn} (h : StAt w p B L) (hb : Below w.heap.size w w') : StAt w' p B L := h.only (S := fun _ => False) (Only.below hb) (fun h => h) (fun h => h)
theorem StAt.drew {w : World} {p B : Nat} {L : List Cn} (h : StAt w p B L) : StAt w.drew p B L := ⟨h.c0, h.sto, h.fine⟩
/-- the pointer to it -/
def ptr (p : Nat) : Value := .pointer (some ⟨p, 0, none⟩)

set_option maxHeartbeats 4000000 in
/-- cond.New -/
theorem cnew_any (w : World) : Calls Try.prog 8 #[] w fun e w' => e = .returned (ptr (w.heap.size + 1)) ∧ StAt w' (w.heap.size + 1) w.heap.size [] ∧ Below w.heap.size w w' := by
  have hmm := @run_makeMap Try.prog
  go_enter Try.func8, Try.ntmps8
  go_wp2
  go_ret
  refine ⟨rfl, ⟨?_, (Sto.made w).below ((Below.refl _ _).alloc (Nat.le_refl _) _), Fine.nil⟩, ((Below.refl _ _).alloc (Nat.le_refl _) _).alloc (by simp) _⟩
  have e : w.heap.size + 1 = (w.alloc (.map #[] 0)).heap.size := by simp
  rw [e, World.cell?_alloc_mark]
  rfl

set_option maxHeartbeats 4000000 in
/-- cond.Store.Len -/
theorem clen_any (p B : Nat) (L : List Cn) (w : World) (h : StAt w p B L) : Calls Try.prog 16 #[ptr p] w fun e w' => e = .returned (.int .i64 L.length) ∧ w' = w := by
  unfold ptr
  have c0 := h.c0
  obtain ⟨D, hown, hsz, _⟩ := h.sto
  have HS := hide hsz
  have HO := hide hown
  clear hsz hown
  go_enter Try.func16, Try.ntmps16
  go_wp2_with (first
    | (at_len; refine wpList_len_own _ rfl _ _ rfl 24 53 Try.underlying49 _ B _ D rfl HO.out ?_)
    | go_in)
  go_ret
  exact ⟨ret_intC (by rw [HS.out]), rfl⟩
theorem clen_nil (w : World) : Calls Try.prog 16 #[.pointer none] w fun e w' => e = .returned (.int .i64 0) ∧ w' = w := by
  go_enter Try.func16, Try.ntmps16
  go_wp2
  go_ret
  exact ⟨rfl, rfl⟩

/-- date.Right -/
theorem dright_any (n : Int) (w : World) : Calls Try.prog 35 #[.int .i64 n] w fun e w' => e = .returned (.bool (decide (1 ≤ n ∧ n ≤ 3652059))) ∧ w' = w := by
  go_enter Try.func35, Try.ntmps35
  go_wp2 <;> go_ret <;> exact ⟨ret_boolC (by simp; omega), rfl⟩
/-- it can be, as a Bool -/
noncomputable def okB (c : Cn) : Bool := @decide (okC c) (Classical.propDecidable _)
theorem okB_true {c : Cn} (h : okC c) : okB c = true := by unfold okB; exact @decide_eq_true _ (Classical.propDecidable _) h
theorem okB_false {c : Cn} (h : ¬ okC c) : okB c = false := by unfold okB; exact @decide_eq_false _ (Classical.propDecidable _) h
set_option maxHeartbeats 4000000 in
/-- cond.right -/
theorem cright_any (c : Cn) (w : World) (hs : c.nm.size ≤ 140737488355000) : Calls Try.prog 25 #[cvl c] w fun e w' => e = .returned (.bool (okB c)) ∧ Below w.heap.size w w' := by
  obtain ⟨nm, day⟩ := c
  simp only at hs
  unfold cvl
  simp only
  have HD := hide (dright_any day)
  by_cases hd : 1 ≤ day ∧ day ≤ 3652059
  · have HT : Hid (okB ⟨nm, day⟩ = decide (1 ≤ nm.size ∧ nm.size ≤ 20)) := by
      show _ = _
      by_cases h : 1 ≤ nm.size ∧ nm.size ≤ 20
      · rw [okB_true ⟨h.1, h.2, hd.1, hd.2⟩]; simp [h]
      · rw [okB_false (fun hc => h ⟨hc.1, hc.2.1⟩)]; simp [h]
    have hdt : decide (1 ≤ day ∧ day ≤ 3652059) = true := by simp [hd]
    rw [hdt] at HD
    clear hdt
    by_cases h1 : 1 ≤ nm.size
    · by_cases h2 : nm.size ≤ 20
      · go_enter Try.func25, Try.ntmps25
        go_wp2_with (go_at_call 35; refine (HD.out _).mono ?_; rintro e w' ⟨rfl, rfl⟩)
        go_ret
        exact ⟨ret_boolC (by rw [HT.out]; simp [h1, h2]), (Below.refl _ _).alloc (Nat.le_refl _) _⟩
      · go_enter Try.func25, Try.ntmps25
        go_wp2
        go_ret
        exact ⟨ret_boolC (by rw [HT.out]; simp [h1, h2]), (Below.refl _ _).alloc (Nat.le_refl _) _⟩
    · go_enter Try.func25, Try.ntmps25
      go_wp2
      go_ret
      exact ⟨ret_boolC (by rw [HT.out]; simp [h1]), (Below.refl _ _).alloc (Nat.le_refl _) _⟩
  · have HT : Hid (okB ⟨nm, day⟩ = false) := okB_false (fun hc => hd ⟨hc.2.2.1, hc.2.2.2⟩)
    have hdt : decide (1 ≤ day ∧ day ≤ 3652059) = false := by simpa using hd
    rw [hdt] at HD
    clear hdt
    by_cases h1 : 1 ≤ nm.size
    · by_cases h2 : nm.size ≤ 20
      · go_enter Try.func25, Try.ntmps25
        go_wp2_with (go_at_call 35; refine (HD.out _).mono ?_; rintro e w' ⟨rfl, rfl⟩)
        go_ret
        exact ⟨ret_boolC (by rw [HT.out]), (Below.refl _ _).alloc (Nat.le_refl _) _⟩
      · go_enter Try.func25, Try.ntmps25
        go_wp2
        go_ret
        exact ⟨ret_boolC (by rw [HT.out]), (Below.refl _ _).alloc (Nat.le_refl _) _⟩
    · go_enter Try.func25, Try.ntmps25
      go_wp2
      go_ret
      exact ⟨ret_boolC (by rw [HT.out]), (Below.refl _ _).alloc (Nat.le_refl _) _⟩

/-- the lookup tells whether it is there -/
theorem Sto.look {w : World} {B : Nat} {L : List Cn} {c : Cn} (h : Sto w B L) (hc : fitC c) {b : Bool} (hb : b = true ↔ c ∈ L) : (Instr.lookup 49 (.map (some B)) (cvl c) true).run Try.prog w = .ok (.tuple #[.agg #[], .bool b]) w := by
  obtain ⟨D, h1, h2, h3⟩ := h
  obtain ⟨kl, hkl⟩ := cn_key c hc
  obtain ⟨v, ps, hr, hv⟩ := h1.look_ok cnLaw Try.underlying49 (cnZero _) unitElem_mk hkl
  obtain ⟨rfl, _⟩ := unitElem_inv hv
  rw [hr]
  have : Maps.has D kl = b := by
    have := h3 c kl hkl
    cases b <;> simp_all
  rw [this]
/-- whether it is there, as a Bool -/
noncomputable def inB (c : Cn) (L : List Cn) : Bool := @decide (c ∈ L) (Classical.propDecidable _)
theorem inB_iff (c : Cn) (L : List Cn) : inB c L = true ↔ c ∈ L := by unfold inB; exact @decide_eq_true_iff _ (Classical.propDecidable _)
theorem inB_false {c : Cn} {L : List Cn} (h : c ∉ L) : inB c L = false := by unfold inB; exact @decide_eq_false _ (Classical.propDecidable _) h
theorem inB_true {c : Cn} {L : List Cn} (h : c ∈ L) : inB c L = true := (inB_iff c L).2 h
theorem cells_none (w : World) (a : Addr) : w.setCells a.block a.off [] = w := rfl
set_option maxHeartbeats 4000000 in
/-- cond.Store.Has -/
theorem chas_any (c : Cn) (p B : Nat) (L : List Cn) (w : World) (h : StAt w p B L) (hc : fitC c) : Calls Try.prog 17 #[ptr p, cvl c] w fun e w' => e = .returned (.bool (inB c L)) ∧ Below w.heap.size w w' := by
  have hlk : ∀ w', Sto w' B L → (Instr.lookup 49 (.map (some B)) (cvl c) true).run Try.prog w' = .ok (.tuple #[.agg #[], .bool (inB c L)]) w' := fun w' h' => h'.look hc (inB_iff c L)
  obtain ⟨nm, day⟩ := c
  unfold ptr
  unfold cvl at hlk ⊢
  simp only at hlk ⊢
  have c0 := h.c0
  have hp := h.ltp
  have hpn : ¬ p = w.heap.size := by omega
  have s1 : Sto (w.alloc (.cells #[.string nm, .int .i64 day] 24)).drew B L := (h.sto.below ((Below.refl _ _).alloc (Nat.le_refl _) _)).drew
  have s2 : Sto ((w.alloc (.cells #[.string nm, .int .i64 day] 24)).alloc (.cells #[] 53)).drew B L := s1.below ((Below.refl _ _).alloc (Nat.le_refl _) _)
  have HB : Hid (Below w.heap.size w ((w.alloc (.cells #[.string nm, .int .i64 day] 24)).alloc (.cells #[] 53)).drew) := (((Below.refl _ _).alloc (Nat.le_refl _) _).alloc (by simp) _).drew
  generalize inB ⟨nm, day⟩ L = r at *
  clear h
  go_enter Try.func17, Try.ntmps17
  go_wp2
  go_region
  all_goals
    go_wp2
    go_ret
    exact ⟨rfl, HB.out⟩
theorem chas_nil (c : Cn) (w : World) : Calls Try.prog 17 #[.pointer none, cvl c] w fun e w' => e = .returned (.bool false) ∧ Below w.heap.size w w' := by
  obtain ⟨nm, day⟩ := c
  unfold cvl
  go_enter Try.func17, Try.ntmps17
  go_wp2
  go_ret
  exact ⟨rfl, (Below.refl _ _).alloc (Nat.le_refl _) _⟩
end Go.Proofs.Ytliinilbfacpbaa
