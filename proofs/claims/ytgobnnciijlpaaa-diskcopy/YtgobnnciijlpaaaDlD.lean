/- A disk of the program and one of the reference, side by side; the walk of dayshiftlaw03.do. -/
import Derived.Test.YtgobnnciijlpaaaRfC
import Derived.Test.YtgobnnciijlpaaaRfD
import Derived.Test.YtgobnnciijlpaaaRfE
import Derived.Test.YtgobnnciijlpaaaBy
import Derived.Test.YtgobnnciijlpaaaAct3
import Derived.Deep.RegionHeld
namespace Go.Proofs.Ytgobnnciijlpaaa
open Go.ChangeShapes Go.WideShapes Go.ChangeAt Go.RowKit Go.DsMem Go.DsDk
set_option linter.unusedVariables false

/-- a disk of the program that is D, one of the reference that is E: both a law's own, and apart -/
structure Both (W w : World) (p : Nat) (v : Nat → Value) (D : Dk) (S : Nat → Prop) (r g : Nat) (u : Nat → Value) (E : Dk) : Prop where
  own : Own W.heap.size W w p v D
  ref : RefAt w S r g u E
  mine : W.heap.size ≤ r ∧ W.heap.size ≤ g
  apart : ∀ k, foot p v k → ¬ S k
section
variable {W w w' : World} {p r g : Nat} {v v' u u' : Nat → Value} {D D' E E' : Dk} {S T : Nat → Prop}
theorem Both.left (h : Both W w p v D S r g u E) (hm : Moved w p v w' v' D') : Both W w' p v' D' S r g u E := by
  refine ⟨h.own.moved hm, h.ref.stays hm.only (fun k hk hf => h.apart k hf hk), h.mine, fun k hk hs => ?_⟩
  rcases hm.grow k hk with h1 | h1
  · exact h.apart k h1 hs
  · have := h.ref.lt k hs; omega
theorem Both.right (h : Both W w p v D S r g u E) (hm : RMoved w S r g w' u' E') : Both W w' p v D (fun k => S k ∨ w.heap.size ≤ k ∧ k < w'.heap.size) r g u' E' := by
  have hn : ∀ k, foot p v k → ¬ (k = r ∨ k = g) := fun k hk e => by rcases e with rfl | rfl; exact h.apart _ hk h.ref.sr; exact h.apart _ hk h.ref.sg
  have hB : Below W.heap.size w w' := hm.only.toBelow h.own.size (fun i hi => by rcases hi with rfl | rfl; exact h.mine.1; exact h.mine.2)
  refine ⟨⟨h.own.dk.stays hm.only hn, h.own.mine, h.own.below.trans hB, Nat.le_trans h.own.size hm.only.size⟩, hm.dk, h.mine, fun k hk hs => ?_⟩
  rcases hs with hs | hs
  · exact h.apart k hk hs
  · have := h.own.dk.foot_lt hk; omega
theorem Both.grew (h : Both W w p v D S r g u E) (hb : Below w.heap.size w w') : Both W w' p v D S r g u E := ⟨h.own.grew hb, h.ref.below hb, h.mine, h.apart⟩
theorem Both.drew (h : Both W w p v D S r g u E) : Both W w.drew p v D S r g u E := h.grew (Below.refl _ _).drew
theorem Both.alloc (h : Both W w p v D S r g u E) (o : Obj) : Both W (w.alloc o) p v D S r g u E := h.grew ((Below.refl _ _).alloc (Nat.le_refl _) o)
/-- something else of the law's own is written -/
theorem Both.only (h : Both W w p v D S r g u E) (ho : Only T w w') (hT : ∀ k, T k → W.heap.size ≤ k ∧ ¬ foot p v k ∧ ¬ S k) : Both W w' p v D S r g u E :=
  ⟨⟨h.own.dk.stays ho (fun k hk ht => (hT k ht).2.1 hk), h.own.mine, h.own.below.trans (ho.toBelow h.own.size fun i hi => (hT i hi).1), Nat.le_trans h.own.size ho.size⟩, h.ref.stays ho (fun k hk ht => (hT k ht).2.2 hk), h.mine, h.apart⟩
theorem Both.lt (h : Both W w p v D S r g u E) {k : Nat} (hk : w.heap.size ≤ k) : W.heap.size ≤ k ∧ ¬ foot p v k ∧ ¬ S k :=
  ⟨Nat.le_trans h.own.size hk, fun hf => by have := h.own.dk.foot_lt hf; omega, fun hs => by have := h.ref.lt k hs; omega⟩
theorem Both.argT {sl : Value} {b : List UInt8} (h : Both W w p v D S r g u E) (hr : Rd W sl b) : 0 < b.length → InT (fun k => k ≠ r ∧ k ≠ g) sl := by
  intro h0 a n c hs
  obtain ⟨ao, cap, e, hl, hn, hrd⟩ := hr
  rw [hs] at e
  simp only [Value.slice.injEq] at e
  obtain ⟨rfl, _, _⟩ := e
  have hc := hrd a rfl 0 b[0] (List.getElem?_eq_getElem h0)
  have := World.block_lt_of_cell? W _ hc
  rw [add_block] at this
  have h1 := h.mine.1
  have h2 := h.mine.2
  exact ⟨by omega, by omega⟩
theorem Both.argI {sl : Value} {b : List Int} (h : Both W w p v D S r g u E) (hr : RdI W sl b) : 0 < b.length → InT (fun k => k ≠ r ∧ k ≠ g) sl := by
  intro h0 a n c hs
  obtain ⟨ao, cap, e, hl, hn, hrd⟩ := hr
  rw [hs] at e
  simp only [Value.slice.injEq] at e
  obtain ⟨rfl, _, _⟩ := e
  have hc := hrd a rfl 0 b[0] (List.getElem?_eq_getElem h0)
  have := World.block_lt_of_cell? W _ hc
  rw [add_block] at this
  have h1 := h.mine.1
  have h2 := h.mine.2
  exact ⟨by omega, by omega⟩
theorem Moved.keeps (hm : Moved w p v w' v' D') {n j : Nat} {x : Value} (hc : w.cell? ⟨n, j, none⟩ = some x) (hn : ¬ foot p v n) : w'.cell? ⟨n, j, none⟩ = some x := hm.only.cell hc hn
theorem RMoved.keeps (hm : RMoved w S r g w' u' E') (h : RefAt w S r g u E) {n j : Nat} {x : Value} (hc : w.cell? ⟨n, j, none⟩ = some x) (hn : ¬ S n) : w'.cell? ⟨n, j, none⟩ = some x :=
  hm.only.cell hc (fun e => by
    rcases e with e | e
    · exact hn (by have e2 : n = r := e; rw [e2]; exact h.sr)
    · exact hn (by have e2 : n = g := e; rw [e2]; exact h.sg))
theorem RMoved.onlyS (hm : RMoved w S r g w' u' E') (h : RefAt w S r g u E) : Only S w w' := hm.only.mono fun i _ e => by
  rcases e with rfl | rfl
  · exact h.sr
  · exact h.sg
end

/-- what one call does to both -/
def Dk.act (D : Dk) (A : A6) : Dk :=
  if A.kind = 0 ∨ A.kind = 1 ∨ A.kind = 2 then (D.append A.f A.b).1
  else if A.kind = 3 ∨ A.kind = 4 then (D.sync A.f).1
  else if A.kind = 5 then (D.rename A.f A.g).1
  else if A.kind = 6 then (D.clear A.f).1
  else if A.kind = 7 then D.fail A.n
  else if A.kind = 8 then D.crash A.keep
  else D.fail 0

set_option maxHeartbeats 4000000 in
set_option maxRecDepth 20000 in
theorem do_3 {W w : World} {p : Nat} {v : Nat → Value} {D : Dk} {S : Nat → Prop} {r g : Nat} {u : Nat → Value} {f gg n : Int} {b : List UInt8} {keep : List Int} {bo ko : Option Addr} {bc kc : Nat} (h : Both W w p v D S r g u D) :
    Calls Try.prog 13 #[.pointer (some ⟨p, 0, none⟩), .pointer (some ⟨r, 0, none⟩), .agg #[.int .i64 3, .int .i64 f, .int .i64 gg, .slice bo b.length bc, .int .i64 n, .slice ko keep.length kc]] w fun e w' => e = .returned (.bool true) ∧ ∃ v' S' u', Both W w' p v' ((D.sync f).1) S' r g u' ((D.sync f).1) ∧ Only (fun k => foot p v k ∨ S k) w w' := by
  have HB := hide h
  clear h
  go_enter Try.func13, Try.ntmps13
  go_wp2
  obtain ⟨n0, hn0⟩ : ∃ n0, n0 = w.heap.size := ⟨_, rfl⟩
  obtain ⟨wa, hwa⟩ : ∃ wa, wa = w.alloc (.cells #[.int .i64 3, .int .i64 f, .int .i64 gg, .slice bo b.length bc, .int .i64 n, .slice ko keep.length kc] 30) := ⟨_, rfl⟩
  rw [← hwa, ← hn0]
  have hX : wa.heap[n0]? = some (.cells #[.int .i64 3, .int .i64 f, .int .i64 gg, .slice bo b.length bc, .int .i64 n, .slice ko keep.length kc] 30 (0, 0)) := by rw [hwa, hn0]; exact heap_alloc_new w _
  have hBa : Both W wa p v D S r g u D := by rw [hwa]; exact HB.out.alloc _
  have HOA : Hid (Only (fun k => foot p v k ∨ S k) w wa) := by show Only _ _ _; rw [hwa]; exact Only.alloc _ _ _
  have hlt := HB.out.lt (k := n0) (by omega)
  have hna := block_lt hX
  have hc1 := cell_of (k := 1) hX
  simp only [List.getElem?_toArray, List.getElem?_cons_zero, List.getElem?_cons_succ] at hc1
  have HBA := hide hBa
  have HLT := hide hlt
  clear hX hBa hwa hn0 hlt
  go_region_held (fun w' => w'.cell? ⟨n0, 1, none⟩ = some (.int .i64 f)) (go_keep) (first
    | (go_at_call 21; refine (sync_any p v D f _ HBA.out.drew.own.dk).mono ?_; rintro e w1 ⟨rfl, hm1⟩; have hd1 : w1.cell? ⟨n0, 1, none⟩ = some (.int .i64 f) := hm1.keeps hc1 HLT.out.2.1; have HB1 := hide (HBA.out.drew.left hm1); have HO1 := hide (HOA.out.drew.trans hm1.only (fun _ _ e => .inl e)); clear hm1)
    | (go_at_call 33; refine (rsync_any S r g u D f _ HB1.out.ref).mono ?_; rintro e w2 ⟨rfl, hm2⟩; have he1 : w2.cell? ⟨n0, 1, none⟩ = some (.int .i64 f) := hm2.keeps HB1.out.ref hd1 HLT.out.2.2; have HB2 := hide (HB1.out.right hm2); have HO2 := hide (HO1.out.trans (hm2.onlyS HB1.out.ref) (fun _ _ e => .inr e)); clear hm2))
  go_wp2
  go_ret
  exact ⟨rfl, _, _, _, HB2.out, HO2.out⟩
set_option maxHeartbeats 4000000 in
set_option maxRecDepth 20000 in
theorem do_4 {W w : World} {p : Nat} {v : Nat → Value} {D : Dk} {S : Nat → Prop} {r g : Nat} {u : Nat → Value} {f gg n : Int} {b : List UInt8} {keep : List Int} {bo ko : Option Addr} {bc kc : Nat} (h : Both W w p v D S r g u D) :
    Calls Try.prog 13 #[.pointer (some ⟨p, 0, none⟩), .pointer (some ⟨r, 0, none⟩), .agg #[.int .i64 4, .int .i64 f, .int .i64 gg, .slice bo b.length bc, .int .i64 n, .slice ko keep.length kc]] w fun e w' => e = .returned (.bool true) ∧ ∃ v' S' u', Both W w' p v' ((D.sync f).1) S' r g u' ((D.sync f).1) ∧ Only (fun k => foot p v k ∨ S k) w w' := by
  have HB := hide h
  clear h
  go_enter Try.func13, Try.ntmps13
  go_wp2
  obtain ⟨n0, hn0⟩ : ∃ n0, n0 = w.heap.size := ⟨_, rfl⟩
  obtain ⟨wa, hwa⟩ : ∃ wa, wa = w.alloc (.cells #[.int .i64 4, .int .i64 f, .int .i64 gg, .slice bo b.length bc, .int .i64 n, .slice ko keep.length kc] 30) := ⟨_, rfl⟩
  rw [← hwa, ← hn0]
  have hX : wa.heap[n0]? = some (.cells #[.int .i64 4, .int .i64 f, .int .i64 gg, .slice bo b.length bc, .int .i64 n, .slice ko keep.length kc] 30 (0, 0)) := by rw [hwa, hn0]; exact heap_alloc_new w _
  have hBa : Both W wa p v D S r g u D := by rw [hwa]; exact HB.out.alloc _
  have HOA : Hid (Only (fun k => foot p v k ∨ S k) w wa) := by show Only _ _ _; rw [hwa]; exact Only.alloc _ _ _
  have hlt := HB.out.lt (k := n0) (by omega)
  have hna := block_lt hX
  have hc1 := cell_of (k := 1) hX
  simp only [List.getElem?_toArray, List.getElem?_cons_zero, List.getElem?_cons_succ] at hc1
  have HBA := hide hBa
  have HLT := hide hlt
  clear hX hBa hwa hn0 hlt
  go_region_held (fun w' => w'.cell? ⟨n0, 1, none⟩ = some (.int .i64 f)) (go_keep) (first
    | (go_at_call 21; refine (sync_any p v D f _ HBA.out.drew.own.dk).mono ?_; rintro e w1 ⟨rfl, hm1⟩; have hd1 : w1.cell? ⟨n0, 1, none⟩ = some (.int .i64 f) := hm1.keeps hc1 HLT.out.2.1; have HB1 := hide (HBA.out.drew.left hm1); have HO1 := hide (HOA.out.drew.trans hm1.only (fun _ _ e => .inl e)); clear hm1)
    | (go_at_call 33; refine (rsync_any S r g u D f _ HB1.out.ref).mono ?_; rintro e w2 ⟨rfl, hm2⟩; have he1 : w2.cell? ⟨n0, 1, none⟩ = some (.int .i64 f) := hm2.keeps HB1.out.ref hd1 HLT.out.2.2; have HB2 := hide (HB1.out.right hm2); have HO2 := hide (HO1.out.trans (hm2.onlyS HB1.out.ref) (fun _ _ e => .inr e)); clear hm2))
  go_wp2
  go_ret
  exact ⟨rfl, _, _, _, HB2.out, HO2.out⟩
set_option maxHeartbeats 4000000 in
set_option maxRecDepth 20000 in
theorem do_5 {W w : World} {p : Nat} {v : Nat → Value} {D : Dk} {S : Nat → Prop} {r g : Nat} {u : Nat → Value} {f gg n : Int} {b : List UInt8} {keep : List Int} {bo ko : Option Addr} {bc kc : Nat} (h : Both W w p v D S r g u D) :
    Calls Try.prog 13 #[.pointer (some ⟨p, 0, none⟩), .pointer (some ⟨r, 0, none⟩), .agg #[.int .i64 5, .int .i64 f, .int .i64 gg, .slice bo b.length bc, .int .i64 n, .slice ko keep.length kc]] w fun e w' => e = .returned (.bool true) ∧ ∃ v' S' u', Both W w' p v' ((D.rename f gg).1) S' r g u' ((D.rename f gg).1) ∧ Only (fun k => foot p v k ∨ S k) w w' := by
  have HB := hide h
  clear h
  go_enter Try.func13, Try.ntmps13
  go_wp2
  obtain ⟨n0, hn0⟩ : ∃ n0, n0 = w.heap.size := ⟨_, rfl⟩
  obtain ⟨wa, hwa⟩ : ∃ wa, wa = w.alloc (.cells #[.int .i64 5, .int .i64 f, .int .i64 gg, .slice bo b.length bc, .int .i64 n, .slice ko keep.length kc] 30) := ⟨_, rfl⟩
  rw [← hwa, ← hn0]
  have hX : wa.heap[n0]? = some (.cells #[.int .i64 5, .int .i64 f, .int .i64 gg, .slice bo b.length bc, .int .i64 n, .slice ko keep.length kc] 30 (0, 0)) := by rw [hwa, hn0]; exact heap_alloc_new w _
  have hBa : Both W wa p v D S r g u D := by rw [hwa]; exact HB.out.alloc _
  have HOA : Hid (Only (fun k => foot p v k ∨ S k) w wa) := by show Only _ _ _; rw [hwa]; exact Only.alloc _ _ _
  have hlt := HB.out.lt (k := n0) (by omega)
  have hna := block_lt hX
  have hc1 := cell_of (k := 1) hX
  have hc2 := cell_of (k := 2) hX
  simp only [List.getElem?_toArray, List.getElem?_cons_zero, List.getElem?_cons_succ] at hc1 hc2
  have HBA := hide hBa
  have HLT := hide hlt
  clear hX hBa hwa hn0 hlt
  go_region_held (fun w' => w'.cell? ⟨n0, 1, none⟩ = some (.int .i64 f) ∧ w'.cell? ⟨n0, 2, none⟩ = some (.int .i64 gg)) (go_keep) (first
    | (go_at_call 23; refine (rename_any p v D f gg _ HBA.out.drew.own.dk).mono ?_; rintro e w1 ⟨rfl, v1, hm1⟩; have hd1 : w1.cell? ⟨n0, 1, none⟩ = some (.int .i64 f) := hm1.keeps hc1 HLT.out.2.1; have hd2 : w1.cell? ⟨n0, 2, none⟩ = some (.int .i64 gg) := hm1.keeps hc2 HLT.out.2.1; have HB1 := hide (HBA.out.drew.left hm1); have HO1 := hide (HOA.out.drew.trans hm1.only (fun _ _ e => .inl e)); clear hm1)
    | (go_at_call 34; refine (rrename_any S r g u D f gg _ HB1.out.ref).mono ?_; rintro e w2 ⟨rfl, u2, hm2⟩; have he1 : w2.cell? ⟨n0, 1, none⟩ = some (.int .i64 f) := hm2.keeps HB1.out.ref hd1 HLT.out.2.2; have he2 : w2.cell? ⟨n0, 2, none⟩ = some (.int .i64 gg) := hm2.keeps HB1.out.ref hd2 HLT.out.2.2; have HB2 := hide (HB1.out.right hm2); have HO2 := hide (HO1.out.trans (hm2.onlyS HB1.out.ref) (fun _ _ e => .inr e)); clear hm2))
  go_wp2
  go_ret
  exact ⟨rfl, _, _, _, HB2.out, HO2.out⟩
set_option maxHeartbeats 4000000 in
set_option maxRecDepth 20000 in
theorem do_6 {W w : World} {p : Nat} {v : Nat → Value} {D : Dk} {S : Nat → Prop} {r g : Nat} {u : Nat → Value} {f gg n : Int} {b : List UInt8} {keep : List Int} {bo ko : Option Addr} {bc kc : Nat} (h : Both W w p v D S r g u D) :
    Calls Try.prog 13 #[.pointer (some ⟨p, 0, none⟩), .pointer (some ⟨r, 0, none⟩), .agg #[.int .i64 6, .int .i64 f, .int .i64 gg, .slice bo b.length bc, .int .i64 n, .slice ko keep.length kc]] w fun e w' => e = .returned (.bool true) ∧ ∃ v' S' u', Both W w' p v' ((D.clear f).1) S' r g u' ((D.clear f).1) ∧ Only (fun k => foot p v k ∨ S k) w w' := by
  have HB := hide h
  clear h
  go_enter Try.func13, Try.ntmps13
  go_wp2
  obtain ⟨n0, hn0⟩ : ∃ n0, n0 = w.heap.size := ⟨_, rfl⟩
  obtain ⟨wa, hwa⟩ : ∃ wa, wa = w.alloc (.cells #[.int .i64 6, .int .i64 f, .int .i64 gg, .slice bo b.length bc, .int .i64 n, .slice ko keep.length kc] 30) := ⟨_, rfl⟩
  rw [← hwa, ← hn0]
  have hX : wa.heap[n0]? = some (.cells #[.int .i64 6, .int .i64 f, .int .i64 gg, .slice bo b.length bc, .int .i64 n, .slice ko keep.length kc] 30 (0, 0)) := by rw [hwa, hn0]; exact heap_alloc_new w _
  have hBa : Both W wa p v D S r g u D := by rw [hwa]; exact HB.out.alloc _
  have HOA : Hid (Only (fun k => foot p v k ∨ S k) w wa) := by show Only _ _ _; rw [hwa]; exact Only.alloc _ _ _
  have hlt := HB.out.lt (k := n0) (by omega)
  have hna := block_lt hX
  have hc1 := cell_of (k := 1) hX
  simp only [List.getElem?_toArray, List.getElem?_cons_zero, List.getElem?_cons_succ] at hc1
  have HBA := hide hBa
  have HLT := hide hlt
  clear hX hBa hwa hn0 hlt
  go_region_held (fun w' => w'.cell? ⟨n0, 1, none⟩ = some (.int .i64 f)) (go_keep) (first
    | (go_at_call 24; refine (clear_any p v D f _ HBA.out.drew.own.dk).mono ?_; rintro e w1 ⟨rfl, v1, hm1⟩; have hd1 : w1.cell? ⟨n0, 1, none⟩ = some (.int .i64 f) := hm1.keeps hc1 HLT.out.2.1; have HB1 := hide (HBA.out.drew.left hm1); have HO1 := hide (HOA.out.drew.trans hm1.only (fun _ _ e => .inl e)); clear hm1)
    | (go_at_call 35; refine (rclear_any S r g u D f _ HB1.out.ref).mono ?_; rintro e w2 ⟨rfl, u2, hm2⟩; have he1 : w2.cell? ⟨n0, 1, none⟩ = some (.int .i64 f) := hm2.keeps HB1.out.ref hd1 HLT.out.2.2; have HB2 := hide (HB1.out.right hm2); have HO2 := hide (HO1.out.trans (hm2.onlyS HB1.out.ref) (fun _ _ e => .inr e)); clear hm2))
  go_wp2
  go_ret
  exact ⟨rfl, _, _, _, HB2.out, HO2.out⟩
set_option maxHeartbeats 4000000 in
set_option maxRecDepth 20000 in
theorem do_7 {W w : World} {p : Nat} {v : Nat → Value} {D : Dk} {S : Nat → Prop} {r g : Nat} {u : Nat → Value} {f gg n : Int} {b : List UInt8} {keep : List Int} {bo ko : Option Addr} {bc kc : Nat} (h : Both W w p v D S r g u D) (hn : n ≤ 9223372036854775807) :
    Calls Try.prog 13 #[.pointer (some ⟨p, 0, none⟩), .pointer (some ⟨r, 0, none⟩), .agg #[.int .i64 7, .int .i64 f, .int .i64 gg, .slice bo b.length bc, .int .i64 n, .slice ko keep.length kc]] w fun e w' => e = .returned (.bool true) ∧ ∃ v' S' u', Both W w' p v' (D.fail n) S' r g u' (D.fail n) ∧ Only (fun k => foot p v k ∨ S k) w w' := by
  have HB := hide h
  clear h
  go_enter Try.func13, Try.ntmps13
  go_wp2_with fail
  obtain ⟨n0, hn0⟩ : ∃ n0, n0 = w.heap.size := ⟨_, rfl⟩
  obtain ⟨wa, hwa⟩ : ∃ wa, wa = w.alloc (.cells #[.int .i64 7, .int .i64 f, .int .i64 gg, .slice bo b.length bc, .int .i64 n, .slice ko keep.length kc] 30) := ⟨_, rfl⟩
  rw [← hwa, ← hn0]
  have hX : wa.heap[n0]? = some (.cells #[.int .i64 7, .int .i64 f, .int .i64 gg, .slice bo b.length bc, .int .i64 n, .slice ko keep.length kc] 30 (0, 0)) := by rw [hwa, hn0]; exact heap_alloc_new w _
  have hBa : Both W wa p v D S r g u D := by rw [hwa]; exact HB.out.alloc _
  have HOA : Hid (Only (fun k => foot p v k ∨ S k) w wa) := by show Only _ _ _; rw [hwa]; exact Only.alloc _ _ _
  have hlt := HB.out.lt (k := n0) (by omega)
  have hna := block_lt hX
  have hc4 := cell_of (k := 4) hX
  simp only [List.getElem?_toArray, List.getElem?_cons_zero, List.getElem?_cons_succ] at hc4
  have HBA := hide hBa
  have HLT := hide hlt
  clear hX hBa hwa hn0 hlt
  refine (fail_any p v D n _ HBA.out.own.dk hn).mono ?_
  rintro e w1 ⟨rfl, hm1⟩
  have hd4 : w1.cell? ⟨n0, 4, none⟩ = some (.int .i64 n) := hm1.keeps hc4 HLT.out.2.1
  have HB1 := hide (HBA.out.left hm1)
  have HO1 := hide (HOA.out.trans hm1.only (fun _ _ e => .inl e))
  clear hm1 hc4
  go_wp2_with fail
  refine (rfail_any S r g u D n _ HB1.out.ref hn).mono ?_
  rintro e w2 ⟨rfl, hm2⟩
  have HB2 := hide (HB1.out.right hm2)
  have HO2 := hide (HO1.out.trans (hm2.onlyS HB1.out.ref) (fun _ _ e => .inr e))
  clear hm2 hd4
  go_wp2
  go_ret
  exact ⟨rfl, _, _, _, HB2.out, HO2.out⟩
set_option maxHeartbeats 4000000 in
set_option maxRecDepth 20000 in
theorem do_8 {W w : World} {p : Nat} {v : Nat → Value} {D : Dk} {S : Nat → Prop} {r g : Nat} {u : Nat → Value} {f gg n : Int} {b : List UInt8} {keep : List Int} {bo ko : Option Addr} {bc kc : Nat} (h : Both W w p v D S r g u D) (hk : RdI W (.slice ko keep.length kc) keep) :
    Calls Try.prog 13 #[.pointer (some ⟨p, 0, none⟩), .pointer (some ⟨r, 0, none⟩), .agg #[.int .i64 8, .int .i64 f, .int .i64 gg, .slice bo b.length bc, .int .i64 n, .slice ko keep.length kc]] w fun e w' => e = .returned (.bool true) ∧ ∃ v' S' u', Both W w' p v' (D.crash keep) S' r g u' (D.crash keep) ∧ Only (fun k => foot p v k ∨ S k) w w' := by
  have HB := hide h
  clear h
  go_enter Try.func13, Try.ntmps13
  have HK := hide hk
  clear hk
  go_wp2_with fail
  obtain ⟨n0, hn0⟩ : ∃ n0, n0 = w.heap.size := ⟨_, rfl⟩
  obtain ⟨wa, hwa⟩ : ∃ wa, wa = w.alloc (.cells #[.int .i64 8, .int .i64 f, .int .i64 gg, .slice bo b.length bc, .int .i64 n, .slice ko keep.length kc] 30) := ⟨_, rfl⟩
  rw [← hwa, ← hn0]
  have hX : wa.heap[n0]? = some (.cells #[.int .i64 8, .int .i64 f, .int .i64 gg, .slice bo b.length bc, .int .i64 n, .slice ko keep.length kc] 30 (0, 0)) := by rw [hwa, hn0]; exact heap_alloc_new w _
  have hBa : Both W wa p v D S r g u D := by rw [hwa]; exact HB.out.alloc _
  have HOA : Hid (Only (fun k => foot p v k ∨ S k) w wa) := by show Only _ _ _; rw [hwa]; exact Only.alloc _ _ _
  have hlt := HB.out.lt (k := n0) (by omega)
  have hna := block_lt hX
  have hc5 := cell_of (k := 5) hX
  simp only [List.getElem?_toArray, List.getElem?_cons_zero, List.getElem?_cons_succ] at hc5
  have HBA := hide hBa
  have HLT := hide hlt
  clear hX hBa hwa hn0 hlt
  refine (crash_any p v D keep _ _ HBA.out.own.dk (rdi_in HK.out HBA.out.own.below (Nat.le_refl _)) (fun h0 k hk hf => by have := rdi_blk HK.out h0 hk; have := HBA.out.own.mine k hf; omega)).mono ?_
  rintro e w1 ⟨rfl, v1, hm1⟩
  have hd5 : w1.cell? ⟨n0, 5, none⟩ = some (.slice ko keep.length kc) := hm1.keeps hc5 HLT.out.2.1
  have HB1 := hide (HBA.out.left hm1)
  have HO1 := hide (HOA.out.trans hm1.only (fun _ _ e => .inl e))
  clear hm1 hc5
  go_wp2_with fail
  refine (rcrash_any S r g u D keep _ _ HB1.out.ref (rdi_in HK.out HB1.out.own.below (Nat.le_refl _)) (HB1.out.argI HK.out)).mono ?_
  rintro e w2 ⟨rfl, u2, hm2⟩
  have HB2 := hide (HB1.out.right hm2)
  have HO2 := hide (HO1.out.trans (hm2.onlyS HB1.out.ref) (fun _ _ e => .inr e))
  clear hm2 hd5
  go_wp2
  go_ret
  exact ⟨rfl, _, _, _, HB2.out, HO2.out⟩
set_option maxHeartbeats 4000000 in
set_option maxRecDepth 20000 in
theorem do_x {W w : World} {p : Nat} {v : Nat → Value} {D : Dk} {S : Nat → Prop} {r g : Nat} {u : Nat → Value} {k f gg n : Int} {b : List UInt8} {keep : List Int} {bo ko : Option Addr} {bc kc : Nat} (h : Both W w p v D S r g u D) (hk : k ≠ 0 ∧ k ≠ 1 ∧ k ≠ 2 ∧ k ≠ 3 ∧ k ≠ 4 ∧ k ≠ 5 ∧ k ≠ 6 ∧ k ≠ 7 ∧ k ≠ 8) :
    Calls Try.prog 13 #[.pointer (some ⟨p, 0, none⟩), .pointer (some ⟨r, 0, none⟩), .agg #[.int .i64 k, .int .i64 f, .int .i64 gg, .slice bo b.length bc, .int .i64 n, .slice ko keep.length kc]] w fun e w' => e = .returned (.bool true) ∧ ∃ v' S' u', Both W w' p v' (D.fail 0) S' r g u' (D.fail 0) ∧ Only (fun k => foot p v k ∨ S k) w w' := by
  have HB := hide h
  clear h
  go_enter Try.func13, Try.ntmps13
  obtain ⟨k0, k1, k2, k3, k4, k5, k6, k7, k8⟩ := hk
  go_wp2_with fail
  obtain ⟨n0, hn0⟩ : ∃ n0, n0 = w.heap.size := ⟨_, rfl⟩
  obtain ⟨wa, hwa⟩ : ∃ wa, wa = w.alloc (.cells #[.int .i64 k, .int .i64 f, .int .i64 gg, .slice bo b.length bc, .int .i64 n, .slice ko keep.length kc] 30) := ⟨_, rfl⟩
  rw [← hwa, ← hn0]
  have hX : wa.heap[n0]? = some (.cells #[.int .i64 k, .int .i64 f, .int .i64 gg, .slice bo b.length bc, .int .i64 n, .slice ko keep.length kc] 30 (0, 0)) := by rw [hwa, hn0]; exact heap_alloc_new w _
  have hBa : Both W wa p v D S r g u D := by rw [hwa]; exact HB.out.alloc _
  have HOA : Hid (Only (fun k => foot p v k ∨ S k) w wa) := by show Only _ _ _; rw [hwa]; exact Only.alloc _ _ _
  have hlt := HB.out.lt (k := n0) (by omega)
  have hna := block_lt hX
  have HBA := hide hBa
  have HLT := hide hlt
  clear hX hBa hwa hn0 hlt
  refine (fail_any p v D 0 _ HBA.out.own.dk (by decide)).mono ?_
  rintro e w1 ⟨rfl, hm1⟩
  have HB1 := hide (HBA.out.left hm1)
  have HO1 := hide (HOA.out.trans hm1.only (fun _ _ e => .inl e))
  clear hm1
  go_wp2_with fail
  refine (rfail_any S r g u D 0 _ HB1.out.ref (by decide)).mono ?_
  rintro e w2 ⟨rfl, hm2⟩
  have HB2 := hide (HB1.out.right hm2)
  have HO2 := hide (HO1.out.trans (hm2.onlyS HB1.out.ref) (fun _ _ e => .inr e))
  clear hm2
  go_wp2
  go_ret
  exact ⟨rfl, _, _, _, HB2.out, HO2.out⟩
end Go.Proofs.Ytgobnnciijlpaaa
