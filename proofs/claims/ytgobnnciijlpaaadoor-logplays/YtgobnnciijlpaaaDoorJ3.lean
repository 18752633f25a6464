/- Some parts of the proof, one behind the other. -/
import Derived.Test.YtgobnnciijlpaaaDoorRfB
import Derived.Test.YtgobnnciijlpaaaDoorRfD
import Derived.Test.YtgobnnciijlpaaaDoorRfE
import Derived.Test.YtgobnnciijlpaaaDoorBy
import Derived.Test.YtgobnnciijlpaaaDoorRlE
import Derived.Test.YtgobnnciijlpaaaDoorRlF
import Derived.Test.YtgobnnciijlpaaaDoorJ2
import Derived.Test.YtgobnnciijlpaaaDoorJ1
/- A disk of the program and one of the reference, side by side. -/
namespace Go.Proofs.YtgobnnciijlpaaaDoor
open Go.ChangeShapes Go.WideShapes Go.ChangeAt Go.RowKit Go.DsMem Go.DsDk
set_option linter.unusedVariables false

/-- a disk of the program that is D, one of the reference that is E: both a law's own, and apart -/
structure Both (W w : World) (p : Nat) (v : Nat → Value) (D : Dk) (S : Nat → Prop) (r g : Nat) (u : Nat → Value) (E : Dk) : Prop where
  own : Own W.heap.size W w p v D
  ref : RefAt w S r g u E
  mine : W.heap.size ≤ r ∧ W.heap.size ≤ g
  apart : ∀ k, foot p v k → ¬ S k
section
variable {W w w' : World} {p r g : Nat} {v v' u u' : Nat → Value} {D D' E E' : Dk} {S T : Nat → Prop}
theorem Both.left (h : Both W w p v D S r g u E) (hm : Moved w p v w' v' D') : Both W w' p v' D' S r g u E := by
  refine ⟨h.own.moved hm, h.ref.stays hm.only (fun k hk hf => h.apart k hf hk), h.mine, fun k hk hs => ?_⟩
  rcases hm.grow k hk with h1 | h1
  · exact h.apart k h1 hs
  · have := h.ref.lt k hs; omega
theorem Both.right (h : Both W w p v D S r g u E) (hm : RMoved w S r g w' u' E') : Both W w' p v D (fun k => S k ∨ w.heap.size ≤ k ∧ k < w'.heap.size) r g u' E' := by
  have hn : ∀ k, foot p v k → ¬ (k = r ∨ k = g) := fun k hk e => by rcases e with rfl | rfl; exact h.apart _ hk h.ref.sr; exact h.apart _ hk h.ref.sg
  have hB : Below W.heap.size w w' := hm.only.toBelow h.own.size (fun i hi => by rcases hi with rfl | rfl; exact h.mine.1; exact h.mine.2)
  refine ⟨⟨h.own.dk.stays hm.only hn, h.own.mine, h.own.below.trans hB, Nat.le_trans h.own.size hm.only.size⟩, hm.dk, h.mine, fun k hk hs => ?_⟩
  rcases hs with hs | hs
  · exact h.apart k hk hs
  · have := h.own.dk.foot_lt hk; omega
theorem Both.grew (h : Both W w p v D S r g u E) (hb : Below w.heap.size w w') : Both W w' p v D S r g u E := ⟨h.own.grew hb, h.ref.below hb, h.mine, h.apart⟩
theorem Both.drew (h : Both W w p v D S r g u E) : Both W w.drew p v D S r g u E := h.grew (Below.refl _ _).drew
theorem Both.alloc (h : Both W w p v D S r g u E) (o : Obj) : Both W (w.alloc o) p v D S r g u E := h.grew ((Below.refl _ _).alloc (Nat.le_refl _) o)
/-- something else of the law's own is written -/
theorem Both.only (h : Both W w p v D S r g u E) (ho : Only T w w') (hT : ∀ k, T k → W.heap.size ≤ k ∧ ¬ foot p v k ∧ ¬ S k) : Both W w' p v D S r g u E :=
  ⟨⟨h.own.dk.stays ho (fun k hk ht => (hT k ht).2.1 hk), h.own.mine, h.own.below.trans (ho.toBelow h.own.size fun i hi => (hT i hi).1), Nat.le_trans h.own.size ho.size⟩, h.ref.stays ho (fun k hk ht => (hT k ht).2.2 hk), h.mine, h.apart⟩
theorem Both.lt (h : Both W w p v D S r g u E) {k : Nat} (hk : w.heap.size ≤ k) : W.heap.size ≤ k ∧ ¬ foot p v k ∧ ¬ S k :=
  ⟨Nat.le_trans h.own.size hk, fun hf => by have := h.own.dk.foot_lt hf; omega, fun hs => by have := h.ref.lt k hs; omega⟩
theorem Both.argT {sl : Value} {b : List UInt8} (h : Both W w p v D S r g u E) (hr : Rd W sl b) : 0 < b.length → InT (fun k => k ≠ r ∧ k ≠ g) sl := by
  intro h0 a n c hs
  obtain ⟨ao, cap, e, hl, hn, hrd⟩ := hr
  rw [hs] at e
  simp only [Value.slice.injEq] at e
  obtain ⟨rfl, _, _⟩ := e
  have hc := hrd a rfl 0 b[0] (List.getElem?_eq_getElem h0)
  have := World.block_lt_of_cell? W _ hc
  rw [add_block] at this
  have h1 := h.mine.1
  have h2 := h.mine.2
  exact ⟨by omega, by omega⟩
theorem Both.argI {sl : Value} {b : List Int} (h : Both W w p v D S r g u E) (hr : RdI W sl b) : 0 < b.length → InT (fun k => k ≠ r ∧ k ≠ g) sl := by
  intro h0 a n c hs
  obtain ⟨ao, cap, e, hl, hn, hrd⟩ := hr
  rw [hs] at e
  simp only [Value.slice.injEq] at e
  obtain ⟨rfl, _, _⟩ := e
  have hc := hrd a rfl 0 b[0] (List.getElem?_eq_getElem h0)
  have := World.block_lt_of_cell? W _ hc
  rw [add_block] at this
  have h1 := h.mine.1
  have h2 := h.mine.2
  exact ⟨by omega, by omega⟩
theorem Moved.keeps (hm : Moved w p v w' v' D') {n j : Nat} {x : Value} (hc : w.cell? ⟨n, j, none⟩ = some x) (hn : ¬ foot p v n) : w'.cell? ⟨n, j, none⟩ = some x := hm.only.cell hc hn
theorem RMoved.keeps (hm : RMoved w S r g w' u' E') (h : RefAt w S r g u E) {n j : Nat} {x : Value} (hc : w.cell? ⟨n, j, none⟩ = some x) (hn : ¬ S n) : w'.cell? ⟨n, j, none⟩ = some x :=
  hm.only.cell hc (fun e => by
    rcases e with e | e
    · exact hn (by have e2 : n = r := e; rw [e2]; exact h.sr)
    · exact hn (by have e2 : n = g := e; rw [e2]; exact h.sg))
theorem RMoved.onlyS (hm : RMoved w S r g w' u' E') (h : RefAt w S r g u E) : Only S w w' := hm.only.mono fun i _ e => by
  rcases e with rfl | rfl
  · exact h.sr
  · exact h.sg
end

end Go.Proofs.YtgobnnciijlpaaaDoor

/- Open of dayshiftref04, whatever stands on the disk; the walk of dayshiftlaw04.same. -/
namespace Go.Proofs.YtgobnnciijlpaaaDoor
open Go.ChangeShapes Go.WideShapes Go.ChangeAt Go.RowKit Go.DsMem Go.DsDk Go.DsLg
set_option linter.unusedVariables false

/-- Open of the reference -/
theorem ropen_any (S : Nat → Prop) (r g : Nat) (u : Nat → Value) (D : Dk) (w : World) (h : RefAt w S r g u D) :
    Calls Tryd.prog 13 #[.pointer (some ⟨r, 0, none⟩)] w fun e w' =>
      ((openB D).2.err ≠ 0 ∧ e = .returned (.tuple #[.pointer none, .slice none 0 0, .slice none 0 0, .int .i64 (openB D).2.err]) ∧ ∃ u', RMoved w S r g w' u' (openB D).1) ∨
      ((openB D).2.err = 0 ∧ ∃ m x rs u', e = .returned (.tuple #[.pointer (some ⟨m, 0, none⟩), x, rs, .int .i64 0]) ∧ ROpen w S r g w' u' (openB D).1 (openB D).2 m x rs) := by
  by_cases h1 : (snapB (D.b 1)).2.2 = 0
  · obtain ⟨seq, snap, e0, hs⟩ : ∃ seq snap e0, snapB (D.b 1) = (seq, snap, e0) := ⟨_, _, _, rfl⟩
    rw [hs] at h1
    obtain rfl : e0 = 0 := h1
    obtain ⟨first, recs, at_, hc⟩ : ∃ first recs at_, scanB (D.b 0) = (first, recs, at_) := ⟨_, _, _, rfl⟩
    by_cases hb : (behB seq first recs).2 ≠ 0
    · have hO : openB D = (D, ⟨(behB seq first recs).2, 0, [], []⟩) := by
        have := opens_b (D := D) (by rw [hs]) (by rw [hs, hc]; exact hb)
        rw [hs, hc] at this
        exact this
      rw [hO]
      exact (ropen_b S r g u D w h seq first at_ snap recs hs hc hb).mono fun e w' ⟨he, hB⟩ => .inl ⟨hb, he, u, RMoved.stay h hB⟩
    · have hb0 : (behB seq first recs).2 = 0 := by simpa using hb
      by_cases hat : at_ < (D.b 0).length
      · have hO : openB D = if (replB D 2 0 ((D.b 0).take at_)).2 = 0 then ((replB D 2 0 ((D.b 0).take at_)).1, ⟨0, (seq + (behB seq first recs).1.length + 1) % 18446744073709551616, snap, (behB seq first recs).1⟩) else ((replB D 2 0 ((D.b 0).take at_)).1, ⟨(replB D 2 0 ((D.b 0).take at_)).2, 0, [], []⟩) := by
          unfold openB
          rw [hs, hc]
          simp only
          rw [if_pos trivial, if_pos hb0, if_pos hat]
        rw [hO]
        unfold replB
        rcases e1 : D.clear 2 with ⟨D1, z1⟩
        simp only
        by_cases h1 : z1 = 0
        · subst h1
          rw [if_pos rfl]
          rcases e2 : D1.append 2 ((D.b 0).take at_) with ⟨D2, z2⟩
          simp only
          by_cases h2 : z2 = 0
          · subst h2
            rw [if_pos rfl]
            rcases e3 : D2.sync 2 with ⟨D3, z3⟩
            simp only
            by_cases h3 : z3 = 0
            · subst h3
              rw [if_pos rfl]
              rcases e4 : D3.rename 2 0 with ⟨D4, z4⟩
              simp only
              by_cases h4 : z4 = 0
              · subst h4
                rw [if_pos rfl]
                exact (ropen_e S r g u D w h seq first at_ snap recs hs hc hb hat D1 D2 D3 D4 0 e1 e2 e3 e4).mono fun e w' hp => .inr ⟨rfl, hp⟩
              · rw [if_neg h4]
                exact (ropen_d4 S r g u D w h seq first at_ snap recs hs hc hb hat D1 D2 D3 D4 z4 e1 e2 e3 e4 h4).mono fun e w' hp => .inl ⟨h4, hp⟩
            · rw [if_neg h3]
              simp only
              rw [if_neg h3]
              exact (ropen_d3 S r g u D w h seq first at_ snap recs hs hc hb hat D1 D2 D3 z3 e1 e2 e3 h3).mono fun e w' hp => .inl ⟨h3, hp⟩
          · rw [if_neg h2]
            simp only
            rw [if_neg h2]
            exact (ropen_d2 S r g u D w h seq first at_ snap recs hs hc hb hat D1 D2 z2 e1 e2 h2).mono fun e w' hp => .inl ⟨h2, hp⟩
        · rw [if_neg h1]
          simp only
          rw [if_neg h1]
          exact (ropen_d1 S r g u D w h seq first at_ snap recs hs hc hb hat D1 z1 e1 h1).mono fun e w' hp => .inl ⟨h1, hp⟩
      · have hO : openB D = (D, ⟨0, (seq + (behB seq first recs).1.length + 1) % 18446744073709551616, snap, (behB seq first recs).1⟩) := by
          unfold openB
          rw [hs, hc]
          simp only
          rw [if_pos trivial, if_pos hb0, if_neg hat]
        rw [hO]
        exact (ropen_c S r g u D w h seq first at_ snap recs hs hc hb hat).mono fun e w' ⟨m, x, rs, he, hp⟩ => .inr ⟨rfl, m, x, rs, u, he, hp⟩
  · rw [opens_a h1]
    exact (ropen_a S r g u D w h h1).mono fun e w' ⟨he, hB⟩ => .inl ⟨h1, he, u, RMoved.stay h hB⟩

set_option maxHeartbeats 2000000 in
set_option maxRecDepth 20000 in
/-- dayshiftlaw04.same, of two disks that are alike -/
theorem lsame_any {W w : World} {p : Nat} {v : Nat → Value} {D : Dk} {S : Nat → Prop} {r g : Nat} {u : Nat → Value} (h : Both W w p v D S r g u D) :
    Calls Tryd.prog 30 #[.pointer (some ⟨p, 0, none⟩), .pointer (some ⟨r, 0, none⟩)] w fun e w' => e = .returned (.bool true) ∧ Below w.heap.size w w' := by
  have HP := hide h
  clear h
  go_enter Tryd.func30, Tryd.ntmps30
  go_wp2
  go_loopw [5] (fun i wq => ∃ q : Nat, q ≤ 8 ∧ i = .int .i64 q ∧ Below w.heap.size w wq) (fun i _ => 8 - (intOf i).toNat)
  case atStart => exact ⟨0, Nat.zero_le _, rfl, Below.refl _ _⟩
  case round =>
    rename World => wq
    obtain ⟨q, hq, rfl, hbq⟩ := hrel
    have HQ := hide hbq
    clear hbq
    by_cases hq8 : q < 8
    · go_wp2_with fail
      refine (read_any _ _ _ q _ (HP.out.own.dk.below HQ.out)).mono ?_
      rintro e w8 ⟨a8, rfl, ha8, B8⟩
      obtain ⟨a8o, a8c, rfl, -⟩ := own_shape ha8
      have HA8 := hide (Rd.own ha8)
      have HQ8 := hide (HQ.out.trans (B8.mono HQ.out.size))
      clear ha8 B8
      go_wp2_with fail
      refine (rread_any _ _ _ _ _ q _ (HP.out.ref.below HQ8.out)).mono ?_
      rintro e w9 ⟨b9, rfl, hb9, B9⟩
      obtain ⟨b9o, b9c, rfl, -⟩ := own_shape hb9
      have HQ9 := hide (HQ8.out.trans (B9.mono HQ8.out.size))
      have s1 := run_conv_rd (P := Tryd.prog) Tryd.underlying28 Tryd.underlying5 Tryd.underlying9 (HA8.out.below B9)
      have s2 := run_conv_rd (P := Tryd.prog) Tryd.underlying28 Tryd.underlying5 Tryd.underlying9 (Rd.own hb9)
      clear hb9 B9
      generalize bstr (D.read (q : Int)).1 = tt at s1 s2
      go_wp2_with (first
        | (go_at_call 60; refine (safe_any _ _ _ q _ (HP.out.own.dk.below HQ9.out)).mono ?_; rintro e w10 ⟨rfl, B10⟩; have HQ10 := hide (HQ9.out.trans (B10.mono HQ9.out.size)); clear B10)
        | (go_at_call 61; refine (rsafe_any _ _ _ _ _ q _ (HP.out.ref.below HQ10.out)).mono ?_; rintro e w' ⟨rfl, rfl⟩))
      go_roundw
      case rel => exact ⟨q + 1, by omega, by go_num, HQ10.out⟩
      case measure => simp [intOf]; omega
    · obtain rfl : q = 8 := by omega
      have hne := grow_ne wq
      have hdd := fun X : Grow wq => Below.keeps X.2 (Nat.le_refl _) (HP.out.ref.below HQ.out).hd.deadC
      generalize hDD : D.dead = dd at *
      have HDD := hide hDD
      clear hDD
      go_wp2
      refine wp_region_grow (by kernel_rfl) (by kernel_rfl) ?_
      repeat (go_big_quiet_step ((go_at_call 62; rename_i X; exact grow_of ((dead_any _ _ _ _ ((HP.out.own.dk.below HQ.out).below X.2)).mono (fun e w7 h => ⟨by rw [h.1, HDD.out], by rw [h.2]; exact Below.refl _ _⟩)))))
      refine wpQuiet_nil ?_
      intro _ hw'
      obtain ⟨X, rfl⟩ := hw'
      have HF := hide (HQ.out.trans (X.2.mono HQ.out.size))
      clear hdd hne
      go_wp2
      go_ret
      exact ⟨rfl, HF.out⟩
end Go.Proofs.YtgobnnciijlpaaaDoor

/- A list of calls (dayshiftlaw04.Act) that came in, opened. -/
namespace Go.Proofs.YtgobnnciijlpaaaDoor
open Go.ChangeShapes Go.WideShapes Go.ChangeAt Go.RowKit Go.DsMem Go.DsDk Go.Deep
set_option linter.unusedVariables false

/-- a call -/
structure A4 where
  kind : Int
  b : List UInt8
  n : Int
  keep : List Int

/-- the call A lies at this place -/
structure Act4In (w : World) (g o : Nat) (A : A4) (bo : Option Addr) (bc : Nat) (ko : Option Addr) (kc : Nat) : Prop where
  c0 : w.cell? ⟨g, o, none⟩ = some (.int .i64 A.kind)
  c1 : w.cell? ⟨g, o + 1, none⟩ = some (.slice bo A.b.length bc)
  c2 : w.cell? ⟨g, o + 2, none⟩ = some (.int .i64 A.n)
  c3 : w.cell? ⟨g, o + 3, none⟩ = some (.slice ko A.keep.length kc)
  rb : Rd w (.slice bo A.b.length bc) A.b
  rk : RdI w (.slice ko A.keep.length kc) A.keep
  lb : A.b.length ≤ 140737488351232
  ln : -9223372036854775808 ≤ A.n ∧ A.n ≤ 9223372036854775807

/-- the slice sl is these calls -/
def Acts4At (w : World) (sl : Value) (acts : List A4) : Prop :=
  ∃ ao cap, sl = .slice ao acts.length cap ∧ ∀ i A, acts[i]? = some A → ∃ g o bo bc ko kc, ao = some ⟨g, o, none⟩ ∧ Act4In w g (o + i * 4) A bo bc ko kc

theorem Act4In.mono {w w' : World} {g o : Nat} {A : A4} {bo ko : Option Addr} {bc kc : Nat} (h : Act4In w g o A bo bc ko kc) (hc : ∀ a v, w.cell? a = some v → w'.cell? a = some v) : Act4In w' g o A bo bc ko kc :=
  ⟨hc _ _ h.c0, hc _ _ h.c1, hc _ _ h.c2, hc _ _ h.c3, h.rb.mono hc, h.rk.mono hc, h.lb, h.ln⟩

section
variable {H : Type} {enc : TypeId × Value → H} {W : World}
theorem cells_act4 : Tryd.prog.cellsOf 38 = 4 := by kernel_rfl
theorem cells_bs4 : Tryd.prog.cellsOf 28 = 1 := by kernel_rfl
theorem cells_is4 : Tryd.prog.cellsOf 36 = 1 := by kernel_rfl

set_option maxRecDepth 10000 in
theorem open_act4 {n : Nat} {a : Addr} {cs : List Value} {x : DataW H × List MemPlace} (hcs : W.cells? 0 a 4 = some cs) (h : DataW.trod enc Tryd.prog W 0 (fun _ => true) true n 38 cs = some x)
    (hs : (x.1.weights Tryd.prog 38).all (· ≤ reachBytes) = true) : ∃ A bo bc ko kc, a = ⟨a.block, a.off, none⟩ ∧ Act4In W a.block a.off A bo bc ko kc := by
  obtain ⟨hlen, hcell⟩ := cells_at hcs
  obtain ⟨xs, m, _, rfl, hl, hxl, hf⟩ := DataW.trod_struct Tryd.underlying38 h
  match xs, hxl with
  | [y0, y1, y2, y3], _ =>
  match cs, hlen with
  | [v0, v1, v2, v3], _ =>
  have h0 : DataW.trod enc Tryd.prog W 0 (fun _ => true) true m 3 [v0] = some y0 := by simpa [cells_int] using hf 0 _ rfl
  have h1 : DataW.trod enc Tryd.prog W 0 (fun _ => true) true m 28 [v1] = some y1 := by simpa [cells_bs4] using hf 1 _ rfl
  have h2 : DataW.trod enc Tryd.prog W 0 (fun _ => true) true m 3 [v2] = some y2 := by simpa [cells_int] using hf 2 _ rfl
  have h3 : DataW.trod enc Tryd.prog W 0 (fun _ => true) true m 36 [v3] = some y3 := by simpa [cells_is4] using hf 3 _ rfl
  obtain ⟨k, rfl, _, _⟩ := open_num (y := y0) h0
  obtain ⟨nn, rfl, hn0, hn⟩ := open_num (y := y2) h2
  simp only [DataW.weights, Tryd.underlying38] at hs
  obtain ⟨b, bo, bc, rfl, rb, lb⟩ := open_bytes (y := y1) h1 (weights_at hs (j := 1) rfl rfl)
  obtain ⟨ks, ko, kc, rfl, rk⟩ := open_nums (y := y3) h3
  have ha := plain_addr (a := a) (hcell 0 _ rfl)
  refine ⟨⟨k, b, nn, ks⟩, bo, bc, ko, kc, ha, ?_⟩
  have hc : ∀ j v, ([.int .i64 k, .slice bo b.length bc, .int .i64 nn, .slice ko ks.length kc] : List Value)[j]? = some v → W.cell? ⟨a.block, a.off + j, none⟩ = some v := fun j v hv => by
    have := hcell j v hv
    rw [ha, add_mk] at this
    exact this
  exact ⟨hc 0 _ rfl, hc 1 _ rfl, hc 2 _ rfl, hc 3 _ rfl, rb, rk, lb, hn0, hn⟩

theorem open_acts4 {v : Value} {d : DataW H} {p : List MemPlace} {ao : Option Addr} {len cap : Nat} (hv : v = .slice ao len cap) (h : DataW.Trod enc Tryd.prog W 0 (fun _ => true) true 22 v d p)
    (hs : (d.weights Tryd.prog 22).all (· ≤ reachBytes) = true) : ∃ acts : List A4, acts.length = len ∧ Acts4At W v acts := by
  subst hv
  obtain ⟨fuel, hf⟩ := h
  rcases open_slice Tryd.underlying22 hf with ⟨hcs, _⟩ | ⟨a, len', cap', m, n, D, Pl, hcs, _, hl, hm, hmm, hx, hel⟩
  · simp [Value.cells] at hcs
    obtain ⟨rfl, rfl, rfl⟩ := hcs
    exact ⟨[], rfl, none, 0, rfl, fun i A hA => by simp at hA⟩
  · simp [Value.cells] at hcs
    obtain ⟨rfl, rfl, rfl⟩ := hcs
    simp at hmm
    subst hmm
    have hd : d = _ := congrArg Prod.fst hx
    simp only at hd
    rw [hd] at hs
    have hinh : Inhabited A4 := ⟨⟨0, [], 0, []⟩⟩
    obtain ⟨F, hF⟩ := choose_lt (α := A4) (n := len) (p := fun i A => ∃ bo bc ko kc, a.add (i * 4) = ⟨(a.add (i * 4)).block, (a.add (i * 4)).off, none⟩ ∧ Act4In W (a.add (i * 4)).block (a.add (i * 4)).off A bo bc ko kc) (fun i hi => by
      obtain ⟨cs', h1, h2⟩ := hel i (by omega)
      rw [cells_act4] at h1
      exact open_act4 h1 h2 (weights_elem Tryd.underlying22 hs (j := i) (by simp [hi])))
    refine ⟨(List.range len).map F, by simp, some a, m, by simp, fun i A hA => ?_⟩
    have hi : i < len := by
      have := (List.getElem?_eq_some_iff.1 hA).1
      simpa using this
    simp [hi] at hA
    subst hA
    obtain ⟨_, _, _, _, ha0, _⟩ := hF 0 (by omega)
    have ha : a = ⟨a.block, a.off, none⟩ := by simpa [Addr.add] using ha0
    obtain ⟨bo, bc, ko, kc, _, hin⟩ := hF i hi
    have e : a.add (i * 4) = ⟨a.block, a.off + i * 4, none⟩ := by
      rw [ha, add_mk]
    rw [e] at hin
    exact ⟨a.block, a.off, bo, bc, ko, kc, by rw [← ha], hin⟩
end
end Go.Proofs.YtgobnnciijlpaaaDoor

/- A log of the program and one of the reference, side by side. -/
namespace Go.Proofs.YtgobnnciijlpaaaDoor
open Go.ChangeShapes Go.WideShapes Go.ChangeAt Go.RowKit Go.DsMem Go.DsDk Go.DsLg
set_option linter.unusedVariables false

/-- a log on each disk -/
structure Duo (W w : World) (p : Nat) (v : Nat → Value) (D : Dk) (l : Nat) (L : Lg) (S : Nat → Prop) (r g : Nat) (u : Nat → Value) (E : Dk) (m : Nat) (M : Lg) : Prop where
  both : Both W w p v D S r g u E
  log : LogAt w l p L.next L.size L.broken
  rlog : RLog w m r M.next M.size M.broken
  lw : W.heap.size ≤ l
  lf : ¬ foot p v l
  ls : ¬ S l
  mw : W.heap.size ≤ m
  mf : ¬ foot p v m
  ms : ¬ S m
  lm : l ≠ m
section
variable {W w w' : World} {p r g l m : Nat} {v v' u u' : Nat → Value} {D D' E E' : Dk} {S T : Nat → Prop} {L L' M M' : Lg}
theorem Duo.left (h : Duo W w p v D l L S r g u E m M) (hm : LMoved w p v l w' v' D' L') : Duo W w' p v' D' l L' S r g u E m M := by
  have hl := block_lt h.log
  have hml := block_lt h.rlog
  have off : ∀ {n : Nat}, ¬ foot p v n → n < w.heap.size → ¬ foot p v' n := fun hn hlt hf => by
    rcases hm.grow _ hf with h1 | h1
    · exact hn h1
    · omega
  have hB : Below W.heap.size w w' := hm.only.toBelow h.both.own.size (fun i hi => by rcases hi with hi | rfl; exact h.both.own.mine i hi; exact h.lw)
  refine ⟨⟨⟨hm.dk, fun k hk => ?_, h.both.own.below.trans hB, Nat.le_trans h.both.own.size hm.only.size⟩, h.both.ref.stays hm.only (fun k hk e => ?_), h.both.mine, fun k hk hs => ?_⟩, hm.log, h.rlog.only hm.only (fun e => ?_), h.lw, off h.lf hl, h.ls, h.mw, off h.mf hml, h.ms, h.lm⟩
  · rcases hm.grow k hk with h1 | h1
    · exact h.both.own.mine k h1
    · have := h.both.own.size; omega
  · rcases e with e | rfl
    · exact h.both.apart k e hk
    · exact h.ls hk
  · rcases hm.grow k hk with h1 | h1
    · exact h.both.apart k h1 hs
    · have := h.both.ref.lt k hs; omega
  · rcases e with e | e
    · exact h.mf e
    · exact h.lm e.symm
theorem Duo.right (h : Duo W w p v D l L S r g u E m M) (hm : RLMoved w S r g m w' u' E' M') : Duo W w' p v D l L (fun k => S k ∨ w.heap.size ≤ k ∧ k < w'.heap.size) r g u' E' m M' := by
  have hl := block_lt h.log
  have hml := block_lt h.rlog
  have hn : ∀ k, foot p v k → ¬ (k = r ∨ k = g ∨ k = m) := fun k hk e => by
    rcases e with rfl | rfl | rfl
    · exact h.both.apart _ hk h.both.ref.sr
    · exact h.both.apart _ hk h.both.ref.sg
    · exact h.mf hk
  have hB : Below W.heap.size w w' := hm.only.toBelow h.both.own.size (fun i hi => by rcases hi with rfl | rfl | rfl; exact h.both.mine.1; exact h.both.mine.2; exact h.mw)
  refine ⟨⟨⟨h.both.own.dk.stays hm.only hn, h.both.own.mine, h.both.own.below.trans hB, Nat.le_trans h.both.own.size hm.only.size⟩, hm.dk, h.both.mine, fun k hk hs => ?_⟩, h.log.only hm.only (fun e => ?_), hm.log, h.lw, h.lf, fun hs => ?_, h.mw, h.mf, fun hs => ?_, h.lm⟩
  · rcases hs with hs | hs
    · exact h.both.apart k hk hs
    · have := h.both.own.dk.foot_lt hk; omega
  · rcases e with e | e | e
    · exact h.ls (by rw [e]; exact h.both.ref.sr)
    · exact h.ls (by rw [e]; exact h.both.ref.sg)
    · exact h.lm e
  · rcases hs with hs | hs
    · exact h.ls hs
    · omega
  · rcases hs with hs | hs
    · exact h.ms hs
    · omega
theorem Duo.dleft (h : Duo W w p v D l L S r g u E m M) (hm : Moved w p v w' v' D') : Duo W w' p v' D' l L S r g u E m M := by
  have hl := block_lt h.log
  have hml := block_lt h.rlog
  have off : ∀ {n : Nat}, ¬ foot p v n → n < w.heap.size → ¬ foot p v' n := fun hn hlt hf => by
    rcases hm.grow _ hf with h1 | h1
    · exact hn h1
    · omega
  exact ⟨h.both.left hm, h.log.only hm.only h.lf, h.rlog.only hm.only h.mf, h.lw, off h.lf hl, h.ls, h.mw, off h.mf hml, h.ms, h.lm⟩
theorem Duo.dright (h : Duo W w p v D l L S r g u E m M) (hm : RMoved w S r g w' u' E') : Duo W w' p v D l L (fun k => S k ∨ w.heap.size ≤ k ∧ k < w'.heap.size) r g u' E' m M := by
  have hl := block_lt h.log
  have hml := block_lt h.rlog
  refine ⟨h.both.right hm, h.log.only hm.only (fun e => ?_), h.rlog.moved hm h.both.ref h.ms, h.lw, h.lf, fun hs => ?_, h.mw, h.mf, fun hs => ?_, h.lm⟩
  · rcases e with e | e
    · exact h.ls (by rw [e]; exact h.both.ref.sr)
    · exact h.ls (by rw [e]; exact h.both.ref.sg)
  · rcases hs with hs | hs
    · exact h.ls hs
    · omega
  · rcases hs with hs | hs
    · exact h.ms hs
    · omega
theorem Duo.grew (h : Duo W w p v D l L S r g u E m M) (hb : Below w.heap.size w w') : Duo W w' p v D l L S r g u E m M :=
  ⟨h.both.grew hb, h.log.only (S := fun _ => False) (Only.below hb) (fun h => h), h.rlog.only (S := fun _ => False) (Only.below hb) (fun h => h), h.lw, h.lf, h.ls, h.mw, h.mf, h.ms, h.lm⟩
theorem Duo.only (h : Duo W w p v D l L S r g u E m M) (ho : Only T w w') (hT : ∀ k, T k → W.heap.size ≤ k ∧ ¬ foot p v k ∧ ¬ S k ∧ k ≠ l ∧ k ≠ m) : Duo W w' p v D l L S r g u E m M :=
  ⟨h.both.only ho (fun k hk => ⟨(hT k hk).1, (hT k hk).2.1, (hT k hk).2.2.1⟩), h.log.only ho (fun e => (hT _ e).2.2.2.1 rfl), h.rlog.only ho (fun e => (hT _ e).2.2.2.2 rfl), h.lw, h.lf, h.ls, h.mw, h.mf, h.ms, h.lm⟩
/-- a block that is of neither -/
structure Duo.Off (W : World) (p : Nat) (v : Nat → Value) (l : Nat) (S : Nat → Prop) (m n : Nat) : Prop where
  w : W.heap.size ≤ n
  f : ¬ foot p v n
  s : ¬ S n
  l : n ≠ l
  m : n ≠ m
end

/-- both logs are there, or neither is; the two disks are alike -/
inductive State (W w : World) (p : Nat) (r g : Nat) (k : Nat) : Value → Value → Prop where
  | none (v : Nat → Value) (D : Dk) (S : Nat → Prop) (u : Nat → Value) (h : Both W w p v D S r g u D) : State W w p r g k (.pointer .none) (.pointer .none)
  | some (v : Nat → Value) (D : Dk) (l : Nat) (L : Lg) (S : Nat → Prop) (u : Nat → Value) (m : Nat) (h : Duo W w p v D l L S r g u D m L) (hn : L.next < 18446744073709551616) (hz : L.size ≤ 65536 + k) :
      State W w p r g k (.pointer (.some ⟨l, 0, .none⟩)) (.pointer (.some ⟨m, 0, .none⟩))
theorem appB_next {D : Dk} {L : Lg} {rec : List UInt8} (h : L.next < 18446744073709551616) : (appB D L rec).2.1.next < 18446744073709551616 ∧ (appB D L rec).2.1.size ≤ L.size + 1 := by
  unfold appB
  split
  · exact ⟨h, by simp⟩
  · split
    · exact ⟨h, by simp⟩
    · split
      · exact ⟨Nat.mod_lt _ (by decide), Nat.le_refl _⟩
      · exact ⟨h, by simp⟩
theorem insB_next {D : Dk} {L : Lg} {rec : List UInt8} (h : L.next < 18446744073709551616) : (insB D L rec).2.1.next < 18446744073709551616 ∧ (insB D L rec).2.1.size ≤ L.size := by
  unfold insB
  split
  · exact ⟨h, Nat.le_refl _⟩
  · split
    · exact ⟨h, Nat.le_refl _⟩
    · split
      · exact ⟨h, Nat.zero_le _⟩
      · exact ⟨h, Nat.le_refl _⟩
end Go.Proofs.YtgobnnciijlpaaaDoor

