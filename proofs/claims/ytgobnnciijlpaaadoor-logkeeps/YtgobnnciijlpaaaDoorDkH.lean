/- A disk of one's own, call by call; a disk that is not there. -/
import Derived.Test.YtgobnnciijlpaaaDoorDkF
namespace Go.Proofs.YtgobnnciijlpaaaDoor
open Go.ChangeShapes Go.WideShapes Go.ChangeAt Go.RowKit Go.DsMem Go.DsDk
set_option linter.unusedVariables false

/-- all blocks of the disk are from B on -/
def Mine (B p : Nat) (v : Nat → Value) : Prop := ∀ k, foot p v k → B ≤ k
theorem Mine.new {B p : Nat} (h : B ≤ p) : Mine B p (fun _ => .slice none 0 0) := fun k hk => by
  rcases hk with rfl | ⟨f, _, hf⟩
  · exact h
  · simp [Value.ownBlock] at hf
theorem Mine.moved {B p : Nat} {v v' : Nat → Value} {w w' : World} {D : Dk} (h : Mine B p v) (hB : B ≤ w.heap.size) (hm : Moved w p v w' v' D) : Mine B p v' := fun k hk => by
  rcases hm.grow k hk with h1 | h1
  · exact h k h1
  · omega
theorem Mine.below {B p : Nat} {v v' : Nat → Value} {w w' : World} {D : Dk} (h : Mine B p v) (hB : B ≤ w.heap.size) (hm : Moved w p v w' v' D) : Below B w w' := hm.only.toBelow hB h

/-- a disk of one's own: it lies from B on, and below B nothing has turned since W -/
structure Own (B : Nat) (W w : World) (p : Nat) (v : Nat → Value) (D : Dk) : Prop where
  dk : DiskAt w p v D
  mine : Mine B p v
  below : Below B W w
  size : B ≤ w.heap.size
theorem Own.moved {B : Nat} {W w w' : World} {p : Nat} {v v' : Nat → Value} {D D' : Dk} (h : Own B W w p v D) (hm : Moved w p v w' v' D') : Own B W w' p v' D' :=
  ⟨hm.dk, h.mine.moved h.size hm, h.below.trans (h.mine.below h.size hm), Nat.le_trans h.size hm.only.size⟩
theorem Own.grew {B : Nat} {W w w' : World} {p : Nat} {v : Nat → Value} {D : Dk} (h : Own B W w p v D) (hb : Below w.heap.size w w') : Own B W w' p v D :=
  ⟨h.dk.below hb, h.mine, h.below.trans (hb.mono h.size), Nat.le_trans h.size hb.size⟩
theorem Own.alloc {B : Nat} {W w : World} {p : Nat} {v : Nat → Value} {D : Dk} (h : Own B W w p v D) (o : Obj) : Own B W (w.alloc o) p v D := h.grew ((Below.refl _ _).alloc (Nat.le_refl _) o)
theorem Own.drew {B : Nat} {W w : World} {p : Nat} {v : Nat → Value} {D : Dk} (h : Own B W w p v D) : Own B W w.drew p v D := h.grew (Below.refl _ _).drew
theorem Own.new {B : Nat} {W w w' : World} (hb : Below B W w) (hB : B ≤ w.heap.size) (h : DiskAt w' w.heap.size (fun _ => .slice none 0 0) Dk.new) (hb2 : Below w.heap.size w w') : Own B W w' w.heap.size (fun _ => .slice none 0 0) Dk.new :=
  ⟨h, Mine.new hB, hb.trans (hb2.mono hB), Nat.le_trans hB hb2.size⟩

/-- []byte("..") of a constant: the row is laid, and marked behind its end -/
theorem run_lit {P : Program} {t e : TypeId} (ht : P.underlying t = some (.slice e)) (he : P.underlying e = some (.int .u8)) (W : World) (cs : Array Value) (n c : Nat) :
    (convert t t (.slice (some ⟨W.heap.size, 0, none⟩) n c)).run P (W.alloc (.cells cs e)) = .ok (.slice (some ⟨W.heap.size, 0, none⟩) n c) (W.alloc (.cells cs e (cs.size, cs.size + 1))) := by
  have hsh : (W.alloc (.cells cs e)).shape? W.heap.size = some (e, cs.size) := by
    unfold World.shape?; rw [heap_alloc_new W]
  have hfr : (W.alloc (.cells cs e)).freeze ⟨W.heap.size, cs.size, none⟩ 1 = W.alloc (.cells cs e (cs.size, cs.size + 1)) := by
    unfold World.freeze
    simp only [World.alloc]
    rw [if_neg (by omega)]
    congr 1
    apply Array.ext_getElem?
    intro i
    rw [Array.getElem?_modify]
    by_cases h : W.heap.size = i
    · subst h; simp
    · have h' : ¬ i = W.heap.size := fun e => h e.symm
      simp [h, h', Array.getElem?_push]
  simp [convert, run_underlying ht, run_underlying he, markStringish, hsh, hfr]
theorem Rd.two (w : World) (a b : UInt8) (x y : Int) (hx : x = a.toNat) (hy : y = b.toNat) (t : TypeId) (fr : Nat × Nat) : Rd (w.alloc (.cells #[.int .u8 x, .int .u8 y] t fr)) (.slice (some ⟨w.heap.size, 0, none⟩) 2 2) [a, b] := by
  subst hx; subst hy
  refine ⟨_, 2, rfl, Nat.le_refl _, fun h => (by cases h), fun c hc j u hu => ?_⟩
  obtain rfl : (⟨w.heap.size, 0, none⟩ : Addr) = c := Option.some.inj hc
  rw [add_mk]
  unfold World.cell?
  rw [heap_alloc_new w]
  match j, hu with
  | 0, hu => simp at hu; subst hu; rfl
  | 1, hu => simp at hu; subst hu; rfl
theorem Rd.one (w : World) (a : UInt8) (x : Int) (hx : x = a.toNat) (t : TypeId) (fr : Nat × Nat) : Rd (w.alloc (.cells #[.int .u8 x] t fr)) (.slice (some ⟨w.heap.size, 0, none⟩) 1 1) [a] := by
  subst hx
  refine ⟨_, 1, rfl, Nat.le_refl _, fun h => (by cases h), fun c hc j u hu => ?_⟩
  obtain rfl : (⟨w.heap.size, 0, none⟩ : Addr) = c := Option.some.inj hc
  rw [add_mk]
  unfold World.cell?
  rw [heap_alloc_new w]
  match j, hu with
  | 0, hu => simp at hu; subst hu; rfl

theorem rdi_blk {W : World} {sl : Value} {ns : List Int} (h : RdI W sl ns) (h0 : 0 < ns.length) {k : Nat} (hk : sl.ownBlock = some k) : k < W.heap.size := by
  obtain ⟨ao, cap, rfl, _, _, hr⟩ := h
  cases ao with
  | none => simp [Value.ownBlock] at hk
  | some a =>
    have := World.block_lt_of_cell? W _ (hr a rfl 0 ns[0] (List.getElem?_eq_getElem h0))
    rw [add_block] at this
    simp [Value.ownBlock] at hk
    omega
theorem rdi_in {B : Nat} {W w : World} {sl : Value} {ns : List Int} (h : RdI W sl ns) (hb : Below B W w) (hB : W.heap.size ≤ B) : RdI w sl ns := h.mono fun _ _ hc => Below.keeps hb hB hc
theorem rd_in {B : Nat} {W w : World} {sl : Value} {l : List UInt8} (h : Rd W sl l) (hb : Below B W w) (hB : W.heap.size ≤ B) : Rd w sl l := h.mono fun _ _ hc => Below.keeps hb hB hc

/-- Crash of a disk of one's own, what stays told by numbers that came in -/
theorem Own.crash {W w : World} {p : Nat} {v : Nat → Value} {D : Dk} {sl : Value} {ns : List Int} (h : Own W.heap.size W w p v D) (hr : RdI W sl ns) :
    Calls Tryd.prog 25 #[.pointer (some ⟨p, 0, none⟩), sl] w fun e w' => e = .returned (.tuple #[]) ∧ ∃ v', Own W.heap.size W w' p v' (D.crash ns) := by
  refine (crash_any p v D ns sl w h.dk (rdi_in hr h.below (Nat.le_refl _)) (fun h0 k hk hf => ?_)).mono ?_
  · have := rdi_blk hr h0 hk
    have := h.mine k hf
    omega
  · rintro e w' ⟨rfl, v', hm⟩
    exact ⟨rfl, v', h.moved hm⟩
theorem Own.append {B : Nat} {W w : World} {p : Nat} {v : Nat → Value} {D : Dk} {sl : Value} {b : List UInt8} (f : Int) (h : Own B W w p v D) (hr : Rd w sl b) :
    Calls Tryd.prog 23 #[.pointer (some ⟨p, 0, none⟩), .int .i64 f, sl] w fun e w' => e = .returned (.int .i64 (D.append f b).2) ∧ ∃ v', Own B W w' p v' (D.append f b).1 := by
  refine (append_any p v D f sl b w h.dk hr).mono ?_
  rintro e w' ⟨rfl, v', hm⟩
  exact ⟨rfl, v', h.moved hm⟩
theorem Own.sync {B : Nat} {W w : World} {p : Nat} {v : Nat → Value} {D : Dk} (f : Int) (h : Own B W w p v D) :
    Calls Tryd.prog 68 #[.pointer (some ⟨p, 0, none⟩), .int .i64 f] w fun e w' => e = .returned (.int .i64 (D.sync f).2) ∧ ∃ v', Own B W w' p v' (D.sync f).1 := by
  refine (sync_any p v D f w h.dk).mono ?_
  rintro e w' ⟨rfl, hm⟩
  exact ⟨rfl, v, h.moved hm⟩
theorem Own.clear {B : Nat} {W w : World} {p : Nat} {v : Nat → Value} {D : Dk} (f : Int) (h : Own B W w p v D) :
    Calls Tryd.prog 67 #[.pointer (some ⟨p, 0, none⟩), .int .i64 f] w fun e w' => e = .returned (.int .i64 (D.clear f).2) ∧ ∃ v', Own B W w' p v' (D.clear f).1 := by
  refine (clear_any p v D f w h.dk).mono ?_
  rintro e w' ⟨rfl, v', hm⟩
  exact ⟨rfl, v', h.moved hm⟩
theorem Own.rename {B : Nat} {W w : World} {p : Nat} {v : Nat → Value} {D : Dk} (f g : Int) (h : Own B W w p v D) :
    Calls Tryd.prog 69 #[.pointer (some ⟨p, 0, none⟩), .int .i64 f, .int .i64 g] w fun e w' => e = .returned (.int .i64 (D.rename f g).2) ∧ ∃ v', Own B W w' p v' (D.rename f g).1 := by
  refine (rename_any p v D f g w h.dk).mono ?_
  rintro e w' ⟨rfl, v', hm⟩
  exact ⟨rfl, v', h.moved hm⟩
theorem Own.fail {B : Nat} {W w : World} {p : Nat} {v : Nat → Value} {D : Dk} (n : Int) (h : Own B W w p v D) (hn : n ≤ 9223372036854775807) :
    Calls Tryd.prog 21 #[.pointer (some ⟨p, 0, none⟩), .int .i64 n] w fun e w' => e = .returned (.tuple #[]) ∧ ∃ v', Own B W w' p v' (D.fail n) := by
  refine (fail_any p v D n w h.dk hn).mono ?_
  rintro e w' ⟨rfl, hm⟩
  exact ⟨rfl, v, h.moved hm⟩
theorem Own.read {B : Nat} {W w : World} {p : Nat} {v : Nat → Value} {D : Dk} (f : Int) (h : Own B W w p v D) :
    Calls Tryd.prog 59 #[.pointer (some ⟨p, 0, none⟩), .int .i64 f] w fun e w' => ∃ x, e = .returned (.tuple #[x, .int .i64 (D.read f).2]) ∧
      w'.ownsRow w.heap.size 5 1 x (D.read f).1.length (bvs (D.read f).1) ∧ Below w.heap.size w w' ∧ Own B W w' p v D := by
  refine (read_any p v D f w h.dk).mono ?_
  rintro e w' ⟨x, rfl, hx, hb⟩
  exact ⟨x, rfl, hx, hb, h.grew hb⟩
theorem Own.safe {B : Nat} {W w : World} {p : Nat} {v : Nat → Value} {D : Dk} (f : Int) (h : Own B W w p v D) :
    Calls Tryd.prog 60 #[.pointer (some ⟨p, 0, none⟩), .int .i64 f] w fun e w' => e = .returned (.int .i64 (D.safe f)) ∧ Below w.heap.size w w' ∧ Own B W w' p v D := by
  refine (safe_any p v D f w h.dk).mono ?_
  rintro e w' ⟨rfl, hb⟩
  exact ⟨rfl, hb, h.grew hb⟩

/-- a slice of bytes that came in -/
theorem row_rd {w : World} {a : Option Addr} {len cap : Nat} {zs : List Int} (h : (a = none ∧ len = 0 ∧ cap = 0 ∧ zs = []) ∨
    ∃ x, a = some x ∧ len ≤ cap ∧ cap ≤ maxLen ∧ zs.length = cap ∧ (∀ i, i < zs.length → w.cell? (x.add i) = some (.int .u8 (zs.getD i 0))) ∧ ∀ n ∈ zs, (Lit.int .u8 n).wf = true) :
    ∃ l : List UInt8, l.length = len ∧ Rd w (.slice a len cap) l := by
  rcases h with ⟨rfl, rfl, rfl, rfl⟩ | ⟨x, rfl, hl, hm, hz, hc, hw⟩
  · exact ⟨[], rfl, Rd.nil w⟩
  · have hlen : ((zs.take len).map (fun n => UInt8.ofNat n.toNat)).length = len := by simp; omega
    refine ⟨(zs.take len).map (fun n => UInt8.ofNat n.toNat), hlen, some x, cap, by rw [hlen], by rw [hlen]; exact hl, fun h => (by cases h), fun y hy j u hu => ?_⟩
    obtain rfl : x = y := Option.some.inj hy
    have hj : j < len := by
      have := (List.getElem?_eq_some_iff.1 hu).1
      omega
    rw [hc j (by omega)]
    have hjz : j < zs.length := by omega
    have hu2 : UInt8.ofNat (zs[j]).toNat = u := by
      simp [hj, List.getElem?_eq_getElem hjz] at hu
      exact hu
    have hb := bounds_u8 (hw zs[j] (List.getElem_mem hjz))
    have : zs.getD j 0 = (u.toNat : Int) := by
      simp only [List.getD, List.getElem?_eq_getElem hjz, Option.getD_some]
      rw [← hu2]
      simp
      omega
    rw [this]; rfl
theorem row_rdi {w : World} {a : Option Addr} {len cap : Nat} {zs : List Int} (h : (a = none ∧ len = 0 ∧ cap = 0 ∧ zs = []) ∨
    ∃ x, a = some x ∧ len ≤ cap ∧ cap ≤ maxLen ∧ zs.length = cap ∧ (∀ i, i < zs.length → w.cell? (x.add i) = some (.int .i64 (zs.getD i 0))) ∧ ∀ n ∈ zs, (Lit.int .i64 n).wf = true) :
    ∃ l : List Int, l.length = len ∧ RdI w (.slice a len cap) l := by
  rcases h with ⟨rfl, rfl, rfl, rfl⟩ | ⟨x, rfl, hl, hm, hz, hc, hw⟩
  · exact ⟨[], rfl, RdI.nil w⟩
  · have hlen : (zs.take len).length = len := by simp; omega
    refine ⟨zs.take len, hlen, some x, cap, by rw [hlen], by rw [hlen]; exact hl, fun h => (by cases h), fun y hy j u hu => ?_⟩
    obtain rfl : x = y := Option.some.inj hy
    have hj : j < len := by
      have := (List.getElem?_eq_some_iff.1 hu).1
      omega
    have hjz : j < zs.length := by omega
    rw [hc j hjz]
    simp [hj, List.getElem?_eq_getElem hjz] at hu
    simp [List.getD, List.getElem?_eq_getElem hjz, hu]

/-! a disk that is not there -/
theorem read_nil (f : Value) (w : World) : Calls Tryd.prog 59 #[.pointer none, f] w fun e w' => e = .returned (.tuple #[.slice none 0 0, .int .i64 2]) ∧ w' = w := by
  go_enter Tryd.func59, Tryd.ntmps59
  go_wp2
  go_ret2
  exact ⟨rfl, rfl⟩
theorem fail_nil (f : Value) (w : World) : Calls Tryd.prog 21 #[.pointer none, f] w fun e w' => e = .returned (.tuple #[]) ∧ w' = w := by
  go_enter Tryd.func21, Tryd.ntmps21
  go_wp2
  go_end0
  exact ⟨rfl, rfl⟩
theorem crash_nil (f : Value) (w : World) : Calls Tryd.prog 25 #[.pointer none, f] w fun e w' => e = .returned (.tuple #[]) ∧ w' = w := by
  go_enter Tryd.func25, Tryd.ntmps25
  go_wp2
  go_returns
  exact ⟨rfl, rfl⟩
theorem append_nil (f : Int) (b : Value) (w : World) : Calls Tryd.prog 23 #[.pointer none, .int .i64 f, b] w fun e w' => e = .returned (.int .i64 2) ∧ Below w.heap.size w w' := by
  go_enter Tryd.func23, Tryd.ntmps23
  go_wp2_with (go_at_call 54; refine (refuse_nil [] _ _).mono ?_; rintro e w' ⟨rfl, rfl⟩)
  go_ret
  exact ⟨rfl, (Below.refl _ _).alloc (Nat.le_refl _) _⟩
theorem start_nil (b : Value) (w : World) : Calls Tryd.prog 74 #[.pointer none, b] w fun e w' => e = .returned (.int .i64 2) ∧ w' = w := by
  go_enter Tryd.func74, Tryd.ntmps74
  go_wp2_with (go_at_call 54; refine (refuse_nil [] _ _).mono ?_; rintro e w' ⟨rfl, rfl⟩)
  go_ret
  exact ⟨rfl, rfl⟩
theorem sync_nil (f : Int) (w : World) : Calls Tryd.prog 68 #[.pointer none, .int .i64 f] w fun e w' => e = .returned (.int .i64 2) ∧ Below w.heap.size w w' := by
  go_enter Tryd.func68, Tryd.ntmps68
  go_wp2_with (go_at_call 74; refine (start_nil _ _).mono ?_; rintro e w' ⟨rfl, rfl⟩)
  go_ret
  exact ⟨rfl, (Below.refl _ _).alloc (Nat.le_refl _) _⟩
theorem rename_nil (f g : Int) (w : World) : Calls Tryd.prog 69 #[.pointer none, .int .i64 f, .int .i64 g] w fun e w' => e = .returned (.int .i64 2) ∧ Below w.heap.size w w' := by
  go_enter Tryd.func69, Tryd.ntmps69
  go_wp2_with (go_at_call 74; refine (start_nil _ _).mono ?_; rintro e w' ⟨rfl, rfl⟩)
  go_ret
  exact ⟨rfl, (Below.refl _ _).alloc (Nat.le_refl _) _⟩
theorem clear_nil (f : Int) (w : World) : Calls Tryd.prog 67 #[.pointer none, .int .i64 f] w fun e w' => e = .returned (.int .i64 2) ∧ Below w.heap.size w w' := by
  go_enter Tryd.func67, Tryd.ntmps67
  go_wp2_with (go_at_call 74; refine (start_nil _ _).mono ?_; rintro e w' ⟨rfl, rfl⟩)
  go_ret
  exact ⟨rfl, (Below.refl _ _).alloc (Nat.le_refl _) _⟩
theorem safe_nil (f : Int) (w : World) : Calls Tryd.prog 60 #[.pointer none, .int .i64 f] w fun e w' => e = .returned (.int .i64 0) ∧ w' = w := by
  go_enter Tryd.func60, Tryd.ntmps60
  go_wp2_with fail
  go_ret
  exact ⟨rfl, rfl⟩
theorem dead_nil (w : World) : Calls Tryd.prog 62 #[.pointer none] w fun e w' => e = .returned (.bool false) ∧ w' = w := by
  go_enter Tryd.func62, Tryd.ntmps62
  go_wp2
  go_ret
  exact ⟨rfl, rfl⟩
end Go.Proofs.YtgobnnciijlpaaaDoor
