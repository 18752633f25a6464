/- A disk of dayshiftref03 in memory: its block, its files' block, the rows that it reads. The walks of right, counts, Safe, Fail, Read, New. -/
import Derived.Test.YtgobnnciijlpaaaDoorDkH
import Derived.Test.YtgobnnciijlpaaaDoorApp
namespace Go.Proofs.YtgobnnciijlpaaaDoor
open Go.ChangeShapes Go.WideShapes Go.ChangeAt Go.RowKit Go.DsMem Go.DsDk
set_option linter.unusedVariables false

def fcells (v : Nat → Value) (s : Nat → Nat) : List Value :=
  [v 0, .int .i64 (s 0), v 1, .int .i64 (s 1), v 2, .int .i64 (s 2), v 3, .int .i64 (s 3), v 4, .int .i64 (s 4), v 5, .int .i64 (s 5), v 6, .int .i64 (s 6), v 7, .int .i64 (s 7)]
/-- the block of a disk of the reference -/
def RH (w : World) (r g left : Nat) (dead : Bool) : Prop := ∃ c, 8 ≤ c ∧ w.heap[r]? = some (.cells #[.slice (some ⟨g, 0, none⟩) 8 c, .int .i64 left, .bool dead] 74 (0, 0))
/-- the block of its files -/
def RF (w : World) (g : Nat) (v : Nat → Value) (s : Nat → Nat) : Prop := ∃ ex : List Value, w.heap[g]? = some (.cells (fcells v s ++ ex).toArray 95 (0, 0))
section
variable {w : World} {r g left : Nat} {dead : Bool} {v : Nat → Value} {s : Nat → Nat}
theorem RH.lt (h : RH w r g left dead) : r < w.heap.size := by obtain ⟨c, _, h⟩ := h; exact block_lt h
theorem RH.filesC (h : RH w r g left dead) : ∃ c, 8 ≤ c ∧ w.cell? ⟨r, 0, none⟩ = some (.slice (some ⟨g, 0, none⟩) 8 c) := by obtain ⟨c, hc, h⟩ := h; exact ⟨c, hc, by rw [cell_of h]; rfl⟩
theorem RH.leftC (h : RH w r g left dead) : w.cell? ⟨r, 1, none⟩ = some (.int .i64 left) := by obtain ⟨c, _, h⟩ := h; rw [cell_of h]; rfl
theorem RH.deadC (h : RH w r g left dead) : w.cell? ⟨r, 2, none⟩ = some (.bool dead) := by obtain ⟨c, _, h⟩ := h; rw [cell_of h]; rfl
theorem RH.free (h : RH w r g left dead) (k : Nat) : w.frozen? ⟨r, k, none⟩ = false := by obtain ⟨c, _, h⟩ := h; exact frozen_of h
theorem RH.setLeft (h : RH w r g left dead) (n : Nat) : RH (w.setCell ⟨r, 1, none⟩ (.int .i64 n)) r g n dead := by obtain ⟨c, hc, h⟩ := h; exact ⟨c, hc, by rw [hset_same h]; rfl⟩
theorem RH.setDead (h : RH w r g left dead) (n : Bool) : RH (w.setCell ⟨r, 2, none⟩ (.bool n)) r g left n := by obtain ⟨c, hc, h⟩ := h; exact ⟨c, hc, by rw [hset_same h]; rfl⟩
theorem RH.only {w' : World} {S : Nat → Prop} (h : RH w r g left dead) (ho : Only S w w') (hn : ¬ S r) : RH w' r g left dead := by obtain ⟨c, hc, h⟩ := h; exact ⟨c, hc, by rw [ho.block r (block_lt h) hn]; exact h⟩
theorem RF.lt (h : RF w g v s) : g < w.heap.size := by obtain ⟨ex, h⟩ := h; exact block_lt h
theorem RF.bytes (h : RF w g v s) {f : Nat} (hf : f < 8) : w.cell? ⟨g, f * 2, none⟩ = some (v f) := by
  obtain ⟨ex, h⟩ := h
  rw [cell_of h, List.getElem?_toArray]; rcases nat8 hf with rfl | rfl | rfl | rfl | rfl | rfl | rfl | rfl <;> rfl
theorem RF.safe (h : RF w g v s) {f : Nat} (hf : f < 8) : w.cell? ⟨g, f * 2 + 1, none⟩ = some (.int .i64 (s f)) := by
  obtain ⟨ex, h⟩ := h
  rw [cell_of h, List.getElem?_toArray]; rcases nat8 hf with rfl | rfl | rfl | rfl | rfl | rfl | rfl | rfl <;> rfl
theorem RF.free (h : RF w g v s) (k : Nat) : w.frozen? ⟨g, k, none⟩ = false := by obtain ⟨ex, h⟩ := h; exact frozen_of h
theorem RF.setBytes (h : RF w g v s) {f : Nat} (hf : f < 8) (x : Value) : RF (w.setCell ⟨g, f * 2, none⟩ x) g (upd v f x) s := by
  obtain ⟨ex, h⟩ := h
  refine ⟨ex, ?_⟩
  rw [hset_same h, List.setIfInBounds_toArray]; rcases nat8 hf with rfl | rfl | rfl | rfl | rfl | rfl | rfl | rfl <;> rfl
theorem RF.setSafe (h : RF w g v s) {f : Nat} (hf : f < 8) (n : Nat) : RF (w.setCell ⟨g, f * 2 + 1, none⟩ (.int .i64 n)) g v (upd s f n) := by
  obtain ⟨ex, h⟩ := h
  refine ⟨ex, ?_⟩
  rw [hset_same h, List.setIfInBounds_toArray]; rcases nat8 hf with rfl | rfl | rfl | rfl | rfl | rfl | rfl | rfl <;> rfl
theorem RF.only {w' : World} {S : Nat → Prop} (h : RF w g v s) (ho : Only S w w') (hn : ¬ S g) : RF w' g v s := by obtain ⟨ex, h⟩ := h; exact ⟨ex, by rw [ho.block g (block_lt h) hn]; exact h⟩
end

/-- the slice value x, if it lies anywhere, lies in a block of T -/
def InT (T : Nat → Prop) (x : Value) : Prop := ∀ a n c, x = .slice (some a) n c → T a.block
theorem InT.mono {T U : Nat → Prop} {x : Value} (h : InT T x) (hu : ∀ k, T k → U k) : InT U x := fun a n c e => hu _ (h a n c e)
theorem InT.nil (T : Nat → Prop) (n c : Nat) : InT T (.slice none n c) := fun a n c e => by cases e
theorem Rd.onlyT {w w' : World} {S T : Nat → Prop} {x : Value} {l : List UInt8} (h : Rd w x l) (hT : InT T x) (ho : Only S w w') (hn : ∀ k, T k → ¬ S k) : Rd w' x l := by
  obtain ⟨ao, cap, rfl, hl, hnil, hr⟩ := h
  refine ⟨ao, cap, rfl, hl, hnil, fun a ha j u hu => ?_⟩
  subst ha
  exact ho.cell (hr a rfl j u hu) (by rw [add_block]; exact hn _ (hT a _ _ rfl))

/-- at block r lies a disk of the reference that is D; S: blocks that are its own -/
structure RefAt (w : World) (S : Nat → Prop) (r g : Nat) (v : Nat → Value) (D : Dk) : Prop where
  hd : RH w r g D.left D.dead
  fl : RF w g v D.s
  ne : r ≠ g
  rd : ∀ k, k < 8 → Rd w (v k) (D.b k)
  inn : ∀ k, k < 8 → InT (fun j => S j ∧ j ≠ r ∧ j ≠ g) (v k)
  sr : S r
  sg : S g
  lt : ∀ k, S k → k < w.heap.size
  ok : D.Ok
  few : D.Few
/-- what a call does to a disk of the reference, and to nothing else -/
structure RMoved (w : World) (S : Nat → Prop) (r g : Nat) (w' : World) (v' : Nat → Value) (D' : Dk) : Prop where
  dk : RefAt w' (fun k => S k ∨ w.heap.size ≤ k ∧ k < w'.heap.size) r g v' D'
  only : Only (fun k => k = r ∨ k = g) w w'
section
variable {w w' w1 w2 : World} {S T : Nat → Prop} {r g : Nat} {v v' v1 v2 : Nat → Value} {D D' D1 D2 : Dk}
theorem RefAt.mono (h : RefAt w S r g v D) (hs : ∀ k, S k → T k) (ht : ∀ k, T k → k < w.heap.size) : RefAt w T r g v D :=
  ⟨h.hd, h.fl, h.ne, h.rd, fun k hk => (h.inn k hk).mono fun j hj => ⟨hs j hj.1, hj.2⟩, hs _ h.sr, hs _ h.sg, ht, h.ok, h.few⟩
theorem RefAt.stays (h : RefAt w S r g v D) (ho : Only T w w') (hn : ∀ k, S k → ¬ T k) : RefAt w' S r g v D :=
  ⟨h.hd.only ho (hn _ h.sr), h.fl.only ho (hn _ h.sg), h.ne, fun k hk => Rd.onlyT (h.rd k hk) (h.inn k hk) ho (fun j hj => hn j hj.1), h.inn, h.sr, h.sg, fun k hk => Nat.lt_of_lt_of_le (h.lt k hk) ho.size, h.ok, h.few⟩
theorem RefAt.below (h : RefAt w S r g v D) (hb : Below w.heap.size w w') : RefAt w' S r g v D := h.stays (T := fun _ => False) (Only.below hb) (fun _ _ h => h)
/-- the rows stay where only the disk's own blocks are written -/
theorem RefAt.rows (h : RefAt w S r g v D) (ho : Only (fun k => k = r ∨ k = g) w w') {k : Nat} (hk : k < 8) : Rd w' (v k) (D.b k) :=
  Rd.onlyT (h.rd k hk) (h.inn k hk) ho (fun j hj e => by rcases e with e | e; exact hj.2.1 e; exact hj.2.2 e)
/-- other slices or numbers -/
theorem RMoved.mk' (h : RefAt w S r g v D) (ho : Only (fun k => k = r ∨ k = g) w w') (hh : RH w' r g D'.left D'.dead) (hf : RF w' g v' D'.s) (hr : ∀ k, k < 8 → Rd w' (v' k) (D'.b k))
    (hi : ∀ k, k < 8 → InT (fun j => (S j ∨ w.heap.size ≤ j ∧ j < w'.heap.size) ∧ j ≠ r ∧ j ≠ g) (v' k)) (hok : D'.Ok) (hfew : D'.Few) : RMoved w S r g w' v' D' :=
  ⟨⟨hh, hf, h.ne, hr, hi, .inl h.sr, .inl h.sg, fun k hk => by rcases hk with hk | hk; exact Nat.lt_of_lt_of_le (h.lt k hk) ho.size; exact hk.2, hok, hfew⟩, ho⟩
theorem RMoved.same (h : RefAt w S r g v D) (ho : Only (fun k => k = r ∨ k = g) w w') (hb : D'.b = D.b) (hh : RH w' r g D'.left D'.dead) (hf : RF w' g v D'.s) (hok : D'.Ok) (hfew : D'.Few) : RMoved w S r g w' v D' :=
  RMoved.mk' h ho hh hf (fun k hk => by rw [hb]; exact h.rows ho hk) (fun k hk => (h.inn k hk).mono fun j hj => ⟨.inl hj.1, hj.2⟩) hok hfew
theorem RMoved.refl (h : RefAt w S r g v D) : RMoved w S r g w v D := RMoved.same h (Only.refl _ _) rfl h.hd h.fl h.ok h.few
theorem RMoved.trans (h : RMoved w S r g w1 v1 D1) (k : RMoved w1 (fun k => S k ∨ w.heap.size ≤ k ∧ k < w1.heap.size) r g w2 v2 D2) : RMoved w S r g w2 v2 D2 := by
  have hs1 := h.only.size
  have hs2 := k.only.size
  refine ⟨k.dk.mono (fun j hj => ?_) (fun j hj => ?_), h.only.trans k.only fun _ _ h => h⟩
  · rcases hj with (hj | hj) | hj
    · exact .inl hj
    · exact .inr ⟨hj.1, by omega⟩
    · exact .inr ⟨by omega, hj.2⟩
  · rcases hj with hj | hj
    · have := h.dk.lt j (.inl hj); omega
    · exact hj.2
end

/-- right -/
theorem right_any (f : Int) (w : World) : Calls Tryd.prog 56 #[.int .i64 f] w fun e w' => e = .returned (.bool (okf f)) ∧ w' = w := by
  rcases (show f < 0 ∨ (0 ≤ f ∧ f < 8) ∨ 8 ≤ f by omega) with h | ⟨h1, h2⟩ | h
  · have HE : Hid (okf f = false) := by show _ = _; simp [okf]; omega
    go_enter Tryd.func56, Tryd.ntmps56
    go_wp2
    go_ret
    exact ⟨by (rw [HE.out]) <;> rfl, rfl⟩
  · have HE : Hid (okf f = true) := okf_yes h1 h2
    go_enter Tryd.func56, Tryd.ntmps56
    go_wp2
    go_ret
    exact ⟨by (rw [HE.out]) <;> rfl, rfl⟩
  · have HE : Hid (okf f = false) := by show _ = _; simp [okf]; omega
    have h0 : 0 ≤ f := by omega
    have h8 : decide (f < 8) = false := by simp; omega
    go_enter Tryd.func56, Tryd.ntmps56
    go_wp2
    go_ret
    exact ⟨by (rw [HE.out]) <;> rfl, rfl⟩

/-- counts, of a disk that is not dead -/
theorem counts_any (r g : Nat) (D : Dk) (w : World) (h : RH w r g D.left false) (hdd : D.dead = false) (hm : D.Few) :
    Calls Tryd.prog 57 #[.pointer (some ⟨r, 0, none⟩)] w fun e w' => e = .returned (.bool (decide (D.left = 1))) ∧ RH w' r g D.called.left D.called.dead ∧ Only (· = r) w w' := by
  have hm' : D.left ≤ 9223372036854775807 := hm
  have hl := h.leftC
  have hd := h.deadC
  have hf1 := h.free 1
  have hf2 := h.free 2
  have H := hide h
  have HD := hide hdd
  clear h hm hdd
  generalize hle : D.left = left at *
  have HL := hide hle
  clear hle
  rcases (show left = 0 ∨ left = 1 ∨ 2 ≤ left by omega) with rfl | rfl | h2
  · have HC : Hid (D.called = D) := by show _ = _; unfold Dk.called; rw [if_pos HL.out]
    go_enter Tryd.func57, Tryd.ntmps57
    go_wp2
    go_ret
    exact ⟨rfl, by rw [HC.out, HL.out, HD.out]; exact H.out, Only.refl _ _⟩
  · have HC : Hid (D.called.left = 0 ∧ D.called.dead = true) := by show _ ∧ _; unfold Dk.called; rw [if_neg (by rw [HL.out]; decide)]; simp [HL.out]
    go_enter Tryd.func57, Tryd.ntmps57
    go_wp2
    go_ret
    exact ⟨rfl, by rw [HC.out.1, HC.out.2]; exact (H.out.setLeft 0).setDead true, (Only.set _ _ _ _).trans (Only.set _ _ _ _) (fun _ _ h => h)⟩
  · have HC : Hid (D.called.left = left - 1 ∧ D.called.dead = false) := by
      show _ ∧ _
      unfold Dk.called
      rw [if_neg (by rw [HL.out]; omega)]
      simp [HL.out, HD.out]; omega
    have hne : ((left : Int) - 1 == 0) = false := by simp; omega
    go_enter Tryd.func57, Tryd.ntmps57
    go_wp2
    go_ret
    have := (H.out.setLeft (left - 1)).setDead false
    rw [show ((left - 1 : Nat) : Int) = (left : Int) - 1 by omega] at this
    exact ⟨by (rw [show decide (left = 1) = false by simp; omega]) <;> rfl, by rw [HC.out.1, HC.out.2]; exact this, (Only.set _ _ _ _).trans (Only.set _ _ _ _) (fun _ _ h => h)⟩

/-- Safe -/
theorem rsafe_any (S : Nat → Prop) (r g : Nat) (v : Nat → Value) (D : Dk) (f : Int) (w : World) (h : RefAt w S r g v D) :
    Calls Tryd.prog 61 #[.pointer (some ⟨r, 0, none⟩), .int .i64 f] w fun e w' => e = .returned (.int .i64 (D.safe f)) ∧ w' = w := by
  cases hok : okf f
  · have HE : Hid (D.safe f = 0) := by show _ = _; simp [Dk.safe, hok]
    have HO := hide hok
    clear hok
    go_enter Tryd.func61, Tryd.ntmps61
    go_wp2_with (go_at_call 56; refine (right_any f _).mono ?_; rintro e w' ⟨rfl, rfl⟩; rw [HO.out])
    go_ret
    exact ⟨by (rw [HE.out]) <;> rfl, rfl⟩
  · obtain ⟨hf0, hf8⟩ := okf_bd hok
    obtain ⟨k, rfl⟩ := Int.eq_ofNat_of_zero_le hf0
    have hk : k < 8 := by omega
    have HE : Hid (D.safe (k : Int) = D.s k) := by show _ = _; simp [Dk.safe, hok]
    obtain ⟨fc, hfc, hc0⟩ := h.hd.filesC
    have hcs := h.fl.safe hk
    have HO := hide hok
    clear hok h
    go_enter Tryd.func61, Tryd.ntmps61
    go_wp2_with (go_at_call 56; refine (right_any _ _).mono ?_; rintro e w' ⟨rfl, rfl⟩; rw [HO.out])
    go_ret
    exact ⟨by (rw [HE.out]) <;> rfl, rfl⟩

/-- Fail -/
theorem rfail_any (S : Nat → Prop) (r g : Nat) (v : Nat → Value) (D : Dk) (n : Int) (w : World) (h : RefAt w S r g v D) (hn : n ≤ 9223372036854775807) :
    Calls Tryd.prog 22 #[.pointer (some ⟨r, 0, none⟩), .int .i64 n] w fun e w' => e = .returned (.tuple #[]) ∧ RMoved w S r g w' v (D.fail n) := by
  have hl := h.hd.leftC
  have hf := h.hd.free 1
  rcases (show n < 1 ∨ 1 ≤ n by omega) with h1 | h1
  · go_enter Tryd.func22, Tryd.ntmps22
    go_wp2
    go_end0
    refine ⟨rfl, RMoved.same h ?_ rfl ?_ ?_ (h.ok.fail n) (Dk.Few.fail D n hn)⟩
    · exact ((Only.set _ _ _ _).trans (Only.set _ _ _ _) (fun _ _ h => h)).mono fun _ _ h => .inl h
    · have e : (D.fail n).left = 0 := by show n.toNat = 0; omega
      rw [e]
      obtain ⟨c, hc, hh⟩ := h.hd
      exact ⟨c, hc, hset_same (hset_same hh _) _⟩
    · exact h.fl.only ((Only.set _ _ _ _).trans (Only.set _ _ _ _) (fun _ _ h => h)) (fun e => h.ne e.symm)
  · go_enter Tryd.func22, Tryd.ntmps22
    go_wp2
    go_end0
    refine ⟨rfl, RMoved.same h ((Only.set _ _ _ _).mono fun _ _ h => .inl h) rfl ?_ (h.fl.only (Only.set _ _ _ _) (fun e => h.ne e.symm)) (h.ok.fail n) (Dk.Few.fail D n hn)⟩
    have hz := h.hd.setLeft n.toNat
    rw [show ((n.toNat : Nat) : Int) = n by omega] at hz
    exact hz

theorem empty_own (w : World) (B : Nat) : w.ownsRow B 5 1 (.slice none 0 0) 0 (bvs []) := World.ownsRow_nil _ _ _ _
set_option maxHeartbeats 1000000 in
/-- Read -/
theorem rread_any (S : Nat → Prop) (r g : Nat) (v : Nat → Value) (D : Dk) (f : Int) (w : World) (h : RefAt w S r g v D) :
    Calls Tryd.prog 45 #[.pointer (some ⟨r, 0, none⟩), .int .i64 f] w fun e w' => ∃ x, e = .returned (.tuple #[x, .int .i64 (D.read f).2]) ∧
      w'.ownsRow w.heap.size 5 1 x (D.read f).1.length (bvs (D.read f).1) ∧ Below w.heap.size w w' := by
  cases hok : okf f
  · have HE : Hid (D.read f = ([], 1)) := by show _ = _; simp [Dk.read, hok]
    have HO := hide hok
    clear hok
    go_enter Tryd.func45, Tryd.ntmps45
    go_wp2_with (go_at_call 56; refine (right_any f _).mono ?_; rintro e w' ⟨rfl, rfl⟩; rw [HO.out])
    go_ret2
    rw [HE.out]
    exact ⟨_, rfl, empty_own _ _, Below.refl _ _⟩
  · obtain ⟨hf0, hf8⟩ := okf_bd hok
    obtain ⟨k, rfl⟩ := Int.eq_ofNat_of_zero_le hf0
    have hk : k < 8 := by omega
    have HE : Hid (D.read (k : Int) = (D.b k, 0)) := by show _ = _; simp [Dk.read, hok]
    have hlen := (h.ok k hk).2
    obtain ⟨fc, hfc, hc0⟩ := h.hd.filesC
    have hcb := h.fl.bytes hk
    have hrd := h.rd k hk
    obtain ⟨ao, cap, hv, hcap, -⟩ := id hrd
    rw [hv] at hcb hrd
    have HRD := hide hrd
    have HO := hide hok
    clear hok h hrd hv
    go_enter Tryd.func45, Tryd.ntmps45
    go_wp2_with (first
      | (go_at_call 56; refine (right_any _ _).mono ?_; rintro e w' ⟨rfl, rfl⟩; rw [HO.out])
      | (at_builtin; refine wpList_append_rd rfl _ _ 28 rfl 5 Tryd.underlying28 info5 _ (.slice none 0 0) 0 [] rfl (empty_own _ _) _ (D.b k) rfl HRD.out (by omega) (Nat.le_refl _) ?_; intro v2 w2 hown2 hgrow2 _; have HO2 := hide hown2; have HG2 := hide hgrow2; clear hown2 hgrow2))
    go_ret2
    rw [HE.out]
    exact ⟨_, rfl, by have := HO2.out; rw [Nat.zero_add] at this; exact this, (Below.refl _ _).grown HG2.out (Nat.le_refl _) (fun _ h => by cases h)⟩

theorem infoF : (Tryd.prog.info? 95).map (fun i => (i.zero, i.size, i.bytes)) = some (some (.agg #[.slice none 0 0, .int .i64 0]), 2, 32) := by kernel_rfl
theorem made_files : (madeCells (Value.agg #[.slice none 0 0, .int .i64 0]).cells (8 * 2)).toList = fcells (fun _ => .slice none 0 0) (fun _ => 0) := by kernel_rfl
set_option maxHeartbeats 1000000 in
/-- New -/
theorem rnew_any (w : World) : Calls Tryd.prog 11 #[] w fun e w' => ∃ r g, e = .returned (.pointer (some ⟨r, 0, none⟩)) ∧
    RefAt w' (fun k => w.heap.size ≤ k ∧ k < w'.heap.size) r g (fun _ => .slice none 0 0) Dk.new ∧ Below w.heap.size w w' := by
  obtain ⟨i0, hi, hz0, hz1, hz2⟩ := info_parts infoF
  go_enter Tryd.func11, Tryd.ntmps11
  go_wp2_with (at_make; refine wpList_make_full _ rfl _ _ 72 rfl w.heap.size 95 i0 (.agg #[.slice none 0 0, .int .i64 0]) 2 Tryd.underlying72 hi hz0 hz1 _ _ _ _ 8 rfl rfl rfl rfl (by rw [hz2]; decide) (by decide) (Nat.le_refl _) ?_; intro w1 hown1 hgrow1; have HO1 := hide hown1; have HG1 := hide hgrow1; clear hown1 hgrow1)
  go_ret
  have hB1 := (Below.refl w.heap.size w).grown HG1.out (Nat.le_refl _) (fun _ h => by cases h)
  rcases HO1.out.2 with ⟨h, _⟩ | ⟨g, cap, cur, h, hb, hg, h1, h2, h3, h4⟩
  · cases h
  · simp only [Value.slice.injEq, Option.some.injEq, Addr.mk.injEq, and_true, true_and] at h
    obtain ⟨rfl, rfl⟩ := h
    rw [made_files, List.take_of_length_le (by simp; omega)] at h4
    have hg2 : w1.heap[w.heap.size]? = some (.cells (fcells (fun _ => .slice none 0 0) (fun _ => 0)).toArray 95 (0, 0)) := by rw [← h4]; simpa using hg
    have hz := block_lt hg
    refine ⟨w1.heap.size, w.heap.size, rfl, ⟨⟨8, Nat.le_refl _, heap_alloc_new w1 _⟩, ⟨[], ?_⟩, by omega, fun k _ => Rd.nil _, fun k _ => InT.nil _ _ _, ⟨by omega, by simp⟩, ⟨by omega, by simp; omega⟩, fun k hk => hk.2, Dk.Ok.new, Dk.Few.new⟩, hB1.alloc hB1.size _⟩
    rw [Below.heap_alloc _ _ _ hz, List.append_nil]
    exact hg2
end Go.Proofs.YtgobnnciijlpaaaDoor
