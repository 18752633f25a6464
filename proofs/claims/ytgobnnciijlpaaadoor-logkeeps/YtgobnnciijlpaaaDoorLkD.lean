/- What LogKeeps holds: a log on its disk, and the lists of what was said to be there. -/
import Derived.Test.YtgobnnciijlpaaaDoorLkC
import Derived.Test.YtgobnnciijlpaaaDoorLlD
import Derived.Test.YtgobnnciijlpaaaDoorAct4
import Derived.Deep.RegionLawGrows
namespace Go.Proofs.YtgobnnciijlpaaaDoor
open Go.ChangeShapes Go.WideShapes Go.ChangeAt Go.RowKit Go.DsMem Go.DsDk Go.DsLg
set_option linter.unusedVariables false

theorem own_base {w : World} {B B' : Nat} {e : TypeId} {v : Value} {n : Nat} {xs : List Value} (h : w.ownsRow B e 1 v n xs) (hB : B' ≤ B) : w.ownsRow B' e 1 v n xs := by
  refine ⟨h.1, ?_⟩
  rcases h.2 with h0 | ⟨g, cap, cur, rfl, hb, r⟩
  · exact .inl h0
  · exact .inr ⟨g, cap, cur, rfl, Nat.le_trans hB hb, r⟩

theorem new_cell1 (w : World) (x : Value) (t : TypeId) : ∀ (j : Nat) (u : Value), [x][j]? = some u → (w.alloc (.cells #[x] t)).cell? ((⟨w.heap.size, 0, none⟩ : Addr).add j) = some u := by
  intro j u hu
  match j, hu with
  | 0, hu =>
    simp at hu; subst hu
    unfold World.cell?
    rw [add_mk, heap_alloc_new w]
    rfl

theorem ad_size (w : World) (o : Obj) : (w.alloc o).drew.heap.size = w.heap.size + 1 := Array.size_push _

/-- a list of records that lies beside the disk; the records are the caller's -/
structure Held (W w : World) (p : Nat) (v : Nat → Value) (rv : Value) (recs : List (List UInt8)) : Prop where
  row : ∃ vals : List Value, w.ownsRow W.heap.size 28 1 rv recs.length vals ∧ ∀ (i : Nat) (r : List UInt8), recs[i]? = some r → ∃ xo xc, vals[i]? = some (.slice xo r.length xc) ∧ Rd W (.slice xo r.length xc) r
  off : ∀ k, rv.ownBlock = some k → ¬ foot p v k
section
variable {W w w' : World} {p l : Nat} {v v' : Nat → Value} {D D' : Dk} {L L' : Lg} {rv : Value} {recs : List (List UInt8)}
theorem Held.nil (W w : World) (p : Nat) (v : Nat → Value) : Held W w p v (.slice none 0 0) [] :=
  ⟨⟨[], World.ownsRow_nil _ _ _ _, fun i r h => by simp at h⟩, fun k h => by simp [Value.ownBlock] at h⟩
theorem Held.lt (h : Held W w p v rv recs) {k : Nat} (hk : rv.ownBlock = some k) : W.heap.size ≤ k ∧ k < w.heap.size := by
  obtain ⟨vals, h1, _⟩ := h.row
  exact h1.lt k hk
theorem Held.shape (h : Held W w p v rv recs) : ∃ ao cap, rv = .slice ao recs.length cap ∧ recs.length ≤ cap ∧ (ao = none → recs.length = 0 ∧ cap = 0) := by
  obtain ⟨vals, h1, _⟩ := h.row
  rcases h1.2 with ⟨rfl, h0⟩ | ⟨g, cap, cur, rfl, _, _, hc, _⟩
  · exact ⟨none, 0, by rw [h0], by omega, fun _ => ⟨h0, rfl⟩⟩
  · exact ⟨_, cap, rfl, hc, fun h => by cases h⟩
theorem Held.same (h : Held W w p v rv recs) (hs : ∀ k, rv.ownBlock = some k → w'.heap[k]? = w.heap[k]?) (hf : ∀ k, foot p v' k → foot p v k ∨ w.heap.size ≤ k) : Held W w' p v' rv recs := by
  obtain ⟨vals, h1, h2⟩ := h.row
  refine ⟨⟨vals, own_same h1 hs, h2⟩, fun k hk hf' => ?_⟩
  rcases hf k hf' with h3 | h3
  · exact h.off k hk h3
  · have := (h.lt hk).2; omega
theorem Held.moved (h : Held W w p v rv recs) (hm : Moved w p v w' v' D') : Held W w' p v' rv recs :=
  h.same (fun k hk => hm.only.block k (h.lt hk).2 (h.off k hk)) hm.grow
theorem Held.lmoved (h : Held W w p v rv recs) (hl : ∀ k, rv.ownBlock = some k → k ≠ l) (hm : LMoved w p v l w' v' D' L') : Held W w' p v' rv recs :=
  h.same (fun k hk => hm.only.block k (h.lt hk).2 (fun e => by rcases e with e | e; exact h.off k hk e; exact hl k hk e)) hm.grow
theorem Held.grew (h : Held W w p v rv recs) (hb : Below w.heap.size w w') : Held W w' p v rv recs :=
  h.same (fun k hk => hb.block k (h.lt hk).2) (fun k hk => .inl hk)
theorem Held.rds (h : Held W w p v rv recs) (hb : Below W.heap.size W w) : RdLs w rv recs := by
  obtain ⟨vals, h1, h2⟩ := h.row
  exact ListOf.rds (B := W.heap.size) (vals := vals) ⟨h1, fun i r hr => by obtain ⟨xo, xc, a, b⟩ := h2 i r hr; exact ⟨xo, xc, a, rd_in b hb (Nat.le_refl _)⟩⟩
/-- its cells -/
theorem Held.cells (h : Held W w p v rv recs) : ∃ vals : List Value, vals.length = recs.length ∧ (∀ ao n c, rv = .slice ao n c → ∀ b, ao = some b → ∀ j u, vals[j]? = some u → w.cell? (b.add j) = some u) ∧
    ∀ (i : Nat) (r : List UInt8), recs[i]? = some r → ∃ xo xc, vals[i]? = some (.slice xo r.length xc) ∧ Rd W (.slice xo r.length xc) r := by
  obtain ⟨vals, h1, h2⟩ := h.row
  refine ⟨vals, by have := h1.1; omega, fun ao n c he b hb j u hj => ?_, h2⟩
  subst he; subst hb
  rcases h1.2 with ⟨he, h0⟩ | ⟨g, cap, cur, he, hbg, hg, _⟩
  · cases he
  · cases he
    exact h1.cells (g := g) rfl j u hj
/-- a record more, in a row of its own -/
theorem Held.more (hW : Below W.heap.size W w) (hWs : W.heap.size ≤ w.heap.size) {vals : List Value} {r : List UInt8} {xo : Option Addr} {xc : Nat} (hl : vals.length = recs.length)
    (h2 : ∀ (i : Nat) (r : List UInt8), recs[i]? = some r → ∃ xo xc, vals[i]? = some (.slice xo r.length xc) ∧ Rd W (.slice xo r.length xc) r) (hr : Rd W (.slice xo r.length xc) r)
    (ho : w'.ownsRow w.heap.size 28 1 rv (recs.length + 1) (vals ++ [.slice xo r.length xc])) (hd : ∀ k, foot p v k → k < w.heap.size) : Held W w' p v rv (recs ++ [r]) := by
  refine ⟨⟨vals ++ [.slice xo r.length xc], by rw [List.length_append]; exact own_base ho hWs, fun i s hs => ?_⟩, fun k hk hf => ?_⟩
  · by_cases hi : i < recs.length
    · rw [List.getElem?_append_left hi] at hs
      obtain ⟨yo, yc, a, b⟩ := h2 i s hs
      exact ⟨yo, yc, by rw [List.getElem?_append_left (by omega)]; exact a, b⟩
    · rw [List.getElem?_append_right (by omega)] at hs
      have hlt := (List.getElem?_eq_some_iff.1 hs).1
      have h0 : i - recs.length = 0 := by simp at hlt; omega
      rw [h0] at hs
      simp at hs
      subst hs
      exact ⟨xo, xc, by rw [List.getElem?_append_right (by omega), hl, h0]; rfl, hr⟩
  · have h1 := (ho.lt k hk).1
    have := hd k hf
    omega
end

/-- a log is open, and what was said to be there stands on its disk -/
structure UpAt (W w : World) (p k : Nat) (v : Nat → Value) (D : Dk) (l size : Nat) (snap : List UInt8) (recs : List (List UInt8)) (next seq f : Nat) (all : List (List UInt8)) (sv rv : Value) : Prop where
  own : OwnG W w p v D l ⟨next, size, false⟩
  st : Stands D snap recs next seq f all []
  live : D.dead = false
  len : (D.b 0).length ≤ 1016 * k
  nx : next ≤ k + 1
  sz : size ≤ k
  hs : Rd W sv snap
  held : Held W w p v rv recs
  hl : ∀ j, rv.ownBlock = some j → j ≠ l
inductive Up (W w : World) (p k : Nat) : Value → Value → Value → Prop where
  | mk (v : Nat → Value) (D : Dk) (l size : Nat) (snap : List UInt8) (recs : List (List UInt8)) (next seq f : Nat) (all : List (List UInt8)) (so : Option Addr) (sc : Nat) (ro : Option Addr) (rc : Nat)
      (h : UpAt W w p k v D l size snap recs next seq f all (.slice so snap.length sc) (.slice ro recs.length rc)) :
      Up W w p k (.pointer (some ⟨l, 0, none⟩)) (.slice so snap.length sc) (.slice ro recs.length rc)
/-- behind a call: it was answered; or the power has gone, and behind a crash there is what was, or what was under way -/
inductive Aft (W w : World) (p k n0 : Nat) (sv rv : Value) : Value → Value → Value → Value → Prop where
  | up (lv s r : Value) (h : Up W w p (k + 1) lv s r) : Aft W w p k n0 sv rv lv s r (.int .i64 0)
  | down (v : Nat → Value) (D : Dk) (snap snap' : List UInt8) (recs recs' : List (List UInt8)) (so' : Option Addr) (sc' : Nat) (ro' : Option Addr) (rc' : Nat) (lv : Value) (own : Own W.heap.size W w p v D) (off : ¬ foot p v n0)
      (hc : ∀ keep, Fine (D.crash keep) snap recs (k + 1) ∨ Fine (D.crash keep) snap' recs' (k + 1)) (hs : Rd W sv snap) (hs' : Rd W (.slice so' snap'.length sc') snap')
      (held : Held W w p v rv recs) (held' : Held W w p v (.slice ro' recs'.length rc') recs') (hl : recs.length ≤ k + 1) (hl' : recs'.length ≤ k + 1) :
      Aft W w p k n0 sv rv lv (.slice so' snap'.length sc') (.slice ro' recs'.length rc') (.int .i64 13)
section
variable {W w w' w1 w2 : World} {p k n0 : Nat} {v v1 : Nat → Value} {D : Dk} {l size : Nat} {snap : List UInt8} {recs : List (List UInt8)} {next seq f : Nat} {all : List (List UInt8)} {sv rv : Value} {so ro : Option Addr} {sc rc : Nat}
theorem UpAt.grew (h : UpAt W w p k v D l size snap recs next seq f all sv rv) (hb : Below w.heap.size w w') : UpAt W w' p k v D l size snap recs next seq f all sv rv :=
  ⟨h.own.grew hb, h.st, h.live, h.len, h.nx, h.sz, h.hs, h.held.grew hb, h.hl⟩
theorem UpAt.mono {j : Nat} (h : UpAt W w p k v D l size snap recs next seq f all sv rv) (hj : k ≤ j) : UpAt W w p j v D l size snap recs next seq f all sv rv :=
  ⟨h.own, h.st, h.live, by have := h.len; omega, by have := h.nx; omega, by have := h.sz; omega, h.hs, h.held, h.hl⟩
theorem UpAt.fail (h : UpAt W w p k v D l size snap recs next seq f all sv rv) {n : Int} (hm : Moved w p v w' v (D.fail n)) : UpAt W w' p k v (D.fail n) l size snap recs next seq f all sv rv :=
  ⟨h.own.dmoved hm, h.st.files rfl rfl rfl rfl, h.live, h.len, h.nx, h.sz, h.hs, h.held.moved hm, h.hl⟩
theorem Up.below {lv : Value} (h : Up W w p k lv sv rv) : Below W.heap.size W w ∧ W.heap.size ≤ w.heap.size := by
  obtain ⟨v, D, l, size, snap, recs, next, seq, f, all, so, sc, ro, rc, h⟩ := h
  exact ⟨h.own.own.below, h.own.own.size⟩
theorem Up.grew {lv : Value} (h : Up W w p k lv sv rv) (hb : Below w.heap.size w w') : Up W w' p k lv sv rv := by
  obtain ⟨v, D, l, size, snap, recs, next, seq, f, all, so, sc, ro, rc, h⟩ := h
  exact .mk v D l size snap recs next seq f all so sc ro rc (h.grew hb)
theorem Up.mono {lv : Value} {j : Nat} (h : Up W w p k lv sv rv) (hj : k ≤ j) : Up W w p j lv sv rv := by
  obtain ⟨v, D, l, size, snap, recs, next, seq, f, all, so, sc, ro, rc, h⟩ := h
  exact .mk v D l size snap recs next seq f all so sc ro rc (h.mono hj)
/-- a block that was there is none of the disk's new ones -/
theorem off_grow {v1 : Nat → Value} (hg : ∀ k, foot p v1 k → foot p v k ∨ w.heap.size ≤ k) (h : ¬ foot p v n0) (hlt : n0 < w.heap.size) : ¬ foot p v1 n0 := fun hf => by
  rcases hg n0 hf with h1 | h1
  · exact h h1
  · omega
theorem UpAt.count (h : UpAt W w p k v D l size snap recs next seq f all sv rv) : recs.length ≤ k := by have := h.st.nxt; have := h.nx; omega
theorem UpAt.fine (h : UpAt W w p k v D l size snap recs next seq f all sv rv) (keep : List Int) : Fine (D.crash keep) snap recs (k + 1) :=
  ⟨Calm.crash _ _, Nat.le_trans (crash_len D keep) (by have := h.len; omega), next, seq, f, all, [], h.st.crash keep, by have := h.nx; omega⟩
/-- nothing is under way -/
theorem UpAt.still (h : UpAt W w p k v D l size snap recs next seq f all (.slice so snap.length sc) (.slice ro recs.length rc)) (hn : ¬ foot p v n0) (lv : Value) :
    Aft W w p k n0 (.slice so snap.length sc) (.slice ro recs.length rc) lv (.slice so snap.length sc) (.slice ro recs.length rc) (.int .i64 13) :=
  .down v D snap snap recs recs so sc ro rc lv h.own.own hn (fun keep => .inl (h.fine keep)) h.hs h.hs h.held h.held (Nat.le_succ_of_le h.count) (Nat.le_succ_of_le h.count)
/-- Append -/
theorem UpAt.append (h : UpAt W w p k v D l size snap recs next seq f all (.slice so snap.length sc) (.slice ro recs.length rc)) {b : List UInt8} (hb : b.length ≤ 1000) (hk : k < 40)
    (hm : LMoved w p v l w1 v1 (appB D ⟨next, size, false⟩ b).1 (appB D ⟨next, size, false⟩ b).2.1) (hg : Below w1.heap.size w1 w2) {ro' : Option Addr} {rc' : Nat} (held' : Held W w2 p v1 (.slice ro' (recs ++ [b]).length rc') (recs ++ [b]))
    (hj : ∀ j, (Value.slice ro' (recs ++ [b]).length rc').ownBlock = some j → w1.heap.size ≤ j) (hn : ¬ foot p v n0) (hlt : n0 < w.heap.size) :
    Aft W w2 p k n0 (.slice so snap.length sc) (.slice ro recs.length rc) (.pointer (some ⟨l, 0, none⟩)) (.slice so snap.length sc) (.slice ro' (recs ++ [b]).length rc') (.int .i64 (appB D ⟨next, size, false⟩ b).2.2) := by
  have hlen := h.len
  have hnx := h.nx
  have hsz := h.sz
  have hll := block_lt h.own.log
  have hw1 := hm.only.size
  rcases h.st.appended h.live size (rec := b) hb (by omega) (by omega) with ⟨e, hs, hlv, hl⟩ | ⟨e, hc⟩
  · rw [e] at hm ⊢
    exact .up _ _ _ (.mk v1 _ l (size + 1) snap (recs ++ [b]) (next + 1) seq f (all ++ [b]) so sc ro' rc' ⟨(h.own.moved hm).grew hg, hs, hlv, by omega, by omega, by omega, h.hs, held', fun j hj' => by have := hj j hj'; omega⟩)
  · rw [e]
    refine .down v1 _ snap snap recs (recs ++ [b]) so sc ro' rc' _ ((h.own.moved hm).grew hg).own (off_grow hm.grow hn hlt) (fun keep => ?_) h.hs h.hs ((h.held.lmoved h.hl hm).grew hg) held' (Nat.le_succ_of_le h.count) (by rw [List.length_append]; have := h.count; simp; omega)
    obtain ⟨h1, h2⟩ := hc keep
    rcases h1 with ⟨t, h1⟩ | h1
    · exact .inl ⟨Calm.crash _ _, by omega, next, seq, f, all, t, h1, by omega⟩
    · exact .inr ⟨Calm.crash _ _, by omega, next + 1, seq, f, all ++ [b], [], h1, by omega⟩
/-- Install -/
theorem UpAt.install (h : UpAt W w p k v D l size snap recs next seq f all (.slice so snap.length sc) (.slice ro recs.length rc)) {b : List UInt8} (hb : b.length ≤ 1000) (hk : k < 40)
    (hm : LMoved w p v l w1 v1 (insB D ⟨next, size, false⟩ b).1 (insB D ⟨next, size, false⟩ b).2.1) {bo : Option Addr} {bc : Nat} (hr : Rd W (.slice bo b.length bc) b) (hn : ¬ foot p v n0) (hlt : n0 < w.heap.size) :
    Aft W w1 p k n0 (.slice so snap.length sc) (.slice ro recs.length rc) (.pointer (some ⟨l, 0, none⟩)) (.slice bo b.length bc) (.slice none 0 0) (.int .i64 (insB D ⟨next, size, false⟩ b).2.2) := by
  have hlen := h.len
  have hnx := h.nx
  have hsz := h.sz
  have hn0 : (Value.slice none 0 0) = .slice none ([] : List (List UInt8)).length 0 := rfl
  rcases h.st.installed h.live size (sn := b) hb (by omega) with ⟨e, hs, hlv, hl⟩ | ⟨e, hc, hl⟩
  · rw [e] at hm ⊢
    exact .up _ _ _ (.mk v1 _ l 0 b [] next (next - 1) next [] bo bc none 0 ⟨h.own.moved hm, hs, hlv, by omega, by omega, by omega, hr, Held.nil _ _ _ _, fun j hj' => by simp [Value.ownBlock] at hj'⟩)
  · rw [e]
    refine .down v1 _ snap b recs [] bo bc none 0 _ (h.own.moved hm).own (off_grow hm.grow hn hlt) (fun keep => ?_) h.hs hr (h.held.lmoved h.hl hm) (Held.nil _ _ _ _) (Nat.le_succ_of_le h.count) (Nat.zero_le _)
    rcases hc with h1 | h1
    · exact .inl ⟨Calm.crash _ _, Nat.le_trans (crash_len _ keep) (by omega), next, seq, f, all, [], h1.crash keep, by omega⟩
    · exact .inr ⟨Calm.crash _ _, Nat.le_trans (crash_len _ keep) (by omega), next, next - 1, f, all, [], h1.crash keep, by omega⟩
end
section
variable {W w7 w8 w9 : World} {p k l8 E8 : Nat} {v7 v8 : Nat → Value} {D6 : Dk} {xs : List UInt8} {xr : List (List UInt8)} {sv rv y8 rs8 : Value}
theorem UpAt.of {w : World} {v : Nat → Value} {D : Dk} {l size : Nat} {snap : List UInt8} {recs : List (List UInt8)} {next seq f : Nat} {all : List (List UInt8)} (h : UpAt W w p k v D l size snap recs next seq f all sv rv) : Up W w p k (.pointer (some ⟨l, 0, none⟩)) sv rv := by
  obtain ⟨so, sc, rfl, _⟩ := id h.hs
  obtain ⟨ro, rc, rfl, _⟩ := h.held.shape
  exact .mk _ _ _ _ _ _ _ _ _ _ _ _ _ _ h
/-- opened again behind a crash -/
theorem Up.again (own : Own W.heap.size W w7 p v7 D6) (fine : Fine D6 xs xr k) (hk : k ≤ 41) (M8 : Moved w7 p v7 w8 v8 (openB D6).1) (hO : IsOpen w7 E8 w8 p v8 (openB D6).2 l8 y8 rs8) (hg : Below w8.heap.size w8 w9) (hs : Rd W sv xs) (held : Held W w7 p v7 rv xr) :
    Up W w9 p k (.pointer (some ⟨l8, 0, none⟩)) sv rv := by
  obtain ⟨next, seq, f, all, h1, h2, h3, h4, h5⟩ := fine.open hk
  have hlog := hO.log
  rw [h1] at hlog
  have hz := own.size
  have hl1 := hO.new
  have hl2 := hO.le
  have hc := fine.count
  have hown : OwnG W w8 p v8 (openB D6).1 l8 ⟨next, xr.length, false⟩ := ⟨own.moved M8, hlog, by omega, hO.lof⟩
  exact UpAt.of (next := next) (size := xr.length) (seq := seq) (f := f) (all := all) ⟨hown.grew hg, h2, h3.2, h4, h5, hc, hs, (held.moved M8).grew hg, fun j hj => by have := (held.lt hj).2; omega⟩
end
/-- behind a crash: what stands there is xs and xr; both lists are held -/
structure Down (W w : World) (p k : Nat) (v : Nat → Value) (D : Dk) (xs : List UInt8) (xr : List (List UInt8)) (rv : Value) (recs : List (List UInt8)) (rv' : Value) (recs' : List (List UInt8)) : Prop where
  own : Own W.heap.size W w p v D
  fine : Fine D xs xr k
  held : Held W w p v rv recs
  held' : Held W w p v rv' recs'
theorem Down.grew {W w w' : World} {p k : Nat} {v : Nat → Value} {D : Dk} {xs : List UInt8} {xr : List (List UInt8)} {rv : Value} {recs : List (List UInt8)} {rv' : Value} {recs' : List (List UInt8)} (h : Down W w p k v D xs xr rv recs rv' recs') (hb : Below w.heap.size w w') : Down W w' p k v D xs xr rv recs rv' recs' :=
  ⟨h.own.grew hb, h.fine, h.held.grew hb, h.held'.grew hb⟩
theorem Down.moved {W w w' : World} {p k : Nat} {v v' : Nat → Value} {D D' : Dk} {xs : List UInt8} {xr : List (List UInt8)} {rv : Value} {recs : List (List UInt8)} {rv' : Value} {recs' : List (List UInt8)} (h : Down W w p k v D xs xr rv recs rv' recs') (hm : Moved w p v w' v' D') (hf : Fine D' xs xr k) : Down W w' p k v' D' xs xr rv recs rv' recs' :=
  ⟨h.own.moved hm, hf, h.held.moved hm, h.held'.moved hm⟩
/-- a new disk, opened -/
theorem Up.first {W w1 w3 : World} {p l E : Nat} {v v3 : Nat → Value} {x rs : Value} (ho : Own W.heap.size W w1 p v Dk.new) (hm : Moved w1 p v w3 v3 (openB Dk.new).1) (hO : IsOpen w1 E w3 p v3 (openB Dk.new).2 l x rs) :
    Up W w3 p 0 (.pointer (some ⟨l, 0, none⟩)) (.slice none 0 0) (.slice none 0 0) := by
  have ho3 := ho.moved hm
  have e1 : (openB Dk.new).2 = ⟨0, 1, [], []⟩ := kO1
  obtain ⟨a1, a2, a3, a4⟩ := Stands.new.back ⟨rfl, rfl⟩ (by decide) (by decide)
  have hlog := hO.log
  rw [e1] at hlog
  have hz := ho.size
  have hl1 := hO.new
  have hl2 := hO.le
  exact .mk v3 _ l 0 [] [] 1 0 1 [] none 0 none 0 ⟨⟨ho3, hlog, by omega, hO.lof⟩, a2, a3.2, a4, Nat.le_refl _, Nat.le_refl _, Rd.nil _, Held.nil _ _ _ _, fun j h => by simp [Value.ownBlock] at h⟩
end Go.Proofs.YtgobnnciijlpaaaDoor
