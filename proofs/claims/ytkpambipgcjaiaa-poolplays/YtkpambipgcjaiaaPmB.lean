/- Laws 13 and 14: needs and resources as the program has them. Written by gen_pm.py. -/
import Derived.Test.YtkpambipgcjaiaaPmA
import Derived.Deep.AppendLies
import Derived.Deep.RegionHeld3
namespace Go.Proofs.Ytkpambipgcjaiaa
open Go.ChangeShapes Go.WideShapes Go.ChangeAt Go.RowKit Go.DsMem Go.DsCo Go.DsPl Go.DsMap
set_option linter.unusedVariables false
theorem own3_same {w w' : World} {B : Nat} {e : TypeId} {v : Value} {n : Nat} {xs : List Value} (h : w.ownsRow B e 3 v n xs) (hk : ∀ k, v.ownBlock = some k → w'.heap[k]? = w.heap[k]?) : w'.ownsRow B e 3 v n xs := by
  refine ⟨h.1, ?_⟩
  rcases h.2 with h0 | ⟨g, cap, cur, hv, hbg, hg, r⟩
  · exact .inl h0
  · exact .inr ⟨g, cap, cur, hv, hbg, by rw [hk g (by rw [hv]; rfl)]; exact hg, r⟩
theorem infoNe : (Try.prog.info? 61).map (fun i => (i.zero, i.size, i.bytes)) = some (some (.agg #[.string ⟨#[]⟩, .int .i64 0, .int .i64 0]), 3, 32) := by kernel_rfl
def neC (n : Ne) : List Value := [.string n.nm, .int .i64 n.n, .int .i64 n.md]
theorem neC_one (n : Ne) : ∀ u ∈ neC n, u.oneCell' = true := by
  intro u hu
  simp only [neC, List.mem_cons, List.not_mem_nil, or_false] at hu
  rcases hu with rfl | rfl | rfl <;> rfl
def neRow (l : List Ne) : List Value := l.flatMap neC
theorem neRow_snoc (l : List Ne) (n : Ne) : neRow (l ++ [n]) = neRow l ++ neC n := by simp [neRow]
theorem neRow_at : ∀ (l : List Ne) (j k : Nat) (n : Ne), k < 3 → l[j]? = some n → (neRow l)[j * 3 + k]? = (neC n)[k]?
  | [], j, k, n, _, h => by simp at h
  | a :: l, 0, k, n, hk, h => by
    simp at h; subst h
    show (neC a ++ neRow l)[0 * 3 + k]? = _
    rw [List.getElem?_append_left (by simp [neC]; omega)]
    simp
  | a :: l, j + 1, k, n, hk, h => by
    show (neC a ++ neRow l)[(j + 1) * 3 + k]? = _
    rw [List.getElem?_append_right (by simp [neC]; omega), show (neC a).length = 3 from rfl, show (j + 1) * 3 + k - 3 = j * 3 + k by omega]
    exact neRow_at l j k n hk (by simpa using h)
/-- a slice that reads so, from a place on -/
def NeAt (w : World) (uo : Option Addr) (uc : Nat) (l : List Ne) : Prop :=
  0 < l.length → ∃ g o, uo = some ⟨g, o, none⟩ ∧ l.length ≤ uc ∧ g < w.heap.size ∧ ∀ j n, l[j]? = some n → w.cell? ⟨g, o + j * 3, none⟩ = some (.string n.nm) ∧ w.cell? ⟨g, o + j * 3 + 1, none⟩ = some (.int .i64 n.n) ∧ w.cell? ⟨g, o + j * 3 + 2, none⟩ = some (.int .i64 n.md)
theorem NeAt.keep {w w' : World} {uo : Option Addr} {uc : Nat} {l : List Ne} (h : NeAt w uo uc l) (hb : Below w.heap.size w w') : NeAt w' uo uc l := by
  intro h0
  obtain ⟨g, o, e, hc, hg, hcells⟩ := h h0
  refine ⟨g, o, e, hc, by have := hb.size; omega, fun j t ht => ?_⟩
  obtain ⟨a, b, c⟩ := hcells j t ht
  exact ⟨Below.keeps hb (Nat.le_refl _) a, Below.keeps hb (Nat.le_refl _) b, Below.keeps hb (Nat.le_refl _) c⟩
/-- what is told -/
def NeGot (w : World) (l : List Ne) (e : Ending) (w' : World) : Prop := ∃ uo' uc', e = .returned (.slice uo' l.length uc') ∧ NeRd w' uo' l ∧ Below w.heap.size w w'
/-- one's own -/
structure NeOwn (w wr : World) (l : List Ne) (uo : Option Addr) (uc : Nat) : Prop where
  row : wr.ownsRow w.heap.size 61 3 (.slice uo l.length uc) l.length (neRow l)
  below : Below w.heap.size w wr
theorem NeOwn.rd {w wr : World} {l : List Ne} {uo : Option Addr} {uc : Nat} (h : NeOwn w wr l uo uc) : NeRd wr uo l := by
  intro h0
  rcases h.row.2 with ⟨_, hz⟩ | ⟨g, cap, cur, e, hb, hg, hc, _⟩
  · omega
  · simp only [Value.slice.injEq] at e
    obtain ⟨rfl, -, rfl⟩ := e
    refine ⟨g, rfl, block_lt hg, fun j t ht => ?_⟩
    have key : ∀ k u, k < 3 → (neC t)[k]? = some u → wr.cell? ⟨g, j * 3 + k, none⟩ = some u := fun k u hk hu => by
      have := h.row.cells (g := g) rfl (j * 3 + k) u (by rw [neRow_at l j k t hk ht]; exact hu)
      rw [add_mk, Nat.zero_add] at this
      exact this
    exact ⟨key 0 _ (by decide) rfl, key 1 _ (by decide) rfl, key 2 _ (by decide) rfl⟩
theorem NeOwn.grew {w wr w' : World} {l : List Ne} {uo : Option Addr} {uc : Nat} (h : NeOwn w wr l uo uc) (hb : Below wr.heap.size wr w') : NeOwn w w' l uo uc := by
  refine ⟨⟨h.row.1, ?_⟩, h.below.trans (hb.mono h.below.size)⟩
  rcases h.row.2 with h0 | ⟨g, cap, cur, hv, hbg, hg, r⟩
  · exact .inl h0
  · exact .inr ⟨g, cap, cur, hv, hbg, by rw [hb.block g (block_lt hg)]; exact hg, r⟩
theorem NeOwn.push {w wr w' : World} {l : List Ne} {uo : Option Addr} {uc : Nat} {t : Ne} {v' : Value} (h : NeOwn w wr l uo uc)
    (hown : w'.ownsRow w.heap.size 61 3 v' (l.length + 1) (neRow l ++ neC t)) (hgr : wr.grownBy w' (Value.slice uo l.length uc).ownBlock) : ∃ uo' uc', v' = .slice uo' (l ++ [t]).length uc' ∧ NeOwn w w' (l ++ [t]) uo' uc' := by
  have hlt := h.row.lt
  have hl : (l ++ [t]).length = l.length + 1 := by simp
  have hbel : Below w.heap.size w w' := h.below.trans ((Only.grown hgr).toBelow h.below.size (fun i hi => by have := (hlt i hi).1; omega))
  rcases hown.2 with ⟨rfl, h0⟩ | ⟨g, cap, cur, rfl, r⟩
  · omega
  · exact ⟨some ⟨g, 0, none⟩, cap, by rw [hl], by rw [hl, neRow_snoc]; exact hown, hbel⟩
theorem infoRt : (Try.prog.info? 72).map (fun i => (i.zero, i.size, i.bytes)) = some (some (.agg #[.string ⟨#[]⟩, .int .i64 0, .bool false]), 3, 32) := by kernel_rfl
def rtC (n : Rt) : List Value := [.string n.1, .int .i64 n.2.1, .bool n.2.2]
theorem rtC_one (n : Rt) : ∀ u ∈ rtC n, u.oneCell' = true := by
  intro u hu
  simp only [rtC, List.mem_cons, List.not_mem_nil, or_false] at hu
  rcases hu with rfl | rfl | rfl <;> rfl
def rtRow (l : List Rt) : List Value := l.flatMap rtC
theorem rtRow_snoc (l : List Rt) (n : Rt) : rtRow (l ++ [n]) = rtRow l ++ rtC n := by simp [rtRow]
theorem rtRow_at : ∀ (l : List Rt) (j k : Nat) (n : Rt), k < 3 → l[j]? = some n → (rtRow l)[j * 3 + k]? = (rtC n)[k]?
  | [], j, k, n, _, h => by simp at h
  | a :: l, 0, k, n, hk, h => by
    simp at h; subst h
    show (rtC a ++ rtRow l)[0 * 3 + k]? = _
    rw [List.getElem?_append_left (by simp [rtC]; omega)]
    simp
  | a :: l, j + 1, k, n, hk, h => by
    show (rtC a ++ rtRow l)[(j + 1) * 3 + k]? = _
    rw [List.getElem?_append_right (by simp [rtC]; omega), show (rtC a).length = 3 from rfl, show (j + 1) * 3 + k - 3 = j * 3 + k by omega]
    exact rtRow_at l j k n hk (by simpa using h)
/-- a slice that reads so, from a place on -/
def RtAt (w : World) (uo : Option Addr) (uc : Nat) (l : List Rt) : Prop :=
  0 < l.length → ∃ g o, uo = some ⟨g, o, none⟩ ∧ l.length ≤ uc ∧ g < w.heap.size ∧ ∀ j n, l[j]? = some n → w.cell? ⟨g, o + j * 3, none⟩ = some (.string n.1) ∧ w.cell? ⟨g, o + j * 3 + 1, none⟩ = some (.int .i64 n.2.1) ∧ w.cell? ⟨g, o + j * 3 + 2, none⟩ = some (.bool n.2.2)
theorem RtAt.keep {w w' : World} {uo : Option Addr} {uc : Nat} {l : List Rt} (h : RtAt w uo uc l) (hb : Below w.heap.size w w') : RtAt w' uo uc l := by
  intro h0
  obtain ⟨g, o, e, hc, hg, hcells⟩ := h h0
  refine ⟨g, o, e, hc, by have := hb.size; omega, fun j t ht => ?_⟩
  obtain ⟨a, b, c⟩ := hcells j t ht
  exact ⟨Below.keeps hb (Nat.le_refl _) a, Below.keeps hb (Nat.le_refl _) b, Below.keeps hb (Nat.le_refl _) c⟩
/-- what is told -/
def RtGot (w : World) (l : List Rt) (e : Ending) (w' : World) : Prop := ∃ uo' uc', e = .returned (.slice uo' l.length uc') ∧ RtRd w' uo' l ∧ Below w.heap.size w w'
/-- one's own -/
structure RtOwn (w wr : World) (l : List Rt) (uo : Option Addr) (uc : Nat) : Prop where
  row : wr.ownsRow w.heap.size 72 3 (.slice uo l.length uc) l.length (rtRow l)
  below : Below w.heap.size w wr
theorem RtOwn.rd {w wr : World} {l : List Rt} {uo : Option Addr} {uc : Nat} (h : RtOwn w wr l uo uc) : RtRd wr uo l := by
  intro h0
  rcases h.row.2 with ⟨_, hz⟩ | ⟨g, cap, cur, e, hb, hg, hc, _⟩
  · omega
  · simp only [Value.slice.injEq] at e
    obtain ⟨rfl, -, rfl⟩ := e
    refine ⟨g, rfl, block_lt hg, fun j t ht => ?_⟩
    have key : ∀ k u, k < 3 → (rtC t)[k]? = some u → wr.cell? ⟨g, j * 3 + k, none⟩ = some u := fun k u hk hu => by
      have := h.row.cells (g := g) rfl (j * 3 + k) u (by rw [rtRow_at l j k t hk ht]; exact hu)
      rw [add_mk, Nat.zero_add] at this
      exact this
    exact ⟨key 0 _ (by decide) rfl, key 1 _ (by decide) rfl, key 2 _ (by decide) rfl⟩
theorem RtOwn.grew {w wr w' : World} {l : List Rt} {uo : Option Addr} {uc : Nat} (h : RtOwn w wr l uo uc) (hb : Below wr.heap.size wr w') : RtOwn w w' l uo uc := by
  refine ⟨⟨h.row.1, ?_⟩, h.below.trans (hb.mono h.below.size)⟩
  rcases h.row.2 with h0 | ⟨g, cap, cur, hv, hbg, hg, r⟩
  · exact .inl h0
  · exact .inr ⟨g, cap, cur, hv, hbg, by rw [hb.block g (block_lt hg)]; exact hg, r⟩
theorem RtOwn.push {w wr w' : World} {l : List Rt} {uo : Option Addr} {uc : Nat} {t : Rt} {v' : Value} (h : RtOwn w wr l uo uc)
    (hown : w'.ownsRow w.heap.size 72 3 v' (l.length + 1) (rtRow l ++ rtC t)) (hgr : wr.grownBy w' (Value.slice uo l.length uc).ownBlock) : ∃ uo' uc', v' = .slice uo' (l ++ [t]).length uc' ∧ RtOwn w w' (l ++ [t]) uo' uc' := by
  have hlt := h.row.lt
  have hl : (l ++ [t]).length = l.length + 1 := by simp
  have hbel : Below w.heap.size w w' := h.below.trans ((Only.grown hgr).toBelow h.below.size (fun i hi => by have := (hlt i hi).1; omega))
  rcases hown.2 with ⟨rfl, h0⟩ | ⟨g, cap, cur, rfl, r⟩
  · omega
  · exact ⟨some ⟨g, 0, none⟩, cap, by rw [hl], by rw [hl, rtRow_snoc]; exact hown, hbel⟩
set_option maxHeartbeats 4000000 in
set_option maxRecDepth 20000 in
/-- dayshiftlaw13.needs -/
theorem needs13_any (l : List Ne) (uo : Option Addr) (uc : Nat) (w : World) (hl : l.length ≤ 4398046510976) (hat : NeAt w uo uc l) : Calls Try.prog 28 #[.slice uo l.length uc] w (NeGot w l) := by
  have HAT := hide hat
  clear hat
  obtain ⟨i0, hi0, hz0, hz1, hz2⟩ := info_parts infoNe
  go_enter Try.func28, Try.ntmps28
  go_wp2
  go_loopw [3, 4] (fun tl ti wr => ∃ (i : Nat) (uo' : Option Addr) (uc' : Nat), i ≤ l.length ∧ tl = .slice uo' (l.take i).length uc' ∧ ti = .int .i64 i ∧ NeOwn w wr (l.take i) uo' uc') (fun _ ti _ => l.length - (intOf ti).toNat)
  case atStart => exact ⟨0, none, 0, Nat.zero_le _, rfl, rfl, ⟨World.ownsRow_nil _ _ _ _, Below.refl _ _⟩⟩
  case round =>
    obtain ⟨i, uo', uc', hi, rfl, rfl, hst⟩ := hrel
    have HST := hide hst
    clear hst
    have hti : (l.take i).length = i := by rw [List.length_take]; omega
    by_cases hlt : i < l.length
    · obtain ⟨t, ht⟩ : ∃ t, l[i]? = some t := ⟨_, List.getElem?_eq_getElem hlt⟩
      obtain ⟨g, o, rfl, hc, hg, hcells⟩ := HAT.out (by omega)
      obtain ⟨a0, a1, a2⟩ := hcells i t ht
      have b0 := Below.keeps HST.out.below (Nat.le_refl _) a0
      have b1 := Below.keeps HST.out.below (Nat.le_refl _) a1
      have b2 := Below.keeps HST.out.below (Nat.le_refl _) a2
      have htk : l.take (i + 1) = l.take i ++ [t] := by rw [List.take_add_one, ht]; rfl
      clear hcells a0 a1 a2
      obtain ⟨x0, x1, x2⟩ := t
      simp only at b0 b1 b2
      have HROW : Hid (wr.ownsRow w.heap.size 61 3 (.slice uo' i uc') i (neRow (l.take i))) := by
        have := HST.out.row
        rw [hti] at this
        exact hide this
      have HSTEP : Hid (∀ (w3 : World) (gg cap : Nat) (ob : Obj), w3.ownsRow w.heap.size 61 3 (.slice (some ⟨gg, 0, none⟩) (i + 1) cap) (i + 1) (neRow (l.take i) ++ neC ⟨x0, x1, x2⟩) → (wr.drew.alloc ob).grownBy w3 (Value.slice uo' i uc').ownBlock → NeOwn w w3 (l.take (i + 1)) (some ⟨gg, 0, none⟩) cap) := fun w3 gg cap ob h1 h2 => by
        have hb : Below wr.heap.size wr (wr.drew.alloc ob) := (Below.refl _ _).drew.alloc (Nat.le_refl _) _
        have h3 := (HST.out.grew hb).push (t := ⟨x0, x1, x2⟩) (v' := .slice (some ⟨gg, 0, none⟩) (i + 1) cap) (w' := w3) (by rw [hti]; exact h1) (by rw [hti]; exact h2)
        obtain ⟨a, b, e, h4⟩ := h3
        simp only [Value.slice.injEq] at e
        obtain ⟨rfl, -, rfl⟩ := e
        rw [htk]; exact h4
      have hrl : ∀ k, (Value.slice uo' i uc').ownBlock = some k → w.heap.size ≤ k ∧ k < wr.heap.size := HROW.out.lt
      have HRL := hide hrl
      have hws : w.heap.size ≤ wr.heap.size := HST.out.below.size
      have far : ¬ (Value.slice uo' i uc').ownBlock = some g := fun e => by have := (hrl g e).1; omega
      have KP : Hid (∀ w', Only (fun k => (Value.slice uo' i uc').ownBlock = some k) wr.drew w' → w'.cell? ⟨g, o + i * 3, none⟩ = some (.string x0) ∧ w'.cell? ⟨g, o + i * 3 + 1, none⟩ = some (.int .i64 x1) ∧ w'.cell? ⟨g, o + i * 3 + 2, none⟩ = some (.int .i64 x2)) := fun w' ho =>
        ⟨ho.cell (w := wr.drew) b0 far, ho.cell (w := wr.drew) b1 far, ho.cell (w := wr.drew) b2 far⟩
      have hi0' : (0 : Int) ≤ (i : Int) := Int.natCast_nonneg _
      have hi1 : (i : Int) < (l.length : Int) := by omega
      clear hrl
      rw [hti]
      go_wp2_with fail
      first
        | (go_region_held3 (fun w' => w'.cell? ⟨g, o + i * 3, none⟩ = some (.string x0) ∧ w'.cell? ⟨g, o + i * 3 + 1, none⟩ = some (.int .i64 x1) ∧ w'.cell? ⟨g, o + i * 3 + 2, none⟩ = some (.int .i64 x2))
            (first | (exact KP.out _ (by assumption)) | (exact KP.out _ (Only.alloc _ _ _)) | go_keep)
            (first
              | (refine step_append_lies _ (by rfl) _ _ _ (by rfl) w.heap.size 61 i0 _ 3 32 Try.underlying50 hi0 hz0 hz1 hz2 rfl (by omega) (.slice uo' i uc') i (neRow (l.take i)) (by rfl) (HROW.out.alloc _)
                  ⟨wr.heap.size, 0, none⟩ 1 1 (neC ⟨x0, x1, x2⟩) (by rfl) (by rfl) (World.news_of_block (cs := (neC ⟨x0, x1, x2⟩).toArray) (t := 61) (fr := (0, 0)) (heap_alloc_new wr _)) (neC_one ⟨x0, x1, x2⟩)
                  (by omega) (by unfold maxLen; omega) (by omega) (by simp; omega) (wr.heap.size + 1) (by simp) ?_; intro gg cap w3 hown3 hgrow hat hlt3; have hR3 : Only (fun k => (Value.slice uo' i uc').ownBlock = some k) wr.drew w3 := (Only.alloc _ _ _).trans (Only.grown hgrow) (fun _ _ h => h))))
        | fail
      all_goals
        have HNEW := hide (HSTEP.out w3 gg cap _ hown3 hgrow)
        clear hown3 hgrow hat hR3 hlt3
        go_wp2
        go_roundw
        case rel => exact ⟨i + 1, _, _, by omega, by rw [List.length_take, Nat.min_eq_left (by omega)], by go_num, HNEW.out⟩
        case measure => simp [intOf]; omega
    · have e : i = l.length := by omega
      subst e
      rw [List.take_length] at HST hti ⊢
      go_wp2
      go_ret
      exact ⟨uo', uc', rfl, HST.out.rd, HST.out.below⟩
set_option maxHeartbeats 4000000 in
set_option maxRecDepth 20000 in
/-- dayshiftlaw14.needs -/
theorem needs14_any (l : List Ne) (uo : Option Addr) (uc : Nat) (w : World) (hl : l.length ≤ 4398046510976) (hat : NeAt w uo uc l) : Calls Try.prog 33 #[.slice uo l.length uc] w (NeGot w l) := by
  have HAT := hide hat
  clear hat
  obtain ⟨i0, hi0, hz0, hz1, hz2⟩ := info_parts infoNe
  go_enter Try.func33, Try.ntmps33
  go_wp2
  go_loopw [3, 4] (fun tl ti wr => ∃ (i : Nat) (uo' : Option Addr) (uc' : Nat), i ≤ l.length ∧ tl = .slice uo' (l.take i).length uc' ∧ ti = .int .i64 i ∧ NeOwn w wr (l.take i) uo' uc') (fun _ ti _ => l.length - (intOf ti).toNat)
  case atStart => exact ⟨0, none, 0, Nat.zero_le _, rfl, rfl, ⟨World.ownsRow_nil _ _ _ _, Below.refl _ _⟩⟩
  case round =>
    obtain ⟨i, uo', uc', hi, rfl, rfl, hst⟩ := hrel
    have HST := hide hst
    clear hst
    have hti : (l.take i).length = i := by rw [List.length_take]; omega
    by_cases hlt : i < l.length
    · obtain ⟨t, ht⟩ : ∃ t, l[i]? = some t := ⟨_, List.getElem?_eq_getElem hlt⟩
      obtain ⟨g, o, rfl, hc, hg, hcells⟩ := HAT.out (by omega)
      obtain ⟨a0, a1, a2⟩ := hcells i t ht
      have b0 := Below.keeps HST.out.below (Nat.le_refl _) a0
      have b1 := Below.keeps HST.out.below (Nat.le_refl _) a1
      have b2 := Below.keeps HST.out.below (Nat.le_refl _) a2
      have htk : l.take (i + 1) = l.take i ++ [t] := by rw [List.take_add_one, ht]; rfl
      clear hcells a0 a1 a2
      obtain ⟨x0, x1, x2⟩ := t
      simp only at b0 b1 b2
      have HROW : Hid (wr.ownsRow w.heap.size 61 3 (.slice uo' i uc') i (neRow (l.take i))) := by
        have := HST.out.row
        rw [hti] at this
        exact hide this
      have HSTEP : Hid (∀ (w3 : World) (gg cap : Nat) (ob : Obj), w3.ownsRow w.heap.size 61 3 (.slice (some ⟨gg, 0, none⟩) (i + 1) cap) (i + 1) (neRow (l.take i) ++ neC ⟨x0, x1, x2⟩) → (wr.drew.alloc ob).grownBy w3 (Value.slice uo' i uc').ownBlock → NeOwn w w3 (l.take (i + 1)) (some ⟨gg, 0, none⟩) cap) := fun w3 gg cap ob h1 h2 => by
        have hb : Below wr.heap.size wr (wr.drew.alloc ob) := (Below.refl _ _).drew.alloc (Nat.le_refl _) _
        have h3 := (HST.out.grew hb).push (t := ⟨x0, x1, x2⟩) (v' := .slice (some ⟨gg, 0, none⟩) (i + 1) cap) (w' := w3) (by rw [hti]; exact h1) (by rw [hti]; exact h2)
        obtain ⟨a, b, e, h4⟩ := h3
        simp only [Value.slice.injEq] at e
        obtain ⟨rfl, -, rfl⟩ := e
        rw [htk]; exact h4
      have hrl : ∀ k, (Value.slice uo' i uc').ownBlock = some k → w.heap.size ≤ k ∧ k < wr.heap.size := HROW.out.lt
      have HRL := hide hrl
      have hws : w.heap.size ≤ wr.heap.size := HST.out.below.size
      have far : ¬ (Value.slice uo' i uc').ownBlock = some g := fun e => by have := (hrl g e).1; omega
      have KP : Hid (∀ w', Only (fun k => (Value.slice uo' i uc').ownBlock = some k) wr.drew w' → w'.cell? ⟨g, o + i * 3, none⟩ = some (.string x0) ∧ w'.cell? ⟨g, o + i * 3 + 1, none⟩ = some (.int .i64 x1) ∧ w'.cell? ⟨g, o + i * 3 + 2, none⟩ = some (.int .i64 x2)) := fun w' ho =>
        ⟨ho.cell (w := wr.drew) b0 far, ho.cell (w := wr.drew) b1 far, ho.cell (w := wr.drew) b2 far⟩
      have hi0' : (0 : Int) ≤ (i : Int) := Int.natCast_nonneg _
      have hi1 : (i : Int) < (l.length : Int) := by omega
      clear hrl
      rw [hti]
      go_wp2_with fail
      first
        | (go_region_held3 (fun w' => w'.cell? ⟨g, o + i * 3, none⟩ = some (.string x0) ∧ w'.cell? ⟨g, o + i * 3 + 1, none⟩ = some (.int .i64 x1) ∧ w'.cell? ⟨g, o + i * 3 + 2, none⟩ = some (.int .i64 x2))
            (first | (exact KP.out _ (by assumption)) | (exact KP.out _ (Only.alloc _ _ _)) | go_keep)
            (first
              | (refine step_append_lies _ (by rfl) _ _ _ (by rfl) w.heap.size 61 i0 _ 3 32 Try.underlying50 hi0 hz0 hz1 hz2 rfl (by omega) (.slice uo' i uc') i (neRow (l.take i)) (by rfl) (HROW.out.alloc _)
                  ⟨wr.heap.size, 0, none⟩ 1 1 (neC ⟨x0, x1, x2⟩) (by rfl) (by rfl) (World.news_of_block (cs := (neC ⟨x0, x1, x2⟩).toArray) (t := 61) (fr := (0, 0)) (heap_alloc_new wr _)) (neC_one ⟨x0, x1, x2⟩)
                  (by omega) (by unfold maxLen; omega) (by omega) (by simp; omega) (wr.heap.size + 1) (by simp) ?_; intro gg cap w3 hown3 hgrow hat hlt3; have hR3 : Only (fun k => (Value.slice uo' i uc').ownBlock = some k) wr.drew w3 := (Only.alloc _ _ _).trans (Only.grown hgrow) (fun _ _ h => h))))
        | fail
      all_goals
        have HNEW := hide (HSTEP.out w3 gg cap _ hown3 hgrow)
        clear hown3 hgrow hat hR3 hlt3
        go_wp2
        go_roundw
        case rel => exact ⟨i + 1, _, _, by omega, by rw [List.length_take, Nat.min_eq_left (by omega)], by go_num, HNEW.out⟩
        case measure => simp [intOf]; omega
    · have e : i = l.length := by omega
      subst e
      rw [List.take_length] at HST hti ⊢
      go_wp2
      go_ret
      exact ⟨uo', uc', rfl, HST.out.rd, HST.out.below⟩
set_option maxHeartbeats 4000000 in
set_option maxRecDepth 20000 in
/-- dayshiftlaw13.res -/
theorem res13_any (l : List Rt) (uo : Option Addr) (uc : Nat) (w : World) (hl : l.length ≤ 4398046510976) (hat : RtAt w uo uc l) : Calls Try.prog 16 #[.slice uo l.length uc] w (RtGot w l) := by
  have HAT := hide hat
  clear hat
  obtain ⟨i0, hi0, hz0, hz1, hz2⟩ := info_parts infoRt
  go_enter Try.func16, Try.ntmps16
  go_wp2
  go_loopw [3, 4] (fun tl ti wr => ∃ (i : Nat) (uo' : Option Addr) (uc' : Nat), i ≤ l.length ∧ tl = .slice uo' (l.take i).length uc' ∧ ti = .int .i64 i ∧ RtOwn w wr (l.take i) uo' uc') (fun _ ti _ => l.length - (intOf ti).toNat)
  case atStart => exact ⟨0, none, 0, Nat.zero_le _, rfl, rfl, ⟨World.ownsRow_nil _ _ _ _, Below.refl _ _⟩⟩
  case round =>
    obtain ⟨i, uo', uc', hi, rfl, rfl, hst⟩ := hrel
    have HST := hide hst
    clear hst
    have hti : (l.take i).length = i := by rw [List.length_take]; omega
    by_cases hlt : i < l.length
    · obtain ⟨t, ht⟩ : ∃ t, l[i]? = some t := ⟨_, List.getElem?_eq_getElem hlt⟩
      obtain ⟨g, o, rfl, hc, hg, hcells⟩ := HAT.out (by omega)
      obtain ⟨a0, a1, a2⟩ := hcells i t ht
      have b0 := Below.keeps HST.out.below (Nat.le_refl _) a0
      have b1 := Below.keeps HST.out.below (Nat.le_refl _) a1
      have b2 := Below.keeps HST.out.below (Nat.le_refl _) a2
      have htk : l.take (i + 1) = l.take i ++ [t] := by rw [List.take_add_one, ht]; rfl
      clear hcells a0 a1 a2
      obtain ⟨x0, x1, x2⟩ := t
      simp only at b0 b1 b2
      have HROW : Hid (wr.ownsRow w.heap.size 72 3 (.slice uo' i uc') i (rtRow (l.take i))) := by
        have := HST.out.row
        rw [hti] at this
        exact hide this
      have HSTEP : Hid (∀ (w3 : World) (gg cap : Nat) (ob : Obj), w3.ownsRow w.heap.size 72 3 (.slice (some ⟨gg, 0, none⟩) (i + 1) cap) (i + 1) (rtRow (l.take i) ++ rtC (x0, x1, x2)) → (wr.drew.alloc ob).grownBy w3 (Value.slice uo' i uc').ownBlock → RtOwn w w3 (l.take (i + 1)) (some ⟨gg, 0, none⟩) cap) := fun w3 gg cap ob h1 h2 => by
        have hb : Below wr.heap.size wr (wr.drew.alloc ob) := (Below.refl _ _).drew.alloc (Nat.le_refl _) _
        have h3 := (HST.out.grew hb).push (t := (x0, x1, x2)) (v' := .slice (some ⟨gg, 0, none⟩) (i + 1) cap) (w' := w3) (by rw [hti]; exact h1) (by rw [hti]; exact h2)
        obtain ⟨a, b, e, h4⟩ := h3
        simp only [Value.slice.injEq] at e
        obtain ⟨rfl, -, rfl⟩ := e
        rw [htk]; exact h4
      have hrl : ∀ k, (Value.slice uo' i uc').ownBlock = some k → w.heap.size ≤ k ∧ k < wr.heap.size := HROW.out.lt
      have HRL := hide hrl
      have hws : w.heap.size ≤ wr.heap.size := HST.out.below.size
      have far : ¬ (Value.slice uo' i uc').ownBlock = some g := fun e => by have := (hrl g e).1; omega
      have KP : Hid (∀ w', Only (fun k => (Value.slice uo' i uc').ownBlock = some k) wr.drew w' → w'.cell? ⟨g, o + i * 3, none⟩ = some (.string x0) ∧ w'.cell? ⟨g, o + i * 3 + 1, none⟩ = some (.int .i64 x1) ∧ w'.cell? ⟨g, o + i * 3 + 2, none⟩ = some (.bool x2)) := fun w' ho =>
        ⟨ho.cell (w := wr.drew) b0 far, ho.cell (w := wr.drew) b1 far, ho.cell (w := wr.drew) b2 far⟩
      have hi0' : (0 : Int) ≤ (i : Int) := Int.natCast_nonneg _
      have hi1 : (i : Int) < (l.length : Int) := by omega
      clear hrl
      rw [hti]
      go_wp2_with fail
      first
        | (go_region_held3 (fun w' => w'.cell? ⟨g, o + i * 3, none⟩ = some (.string x0) ∧ w'.cell? ⟨g, o + i * 3 + 1, none⟩ = some (.int .i64 x1) ∧ w'.cell? ⟨g, o + i * 3 + 2, none⟩ = some (.bool x2))
            (first | (exact KP.out _ (by assumption)) | (exact KP.out _ (Only.alloc _ _ _)) | go_keep)
            (first
              | (refine step_append_lies _ (by rfl) _ _ _ (by rfl) w.heap.size 72 i0 _ 3 32 Try.underlying27 hi0 hz0 hz1 hz2 rfl (by omega) (.slice uo' i uc') i (rtRow (l.take i)) (by rfl) (HROW.out.alloc _)
                  ⟨wr.heap.size, 0, none⟩ 1 1 (rtC (x0, x1, x2)) (by rfl) (by rfl) (World.news_of_block (cs := (rtC (x0, x1, x2)).toArray) (t := 72) (fr := (0, 0)) (heap_alloc_new wr _)) (rtC_one (x0, x1, x2))
                  (by omega) (by unfold maxLen; omega) (by omega) (by simp; omega) (wr.heap.size + 1) (by simp) ?_; intro gg cap w3 hown3 hgrow hat hlt3; have hR3 : Only (fun k => (Value.slice uo' i uc').ownBlock = some k) wr.drew w3 := (Only.alloc _ _ _).trans (Only.grown hgrow) (fun _ _ h => h))))
        | fail
      all_goals
        have HNEW := hide (HSTEP.out w3 gg cap _ hown3 hgrow)
        clear hown3 hgrow hat hR3 hlt3
        go_wp2
        go_roundw
        case rel => exact ⟨i + 1, _, _, by omega, by rw [List.length_take, Nat.min_eq_left (by omega)], by go_num, HNEW.out⟩
        case measure => simp [intOf]; omega
    · have e : i = l.length := by omega
      subst e
      rw [List.take_length] at HST hti ⊢
      go_wp2
      go_ret
      exact ⟨uo', uc', rfl, HST.out.rd, HST.out.below⟩
set_option maxHeartbeats 4000000 in
set_option maxRecDepth 20000 in
/-- dayshiftlaw14.res -/
theorem res14_any (l : List Rt) (uo : Option Addr) (uc : Nat) (w : World) (hl : l.length ≤ 4398046510976) (hat : RtAt w uo uc l) : Calls Try.prog 32 #[.slice uo l.length uc] w (RtGot w l) := by
  have HAT := hide hat
  clear hat
  obtain ⟨i0, hi0, hz0, hz1, hz2⟩ := info_parts infoRt
  go_enter Try.func32, Try.ntmps32
  go_wp2
  go_loopw [3, 4] (fun tl ti wr => ∃ (i : Nat) (uo' : Option Addr) (uc' : Nat), i ≤ l.length ∧ tl = .slice uo' (l.take i).length uc' ∧ ti = .int .i64 i ∧ RtOwn w wr (l.take i) uo' uc') (fun _ ti _ => l.length - (intOf ti).toNat)
  case atStart => exact ⟨0, none, 0, Nat.zero_le _, rfl, rfl, ⟨World.ownsRow_nil _ _ _ _, Below.refl _ _⟩⟩
  case round =>
    obtain ⟨i, uo', uc', hi, rfl, rfl, hst⟩ := hrel
    have HST := hide hst
    clear hst
    have hti : (l.take i).length = i := by rw [List.length_take]; omega
    by_cases hlt : i < l.length
    · obtain ⟨t, ht⟩ : ∃ t, l[i]? = some t := ⟨_, List.getElem?_eq_getElem hlt⟩
      obtain ⟨g, o, rfl, hc, hg, hcells⟩ := HAT.out (by omega)
      obtain ⟨a0, a1, a2⟩ := hcells i t ht
      have b0 := Below.keeps HST.out.below (Nat.le_refl _) a0
      have b1 := Below.keeps HST.out.below (Nat.le_refl _) a1
      have b2 := Below.keeps HST.out.below (Nat.le_refl _) a2
      have htk : l.take (i + 1) = l.take i ++ [t] := by rw [List.take_add_one, ht]; rfl
      clear hcells a0 a1 a2
      obtain ⟨x0, x1, x2⟩ := t
      simp only at b0 b1 b2
      have HROW : Hid (wr.ownsRow w.heap.size 72 3 (.slice uo' i uc') i (rtRow (l.take i))) := by
        have := HST.out.row
        rw [hti] at this
        exact hide this
      have HSTEP : Hid (∀ (w3 : World) (gg cap : Nat) (ob : Obj), w3.ownsRow w.heap.size 72 3 (.slice (some ⟨gg, 0, none⟩) (i + 1) cap) (i + 1) (rtRow (l.take i) ++ rtC (x0, x1, x2)) → (wr.drew.alloc ob).grownBy w3 (Value.slice uo' i uc').ownBlock → RtOwn w w3 (l.take (i + 1)) (some ⟨gg, 0, none⟩) cap) := fun w3 gg cap ob h1 h2 => by
        have hb : Below wr.heap.size wr (wr.drew.alloc ob) := (Below.refl _ _).drew.alloc (Nat.le_refl _) _
        have h3 := (HST.out.grew hb).push (t := (x0, x1, x2)) (v' := .slice (some ⟨gg, 0, none⟩) (i + 1) cap) (w' := w3) (by rw [hti]; exact h1) (by rw [hti]; exact h2)
        obtain ⟨a, b, e, h4⟩ := h3
        simp only [Value.slice.injEq] at e
        obtain ⟨rfl, -, rfl⟩ := e
        rw [htk]; exact h4
      have hrl : ∀ k, (Value.slice uo' i uc').ownBlock = some k → w.heap.size ≤ k ∧ k < wr.heap.size := HROW.out.lt
      have HRL := hide hrl
      have hws : w.heap.size ≤ wr.heap.size := HST.out.below.size
      have far : ¬ (Value.slice uo' i uc').ownBlock = some g := fun e => by have := (hrl g e).1; omega
      have KP : Hid (∀ w', Only (fun k => (Value.slice uo' i uc').ownBlock = some k) wr.drew w' → w'.cell? ⟨g, o + i * 3, none⟩ = some (.string x0) ∧ w'.cell? ⟨g, o + i * 3 + 1, none⟩ = some (.int .i64 x1) ∧ w'.cell? ⟨g, o + i * 3 + 2, none⟩ = some (.bool x2)) := fun w' ho =>
        ⟨ho.cell (w := wr.drew) b0 far, ho.cell (w := wr.drew) b1 far, ho.cell (w := wr.drew) b2 far⟩
      have hi0' : (0 : Int) ≤ (i : Int) := Int.natCast_nonneg _
      have hi1 : (i : Int) < (l.length : Int) := by omega
      clear hrl
      rw [hti]
      go_wp2_with fail
      first
        | (go_region_held3 (fun w' => w'.cell? ⟨g, o + i * 3, none⟩ = some (.string x0) ∧ w'.cell? ⟨g, o + i * 3 + 1, none⟩ = some (.int .i64 x1) ∧ w'.cell? ⟨g, o + i * 3 + 2, none⟩ = some (.bool x2))
            (first | (exact KP.out _ (by assumption)) | (exact KP.out _ (Only.alloc _ _ _)) | go_keep)
            (first
              | (refine step_append_lies _ (by rfl) _ _ _ (by rfl) w.heap.size 72 i0 _ 3 32 Try.underlying27 hi0 hz0 hz1 hz2 rfl (by omega) (.slice uo' i uc') i (rtRow (l.take i)) (by rfl) (HROW.out.alloc _)
                  ⟨wr.heap.size, 0, none⟩ 1 1 (rtC (x0, x1, x2)) (by rfl) (by rfl) (World.news_of_block (cs := (rtC (x0, x1, x2)).toArray) (t := 72) (fr := (0, 0)) (heap_alloc_new wr _)) (rtC_one (x0, x1, x2))
                  (by omega) (by unfold maxLen; omega) (by omega) (by simp; omega) (wr.heap.size + 1) (by simp) ?_; intro gg cap w3 hown3 hgrow hat hlt3; have hR3 : Only (fun k => (Value.slice uo' i uc').ownBlock = some k) wr.drew w3 := (Only.alloc _ _ _).trans (Only.grown hgrow) (fun _ _ h => h))))
        | fail
      all_goals
        have HNEW := hide (HSTEP.out w3 gg cap _ hown3 hgrow)
        clear hown3 hgrow hat hR3 hlt3
        go_wp2
        go_roundw
        case rel => exact ⟨i + 1, _, _, by omega, by rw [List.length_take, Nat.min_eq_left (by omega)], by go_num, HNEW.out⟩
        case measure => simp [intOf]; omega
    · have e : i = l.length := by omega
      subst e
      rw [List.take_length] at HST hti ⊢
      go_wp2
      go_ret
      exact ⟨uo', uc', rfl, HST.out.rd, HST.out.below⟩
end Go.Proofs.Ytkpambipgcjaiaa
