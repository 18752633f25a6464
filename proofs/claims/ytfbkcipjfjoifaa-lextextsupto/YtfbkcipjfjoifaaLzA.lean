/- Words with any place (of a list that came in): taken, given, Same, Join. Written by genz.py. -/
import Derived.Test.YtfbkcipjfjoifaaLyD
namespace Go.Proofs.Ytfbkcipjfjoifaa
open Go.ChangeShapes Go.WideShapes Go.ChangeAt Go.RowKit Go.DsMem Go.DsLx
set_option linter.unusedVariables false
structure Wd where
  kind : Int
  text : ByteArray
  n : Int
  at_ : Int
def wdC (t : Wd) : List Value := [.int .i64 t.kind, .string t.text, .int .i64 t.n, .int .i64 t.at_]
def wdRow (l : List Wd) : List Value := l.flatMap wdC
theorem wdRow_snoc (l : List Wd) (t : Wd) : wdRow (l ++ [t]) = wdRow l ++ wdC t := by simp [wdRow]
theorem wdC_one (t : Wd) : ∀ u ∈ wdC t, u.oneCell' = true := by
  intro u hu
  simp only [wdC, List.mem_cons, List.not_mem_nil, or_false] at hu
  rcases hu with rfl | rfl | rfl | rfl <;> rfl
theorem wdRow_at : ∀ (l : List Wd) (j k : Nat) (t : Wd), k < 4 → l[j]? = some t → (wdRow l)[j * 4 + k]? = (wdC t)[k]?
  | [], j, k, t, _, h => by simp at h
  | a :: l, 0, k, t, hk, h => by
    simp at h; subst h
    show (wdC a ++ wdRow l)[0 * 4 + k]? = _
    rw [List.getElem?_append_left (by simp [wdC]; omega)]
    congr 1; omega
  | a :: l, j + 1, k, t, hk, h => by
    show (wdC a ++ wdRow l)[(j + 1) * 4 + k]? = _
    rw [List.getElem?_append_right (by simp [wdC]; omega)]
    have e : (j + 1) * 4 + k - (wdC a).length = j * 4 + k := by simp [wdC]; omega
    rw [e]
    exact wdRow_at l j k t hk (by simpa using h)
/-- a slice that reads as words -/
def WdAt (w : World) (uo : Option Addr) (uc o : Nat) (l : List Wd) : Prop :=
  0 < l.length → ∃ g, uo = some ⟨g, o, none⟩ ∧ l.length ≤ uc ∧ g < w.heap.size ∧ ∀ j t, l[j]? = some t → w.cell? ⟨g, o + j * 4, none⟩ = some (.int .i64 t.kind) ∧ w.cell? ⟨g, o + j * 4 + 1, none⟩ = some (.string t.text) ∧ w.cell? ⟨g, o + j * 4 + 2, none⟩ = some (.int .i64 t.n) ∧ w.cell? ⟨g, o + j * 4 + 3, none⟩ = some (.int .i64 t.at_)
theorem WdAt.keep {w w' : World} {uo : Option Addr} {uc o : Nat} {l : List Wd} (h : WdAt w uo uc o l) (hb : Below w.heap.size w w') : WdAt w' uo uc o l := by
  intro h0
  obtain ⟨g, e, hc, hg, hcells⟩ := h h0
  refine ⟨g, e, hc, by have := hb.size; omega, fun j t ht => ?_⟩
  obtain ⟨a, b, c, d⟩ := hcells j t ht
  exact ⟨Below.keeps hb (Nat.le_refl _) a, Below.keeps hb (Nat.le_refl _) b, Below.keeps hb (Nat.le_refl _) c, Below.keeps hb (Nat.le_refl _) d⟩
/-- words of one's own -/
structure WdOwn (w wr : World) (ty : TypeId) (l : List Wd) (uo : Option Addr) (uc : Nat) : Prop where
  row : wr.ownsRow w.heap.size ty 4 (.slice uo l.length uc) l.length (wdRow l)
  below : Below w.heap.size w wr
theorem WdOwn.at_ {w wr : World} {ty : TypeId} {l : List Wd} {uo : Option Addr} {uc : Nat} (h : WdOwn w wr ty l uo uc) : WdAt wr uo uc 0 l := by
  intro h0
  rcases h.row.2 with ⟨_, hz⟩ | ⟨g, cap, cur, e, hb, hg, hc, _⟩
  · omega
  · simp only [Value.slice.injEq] at e
    obtain ⟨rfl, -, rfl⟩ := e
    refine ⟨g, rfl, hc, block_lt hg, fun j t ht => ?_⟩
    have key : ∀ k u, k < 4 → (wdC t)[k]? = some u → wr.cell? ⟨g, j * 4 + k, none⟩ = some u := fun k u hk hu => by
      have := h.row.cells (g := g) rfl (j * 4 + k) u (by rw [wdRow_at l j k t hk ht]; exact hu)
      rw [add_mk, Nat.zero_add] at this
      exact this
    rw [Nat.zero_add]
    exact ⟨key 0 _ (by decide) rfl, key 1 _ (by decide) rfl, key 2 _ (by decide) rfl, key 3 _ (by decide) rfl⟩
theorem WdOwn.grew {w wr w' : World} {ty : TypeId} {l : List Wd} {uo : Option Addr} {uc : Nat} (h : WdOwn w wr ty l uo uc) (hb : Below wr.heap.size wr w') : WdOwn w w' ty l uo uc := by
  refine ⟨⟨h.row.1, ?_⟩, h.below.trans (hb.mono h.below.size)⟩
  rcases h.row.2 with h0 | ⟨g, cap, cur, hv, hbg, hg, r⟩
  · exact .inl h0
  · exact .inr ⟨g, cap, cur, hv, hbg, by rw [hb.block g (block_lt hg)]; exact hg, r⟩
theorem WdOwn.push {w wr w' : World} {ty : TypeId} {l : List Wd} {uo : Option Addr} {uc : Nat} {t : Wd} {v' : Value} (h : WdOwn w wr ty l uo uc)
    (hown : w'.ownsRow w.heap.size ty 4 v' (l.length + 1) (wdRow l ++ wdC t)) (hgr : wr.grownBy w' (Value.slice uo l.length uc).ownBlock) : ∃ uo' uc', v' = .slice uo' (l ++ [t]).length uc' ∧ WdOwn w w' ty (l ++ [t]) uo' uc' := by
  have hlt := h.row.lt
  have hl : (l ++ [t]).length = l.length + 1 := by simp
  have hbel : Below w.heap.size w w' := h.below.trans ((Only.grown hgr).toBelow h.below.size (fun i hi => by have := (hlt i hi).1; omega))
  rcases hown.2 with ⟨rfl, h0⟩ | ⟨g, cap, cur, rfl, r⟩
  · omega
  · exact ⟨some ⟨g, 0, none⟩, cap, by rw [hl], by rw [hl, wdRow_snoc]; exact hown, hbel⟩
set_option maxHeartbeats 4000000 in
set_option maxRecDepth 20000 in
/-- dayshiftlaw07.taken -/
theorem takenZ (l : List Wd) (uo : Option Addr) (uc o : Nat) (w : World) (hl : l.length ≤ 1000000000000) (hat : WdAt w uo uc o l) : Calls Try.prog 14 #[.slice uo l.length uc] w fun e w' =>
    ∃ uo' uc', e = .returned (.slice uo' l.length uc') ∧ WdOwn w w' 41 l uo' uc' := by
  have HAT := hide hat
  clear hat
  obtain ⟨i0, hi0, hz0, hz1, hz2⟩ := info_parts infoRTok
  go_enter Try.func14, Try.ntmps14
  go_wp2
  go_loopw [3, 4] (fun tl ti wr => ∃ (i : Nat) (uo' : Option Addr) (uc' : Nat), i ≤ l.length ∧ tl = .slice uo' (l.take i).length uc' ∧ ti = .int .i64 i ∧ WdOwn w wr 41 (l.take i) uo' uc') (fun _ ti _ => l.length - (intOf ti).toNat)
  case atStart => exact ⟨0, none, 0, Nat.zero_le _, rfl, rfl, ⟨World.ownsRow_nil _ _ _ _, Below.refl _ _⟩⟩
  case round =>
    obtain ⟨i, uo', uc', hi, rfl, rfl, hst⟩ := hrel
    have HST := hide hst
    clear hst
    have hti : (l.take i).length = i := by rw [List.length_take]; omega
    by_cases hlt : i < l.length
    · obtain ⟨t, ht⟩ : ∃ t, l[i]? = some t := ⟨_, List.getElem?_eq_getElem hlt⟩
      obtain ⟨g, rfl, hc, hg, hcells⟩ := HAT.out (by omega)
      obtain ⟨a0, a1, a2, a3⟩ := hcells i t ht
      have b0 := Below.keeps HST.out.below (Nat.le_refl _) a0
      have b1 := Below.keeps HST.out.below (Nat.le_refl _) a1
      have b2 := Below.keeps HST.out.below (Nat.le_refl _) a2
      have b3 := Below.keeps HST.out.below (Nat.le_refl _) a3
      have htk : l.take (i + 1) = l.take i ++ [t] := by rw [List.take_add_one, ht]; rfl
      clear hcells a0 a1 a2 a3
      obtain ⟨kd, tx, nn, ta⟩ := t
      simp only at b0 b1 b2 b3
      have HROW : Hid (wr.ownsRow w.heap.size 41 4 (.slice uo' i uc') i (wdRow (l.take i))) := by
        have := HST.out.row
        rw [hti] at this
        exact hide this
      have HSTEP : Hid (∀ (w3 : World) (gg cap : Nat) (ob : Obj), w3.ownsRow w.heap.size 41 4 (.slice (some ⟨gg, 0, none⟩) (i + 1) cap) (i + 1) (wdRow (l.take i) ++ wdC ⟨kd, tx, nn, ta⟩) → (wr.drew.alloc ob).grownBy w3 (Value.slice uo' i uc').ownBlock → WdOwn w w3 41 (l.take (i + 1)) (some ⟨gg, 0, none⟩) cap) := fun w3 gg cap ob h1 h2 => by
        have hb : Below wr.heap.size wr (wr.drew.alloc ob) := (Below.refl _ _).drew.alloc (Nat.le_refl _) _
        have h3 := (HST.out.grew hb).push (t := ⟨kd, tx, nn, ta⟩) (v' := .slice (some ⟨gg, 0, none⟩) (i + 1) cap) (w' := w3) (by rw [hti]; exact h1) (by rw [hti]; exact h2)
        obtain ⟨a, b, e, h4⟩ := h3
        simp only [Value.slice.injEq] at e
        obtain ⟨rfl, -, rfl⟩ := e
        rw [htk]; exact h4
      have hrl : ∀ k, (Value.slice uo' i uc').ownBlock = some k → w.heap.size ≤ k ∧ k < wr.heap.size := HROW.out.lt
      have HRL := hide hrl
      have hws : w.heap.size ≤ wr.heap.size := HST.out.below.size
      have far : ¬ (Value.slice uo' i uc').ownBlock = some g := fun e => by have := (hrl g e).1; omega
      have KP : Hid (∀ w', Only (fun k => (Value.slice uo' i uc').ownBlock = some k) wr.drew w' → w'.cell? ⟨g, o + i * 4, none⟩ = some (.int .i64 kd) ∧ w'.cell? ⟨g, o + i * 4 + 1, none⟩ = some (.string tx) ∧ w'.cell? ⟨g, o + i * 4 + 2, none⟩ = some (.int .i64 nn) ∧ w'.cell? ⟨g, o + i * 4 + 3, none⟩ = some (.int .i64 ta)) := fun w' ho =>
        ⟨ho.cell (w := wr.drew) b0 far, ho.cell (w := wr.drew) b1 far, ho.cell (w := wr.drew) b2 far, ho.cell (w := wr.drew) b3 far⟩
      have hi0' : (0 : Int) ≤ (i : Int) := Int.natCast_nonneg _
      have hi1 : (i : Int) < (l.length : Int) := by omega
      clear hrl
      rw [hti]
      go_wp2_with fail
      first
        | (go_region_held3 (fun w' => w'.cell? ⟨g, o + i * 4, none⟩ = some (.int .i64 kd) ∧ w'.cell? ⟨g, o + i * 4 + 1, none⟩ = some (.string tx) ∧ w'.cell? ⟨g, o + i * 4 + 2, none⟩ = some (.int .i64 nn) ∧ w'.cell? ⟨g, o + i * 4 + 3, none⟩ = some (.int .i64 ta))
            (first | (exact KP.out _ (by assumption)) | (exact KP.out _ (Only.alloc _ _ _)) | go_keep)
            (first
              | (refine step_append_lies _ (by rfl) _ _ _ (by rfl) w.heap.size 41 i0 _ 4 40 Try.underlying22 hi0 hz0 hz1 hz2 rfl (by omega) (.slice uo' i uc') i (wdRow (l.take i)) (by rfl) (HROW.out.alloc _)
                  ⟨wr.heap.size, 0, none⟩ 1 1 (wdC ⟨kd, tx, nn, ta⟩) (by rfl) (by rfl) (World.news_of_block (cs := (wdC ⟨kd, tx, nn, ta⟩).toArray) (t := 41) (fr := (0, 0)) (heap_alloc_new wr _)) (wdC_one ⟨kd, tx, nn, ta⟩)
                  (by omega) (by unfold maxLen; omega) (by omega) (by simp; omega) (wr.heap.size + 1) (by simp) ?_; intro gg cap w3 hown3 hgrow hat hlt3; have hR3 : Only (fun k => (Value.slice uo' i uc').ownBlock = some k) wr.drew w3 := (Only.alloc _ _ _).trans (Only.grown hgrow) (fun _ _ h => h))))
        | fail
      all_goals
        have HNEW := hide (HSTEP.out w3 gg cap _ hown3 hgrow)
        clear hown3 hgrow hat hR3 hlt3
        go_wp2
        go_roundw
        case rel => exact ⟨i + 1, _, _, by omega, by rw [List.length_take, Nat.min_eq_left (by omega)], by go_num, HNEW.out⟩
        case measure => simp [intOf]; omega
    · have e : i = l.length := by omega
      subst e
      rw [List.take_length] at HST hti ⊢
      go_wp2
      go_ret
      exact ⟨uo', uc', rfl, HST.out⟩
set_option maxHeartbeats 4000000 in
set_option maxRecDepth 20000 in
/-- dayshiftlaw07.given -/
theorem givenZ (l : List Wd) (uo : Option Addr) (uc o : Nat) (w : World) (hl : l.length ≤ 1000000000000) (hat : WdAt w uo uc o l) : Calls Try.prog 8 #[.slice uo l.length uc] w fun e w' =>
    ∃ uo' uc', e = .returned (.slice uo' l.length uc') ∧ WdOwn w w' 39 l uo' uc' := by
  have HAT := hide hat
  clear hat
  obtain ⟨i0, hi0, hz0, hz1, hz2⟩ := info_parts infoTok
  go_enter Try.func8, Try.ntmps8
  go_wp2
  go_loopw [3, 4] (fun tl ti wr => ∃ (i : Nat) (uo' : Option Addr) (uc' : Nat), i ≤ l.length ∧ tl = .slice uo' (l.take i).length uc' ∧ ti = .int .i64 i ∧ WdOwn w wr 39 (l.take i) uo' uc') (fun _ ti _ => l.length - (intOf ti).toNat)
  case atStart => exact ⟨0, none, 0, Nat.zero_le _, rfl, rfl, ⟨World.ownsRow_nil _ _ _ _, Below.refl _ _⟩⟩
  case round =>
    obtain ⟨i, uo', uc', hi, rfl, rfl, hst⟩ := hrel
    have HST := hide hst
    clear hst
    have hti : (l.take i).length = i := by rw [List.length_take]; omega
    by_cases hlt : i < l.length
    · obtain ⟨t, ht⟩ : ∃ t, l[i]? = some t := ⟨_, List.getElem?_eq_getElem hlt⟩
      obtain ⟨g, rfl, hc, hg, hcells⟩ := HAT.out (by omega)
      obtain ⟨a0, a1, a2, a3⟩ := hcells i t ht
      have b0 := Below.keeps HST.out.below (Nat.le_refl _) a0
      have b1 := Below.keeps HST.out.below (Nat.le_refl _) a1
      have b2 := Below.keeps HST.out.below (Nat.le_refl _) a2
      have b3 := Below.keeps HST.out.below (Nat.le_refl _) a3
      have htk : l.take (i + 1) = l.take i ++ [t] := by rw [List.take_add_one, ht]; rfl
      clear hcells a0 a1 a2 a3
      obtain ⟨kd, tx, nn, ta⟩ := t
      simp only at b0 b1 b2 b3
      have HROW : Hid (wr.ownsRow w.heap.size 39 4 (.slice uo' i uc') i (wdRow (l.take i))) := by
        have := HST.out.row
        rw [hti] at this
        exact hide this
      have HSTEP : Hid (∀ (w3 : World) (gg cap : Nat) (ob : Obj), w3.ownsRow w.heap.size 39 4 (.slice (some ⟨gg, 0, none⟩) (i + 1) cap) (i + 1) (wdRow (l.take i) ++ wdC ⟨kd, tx, nn, ta⟩) → (wr.drew.alloc ob).grownBy w3 (Value.slice uo' i uc').ownBlock → WdOwn w w3 39 (l.take (i + 1)) (some ⟨gg, 0, none⟩) cap) := fun w3 gg cap ob h1 h2 => by
        have hb : Below wr.heap.size wr (wr.drew.alloc ob) := (Below.refl _ _).drew.alloc (Nat.le_refl _) _
        have h3 := (HST.out.grew hb).push (t := ⟨kd, tx, nn, ta⟩) (v' := .slice (some ⟨gg, 0, none⟩) (i + 1) cap) (w' := w3) (by rw [hti]; exact h1) (by rw [hti]; exact h2)
        obtain ⟨a, b, e, h4⟩ := h3
        simp only [Value.slice.injEq] at e
        obtain ⟨rfl, -, rfl⟩ := e
        rw [htk]; exact h4
      have hrl : ∀ k, (Value.slice uo' i uc').ownBlock = some k → w.heap.size ≤ k ∧ k < wr.heap.size := HROW.out.lt
      have HRL := hide hrl
      have hws : w.heap.size ≤ wr.heap.size := HST.out.below.size
      have far : ¬ (Value.slice uo' i uc').ownBlock = some g := fun e => by have := (hrl g e).1; omega
      have KP : Hid (∀ w', Only (fun k => (Value.slice uo' i uc').ownBlock = some k) wr.drew w' → w'.cell? ⟨g, o + i * 4, none⟩ = some (.int .i64 kd) ∧ w'.cell? ⟨g, o + i * 4 + 1, none⟩ = some (.string tx) ∧ w'.cell? ⟨g, o + i * 4 + 2, none⟩ = some (.int .i64 nn) ∧ w'.cell? ⟨g, o + i * 4 + 3, none⟩ = some (.int .i64 ta)) := fun w' ho =>
        ⟨ho.cell (w := wr.drew) b0 far, ho.cell (w := wr.drew) b1 far, ho.cell (w := wr.drew) b2 far, ho.cell (w := wr.drew) b3 far⟩
      have hi0' : (0 : Int) ≤ (i : Int) := Int.natCast_nonneg _
      have hi1 : (i : Int) < (l.length : Int) := by omega
      clear hrl
      rw [hti]
      go_wp2_with fail
      first
        | (go_region_held3 (fun w' => w'.cell? ⟨g, o + i * 4, none⟩ = some (.int .i64 kd) ∧ w'.cell? ⟨g, o + i * 4 + 1, none⟩ = some (.string tx) ∧ w'.cell? ⟨g, o + i * 4 + 2, none⟩ = some (.int .i64 nn) ∧ w'.cell? ⟨g, o + i * 4 + 3, none⟩ = some (.int .i64 ta))
            (first | (exact KP.out _ (by assumption)) | (exact KP.out _ (Only.alloc _ _ _)) | go_keep)
            (first
              | (refine step_append_lies _ (by rfl) _ _ _ (by rfl) w.heap.size 39 i0 _ 4 40 Try.underlying23 hi0 hz0 hz1 hz2 rfl (by omega) (.slice uo' i uc') i (wdRow (l.take i)) (by rfl) (HROW.out.alloc _)
                  ⟨wr.heap.size, 0, none⟩ 1 1 (wdC ⟨kd, tx, nn, ta⟩) (by rfl) (by rfl) (World.news_of_block (cs := (wdC ⟨kd, tx, nn, ta⟩).toArray) (t := 39) (fr := (0, 0)) (heap_alloc_new wr _)) (wdC_one ⟨kd, tx, nn, ta⟩)
                  (by omega) (by unfold maxLen; omega) (by omega) (by simp; omega) (wr.heap.size + 1) (by simp) ?_; intro gg cap w3 hown3 hgrow hat hlt3; have hR3 : Only (fun k => (Value.slice uo' i uc').ownBlock = some k) wr.drew w3 := (Only.alloc _ _ _).trans (Only.grown hgrow) (fun _ _ h => h))))
        | fail
      all_goals
        have HNEW := hide (HSTEP.out w3 gg cap _ hown3 hgrow)
        clear hown3 hgrow hat hR3 hlt3
        go_wp2
        go_roundw
        case rel => exact ⟨i + 1, _, _, by omega, by rw [List.length_take, Nat.min_eq_left (by omega)], by go_num, HNEW.out⟩
        case measure => simp [intOf]; omega
    · have e : i = l.length := by omega
      subst e
      rw [List.take_length] at HST hti ⊢
      go_wp2
      go_ret
      exact ⟨uo', uc', rfl, HST.out⟩
/-- a word without its place -/
def nwZ (p : Bool) (t : Wd) : Wd := if p then t else { t with at_ := 0 }
set_option maxHeartbeats 4000000 in
set_option maxRecDepth 20000 in
/-- dayshiftref07.Same of words that are alike -/
theorem sameZ (p : Bool) (l m : List Wd) (uo vo : Option Addr) (uc vc o q : Nat) (w : World) (hl : l.length ≤ 1000000000000) (hu : WdAt w uo uc o l) (hv : WdAt w vo vc q m) (he : l.map (nwZ p) = m.map (nwZ p)) :
    Calls Try.prog 13 #[.slice uo l.length uc, .slice vo m.length vc, .bool p] w fun e w' => e = .returned (.bool true) ∧ Below w.heap.size w w' := by
  have HU := hide hu
  have HV := hide hv
  have hlen : l.length = m.length := by have := congrArg List.length he; simpa using this
  have HE : Hid (∀ (i : Nat) t u, l[i]? = some t → m[i]? = some u → nwZ p t = nwZ p u) := fun i t u h1 h2 => by
    have := congrArg (fun z : List Wd => z[i]?) he
    simp only [List.getElem?_map, h1, h2, Option.map_some, Option.some.injEq] at this
    exact this
  clear hu hv he
  rw [← hlen]
  go_enter Try.func13, Try.ntmps13
  go_wp2
  go_loopw [7] (fun ti wr => ∃ (i : Nat), i ≤ l.length ∧ ti = .int .i64 i ∧ Below w.heap.size w wr) (fun ti _ => l.length - (intOf ti).toNat)
  case atStart => exact ⟨0, Nat.zero_le _, rfl, Below.refl _ _⟩
  case round =>
    obtain ⟨i, hi, rfl, hbw⟩ := hrel
    have HBW := hide hbw
    clear hbw
    by_cases hlt : i < l.length
    · obtain ⟨t, ht⟩ : ∃ t, l[i]? = some t := ⟨_, List.getElem?_eq_getElem hlt⟩
      obtain ⟨u, hu⟩ : ∃ u, m[i]? = some u := ⟨_, List.getElem?_eq_getElem (hlen ▸ hlt)⟩
      have hnw := HE.out i t u ht hu
      obtain ⟨g, rfl, hc, hg, hcells⟩ := HU.out (by omega)
      obtain ⟨g', rfl, hc', hg', hcells'⟩ := HV.out (by omega)
      obtain ⟨a0, a1, a2, a3⟩ := hcells i t ht
      obtain ⟨c0, c1, c2, c3⟩ := hcells' i u hu
      have b0 := Below.keeps HBW.out (Nat.le_refl _) a0
      have b1 := Below.keeps HBW.out (Nat.le_refl _) a1
      have b2 := Below.keeps HBW.out (Nat.le_refl _) a2
      have b3 := Below.keeps HBW.out (Nat.le_refl _) a3
      have d0 := Below.keeps HBW.out (Nat.le_refl _) c0
      have d1 := Below.keeps HBW.out (Nat.le_refl _) c1
      have d2 := Below.keeps HBW.out (Nat.le_refl _) c2
      have d3 := Below.keeps HBW.out (Nat.le_refl _) c3
      have hws := HBW.out.size
      have hc2 : l.length ≤ vc := by omega
      clear hcells hcells' a0 a1 a2 a3 c0 c1 c2 c3
      obtain ⟨kd, tx, nn, ta⟩ := t
      obtain ⟨kd', tx', nn', ta'⟩ := u
      simp only at b0 b1 b2 b3 d0 d1 d2 d3
      have x0 := fun ob : Obj => Below.keeps ((Below.refl _ _).alloc (Nat.le_refl _) ob) (Nat.le_refl _) d0
      have x1 := fun ob : Obj => Below.keeps ((Below.refl _ _).alloc (Nat.le_refl _) ob) (Nat.le_refl _) d1
      have x2 := fun ob : Obj => Below.keeps ((Below.refl _ _).alloc (Nat.le_refl _) ob) (Nat.le_refl _) d2
      have x3 := fun ob : Obj => Below.keeps ((Below.refl _ _).alloc (Nat.le_refl _) ob) (Nat.le_refl _) d3
      cases p with
      | true =>
        simp only [nwZ, if_true, Wd.mk.injEq] at hnw
        obtain ⟨rfl, rfl, rfl, rfl⟩ := hnw
        go_wp2
        go_roundw
        case rel => exact ⟨i + 1, by omega, rfl, (HBW.out.alloc HBW.out.size _).alloc (by simp; omega) _⟩
        case measure => simp [intOf]; omega
      | false =>
        simp only [nwZ, Bool.false_eq_true, if_false, Wd.mk.injEq] at hnw
        obtain ⟨rfl, rfl, rfl, -⟩ := hnw
        go_wp2
        go_roundw
        case rel => exact ⟨i + 1, by omega, rfl, (HBW.out.alloc HBW.out.size _).alloc (by simp; omega) _⟩
        case measure => simp [intOf]; omega
    · go_wp2
      go_ret
      exact ⟨rfl, HBW.out⟩
set_option maxHeartbeats 4000000 in
set_option maxRecDepth 20000 in
/-- lex.Join -/
theorem lexJoinZ (l : List Wd) (uo : Option Addr) (uc o : Nat) (w : World) (hl : l.length ≤ 1000000000000) (hat : WdAt w uo uc o l) (hj : (joinB (l.map (·.text))).size ≤ 140737488355328) :
    Calls Try.prog 11 #[.slice uo l.length uc] w fun e w' => e = .returned (.string (joinB (l.map (·.text)))) ∧ Below w.heap.size w w' := by
  have HAT := hide hat
  have HJ : Hid (∀ wr uo' uc', SxOwn w wr (l.map (·.text)) uo' uc' → Calls Try.prog 21 #[.slice uo' l.length uc', .string ⟨#[32]⟩] wr fun e w' => e = .returned (.string (joinB (l.map (·.text)))) ∧ Below wr.heap.size wr w') := fun wr uo' uc' h => by
    have := join_own w wr (l.map (·.text)) uo' uc' h (by simpa using hl) hj
    rw [List.length_map] at this
    exact this
  clear hat hj
  obtain ⟨i0, hi0, hz0, hz1, hz2⟩ := info_parts infoStr
  go_enter Try.func11, Try.ntmps11
  go_wp2
  go_loopw [3, 8] (fun tl ti wr => ∃ (i : Nat) (uo' : Option Addr) (uc' : Nat), i ≤ l.length ∧ tl = .slice uo' ((l.take i).map (·.text)).length uc' ∧ ti = .int .i64 i ∧ SxOwn w wr ((l.take i).map (·.text)) uo' uc') (fun _ ti _ => l.length - (intOf ti).toNat)
  case atStart => exact ⟨0, none, 0, Nat.zero_le _, rfl, rfl, SxOwn.nil w⟩
  case round =>
    obtain ⟨i, uo', uc', hi, rfl, rfl, hst⟩ := hrel
    have HST := hide hst
    clear hst
    have hti : ((l.take i).map (·.text)).length = i := by rw [List.length_map, List.length_take]; omega
    by_cases hlt : i < l.length
    · obtain ⟨t, ht⟩ : ∃ t, l[i]? = some t := ⟨_, List.getElem?_eq_getElem hlt⟩
      obtain ⟨g, rfl, hc, hg, hcells⟩ := HAT.out (by omega)
      obtain ⟨a0, a1, a2, a3⟩ := hcells i t ht
      have b0 := Below.keeps HST.out.below (Nat.le_refl _) a0
      have b1 := Below.keeps HST.out.below (Nat.le_refl _) a1
      have b2 := Below.keeps HST.out.below (Nat.le_refl _) a2
      have b3 := Below.keeps HST.out.below (Nat.le_refl _) a3
      have htk : (l.take (i + 1)).map (·.text) = (l.take i).map (·.text) ++ [t.text] := by rw [List.take_add_one, ht]; simp
      clear hcells a0 a1 a2 a3
      obtain ⟨kd, tx, nn, ta⟩ := t
      simp only at b0 b1 b2 b3 htk
      rw [hti]
      go_wp2_with (at_builtin; refine Hid.out ?_)
      refine hide ?_
      obtain ⟨w4, hw4⟩ : ∃ w4, w4 = wr.alloc (.cells #[.int .i64 kd, .string tx, .int .i64 nn, .int .i64 ta] 39) := ⟨_, rfl⟩
      have HB4 : Hid (Below wr.heap.size wr w4) := by refine hide ?_; rw [hw4]; exact (Below.refl _ _).alloc (Nat.le_refl _) _
      have hz4 : w4.heap.size = wr.heap.size + 1 := by rw [hw4]; simp
      rw [← hw4, ← hz4]
      clear hw4
      have HST5 := hide ((HST.out.grew HB4.out).grew ((Below.refl w4.heap.size w4).alloc (Nat.le_refl _) (.cells #[.string tx] 9)))
      have hws : w.heap.size ≤ wr.heap.size := HST.out.below.size
      have hrow := HST5.out.row
      rw [hti] at hrow
      refine wpList_append_own _ rfl _ _ 44 rfl w.heap.size 9 i0 _ 1 16 Try.underlying44 hi0 hz0 hz1 hz2 rfl (by decide) _ i _ rfl hrow ⟨w4.heap.size, 0, none⟩ 1 1 [.string tx] rfl rfl (World.news_of_block (cs := #[.string tx]) (t := 9) (fr := (0, 0)) (heap_alloc_new w4 _)) (sx_one _) (by unfold maxLen; omega) (by omega) (by simp; omega) ?_
      intro v' w6 hown hgr _
      obtain ⟨uo2, uc2, rfl, hst6⟩ := HST5.out.push (x := tx) (by rw [hti]; exact hown) (by rw [hti]; exact hgr)
      rw [← htk] at hst6
      have HST6 := hide hst6
      have hl2 : ((l.take i).map (·.text) ++ [tx]).length = i + 1 := by rw [List.length_append, hti]; rfl
      rw [hl2]
      clear hown hgr hst6 hrow
      go_wp2
      go_roundw
      case rel => exact ⟨i + 1, uo2, uc2, by omega, by rw [htk, hl2], rfl, HST6.out⟩
      case measure => simp [intOf]; omega
    · have e : i = l.length := by omega
      subst e
      rw [List.take_length] at HST hti ⊢
      go_wp2_with fail
      rw [hti]
      refine (HJ.out _ _ _ HST.out).mono ?_
      rintro e w2 ⟨rfl, hb2⟩
      go_wp2
      go_ret
      exact ⟨rfl, HST.out.below.trans (hb2.mono HST.out.below.size)⟩
end Go.Proofs.Ytfbkcipjfjoifaa
