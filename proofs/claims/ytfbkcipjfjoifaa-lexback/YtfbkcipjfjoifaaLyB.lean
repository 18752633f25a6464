/- Layer 7's law: taken (words as the reference has them). -/
import Derived.Test.YtfbkcipjfjoifaaLxM
import Derived.Deep.RegionHeld3
namespace Go.Proofs.Ytfbkcipjfjoifaa
open Go.ChangeShapes Go.WideShapes Go.ChangeAt Go.RowKit Go.DsMem Go.DsLx
set_option linter.unusedVariables false
theorem infoRTok : (Try.prog.info? 41).map (fun i => (i.zero, i.size, i.bytes)) = some (some (.agg #[.int .i64 0, .string ⟨#[]⟩, .int .i64 0, .int .i64 0]), 4, 40) := by kernel_rfl
/-- a slice that reads as words -/
def TkAt (w : World) (uo : Option Addr) (uc o : Nat) (l : List Tk) : Prop :=
  0 < l.length → ∃ g, uo = some ⟨g, o, none⟩ ∧ l.length ≤ uc ∧ g < w.heap.size ∧ ∀ j t, l[j]? = some t → w.cell? ⟨g, o + j * 4, none⟩ = some (.int .i64 t.kind) ∧ w.cell? ⟨g, o + j * 4 + 1, none⟩ = some (.string t.text) ∧ w.cell? ⟨g, o + j * 4 + 2, none⟩ = some (.int .i64 t.n) ∧ w.cell? ⟨g, o + j * 4 + 3, none⟩ = some (.int .i64 t.at_)
theorem TkAt.keep {w w' : World} {uo : Option Addr} {uc o : Nat} {l : List Tk} (h : TkAt w uo uc o l) (hb : Below w.heap.size w w') : TkAt w' uo uc o l := by
  intro h0
  obtain ⟨g, e, hc, hg, hcells⟩ := h h0
  refine ⟨g, e, hc, by have := hb.size; omega, fun j t ht => ?_⟩
  obtain ⟨a, b, c, d⟩ := hcells j t ht
  exact ⟨Below.keeps hb (Nat.le_refl _) a, Below.keeps hb (Nat.le_refl _) b, Below.keeps hb (Nat.le_refl _) c, Below.keeps hb (Nat.le_refl _) d⟩
/-- words of one's own -/
structure TkOwn (w wr : World) (ty : TypeId) (l : List Tk) (uo : Option Addr) (uc : Nat) : Prop where
  row : wr.ownsRow w.heap.size ty 4 (.slice uo l.length uc) l.length (tkRow l)
  below : Below w.heap.size w wr
theorem TkOwn.at_ {w wr : World} {ty : TypeId} {l : List Tk} {uo : Option Addr} {uc : Nat} (h : TkOwn w wr ty l uo uc) : TkAt wr uo uc 0 l := by
  intro h0
  rcases h.row.2 with ⟨_, hz⟩ | ⟨g, cap, cur, e, hb, hg, hc, _⟩
  · omega
  · simp only [Value.slice.injEq] at e
    obtain ⟨rfl, -, rfl⟩ := e
    refine ⟨g, rfl, hc, block_lt hg, fun j t ht => ?_⟩
    have key : ∀ k u, k < 4 → (tkC t)[k]? = some u → wr.cell? ⟨g, j * 4 + k, none⟩ = some u := fun k u hk hu => by
      have := h.row.cells (g := g) rfl (j * 4 + k) u (by rw [tkRow_at l j k t hk ht]; exact hu)
      rw [add_mk, Nat.zero_add] at this
      exact this
    rw [Nat.zero_add]
    exact ⟨key 0 _ (by decide) rfl, key 1 _ (by decide) rfl, key 2 _ (by decide) rfl, key 3 _ (by decide) rfl⟩
theorem TkOwn.grew {w wr w' : World} {ty : TypeId} {l : List Tk} {uo : Option Addr} {uc : Nat} (h : TkOwn w wr ty l uo uc) (hb : Below wr.heap.size wr w') : TkOwn w w' ty l uo uc := by
  refine ⟨⟨h.row.1, ?_⟩, h.below.trans (hb.mono h.below.size)⟩
  rcases h.row.2 with h0 | ⟨g, cap, cur, hv, hbg, hg, r⟩
  · exact .inl h0
  · exact .inr ⟨g, cap, cur, hv, hbg, by rw [hb.block g (block_lt hg)]; exact hg, r⟩
theorem TkOwn.push {w wr w' : World} {ty : TypeId} {l : List Tk} {uo : Option Addr} {uc : Nat} {t : Tk} {v' : Value} (h : TkOwn w wr ty l uo uc)
    (hown : w'.ownsRow w.heap.size ty 4 v' (l.length + 1) (tkRow l ++ tkC t)) (hgr : wr.grownBy w' (Value.slice uo l.length uc).ownBlock) : ∃ uo' uc', v' = .slice uo' (l ++ [t]).length uc' ∧ TkOwn w w' ty (l ++ [t]) uo' uc' := by
  have hlt := h.row.lt
  have hl : (l ++ [t]).length = l.length + 1 := by simp
  have hbel : Below w.heap.size w w' := h.below.trans ((Only.grown hgr).toBelow h.below.size (fun i hi => by have := (hlt i hi).1; omega))
  rcases hown.2 with ⟨rfl, h0⟩ | ⟨g, cap, cur, rfl, r⟩
  · omega
  · exact ⟨some ⟨g, 0, none⟩, cap, by rw [hl], by rw [hl, tkRow_snoc]; exact hown, hbel⟩
set_option maxHeartbeats 4000000 in
set_option maxRecDepth 20000 in
/-- dayshiftlaw07.taken -/
theorem taken_any (l : List Tk) (uo : Option Addr) (uc o : Nat) (w : World) (hl : l.length ≤ 1000000000000) (hat : TkAt w uo uc o l) : Calls Try.prog 14 #[.slice uo l.length uc] w fun e w' =>
    ∃ uo' uc', e = .returned (.slice uo' l.length uc') ∧ TkOwn w w' 41 l uo' uc' := by
  have HAT := hide hat
  clear hat
  obtain ⟨i0, hi0, hz0, hz1, hz2⟩ := info_parts infoRTok
  go_enter Try.func14, Try.ntmps14
  go_wp2
  go_loopw [3, 4] (fun tl ti wr => ∃ (i : Nat) (uo' : Option Addr) (uc' : Nat), i ≤ l.length ∧ tl = .slice uo' (l.take i).length uc' ∧ ti = .int .i64 i ∧ TkOwn w wr 41 (l.take i) uo' uc') (fun _ ti _ => l.length - (intOf ti).toNat)
  case atStart => exact ⟨0, none, 0, Nat.zero_le _, rfl, rfl, ⟨World.ownsRow_nil _ _ _ _, Below.refl _ _⟩⟩
  case round =>
    obtain ⟨i, uo', uc', hi, rfl, rfl, hst⟩ := hrel
    have HST := hide hst
    clear hst
    have hti : (l.take i).length = i := by rw [List.length_take]; omega
    by_cases hlt : i < l.length
    · obtain ⟨t, ht⟩ : ∃ t, l[i]? = some t := ⟨_, List.getElem?_eq_getElem hlt⟩
      obtain ⟨g, rfl, hc, hg, hcells⟩ := HAT.out (by omega)
      obtain ⟨a0, a1, a2, a3⟩ := hcells i t ht
      have b0 := Below.keeps HST.out.below (Nat.le_refl _) a0
      have b1 := Below.keeps HST.out.below (Nat.le_refl _) a1
      have b2 := Below.keeps HST.out.below (Nat.le_refl _) a2
      have b3 := Below.keeps HST.out.below (Nat.le_refl _) a3
      have htk : l.take (i + 1) = l.take i ++ [t] := by rw [List.take_add_one, ht]; rfl
      clear hcells a0 a1 a2 a3
      obtain ⟨kd, tx, nn, ta⟩ := t
      simp only at b0 b1 b2 b3
      have HROW : Hid (wr.ownsRow w.heap.size 41 4 (.slice uo' i uc') i (tkRow (l.take i))) := by
        have := HST.out.row
        rw [hti] at this
        exact hide this
      have HSTEP : Hid (∀ (w3 : World) (gg cap : Nat) (ob : Obj), w3.ownsRow w.heap.size 41 4 (.slice (some ⟨gg, 0, none⟩) (i + 1) cap) (i + 1) (tkRow (l.take i) ++ tkC ⟨kd, tx, nn, ta⟩) → (wr.drew.alloc ob).grownBy w3 (Value.slice uo' i uc').ownBlock → TkOwn w w3 41 (l.take (i + 1)) (some ⟨gg, 0, none⟩) cap) := fun w3 gg cap ob h1 h2 => by
        have hb : Below wr.heap.size wr (wr.drew.alloc ob) := (Below.refl _ _).drew.alloc (Nat.le_refl _) _
        have h3 := (HST.out.grew hb).push (t := ⟨kd, tx, nn, ta⟩) (v' := .slice (some ⟨gg, 0, none⟩) (i + 1) cap) (w' := w3) (by rw [hti]; exact h1) (by rw [hti]; exact h2)
        obtain ⟨a, b, e, h4⟩ := h3
        simp only [Value.slice.injEq] at e
        obtain ⟨rfl, -, rfl⟩ := e
        rw [htk]; exact h4
      have hrl : ∀ k, (Value.slice uo' i uc').ownBlock = some k → w.heap.size ≤ k ∧ k < wr.heap.size := HROW.out.lt
      have HRL := hide hrl
      have hws : w.heap.size ≤ wr.heap.size := HST.out.below.size
      have far : ¬ (Value.slice uo' i uc').ownBlock = some g := fun e => by have := (hrl g e).1; omega
      have KP : Hid (∀ w', Only (fun k => (Value.slice uo' i uc').ownBlock = some k) wr.drew w' → w'.cell? ⟨g, o + i * 4, none⟩ = some (.int .i64 kd) ∧ w'.cell? ⟨g, o + i * 4 + 1, none⟩ = some (.string tx) ∧ w'.cell? ⟨g, o + i * 4 + 2, none⟩ = some (.int .i64 nn) ∧ w'.cell? ⟨g, o + i * 4 + 3, none⟩ = some (.int .i64 ta)) := fun w' ho =>
        ⟨ho.cell (w := wr.drew) b0 far, ho.cell (w := wr.drew) b1 far, ho.cell (w := wr.drew) b2 far, ho.cell (w := wr.drew) b3 far⟩
      have hi0' : (0 : Int) ≤ (i : Int) := Int.natCast_nonneg _
      have hi1 : (i : Int) < (l.length : Int) := by omega
      clear hrl
      rw [hti]
      go_wp2_with fail
      first
        | (go_region_held3 (fun w' => w'.cell? ⟨g, o + i * 4, none⟩ = some (.int .i64 kd) ∧ w'.cell? ⟨g, o + i * 4 + 1, none⟩ = some (.string tx) ∧ w'.cell? ⟨g, o + i * 4 + 2, none⟩ = some (.int .i64 nn) ∧ w'.cell? ⟨g, o + i * 4 + 3, none⟩ = some (.int .i64 ta))
            (first | (exact KP.out _ (by assumption)) | (exact KP.out _ (Only.alloc _ _ _)) | go_keep)
            (first
              | (refine step_append_lies _ (by rfl) _ _ _ (by rfl) w.heap.size 41 i0 _ 4 40 Try.underlying22 hi0 hz0 hz1 hz2 rfl (by omega) (.slice uo' i uc') i (tkRow (l.take i)) (by rfl) (HROW.out.alloc _)
                  ⟨wr.heap.size, 0, none⟩ 1 1 (tkC ⟨kd, tx, nn, ta⟩) (by rfl) (by rfl) (World.news_of_block (cs := (tkC ⟨kd, tx, nn, ta⟩).toArray) (t := 41) (fr := (0, 0)) (heap_alloc_new wr _)) (tkC_one ⟨kd, tx, nn, ta⟩)
                  (by omega) (by unfold maxLen; omega) (by omega) (by simp; omega) (wr.heap.size + 1) (by simp) ?_; intro gg cap w3 hown3 hgrow hat hlt3; have hR3 : Only (fun k => (Value.slice uo' i uc').ownBlock = some k) wr.drew w3 := (Only.alloc _ _ _).trans (Only.grown hgrow) (fun _ _ h => h))))
        | fail
      all_goals
        have HNEW := hide (HSTEP.out w3 gg cap _ hown3 hgrow)
        clear hown3 hgrow hat hR3 hlt3
        go_wp2
        go_roundw
        case rel => exact ⟨i + 1, _, _, by omega, by rw [List.length_take, Nat.min_eq_left (by omega)], by go_num, HNEW.out⟩
        case measure => simp [intOf]; omega
    · have e : i = l.length := by omega
      subst e
      rw [List.take_length] at HST hti ⊢
      go_wp2
      go_ret
      exact ⟨uo', uc', rfl, HST.out⟩
/-- a word without its place -/
def nw (p : Bool) (t : Tk) : Tk := if p then t else { t with at_ := 0 }
set_option maxHeartbeats 4000000 in
set_option maxRecDepth 20000 in
/-- dayshiftref07.Same of words that are alike -/
theorem same_true (p : Bool) (l m : List Tk) (uo vo : Option Addr) (uc vc o q : Nat) (w : World) (hl : l.length ≤ 1000000000000) (hu : TkAt w uo uc o l) (hv : TkAt w vo vc q m) (he : l.map (nw p) = m.map (nw p)) :
    Calls Try.prog 13 #[.slice uo l.length uc, .slice vo m.length vc, .bool p] w fun e w' => e = .returned (.bool true) ∧ Below w.heap.size w w' := by
  have HU := hide hu
  have HV := hide hv
  have hlen : l.length = m.length := by have := congrArg List.length he; simpa using this
  have HE : Hid (∀ (i : Nat) t u, l[i]? = some t → m[i]? = some u → nw p t = nw p u) := fun i t u h1 h2 => by
    have := congrArg (fun z : List Tk => z[i]?) he
    simp only [List.getElem?_map, h1, h2, Option.map_some, Option.some.injEq] at this
    exact this
  clear hu hv he
  rw [← hlen]
  go_enter Try.func13, Try.ntmps13
  go_wp2
  go_loopw [7] (fun ti wr => ∃ (i : Nat), i ≤ l.length ∧ ti = .int .i64 i ∧ Below w.heap.size w wr) (fun ti _ => l.length - (intOf ti).toNat)
  case atStart => exact ⟨0, Nat.zero_le _, rfl, Below.refl _ _⟩
  case round =>
    obtain ⟨i, hi, rfl, hbw⟩ := hrel
    have HBW := hide hbw
    clear hbw
    by_cases hlt : i < l.length
    · obtain ⟨t, ht⟩ : ∃ t, l[i]? = some t := ⟨_, List.getElem?_eq_getElem hlt⟩
      obtain ⟨u, hu⟩ : ∃ u, m[i]? = some u := ⟨_, List.getElem?_eq_getElem (hlen ▸ hlt)⟩
      have hnw := HE.out i t u ht hu
      obtain ⟨g, rfl, hc, hg, hcells⟩ := HU.out (by omega)
      obtain ⟨g', rfl, hc', hg', hcells'⟩ := HV.out (by omega)
      obtain ⟨a0, a1, a2, a3⟩ := hcells i t ht
      obtain ⟨c0, c1, c2, c3⟩ := hcells' i u hu
      have b0 := Below.keeps HBW.out (Nat.le_refl _) a0
      have b1 := Below.keeps HBW.out (Nat.le_refl _) a1
      have b2 := Below.keeps HBW.out (Nat.le_refl _) a2
      have b3 := Below.keeps HBW.out (Nat.le_refl _) a3
      have d0 := Below.keeps HBW.out (Nat.le_refl _) c0
      have d1 := Below.keeps HBW.out (Nat.le_refl _) c1
      have d2 := Below.keeps HBW.out (Nat.le_refl _) c2
      have d3 := Below.keeps HBW.out (Nat.le_refl _) c3
      have hws := HBW.out.size
      have hc2 : l.length ≤ vc := by omega
      clear hcells hcells' a0 a1 a2 a3 c0 c1 c2 c3
      obtain ⟨kd, tx, nn, ta⟩ := t
      obtain ⟨kd', tx', nn', ta'⟩ := u
      simp only at b0 b1 b2 b3 d0 d1 d2 d3
      have x0 := fun ob : Obj => Below.keeps ((Below.refl _ _).alloc (Nat.le_refl _) ob) (Nat.le_refl _) d0
      have x1 := fun ob : Obj => Below.keeps ((Below.refl _ _).alloc (Nat.le_refl _) ob) (Nat.le_refl _) d1
      have x2 := fun ob : Obj => Below.keeps ((Below.refl _ _).alloc (Nat.le_refl _) ob) (Nat.le_refl _) d2
      have x3 := fun ob : Obj => Below.keeps ((Below.refl _ _).alloc (Nat.le_refl _) ob) (Nat.le_refl _) d3
      cases p with
      | true =>
        simp only [nw, if_true, Tk.mk.injEq] at hnw
        obtain ⟨rfl, rfl, rfl, rfl⟩ := hnw
        go_wp2
        go_roundw
        case rel => exact ⟨i + 1, by omega, rfl, (HBW.out.alloc HBW.out.size _).alloc (by simp; omega) _⟩
        case measure => simp [intOf]; omega
      | false =>
        simp only [nw, Bool.false_eq_true, if_false, Tk.mk.injEq] at hnw
        obtain ⟨rfl, rfl, rfl, -⟩ := hnw
        go_wp2
        go_roundw
        case rel => exact ⟨i + 1, by omega, rfl, (HBW.out.alloc HBW.out.size _).alloc (by simp; omega) _⟩
        case measure => simp [intOf]; omega
    · go_wp2
      go_ret
      exact ⟨rfl, HBW.out⟩
end Go.Proofs.Ytfbkcipjfjoifaa
