/- The walk of dayshiftlaw06.cals: a copy of a list of calendars. -/
import Derived.Test.YthbfjkdklnffjaaDoorCgC
namespace Go.Proofs.YthbfjkdklnffjaaDoor
open Go.ChangeShapes Go.WideShapes Go.ChangeAt Go.RowKit Go.DsMem Go.DsMk
set_option linter.unusedVariables false

/-- not greater than what can be copied -/
def FitsC (cs : List (ByteArray × Nd)) : Prop := cs.length ≤ 1599289640354 ∧ ∀ j (hj : j < cs.length), Fits cs[j].2
/-- a calendar's cells -/
def cvC (n : ByteArray) (v : NVal) : List Value := [.string n, .int .i64 v.op, .slice v.no v.nl v.nc, .slice v.ko v.kl v.kc, .string v.nm]
def crowC (E : Nat → ByteArray × NVal) : Nat → List Value
  | 0 => []
  | i + 1 => crowC E i ++ cvC (E i).1 (E i).2
theorem crowC_len (E : Nat → ByteArray × NVal) : ∀ i, (crowC E i).length = i * 5
  | 0 => rfl
  | i + 1 => by rw [crowC, List.length_append, crowC_len E i]; simp [cvC]; omega
theorem crowC_at (E : Nat → ByteArray × NVal) (k : Nat) (hk : k < 5) : ∀ i j, j < i → (crowC E i)[j * 5 + k]? = (cvC (E j).1 (E j).2)[k]?
  | 0, j, h => by omega
  | i + 1, j, h => by
    have hl := crowC_len E i
    rw [crowC]
    by_cases e : j = i
    · subst e
      rw [List.getElem?_append_right (by omega), hl]
      congr 1; omega
    · rw [List.getElem?_append_left (by omega)]
      exact crowC_at E k hk i j (by omega)
theorem crowC_cong {E E' : Nat → ByteArray × NVal} : ∀ i, (∀ j, j < i → E j = E' j) → crowC E i = crowC E' i
  | 0, _ => rfl
  | i + 1, h => by rw [crowC, crowC, crowC_cong i (fun j hj => h j (by omega)), h i (by omega)]
theorem cvC_one (n : ByteArray) (v : NVal) : ∀ u ∈ cvC n v, u.oneCell' = true := by
  intro u hu
  simp only [cvC, List.mem_cons, List.not_mem_nil, or_false] at hu
  rcases hu with rfl | rfl | rfl | rfl | rfl <;> rfl
theorem crowN {w : World} {B : Nat} {e : TypeId} {g n c : Nat} {E : Nat → ByteArray × NVal} (h : w.ownsRow B e 5 (.slice (some ⟨g, 0, none⟩) n c) n (crowC E n)) (j : Nat) (hj : j < n) :
    w.cell? ⟨g, 0 + j * 5, none⟩ = some (.string (E j).1) ∧ NIn w g (0 + j * 5 + 1) (E j).2 := by
  have key : ∀ k u, k < 5 → (cvC (E j).1 (E j).2)[k]? = some u → w.cell? ⟨g, 0 + j * 5 + k, none⟩ = some u := fun k u hk hu => by
    have := h.cells (g := g) rfl (j * 5 + k) u (by rw [crowC_at E k hk n j hj]; exact hu)
    rw [add_mk] at this
    rw [← this]; congr 2; omega
  exact ⟨key 0 _ (by decide) rfl, key 1 _ (by decide) rfl, key 2 _ (by decide) rfl, key 3 _ (by decide) rfl, key 4 _ (by decide) rfl⟩
theorem infoCal : (Tryd.prog.info? 48).map (fun i => (i.zero, i.size, i.bytes)) = some (some (.agg #[.string ⟨#[]⟩, .int .i64 0, .slice none 0 0, .slice none 0 0, .string ⟨#[]⟩]), 5, 88) := by kernel_rfl

/-- what cals holds: i calendars are copied -/
structure ClSt (w wr : World) (cs : List (ByteArray × Nd)) (uo : Option Addr) (uc i : Nat) (E : Nat → ByteArray × NVal) : Prop where
  row : wr.ownsRow w.heap.size 48 5 (.slice uo i uc) i (crowC E i)
  name : ∀ j (hj : j < i) (hk : j < cs.length), (E j).1 = cs[j].1
  sub : ∀ j (hj : j < i) (hk : j < cs.length), NdOn (fun b => w.heap.size ≤ b ∧ b < wr.heap.size ∧ (Value.slice uo i uc).ownBlock ≠ some b) wr (E j).2 cs[j].2
  below : Below w.heap.size w wr
theorem ClSt.start (w : World) (cs : List (ByteArray × Nd)) (E : Nat → ByteArray × NVal) : ClSt w w cs none 0 0 E :=
  ⟨World.ownsRow_nil _ _ _ _, fun j hj => by omega, fun j hj => by omega, Below.refl _ _⟩
theorem ClSt.step {w wr w1 w2 : World} {v1 : NVal} {cs : List (ByteArray × Nd)} {uo : Option Addr} {uc i g cap : Nat} {E : Nat → ByteArray × NVal}
    (h : ClSt w wr cs uo uc i E) (hi : i < cs.length) (hb1 : Below wr.heap.size wr w1) (hon : NdOn (fun b => wr.heap.size ≤ b ∧ b < w1.heap.size) w1 v1 cs[i].2) (o : Obj)
    (hown : w2.ownsRow w.heap.size 48 5 (.slice (some ⟨g, 0, none⟩) (i + 1) cap) (i + 1) (crowC E i ++ cvC cs[i].1 v1)) (hgr : (w1.alloc o).grownBy w2 (Value.slice uo i uc).ownBlock)
    (hat : (Value.slice uo i uc).ownBlock = some g ∨ g = w1.heap.size + 1) :
    ClSt w w2 cs (some ⟨g, 0, none⟩) cap (i + 1) (fun j => if j = i then (cs[i].1, v1) else E j) := by
  have hs0 := h.below.size
  have hs1 := hb1.size
  have hsA : (w1.alloc o).heap.size = w1.heap.size + 1 := by simp
  have hs2 := hgr.size
  have hrow : ∀ k, (Value.slice uo i uc).ownBlock = some k → w.heap.size ≤ k ∧ k < wr.heap.size := h.row.lt
  have hA : Only (fun k => (Value.slice uo i uc).ownBlock = some k) w1 w2 := (Only.alloc _ w1 o).trans (Only.grown hgr) (fun i _ hi => hi)
  have hB : Only (fun k => (Value.slice uo i uc).ownBlock = some k) wr w2 := (Only.below hb1).trans hA (fun i _ hi => hi)
  refine ⟨?_, ?_, ?_, ?_⟩
  · have : crowC (fun j => if j = i then (cs[i].1, v1) else E j) (i + 1) = crowC E i ++ cvC cs[i].1 v1 := by
      rw [crowC, crowC_cong i (E' := E) (fun j hj => if_neg (by omega))]; simp
    rw [this]
    exact hown
  · intro j hj hk
    by_cases e : j = i
    · subst e; simp
    · simp only [if_neg e]; exact h.name j (by omega) hk
  · intro j hj hk
    by_cases e : j = i
    · subst e
      simp only [if_true]
      refine hon.mono (fun b hb => ⟨by omega, by omega, ?_⟩) (fun a u hB' hc => hA.cell hc (fun e => by have := hrow _ e; omega))
      show some g ≠ some b
      intro e
      obtain rfl := Option.some.inj e
      rcases hat with c | c
      · have := hrow _ c; omega
      · omega
    · simp only [if_neg e]
      refine (h.sub j (by omega) hk).mono (fun b hb => ⟨hb.1, by omega, ?_⟩) (fun a u hB' hc => hB.cell hc (fun e => hB'.2.2 e))
      show some g ≠ some b
      intro e
      obtain rfl := Option.some.inj e
      rcases hat with c | c
      · exact hb.2.2 c
      · omega
  · exact h.below.trans (hB.toBelow h.below.size (fun k hk => (hrow _ hk).1))
theorem ClSt.finish {w wr : World} {cs : List (ByteArray × Nd)} {uo : Option Addr} {uc : Nat} {E : Nat → ByteArray × NVal} (h : ClSt w wr cs uo uc cs.length E) (hl : cs.length ≤ 17592186043904) : ∃ g, CalsAt wr uo uc cs g 0 (fun j => (E j).2) := by
  rcases h.row.2 with ⟨e, e0⟩ | ⟨g, cap, cur, e, hg1, hg2, hc, _⟩
  · exact ⟨0, hl, by omega, fun h0 => by omega, fun j hj => by omega, fun j hj => by omega, fun j hj => by omega⟩
  · simp only [Value.slice.injEq] at e
    obtain ⟨rfl, -, rfl⟩ := e
    refine ⟨g, hl, hc, fun _ => rfl, fun j hj => ?_, fun j hj => (crowN h.row j hj).2, fun j hj => (h.sub j hj hj).at_⟩
    rw [(crowN h.row j hj).1, h.name j hj hj]

set_option maxHeartbeats 8000000 in
set_option maxRecDepth 20000 in
/-- dayshiftlaw06.cals -/
theorem cals_any {W w : World} (h : Gc W w) (co : Option Addr) (cc : Nat) (cs : List (ByteArray × Nd)) (g o : Nat) (V : Nat → NVal) (hc : CalsAt w co cc cs g o V) (hf : FitsC cs) :
    Calls Tryd.prog 7 #[.slice co cs.length cc] w fun e w' => ∃ co' cc' g' V', e = .returned (.slice co' cs.length cc') ∧ CalsAt w' co' cc' cs g' 0 V' ∧ Gc W w' := by
  have HG := hide h
  have HC := hide hc
  have HF := hide hf
  have hlen := hf.1
  clear h hc hf
  obtain ⟨i0, hi0, hz0, hz1, hz2⟩ := info_parts infoCal
  go_enter Tryd.func7, Tryd.ntmps7
  go_wp2
  go_loopw [3, 4] (fun tu tt wr => ∃ (i : Nat) (E : Nat → ByteArray × NVal) (uo : Option Addr) (uc : Nat), i ≤ cs.length ∧ tu = .slice uo i uc ∧ tt = .int .i64 i ∧ ClSt w wr cs uo uc i E) (fun _ tt _ => cs.length - (intOf tt).toNat)
  case atStart => exact ⟨0, fun _ => (⟨#[]⟩, ⟨0, none, 0, 0, none, 0, 0, ⟨#[]⟩⟩), none, 0, Nat.zero_le _, rfl, rfl, ClSt.start w cs _⟩
  case round =>
    obtain ⟨i, E, uo, uc, hile, rfl, rfl, hst⟩ := hrel
    have HST := hide hst
    have HBR : Hid (Below w.heap.size w wr) := hst.below
    have HGR : Hid (Gc W wr) := HG.out.more hst.below
    by_cases hlt : i < cs.length
    · obtain rfl := HC.out.at_ (by omega)
      have hnm : wr.cell? ⟨g, o + i * 5, none⟩ = some (.string cs[i].1) := Below.keeps HBR.out (Nat.le_refl _) (HC.out.name i hlt)
      have hin := (HC.out.cell i hlt).mono (w' := wr) fun a u hc => Below.keeps HBR.out (Nat.le_refl _) hc
      have HKD := hide ((HC.out.node i hlt).grew HBR.out)
      have HCALL := hide (given_any (HF.out.2 i hlt))
      have HSTEP : Hid (∀ (w1 w2 : World) (v1 : NVal) (g cap : Nat) (ob : Obj), Below wr.heap.size wr w1 → NdOn (fun b => wr.heap.size ≤ b ∧ b < w1.heap.size) w1 v1 cs[i].2 →
          w2.ownsRow w.heap.size 48 5 (.slice (some ⟨g, 0, none⟩) (i + 1) cap) (i + 1) (crowC E i ++ cvC cs[i].1 v1) → (w1.alloc ob).grownBy w2 (Value.slice uo i uc).ownBlock → ((Value.slice uo i uc).ownBlock = some g ∨ g = w1.heap.size + 1) →
          ClSt w w2 cs (some ⟨g, 0, none⟩) cap (i + 1) (fun j => if j = i then (cs[i].1, v1) else E j)) :=
        fun w1 w2 v1 g cap ob a b c d e => HST.out.step hlt a b ob c d e
      have hrl : ∀ k, (Value.slice uo i uc).ownBlock = some k → w.heap.size ≤ k ∧ k < wr.heap.size := hst.row.lt
      have HRL := hide hrl
      have hg0 : g < w.heap.size := World.block_lt_of_cell? w _ (HC.out.name i hlt)
      have hws : w.heap.size ≤ wr.heap.size := HBR.out.size
      obtain ⟨n0, n1, n2, n3⟩ := hin
      generalize V i = kv at *
      have HCL : Hid (Calls Tryd.prog 8 #[.agg #[.int .i64 kv.op, .slice kv.no kv.nl kv.nc, .slice kv.ko kv.kl kv.kc, .string kv.nm]] wr.drew fun e w' =>
          ∃ v' : NVal, e = .returned (.agg #[.int .i64 v'.op, .slice v'.no v'.nl v'.nc, .slice v'.ko v'.kl v'.kc, .string v'.nm]) ∧ NdOn (fun b => wr.heap.size ≤ b ∧ b < w'.heap.size) w' v' cs[i].2 ∧ Below wr.heap.size wr w' ∧ Only (fun k => (Value.slice uo i uc).ownBlock = some k) wr.drew w') := by
        refine hide ((HCALL.out kv wr.drew wr.drew HGR.out.drew.here (HKD.out.grew (Below.refl _ _).drew)).mono ?_)
        rintro e w' ⟨v', rfl, hon, hg⟩
        exact ⟨v', rfl, hon, (Below.refl _ _).drew.trans hg.below, Only.below hg.below⟩
      have far : ∀ q, q < w.heap.size → ¬ (Value.slice uo i uc).ownBlock = some q := fun q hq e => by have := (HRL.out q e).1; omega
      generalize cs[i].1 = cnm at *
      generalize cs[i].2 = kt at *
      have KP : Hid (∀ w', Only (fun k => (Value.slice uo i uc).ownBlock = some k) wr.drew w' → w'.cell? ⟨g, o + i * 5, none⟩ = some (.string cnm) ∧ w'.cell? ⟨g, o + i * 5 + 1, none⟩ = some (.int .i64 kv.op) ∧ w'.cell? ⟨g, o + i * 5 + 1 + 1, none⟩ = some (.slice kv.no kv.nl kv.nc) ∧ w'.cell? ⟨g, o + i * 5 + 1 + 2, none⟩ = some (.slice kv.ko kv.kl kv.kc) ∧ w'.cell? ⟨g, o + i * 5 + 1 + 3, none⟩ = some (.string kv.nm)) := fun w' ho =>
        ⟨ho.cell (w := wr.drew) hnm (far _ hg0), ho.cell (w := wr.drew) n0 (far _ hg0), ho.cell (w := wr.drew) n1 (far _ hg0), ho.cell (w := wr.drew) n2 (far _ hg0), ho.cell (w := wr.drew) n3 (far _ hg0)⟩
      have HROW := hide hst.row
      have hi0' : (0 : Int) ≤ (i : Int) := Int.natCast_nonneg _
      have hi1 : (i : Int) < (cs.length : Int) := by omega
      have hR0 : Only (fun k => (Value.slice uo i uc).ownBlock = some k) wr.drew wr.drew := Only.refl _ _
      clear hst HCALL HKD
      go_wp2_with fail
      first
        | (go_region_held3 (fun w' => w'.cell? ⟨g, o + i * 5, none⟩ = some (.string cnm) ∧ w'.cell? ⟨g, o + i * 5 + 1, none⟩ = some (.int .i64 kv.op) ∧ w'.cell? ⟨g, o + i * 5 + 1 + 1, none⟩ = some (.slice kv.no kv.nl kv.nc) ∧ w'.cell? ⟨g, o + i * 5 + 1 + 2, none⟩ = some (.slice kv.ko kv.kl kv.kc) ∧ w'.cell? ⟨g, o + i * 5 + 1 + 3, none⟩ = some (.string kv.nm))
            (first | (exact KP.out _ (by assumption)) | (exact KP.out _ (hR1.trans (Only.alloc _ _ _) (fun _ _ h => h))) | go_keep)
            (first
              | (go_at_call 8; refine HCL.out.mono ?_; rintro e w2 ⟨v1, rfl, hon1, hb1, hR1⟩; have hr2 : w2.ownsRow w.heap.size 48 5 (.slice uo i uc) i (crowC E i) := own_same4 HROW.out (fun k hk => hb1.block k (HRL.out k hk).2); have hs2 := hb1.size)
              | (refine step_append_lies _ (by rfl) _ _ _ (by rfl) w.heap.size 48 i0 _ 5 88 Tryd.underlying27 hi0 hz0 hz1 hz2 rfl (by omega) (.slice uo i uc) i (crowC E i) (by rfl) (hr2.alloc _)
                  ⟨w2.heap.size, 0, none⟩ 1 1 (cvC cnm v1) (by rfl) (by rfl) (World.news_of_block (cs := (cvC cnm v1).toArray) (t := 48) (fr := (0, 0)) (heap_alloc_new w2 _)) (cvC_one cnm v1)
                  (by omega) (by unfold maxLen; omega) (by omega) (by simp; omega) (w2.heap.size + 1) (by simp) ?_; intro gg cap w3 hown3 hgrow hat hlt3; have hR3 : Only (fun k => (Value.slice uo i uc).ownBlock = some k) wr.drew w3 := (hR1.trans (Only.alloc _ _ _) (fun _ _ h => h)).trans (Only.grown hgrow) (fun _ _ h => h))))
        | fail
      all_goals
        have HNEW := hide (HSTEP.out w2 w3 v1 gg cap _ hb1 hon1 hown3 hgrow hat)
        clear hb1 hon1 hown3 hgrow hat hr2 hR1 hR3 hlt3
        go_wp2
        go_roundw
        case rel => exact ⟨i + 1, _, _, _, by omega, rfl, by go_num, HNEW.out⟩
        case measure => simp [intOf]; omega
    · obtain rfl : i = cs.length := by omega
      clear hst
      obtain ⟨g', hfin⟩ := HST.out.finish (by omega)
      have HFIN := hide hfin
      clear hfin
      go_wp2
      go_ret
      exact ⟨uo, uc, g', _, rfl, HFIN.out, HGR.out⟩
end Go.Proofs.YthbfjkdklnffjaaDoor
