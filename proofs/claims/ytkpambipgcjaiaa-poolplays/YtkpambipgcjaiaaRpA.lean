/- Package dayshiftref13: the reference's pool in memory; find, Units. -/
import Derived.Test.YtkpambipgcjaiaaPmF
namespace Go.DsPl
open Go.DsCo
set_option linter.unusedVariables false
abbrev Rt3 := ByteArray × (Int × Bool)
def kdR (x : Rt3) : Kd := if x.2.2 = true then .lock else .units x.2.1
def rkR (X : List Rt3) : List Rk := X.map fun x => (x.1, kdR x)
/-- where a name stands -/
def idxV (nm : ByteArray) : Nat → List Rt3 → Int
  | _, [] => -1
  | k, x :: r => if x.1 = nm then (k : Int) else idxV nm (k + 1) r
theorem idxV_or (nm : ByteArray) : ∀ (X : List Rt3) (k : Nat), (idxV nm k X = -1 ∧ findK (rkR X) nm = none) ∨ ∃ i, ∃ h : i < X.length, idxV nm k X = ((k + i : Nat) : Int) ∧ X[i].1 = nm ∧ findK (rkR X) nm = some (kdR X[i])
  | [], k => .inl ⟨rfl, rfl⟩
  | x :: r, k => by
    by_cases e : x.1 = nm
    · refine .inr ⟨0, by simp, ?_, by simpa using e, ?_⟩
      · rw [idxV, if_pos e]; simp
      · show findK ((x.1, kdR x) :: rkR r) nm = _
        rw [findK, if_pos e]; rfl
    · rcases idxV_or nm r (k + 1) with ⟨h1, h2⟩ | ⟨i, h, h1, h2, h3⟩
      · refine .inl ⟨?_, ?_⟩
        · rw [idxV, if_neg e]; exact h1
        · show findK ((x.1, kdR x) :: rkR r) nm = _
          rw [findK, if_neg e]; exact h2
      · refine .inr ⟨i + 1, by simp; omega, ?_, by simpa using h2, ?_⟩
        · rw [idxV, if_neg e, h1]; congr 1; omega
        · show findK ((x.1, kdR x) :: rkR r) nm = _
          rw [findK, if_neg e, h3]; simp
end Go.DsPl
namespace Go.Proofs.Ytkpambipgcjaiaa
open Go.ChangeShapes Go.WideShapes Go.ChangeAt Go.RowKit Go.DsMem Go.DsCo Go.DsPl Go.DsMap
set_option linter.unusedVariables false
set_option linter.unusedSimpArgs false
/-- the reference's pool in memory, its lists the call's own from block b0 on -/
structure RpAt (w : World) (pr b0 : Nat) (X : List Rt) (H : List Hd) (uo vo : Option Addr) (uc vc : Nat) : Prop where
  blk : w.heap[pr]? = some (.cells #[.slice uo X.length uc, .slice vo H.length vc] 37 (0, 0))
  rs : w.ownsRow b0 66 3 (.slice uo X.length uc) X.length (rtRow X)
  hs : w.ownsRow b0 40 4 (.slice vo H.length vc) H.length (hdRows H)
  nx : ∀ k, (Value.slice uo X.length uc).ownBlock = some k → k ≠ pr
  nh : ∀ k, (Value.slice vo H.length vc).ownBlock = some k → k ≠ pr
theorem RpAt.c0 {w : World} {pr b0 : Nat} {X : List Rt} {H : List Hd} {uo vo : Option Addr} {uc vc : Nat} (h : RpAt w pr b0 X H uo vo uc vc) : w.cell? ⟨pr, 0, none⟩ = some (.slice uo X.length uc) := by rw [cell_of h.blk]; rfl
theorem RpAt.c1 {w : World} {pr b0 : Nat} {X : List Rt} {H : List Hd} {uo vo : Option Addr} {uc vc : Nat} (h : RpAt w pr b0 X H uo vo uc vc) : w.cell? ⟨pr, 1, none⟩ = some (.slice vo H.length vc) := by rw [cell_of h.blk]; rfl
theorem RpAt.rdX {w : World} {pr b0 : Nat} {X : List Rt} {H : List Hd} {uo vo : Option Addr} {uc vc : Nat} (h : RpAt w pr b0 X H uo vo uc vc) : 0 < X.length → ∃ g, uo = some ⟨g, 0, none⟩ ∧ b0 ≤ g ∧ ∀ j (hj : j < X.length), w.cell? ⟨g, j * 3, none⟩ = some (.string X[j].1) ∧ w.cell? ⟨g, j * 3 + 1, none⟩ = some (.int .i64 X[j].2.1) ∧ w.cell? ⟨g, j * 3 + 2, none⟩ = some (.bool X[j].2.2) := by
  intro h0
  rcases h.rs.2 with ⟨_, hz⟩ | ⟨g, cap, cur, e, hb, hg, hc, _⟩
  · omega
  · simp only [Value.slice.injEq] at e
    obtain ⟨rfl, -, rfl⟩ := e
    refine ⟨g, rfl, hb, fun j hj => ?_⟩
    have key : ∀ k u, k < 3 → (rtC X[j])[k]? = some u → w.cell? ⟨g, j * 3 + k, none⟩ = some u := fun k u hk hu => by
      have := h.rs.cells (g := g) rfl (j * 3 + k) u (by rw [rtRow_at X j k X[j] hk (List.getElem?_eq_getElem hj)]; exact hu)
      rw [add_mk, Nat.zero_add] at this
      exact this
    exact ⟨key 0 _ (by decide) rfl, key 1 _ (by decide) rfl, key 2 _ (by decide) rfl⟩
theorem RpAt.rdH {w : World} {pr b0 : Nat} {X : List Rt} {H : List Hd} {uo vo : Option Addr} {uc vc : Nat} (h : RpAt w pr b0 X H uo vo uc vc) : 0 < H.length → ∃ g, vo = some ⟨g, 0, none⟩ ∧ b0 ≤ g ∧ ∀ j (hj : j < H.length), w.cell? ⟨g, j * 4, none⟩ = some (.int .i64 H[j].1.1) ∧ w.cell? ⟨g, j * 4 + 1, none⟩ = some (.string H[j].1.2) ∧ w.cell? ⟨g, j * 4 + 2, none⟩ = some (.int .i64 H[j].2.1) ∧ w.cell? ⟨g, j * 4 + 3, none⟩ = some (.int .i64 H[j].2.2) := by
  intro h0
  rcases h.hs.2 with ⟨_, hz⟩ | ⟨g, cap, cur, e, hb, hg, hc, _⟩
  · omega
  · simp only [Value.slice.injEq] at e
    obtain ⟨rfl, -, rfl⟩ := e
    refine ⟨g, rfl, hb, fun j hj => ?_⟩
    have key : ∀ k u, k < 4 → (encH H[j])[k]? = some u → w.cell? ⟨g, j * 4 + k, none⟩ = some u := fun k u hk hu => by
      have := h.hs.cells (g := g) rfl (j * 4 + k) u (by rw [hdRows_get H _ (by omega), show (j * 4 + k) / 4 = j by omega, show (j * 4 + k) % 4 = k by omega, getElem!_pos H j hj]; exact hu)
      rw [add_mk, Nat.zero_add] at this
      exact this
    exact ⟨key 0 _ (by decide) rfl, key 1 _ (by decide) rfl, key 2 _ (by decide) rfl, key 3 _ (by decide) rfl⟩
theorem RpAt.below {w w' : World} {pr b0 : Nat} {X : List Rt} {H : List Hd} {uo vo : Option Addr} {uc vc : Nat} (h : RpAt w pr b0 X H uo vo uc vc) (hb : Below w.heap.size w w') : RpAt w' pr b0 X H uo vo uc vc :=
  ⟨by rw [hb.block pr (block_lt h.blk)]; exact h.blk, own3_same h.rs (fun k hk => hb.block k (h.rs.lt k hk).2), by
    refine ⟨h.hs.1, ?_⟩
    rcases h.hs.2 with h0 | ⟨g, cap, cur, hv, hbg, hg, r⟩
    · exact .inl h0
    · exact .inr ⟨g, cap, cur, hv, hbg, by rw [hb.block g (block_lt hg)]; exact hg, r⟩, h.nx, h.nh⟩
set_option maxHeartbeats 4000000 in
set_option maxRecDepth 20000 in
/-- (*dayshiftref13.Pool).find -/
theorem rfind_any (nm : ByteArray) (pr b0 : Nat) (X : List Rt) (H : List Hd) (uo vo : Option Addr) (uc vc : Nat) (w : World) (h : RpAt w pr b0 X H uo vo uc vc) (hX : X.length ≤ 1000000) : Calls Try.prog 51 #[ptr pr, .string nm] w fun e w' => e = .returned (.int .i64 (idxV nm 0 X)) ∧ Below w.heap.size w w' := by
  have HP := hide h
  obtain ⟨Q, hQ⟩ : ∃ Q, idxV nm 0 X = Q := ⟨_, rfl⟩
  rw [hQ]
  have HQ := hide hQ
  have c0 := h.c0
  clear h hQ
  unfold ptr
  go_enter Try.func51, Try.ntmps51
  go_wp2
  go_loopw [5] (fun i wr => ∃ k : Nat, k ≤ X.length ∧ i = .int .i64 k ∧ idxV nm k (X.drop k) = Q ∧ Below w.heap.size w wr) (fun i _ => X.length - (intOf i).toNat)
  case atStart => exact ⟨0, Nat.zero_le _, rfl, HQ.out, Below.refl _ _⟩
  case round =>
    obtain ⟨k, hk, rfl, hq, hbl⟩ := hrel
    have HPO := hide (HP.out.below hbl)
    have HBL := hide hbl
    have c0 := HPO.out.c0
    clear hbl
    by_cases hlt : k < X.length
    · have HLT := hide hlt
      have hk0 : (0 : Int) ≤ (k : Int) := by omega
      have hk1 : (k : Int) < ((X.length : Nat) : Int) := by omega
      rw [drop_cons hlt, idxV] at hq
      obtain ⟨g, rfl, hg, hcells⟩ := HPO.out.rdX (by omega)
      obtain ⟨e0, _, _⟩ := hcells k hlt
      clear hcells
      generalize X[k] = x at *
      by_cases hx : x.1 = nm
      · rw [if_pos hx] at hq
        rw [hx] at e0
        have HQ2 := hide hq
        clear hq
        go_wp2
        go_ret
        exact ⟨retI HQ2.out, HBL.out⟩
      · rw [if_neg hx] at hq
        have HQ2 := hide hq
        have hne := str_neP hx
        clear hq
        go_wp2
        go_roundw
        case rel => exact ⟨k + 1, by have := HLT.out; omega, by go_num, HQ2.out, HBL.out⟩
        case measure => have := HLT.out; simp [intOf]; omega
    · have e : k = X.length := by omega
      subst e
      rw [List.drop_length, idxV] at hq
      go_wp2
      go_ret
      exact ⟨retI hq, HBL.out⟩
set_option maxHeartbeats 4000000 in
set_option maxRecDepth 20000 in
/-- (*dayshiftref13.Pool).Units -/
theorem runits_any (nm : ByteArray) (pr b0 : Nat) (X : List Rt) (H : List Hd) (uo vo : Option Addr) (uc vc : Nat) (w : World) (h : RpAt w pr b0 X H uo vo uc vc) (hX : X.length ≤ 1000000) : Calls Try.prog 24 #[ptr pr, .string nm] w fun e w' => e = .returned (.tuple #[.int .i64 (unitsF (rkR X) nm).1, .int .i64 (unitsF (rkR X) nm).2]) ∧ Below w.heap.size w w' := by
  have HF := hide (rfind_any nm pr b0 X H uo vo uc vc w h hX)
  have HP := hide h
  have c0 := h.c0
  unfold unitsF
  unfold ptr at *
  rcases idxV_or nm X 0 with ⟨h1, h2⟩ | ⟨i, hi, h1, h2, h3⟩
  · rw [h2]
    rw [h1] at HF
    clear h h1 h2 c0
    go_enter Try.func24, Try.ntmps24
    go_wp2_with fail
    refine HF.out.mono ?_
    rintro e w1 ⟨rfl, hb⟩
    have HB := hide hb
    clear hb
    go_wp2
    go_ret2
    exact ⟨rfl, HB.out⟩
  · rw [h3]
    rw [h1, Nat.zero_add] at HF
    obtain ⟨g, rfl, hg, hcells⟩ := h.rdX (by omega)
    obtain ⟨_, e1, e2⟩ := hcells i hi
    have hi0 : (0 : Int) ≤ (i : Int) := by omega
    have hi1 : (i : Int) < ((X.length : Nat) : Int) := by omega
    clear h h1 h2 h3 hcells
    unfold kdR
    generalize X[i] = x at *
    obtain ⟨xn, xu, xl⟩ := x
    simp only at e1 e2
    cases xl with
    | true =>
      simp only [if_true]
      go_enter Try.func24, Try.ntmps24
      go_wp2_with fail
      refine HF.out.mono ?_
      rintro e w1 ⟨rfl, hb⟩
      have c0 := Below.keeps hb (Nat.le_refl _) c0
      have e1 := Below.keeps hb (Nat.le_refl _) e1
      have e2 := Below.keeps hb (Nat.le_refl _) e2
      have HB := hide hb
      clear hb
      go_wp2
      go_ret2
      exact ⟨rfl, HB.out⟩
    | false =>
      simp only [Bool.false_eq_true, if_false]
      go_enter Try.func24, Try.ntmps24
      go_wp2_with fail
      refine HF.out.mono ?_
      rintro e w1 ⟨rfl, hb⟩
      have c0 := Below.keeps hb (Nat.le_refl _) c0
      have e1 := Below.keeps hb (Nat.le_refl _) e1
      have e2 := Below.keeps hb (Nat.le_refl _) e2
      have HB := hide hb
      clear hb
      go_wp2
      go_ret2
      exact ⟨rfl, HB.out⟩
end Go.Proofs.Ytkpambipgcjaiaa
