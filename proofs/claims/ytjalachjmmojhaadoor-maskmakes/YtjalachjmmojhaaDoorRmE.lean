/- The walks of dayshiftref05's Not and of dayshiftlaw05's days and same. -/
import Derived.Test.YtjalachjmmojhaaDoorRmD
import Derived.Deep.RegionHeld3
namespace Go.Proofs.YtjalachjmmojhaaDoor
open Go.ChangeShapes Go.WideShapes Go.ChangeAt Go.RowKit Go.DsMem Go.DsMk
set_option linter.unusedVariables false

theorem set_fill3 {cs : Array Value} {f h : Nat → Bool} {k : Nat} (hs : cs.size = 32) (hk : k ≤ 31) (hc : ∀ d, 1 ≤ d → d ≤ 31 → cs[d]? = some (.bool (if d < k then f d else h d))) {b : Bool} (hb : b = f k) :
    ∀ d, 1 ≤ d → d ≤ 31 → (cs.setIfInBounds k (.bool b))[d]? = some (.bool (if d < k + 1 then f d else h d)) := by
  intro d h1 h2
  rw [Array.getElem?_setIfInBounds]
  split
  · rename_i e; subst e; rw [if_pos (by omega), hb, if_pos (by omega)]
  · rw [hc d h1 h2]
    by_cases hd : d < k
    · rw [if_pos hd, if_pos (by omega)]
    · rw [if_neg hd, if_neg (by omega)]

theorem cell_set_ne {w : World} {p q i j : Nat} {x : Value} (h : ¬ q = p) : (w.setCell ⟨p, i, none⟩ x).cell? ⟨q, j, none⟩ = w.cell? ⟨q, j, none⟩ := by
  exact World.cell?_of_block (heap_set_ne (fun e => h e.symm))
theorem cell_set_drew {w : World} {p q i j : Nat} {x : Value} (h : ¬ q = p) : (w.setCell ⟨p, i, none⟩ x).drew.cell? ⟨q, j, none⟩ = w.cell? ⟨q, j, none⟩ := cell_set_ne h
theorem RMk.drew {W wr : World} {p2 p3 g : Nat} {cs : Array Value} (h : RMk W wr p2 p3 g cs) : RMk W wr.drew p2 p3 g cs := h.grew (Below.refl _ _).drew
theorem Made.up {w wA w' : World} {f : Nat → Bool} {e : Ending} (hb : Below w.heap.size w wA) (h : Made wA f e w') : Made w f e w' := by
  obtain ⟨v, g, he, hg, hr, hB⟩ := h
  exact ⟨v, g, he, Nat.le_trans hb.size hg, hr, hb.trans (hB.mono hb.size)⟩
set_option maxHeartbeats 2000000 in
/-- dayshiftref05.Month.Not -/
theorem rnot_any (x : Nat) (n : Int) (v : Value) (w : World) (hx : x < 4294967296) (h : RMonth w v x) :
    Calls Tryd.prog 37 #[v, .int .i64 n] w (Made w (fun d => (difN (allN n) x).testBit (d - 1))) := by
  obtain ⟨gm, hr⟩ := h
  have HR := hide hr
  obtain rfl := hr.val
  clear hr
  have hall := allN_lt n
  have HD : Hid (∀ i, (difN (allN n) x).testBit i = ((allN n).testBit i && !x.testBit i)) := difN_bit _ _ (by omega) hx
  go_enter Tryd.func37, Tryd.ntmps37
  go_wp2_with fail
  obtain ⟨wA, hwA⟩ : ∃ wA, wA = w.alloc (.cells #[.slice (some ⟨gm, 0, none⟩) 32 32] 32) := ⟨_, rfl⟩
  have cB : wA.cell? ⟨w.heap.size, 0, none⟩ = some (.slice (some ⟨gm, 0, none⟩) 32 32) := by rw [hwA, cell_of (heap_alloc_new w _)]; rfl
  have HB : Hid (Below w.heap.size w wA) := by rw [hwA]; exact (Below.refl _ _).alloc (Nat.le_refl _) _
  have HRA := hide (HR.out.below HB.out)
  have HZ : Hid (w.heap.size + 1 = wA.heap.size) := by rw [hwA]; show _ = _; simp
  rw [← hwA]
  have HCB := hide cB
  clear hwA cB
  refine (rall_any _ _).mono ?_; rintro e w1 ⟨v, g, rfl, hg, hr, hb⟩
  obtain ⟨rfl, cs0, hrow, hsz, hcs0⟩ := hr
  have H0 := hide (RMk.start hg hrow hsz hb)
  have HC0 := hide hcs0
  clear hg hrow hsz hb hcs0
  go_wp2
  rw [HZ.out]
  generalize hp2 : w.heap.size = p2 at HCB HZ ⊢
  generalize w1.heap.size = p3 at *
  go_loopw [6] (fun i wr => ∃ k : Nat, 1 ≤ k ∧ k ≤ 32 ∧ i = .int .i64 k ∧ ∃ cs, RMk wA wr wA.heap.size p3 g cs ∧ ∀ d, 1 ≤ d → d ≤ 31 → cs[d]? = some (.bool (if d < k then (difN (allN n) x).testBit (d - 1) else (allN n).testBit (d - 1)))) (fun i _ => 32 - (intOf i).toNat)
  case atStart => exact ⟨1, by omega, by omega, rfl, cs0, H0.out, fun d h1 h2 => by rw [if_neg (by omega)]; exact HC0.out d h1 h2⟩
  case round =>
    obtain ⟨k, hk1, hk2, rfl, cs, hm, hcs⟩ := hrel
    have HM := hide hm
    have HC := hide hcs
    have c3 := hm.c3
    clear hcs
    by_cases hlt : k ≤ 31
    · have cm := (HRA.out.below hm.below).cell k hk1 hlt
      have cb := Below.keeps hm.below (Nat.le_refl _) HCB.out
      have cg : wr.cell? ⟨g, k, none⟩ = some (.bool ((allN n).testBit (k - 1))) := by rw [cell_of hm.row, HC.out k hk1 hlt, if_neg (by omega)]
      have fz : wr.frozen? ⟨g, k, none⟩ = false := frozen_of hm.row
      have HDk := hide (HD.out (k - 1))
      clear hm
      generalize hta : (allN n).testBit (k - 1) = ta at *
      generalize htx : x.testBit (k - 1) = tx at *
      clear hta htx
      have k0 : (0 : Int) ≤ (k : Int) := by omega
      have k32 : (k : Int) < 32 := by omega
      have np : ¬ p3 = g := HM.out.lo.2.2.2.2.1
      have nq : ¬ p2 = g := fun e => by have := HM.out.lo.2.2.1; have := HZ.out; omega
      have nm : ¬ gm = g := fun e => by
        have h1 := HM.out.lo.2.2.1
        obtain ⟨_, cs, hr, _⟩ := HRA.out
        have := block_lt hr
        omega
      have HDt : Hid ((!tx) = (difN (allN n) x).testBit (k - 1) ∨ ta = false) := by
        show _ ∨ _
        rw [HDk.out]; cases ta <;> simp
      have HDf : Hid (ta = false → false = (difN (allN n) x).testBit (k - 1)) := fun e => by rw [HDk.out, e]; rfl
      cases ta
      · go_wp2
        go_region
        all_goals
          go_wp2
          go_roundw
          case rel => exact ⟨k + 1, by omega, by omega, by go_num, _, HM.out.drew.set k _, set_fill3 HM.out.size hlt HC.out (by have := HDf.out; simpa using this)⟩
          case measure => simp [intOf]; omega
      · have HT : Hid ((!tx) = (difN (allN n) x).testBit (k - 1)) := HDt.out.resolve_right (by simp)
        go_wp2
        go_region
        all_goals
          go_wp2
          go_roundw
          case rel => exact ⟨k + 1, by omega, by omega, by go_num, _, HM.out.drew.set k _, set_fill3 HM.out.size hlt HC.out HT.out⟩
          case measure => simp [intOf]; omega
    · have HE : Hid (∀ d, 1 ≤ d → d ≤ 31 → cs[d]? = some (.bool ((difN (allN n) x).testBit (d - 1)))) := fun d h1 h2 => by rw [HC.out d h1 h2, if_pos (by omega)]
      obtain ⟨c2, f2⟩ := hm.c2
      clear hm
      go_wp2
      refine bodyPost_ret (v := .agg #[.slice (some ⟨g, 0, none⟩) 32 32]) (by simp [results, Tryd.results37, go_sem, c2]) rfl (Made.up HB.out (HM.out.made HE.out))
end Go.Proofs.YtjalachjmmojhaaDoor
