/- The walks of dayshiftref05's All, Week, Bits, Has. -/
import Derived.Test.YtjalachjmmojhaaDoorRmA
namespace Go.Proofs.YtjalachjmmojhaaDoor
open Go.ChangeShapes Go.WideShapes Go.ChangeAt Go.RowKit Go.DsMem Go.DsMk
set_option linter.unusedVariables false

theorem allN_day (n : Int) (d : Nat) (h1 : 1 ≤ d) (h2 : d ≤ 31) : (allN n).testBit (d - 1) = decide ((d : Int) ≤ n) := by
  rw [allN_bit, decide_eq_decide]; omega
set_option maxHeartbeats 1000000 in
/-- dayshiftref05.All -/
theorem rall_any (n : Int) (w : World) :
    Calls Tryd.prog 18 #[.int .i64 n] w (Made w (fun d => (allN n).testBit (d - 1))) := by
  go_enter Tryd.func18, Tryd.ntmps18
  go_wp2_with fail
  refine (rnone_any _).mono ?_; rintro e w1 ⟨v, g, rfl, hg, hr, hb⟩
  obtain ⟨rfl, cs0, hrow, hsz, -⟩ := hr
  have H0 := hide (RMk.start hg hrow hsz hb)
  clear hg hrow hsz hb
  go_wp2
  generalize w1.heap.size = p3 at *
  go_loopw [4] (fun i wr => ∃ k : Nat, 1 ≤ k ∧ k ≤ 32 ∧ i = .int .i64 k ∧ ∃ cs, RMk w wr w.heap.size p3 g cs ∧ ∀ d, 1 ≤ d → d < k → cs[d]? = some (.bool ((allN n).testBit (d - 1)))) (fun i _ => 32 - (intOf i).toNat)
  case atStart => exact ⟨1, by omega, by omega, rfl, cs0, H0.out, fun d h1 h2 => by omega⟩
  case round =>
    obtain ⟨k, hk1, hk2, rfl, cs, hm, hcs⟩ := hrel
    have HM := hide hm
    have HC := hide hcs
    have c3 := hm.c3
    clear hcs
    by_cases hlt : k ≤ 31
    · obtain ⟨b0, cg, fz⟩ := hm.cg k (by omega)
      have HT := hide (allN_day n k hk1 hlt)
      clear hm
      go_wp2
      go_roundw
      case rel => exact ⟨k + 1, by omega, by omega, by go_num, _, HM.out.set k _, set_fill HM.out.size hlt HC.out HT.out.symm⟩
      case measure => simp [intOf]; omega
    · obtain ⟨c2, f2⟩ := hm.c2
      clear hm
      go_wp2
      refine bodyPost_ret (v := .agg #[.slice (some ⟨g, 0, none⟩) 32 32]) (by simp [results, Tryd.results18, go_sem, c2]) rfl (HM.out.made fun d h1 h2 => HC.out d h1 (by omega))

theorem bit_and8 (x k : Nat) (hx : x < 256) : bits .and .u8 ((x : Int) / 2 ^ k) 1 = if x.testBit k then 1 else 0 := by
  have e : (x : Int) / 2 ^ k = ((x / 2 ^ k : Nat) : Int) := by rw [pow_cast]; omega
  have hl : x / 2 ^ k < 256 := Nat.lt_of_le_of_lt (Nat.div_le_self _ _) hx
  rw [e, show (1 : Int) = ((1 : Nat) : Int) by rfl, and8 _ 1 hl (by decide), Nat.and_one_is_mod, Nat.testBit_eq_decide_div_mod_eq]
  by_cases h : x / 2 ^ k % 2 = 1
  · simp [h]
  · simp [h]; omega
theorem set_fill2 {cs : Array Value} {f : Nat → Bool} {k : Nat} (hs : cs.size = 32) (hk : k ≤ 31) (h : ∀ d, 1 ≤ d → d ≤ 31 → cs[d]? = some (.bool (decide (d < k) && f d))) {b : Bool} (hb : b = f k) :
    ∀ d, 1 ≤ d → d ≤ 31 → (cs.setIfInBounds k (.bool b))[d]? = some (.bool (decide (d < k + 1) && f d)) := by
  intro d h1 h2
  rw [Array.getElem?_setIfInBounds]
  split
  · rename_i e; subst e; rw [if_pos (by omega), hb]; simp
  · rw [h d h1 h2, show decide (d < k) = decide (d < k + 1) by rw [decide_eq_decide]; omega]
theorem weekN_day (bits : Nat) (first n : Int) (d : Nat) (h1 : 1 ≤ d) (h2 : d ≤ 31) : (weekN bits first n).testBit (d - 1) = (decide ((d : Int) ≤ n) && bits.testBit ((first + d - 1) % 7).toNat) := by
  rw [weekN_bit, show first + ((d - 1 : Nat) : Int) = first + d - 1 by omega, show decide (((d - 1 : Nat) : Int) < n ∧ d - 1 < 31) = decide ((d : Int) ≤ n) by rw [decide_eq_decide]; omega]

set_option maxHeartbeats 2000000 in
/-- dayshiftref05.Week: behind the remainder -/
theorem rweek_core (bits : Nat) (first n t u : Int) (w : World) (hbits : bits < 256) (ht : first.tmod 7 = t) (t1 : -7 < t) (t2 : t < 7) (hu : u = if t < 0 then t + 7 else t) (Hu : Hid (u = first % 7)) (u0 : 0 ≤ u) (u6 : u < 7) (hf1 : -9223372036854775808 ≤ first) (hf2 : first ≤ 9223372036854775807) :
    Calls Tryd.prog 19 #[.int .u8 bits, .int .i64 first, .int .i64 n] w (Made w (fun d => (weekN bits first n).testBit (d - 1))) := by
  by_cases hneg : t < 0
  all_goals
    first | rw [if_pos hneg] at hu | rw [if_neg hneg] at hu
    go_enter Tryd.func19, Tryd.ntmps19
    go_wp2_with fail
    refine (rnone_any _).mono ?_; rintro e w1 ⟨v, g, rfl, hg, hr, hb⟩
    obtain ⟨rfl, cs0, hrow, hsz, hcs0⟩ := hr
    have H0 := hide (RMk.start hg hrow hsz hb)
    have HC0 := hide hcs0
    clear hg hrow hsz hb hcs0
    go_wp2
    rw [← hu]
    have HU := hide hu
    clear hu
    generalize w1.heap.size = p3 at *
    go_loopw [9] (fun i wr => ∃ k : Nat, 1 ≤ k ∧ k ≤ 32 ∧ i = .int .i64 k ∧ ∃ cs, RMk w wr w.heap.size p3 g cs ∧ ∀ d, 1 ≤ d → d ≤ 31 → cs[d]? = some (.bool (decide (d < k) && (weekN bits first n).testBit (d - 1)))) (fun i _ => 32 - (intOf i).toNat)
    case atStart => exact ⟨1, by omega, by omega, rfl, cs0, H0.out, fun d h1 h2 => by rw [HC0.out d h1 h2, decide_eq_false (by omega)]; rfl⟩
    case round =>
      obtain ⟨k, hk1, hk2, rfl, cs, hm, hcs⟩ := hrel
      have HM := hide hm
      have HC := hide hcs
      have c3 := hm.c3
      clear hcs
      by_cases hin : k ≤ 31 ∧ (k : Int) ≤ n
      · obtain ⟨hlt, hle⟩ := hin
        obtain ⟨b0, cg, fz⟩ := hm.cg k (by omega)
        have HT := hide (weekN_day bits first n k hk1 hlt)
        obtain ⟨q, hq⟩ : ∃ q : Nat, (u + k - 1) % 7 = (q : Int) := ⟨((u + k - 1) % 7).toNat, by omega⟩
        have hqf : ((first + k - 1) % 7).toNat = q := by have := Hu.out; omega
        have eb := bit_and8 bits q hbits
        obtain ⟨tb, htb⟩ : ∃ tb, bits.testBit q = tb := ⟨_, rfl⟩
        have HTB : Hid (tb = (weekN bits first n).testBit (k - 1)) := by show _ = _; rw [HT.out, hqf, htb, decide_eq_true hle, Bool.true_and]
        rw [htb] at eb
        clear hm htb hqf
        cases tb
        all_goals
          simp only [if_true, if_false, Bool.false_eq_true] at eb
          go_wp2
          go_roundw
          case rel => exact ⟨k + 1, by omega, by omega, by go_num, _, HM.out.set k _, set_fill2 HM.out.size hlt HC.out HTB.out⟩
          case measure => simp [intOf]; omega
      · have HE : Hid (∀ d, 1 ≤ d → d ≤ 31 → (decide (d < k) && (weekN bits first n).testBit (d - 1)) = (weekN bits first n).testBit (d - 1)) := fun d h1 h2 => by
          by_cases hd : d < k
          · rw [decide_eq_true hd, Bool.true_and]
          · rw [weekN_day bits first n d h1 h2, decide_eq_false hd, decide_eq_false (show ¬ (d : Int) ≤ n by omega)]; rfl
        obtain ⟨c2, f2⟩ := hm.c2
        clear hm
        by_cases hlt : k ≤ 31
        · have hle : ¬ (k : Int) ≤ n := fun h => hin ⟨hlt, h⟩
          clear hin
          go_wp2
          refine bodyPost_ret (v := .agg #[.slice (some ⟨g, 0, none⟩) 32 32]) (by simp [results, Tryd.results19, go_sem, c2]) rfl (HM.out.made fun d h1 h2 => by rw [HC.out d h1 h2, HE.out d h1 h2])
        · clear hin
          go_wp2
          refine bodyPost_ret (v := .agg #[.slice (some ⟨g, 0, none⟩) 32 32]) (by simp [results, Tryd.results19, go_sem, c2]) rfl (HM.out.made fun d h1 h2 => by rw [HC.out d h1 h2, HE.out d h1 h2])
theorem rweek_any (bits : Nat) (first n : Int) (w : World) (hbits : bits < 256) (hf1 : -9223372036854775808 ≤ first) (hf2 : first ≤ 9223372036854775807) :
    Calls Tryd.prog 19 #[.int .u8 bits, .int .i64 first, .int .i64 n] w (Made w (fun d => (weekN bits first n).testBit (d - 1))) := by
  have htm := Int.tmod_eq_emod (a := first) (b := 7)
  have h7 : ((7 : Int).natAbs : Int) = 7 := by decide
  have key : -7 < first.tmod 7 ∧ first.tmod 7 < 7 ∧ (if first.tmod 7 < 0 then first.tmod 7 + 7 else first.tmod 7) = first % 7 := by
    split at htm
    · rw [htm, if_neg (by omega)]; omega
    · rename_i hn
      rw [htm]
      have hne : first % 7 ≠ 0 := fun h0 => hn (.inr (Int.dvd_of_emod_eq_zero h0))
      rw [if_pos (by omega)]; omega
  exact rweek_core bits first n _ _ w hbits rfl key.1 key.2.1 rfl key.2.2 (by rw [key.2.2]; omega) (by rw [key.2.2]; omega) hf1 hf2
end Go.Proofs.YtjalachjmmojhaaDoor
