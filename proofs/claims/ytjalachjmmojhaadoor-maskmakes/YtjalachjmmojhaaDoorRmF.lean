/- The walks of dayshiftref05.Days and of dayshiftlaw05.same. -/
import Derived.Test.YtjalachjmmojhaaDoorMkK
namespace Go.DsMk
/-- whether the number x asks for the day d, of n days -/
def hitB (n x : Int) (d : Nat) : Bool := decide (x = (d : Int)) || decide (x < 0 ∧ x = (d : Int) - 1 - n)
/-- the days that numbers ask for -/
def hitsB (n : Int) (l : List Int) (d : Nat) : Bool := decide ((d : Int) ≤ n) && l.any fun x => hitB n x d
theorem hitsB_snoc (n : Int) (l : List Int) (x : Int) (d : Nat) : hitsB n (l ++ [x]) d = (hitsB n l d || (decide ((d : Int) ≤ n) && hitB n x d)) := by
  unfold hitsB; rw [List.any_append]; simp only [List.any_cons, List.any_nil, Bool.or_false]
  cases decide ((d : Int) ≤ n) <;> simp
theorem daysN_day (n : Int) (l : List Int) (d : Nat) (h1 : 1 ≤ d) (h2 : d ≤ 31) (hn : -9223372036854775808 ≤ n ∧ n ≤ 9223372036854775807) (hl : ∀ k ∈ l, -9223372036854775808 ≤ k ∧ k ≤ 9223372036854775807) :
    (daysN n l).testBit (d - 1) = hitsB n l d := by
  rw [daysN_bit n l _ hn hl]
  unfold hitsB hitB
  rw [Bool.eq_iff_iff, Bool.and_eq_true, decide_eq_true_eq, decide_eq_true_eq, List.any_eq_true]
  constructor
  · rintro ⟨a, b, k, hk, hc⟩
    refine ⟨by omega, k, hk, ?_⟩
    rw [Bool.or_eq_true, decide_eq_true_eq, decide_eq_true_eq]
    rcases hc with hc | hc
    · left; omega
    · right; omega
  · rintro ⟨a, k, hk, hc⟩
    rw [Bool.or_eq_true, decide_eq_true_eq, decide_eq_true_eq] at hc
    refine ⟨by omega, by omega, k, hk, ?_⟩
    rcases hc with hc | hc
    · left; omega
    · right; omega
end Go.DsMk
namespace Go.Proofs.YtjalachjmmojhaaDoor
open Go.ChangeShapes Go.WideShapes Go.ChangeAt Go.RowKit Go.DsMem Go.DsMk
set_option linter.unusedVariables false

theorem set_hit {cs : Array Value} {p h : Nat → Bool} {k : Nat} (hs : cs.size = 32) (hk : k ≤ 31) (hc : ∀ d, 1 ≤ d → d ≤ 31 → cs[d]? = some (.bool (p d || (decide (d < k) && h d)))) (hh : h k = true) :
    ∀ d, 1 ≤ d → d ≤ 31 → (cs.setIfInBounds k (.bool true))[d]? = some (.bool (p d || (decide (d < k + 1) && h d))) := by
  intro d h1 h2
  rw [Array.getElem?_setIfInBounds]
  split
  · rename_i e; subst e; rw [if_pos (by omega), hh]; simp
  · rw [hc d h1 h2, show decide (d < k) = decide (d < k + 1) by rw [decide_eq_decide]; omega]
theorem keep_hit {cs : Array Value} {p h : Nat → Bool} {k : Nat} (hc : ∀ d, 1 ≤ d → d ≤ 31 → cs[d]? = some (.bool (p d || (decide (d < k) && h d)))) (hh : h k = false) :
    ∀ d, 1 ≤ d → d ≤ 31 → cs[d]? = some (.bool (p d || (decide (d < k + 1) && h d))) := by
  intro d h1 h2
  rw [hc d h1 h2]
  by_cases e : d = k
  · subst e; rw [hh]; simp
  · rw [show decide (d < k) = decide (d < k + 1) by rw [decide_eq_decide]; omega]

set_option maxHeartbeats 4000000 in
set_option maxRecDepth 20000 in
theorem rdays_any (l : List Int) (n : Int) (sl : Value) (w : World) (h : RdI w sl l) (hl : l.length ≤ 140737488355328) (hn1 : -9223372036854775808 ≤ n) (hn2 : n ≤ 9223372036854775807) (hk : ∀ k ∈ l, -9223372036854775808 ≤ k ∧ k ≤ 9223372036854775807) :
    Calls Tryd.prog 20 #[sl, .int .i64 n] w (Made w (fun d => (daysN n l).testBit (d - 1))) := by
  have HDN := hide (fun d h1 h2 => daysN_day n l d h1 h2 ⟨hn1, hn2⟩ hk)
  have HK := hide hk
  have HRD := hide h
  obtain ⟨ao, cap, rfl, hlc, hnil, -⟩ := h
  clear hk
  by_cases h31 : 31 < n
  all_goals
    go_enter Tryd.func20, Tryd.ntmps20
    go_wp2_with fail
    refine (rnone_any _).mono ?_; rintro e w1 ⟨v, g, rfl, hg, hr, hb⟩
    obtain ⟨rfl, cs0, hrow, hsz, hcs0⟩ := hr
    have H0 := hide (RMk.start hg hrow hsz hb)
    have HC0 := hide hcs0
    clear hg hrow hsz hb hcs0
    go_wp2
    generalize w1.heap.size = p3 at *
    go_loopw [7] (fun t wr => ∃ i : Nat, i ≤ l.length ∧ t = .int .i64 i ∧ ∃ cs, RMk w wr w.heap.size p3 g cs ∧ ∀ d, 1 ≤ d → d ≤ 31 → cs[d]? = some (.bool (hitsB n (l.take i) d))) (fun t _ => l.length - (intOf t).toNat)
    case atStart => exact ⟨0, Nat.zero_le _, rfl, cs0, H0.out, fun d h1 h2 => by rw [HC0.out d h1 h2]; simp [hitsB]⟩
    case round =>
      obtain ⟨i, hi, rfl, cs1, hm1, hcs1⟩ := hrel
      have HM1 := hide hm1
      have HC1 := hide hcs1
      clear hm1 hcs1
      by_cases hlt : i < l.length
      · obtain ⟨ao', cap', hv, -, hnil', hrd⟩ := HRD.out
        simp only [Value.slice.injEq] at hv
        obtain ⟨rfl, -, rfl⟩ := hv
        obtain ⟨a, rfl⟩ : ∃ a, ao = some a := by
          cases ao with
          | none => have := hnil rfl; omega
          | some a => exact ⟨a, rfl⟩
        have hc0 := hrd a rfl i l[i] (List.getElem?_eq_getElem hlt)
        have HCL : Hid (∀ wr, Below w.heap.size w wr → wr.cell? (a.add i) = some (.int .i64 l[i])) := fun wr hb => Below.keeps hb (Nat.le_refl _) hc0
        clear hc0 hrd hnil'
        obtain ⟨hx1, hx2⟩ := HK.out l[i] (List.getElem_mem hlt)
        have HTK : Hid (l.take (i + 1) = l.take i ++ [l[i]]) := List.take_succ_eq_append_getElem hlt
        generalize l[i] = x at *
        go_wp2
        go_loopw [8] (fun t wr => ∃ k : Nat, 1 ≤ k ∧ k ≤ 32 ∧ ((k : Int) ≤ n + 1 ∨ k = 1) ∧ t = .int .i64 k ∧ ∃ cs, RMk w wr w.heap.size p3 g cs ∧ ∀ d, 1 ≤ d → d ≤ 31 → cs[d]? = some (.bool (hitsB n (l.take i) d || (decide (d < k) && hitB n x d)))) (fun t _ => 32 - (intOf t).toNat)
        case atStart => exact ⟨1, by omega, by omega, .inr rfl, rfl, cs1, HM1.out, fun d h1 h2 => by rw [HC1.out d h1 h2, decide_eq_false (by omega)]; simp⟩
        case round =>
          obtain ⟨k, hk1, hk2, hk3, rfl, cs, hm2, hcs⟩ := hrel
          have HM := hide hm2
          have HC := hide hcs
          have c3 := hm2.c3
          have hcl := HCL.out _ hm2.below
          clear hcs
          by_cases hkm : k ≤ 31 ∧ (k : Int) ≤ n
          · obtain ⟨hkm1, hkm2⟩ := hkm
            obtain ⟨b0, cg, fz⟩ := hm2.cg k (by omega)
            clear hm2
            by_cases e1 : x = (k : Int)
            · have HH : Hid (hitB n x k = true) := by show _ = _; unfold hitB; simp [e1]
              have b1 : (x == (k : Int)) = true := by simpa using e1
              clear e1
              go_wp2
              go_roundw
              case rel => exact ⟨k + 1, by omega, by omega, .inl (by omega), by go_num, _, HM.out.set k _, set_hit HM.out.size (by omega) HC.out HH.out⟩
              case measure => simp [intOf]; omega
            · have b1 : (x == (k : Int)) = false := by simpa using e1
              by_cases e2 : x < 0
              · by_cases e3 : x = (k : Int) - 1 - n
                · have HH : Hid (hitB n x k = true) := by show _ = _; unfold hitB; simp; right; exact ⟨e2, e3⟩
                  have b3 : (x == (k : Int) - 1 - n) = true := by simpa using e3
                  clear e1 e3
                  go_wp2
                  go_roundw
                  case rel => exact ⟨k + 1, by omega, by omega, .inl (by omega), by go_num, _, HM.out.set k _, set_hit HM.out.size (by omega) HC.out HH.out⟩
                  case measure => simp [intOf]; omega
                · have HH : Hid (hitB n x k = false) := by show _ = _; unfold hitB; simp; exact ⟨e1, fun _ => e3⟩
                  have b3 : (x == (k : Int) - 1 - n) = false := by simpa using e3
                  clear e1 e3
                  go_wp2
                  go_roundw
                  case rel => exact ⟨k + 1, by omega, by omega, .inl (by omega), by go_num, _, HM.out, keep_hit HC.out HH.out⟩
                  case measure => simp [intOf]; omega
              · have HH : Hid (hitB n x k = false) := by show _ = _; unfold hitB; simp; exact ⟨e1, fun h => absurd h e2⟩
                clear e1
                go_wp2
                go_roundw
                case rel => exact ⟨k + 1, by omega, by omega, .inl (by omega), by go_num, _, HM.out, keep_hit HC.out HH.out⟩
                case measure => simp [intOf]; omega
          · have HS : Hid (∀ d, 1 ≤ d → d ≤ 31 → cs[d]? = some (.bool (hitsB n (l.take (i + 1)) d))) := fun d h1 h2 => by
              rw [HC.out d h1 h2, HTK.out, hitsB_snoc]
              rw [show decide (d < k) = decide ((d : Int) ≤ n) by rw [decide_eq_decide]; omega]
            clear hm2
            first
              | (have hq : ¬ (k : Int) ≤ 31 := by omega)
              | (have hq : ¬ (k : Int) ≤ n := by omega)
            clear hkm
            go_wp2
            go_roundw
            case rel => exact ⟨i + 1, by omega, by go_num, _, HM.out, HS.out⟩
            case measure => simp [intOf]; omega
      · have HE : Hid (∀ d, 1 ≤ d → d ≤ 31 → cs1[d]? = some (.bool ((daysN n l).testBit (d - 1)))) := fun d h1 h2 => by rw [HC1.out d h1 h2, List.take_of_length_le (by omega), HDN.out d h1 h2]
        have c3 := HM1.out.c3
        obtain ⟨c2, f2⟩ := HM1.out.c2
        go_wp2
        refine bodyPost_ret (v := .agg #[.slice (some ⟨g, 0, none⟩) 32 32]) (by simp [results, Tryd.results20, go_sem, c2]) rfl (HM1.out.made HE.out)

set_option maxHeartbeats 1000000 in
/-- dayshiftlaw05.same -/
theorem same_any (l : List Int) (a b : Value) (w : World) (ha : RdI w a l) (hb : RdI w b l) (hl : l.length ≤ 140737488355328) :
    Calls Tryd.prog 21 #[a, b] w fun e w' => e = .returned (.bool true) ∧ Below w.heap.size w w' := by
  obtain ⟨ao, acap, rfl, hal, han, har⟩ := ha
  obtain ⟨bo, bcap, rfl, hbl, hbn, hbr⟩ := hb
  go_enter Tryd.func21, Tryd.ntmps21
  go_wp2
  go_loopw [5] (fun t wr => ∃ i : Nat, i ≤ l.length ∧ t = .int .i64 i ∧ Below w.heap.size w wr) (fun t _ => l.length - (intOf t).toNat)
  case atStart => exact ⟨0, Nat.zero_le _, rfl, Below.refl _ _⟩
  case round =>
    obtain ⟨i, hi, rfl, hB⟩ := hrel
    by_cases hlt : i < l.length
    · obtain ⟨p, rfl⟩ : ∃ p, ao = some p := by
        cases ao with
        | none => have := han rfl; omega
        | some a => exact ⟨a, rfl⟩
      obtain ⟨q, rfl⟩ : ∃ q, bo = some q := by
        cases bo with
        | none => have := hbn rfl; omega
        | some a => exact ⟨a, rfl⟩
      have c1 := Below.keeps hB (Nat.le_refl _) (har p rfl i l[i] (List.getElem?_eq_getElem hlt))
      have c2 := Below.keeps hB (Nat.le_refl _) (hbr q rfl i l[i] (List.getElem?_eq_getElem hlt))
      generalize l[i] = x at *
      have HB := hide hB
      clear har hbr han hbn hB
      have i0 : (0 : Int) ≤ (i : Int) := by omega
      have il : (i : Int) < (l.length : Int) := by omega
      go_wp2
      go_quiet (fail)
      go_wp2
      go_roundw
      case rel => exact ⟨i + 1, by omega, by go_num, HB.out.trans ((below_drewN _ _).mono HB.out.size)⟩
      case measure => simp [intOf]; omega
    · have HB := hide hB
      clear har hbr han hbn hB
      go_wp2
      go_ret
      exact ⟨rfl, HB.out⟩
end Go.Proofs.YtjalachjmmojhaaDoor
