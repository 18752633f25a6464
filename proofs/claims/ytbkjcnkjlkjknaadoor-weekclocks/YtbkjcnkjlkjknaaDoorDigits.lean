/- The walk of dayshiftref01.Digits: a number's digits. -/
import Derived.Test.YtbkjcnkjlkjknaaDoorText
namespace Go.Proofs.YtbkjcnkjlkjknaaDoor
open Go.ChangeShapes Go.WideShapes Go.ChangeAt Go.RowKit

/-- a number, divided by ten k times; its k last digits, the last one first -/
def qd : Nat → Int → Int
  | 0, n => n
  | k + 1, n => qd k n / 10
def rd : Nat → Int → List Int
  | 0, _ => []
  | k + 1, n => rd k n ++ [48 + qd k n % 10]
theorem rd_len (k : Nat) (n : Int) : (rd k n).length = k := by
  induction k with
  | zero => rfl
  | succ k ih => simp [rd, ih]
theorem qd_bd (k : Nat) (n : Int) (h0 : 0 ≤ n) : 0 ≤ qd k n ∧ qd k n ≤ n := by
  induction k with
  | zero => exact ⟨h0, Int.le_refl _⟩
  | succ k ih => unfold qd; omega
theorem qd_succ (k : Nat) (n : Int) : qd (k + 1) n = qd k n / 10 := rfl
theorem rd_succ (k : Nat) (n : Int) : rd (k + 1) n = rd k n ++ [48 + qd k n % 10] := rfl

theorem rev_take (l : List Int) (k r : Nat) (hl : l.length = k) (hr : r < k) : l.reverse.take (k - (r + 1)) ++ [l.getD r 0] = l.reverse.take (k - r) := by
  have e : k - r = k - (r + 1) + 1 := by omega
  rw [e, List.take_succ_eq_append_getElem (by simp; omega)]
  congr 2
  simp only [List.getElem_reverse, List.getD]
  rw [List.getElem?_eq_getElem (by omega)]
  simp only [Option.getD_some]
  congr 1
  omega

def rvt (k r : Nat) (n : Int) : List Int := (rd k n).reverse.take (k - r)
theorem rvt_step (k r : Nat) (n : Int) (hr : r < k) : rvt k (r + 1) n ++ [(rd k n).getD r 0] = rvt k r n := rev_take _ k r (rd_len k n) hr
theorem rvt_full (k : Nat) (n : Int) : rvt k 0 n = (rd k n).reverse := by unfold rvt; exact List.take_of_length_le (by simp [rd_len])
theorem rvt_none (k : Nat) (n : Int) : rvt k k n = [] := by unfold rvt; rw [Nat.sub_self]; rfl
theorem map_at (l : List Int) (j : Nat) (hj : j < l.length) : (l.map (Value.int .u8))[j]? = some (.int .u8 (l.getD j 0)) := by
  simp [List.getD, List.getElem?_eq_getElem hj]

def lenOf : Value → Nat
  | .slice _ n _ => n
  | _ => 0

theorem run_convL (w : World) (a : Addr) (cap len : Nat) (ns : List Int) (hl : ns.length = len) (hc : ∀ j, j < ns.length → w.cell? (a.add j) = some (.int .u8 (ns.getD j 0))) :
    (convert 47 9 (.slice (some a) len cap)).run Tryd.prog w = .ok (.string (DsCal.bstr ns)) w := by
  subst hl; exact run_conv w a cap ns hc

theorem info5 : (Tryd.prog.info? 5).map (fun i => (i.zero, i.size, i.bytes)) = some (some (.int .u8 0), 1, 1) := by kernel_rfl

theorem owns_shape {w : World} {base : Nat} {e : TypeId} {v : Value} {n : Nat} {xs : List Value} (h : w.ownsRow base e 1 v n xs) : ∃ ao cap, v = .slice ao n cap := by
  rcases h.2 with ⟨rfl, rfl⟩ | ⟨g, cap, cur, rfl, _⟩
  · exact ⟨none, 0, rfl⟩
  · exact ⟨some ⟨g, 0, none⟩, cap, rfl⟩
theorem owns_some {w : World} {base : Nat} {e : TypeId} {v : Value} {n : Nat} {xs : List Value} (h : w.ownsRow base e 1 v n xs) (hn : 0 < n) : ∃ g cap, v = .slice (some ⟨g, 0, none⟩) n cap ∧ base ≤ g ∧ g < w.heap.size := by
  rcases h.2 with ⟨rfl, rfl⟩ | ⟨g, cap, cur, rfl, hb, hg, _⟩
  · omega
  · exact ⟨g, cap, rfl, hb, (Array.getElem?_eq_some_iff.1 hg).1⟩

theorem one_one (x : Int) : ∀ u ∈ [Value.int .u8 x], u.oneCell' = true := by
  intro u hu; simp at hu; subst hu; rfl

/-- what a round of 'append one more' does -/
theorem rel_push {B k : Nat} {w wr w1 : World} {v v' : Value} {xs : List Int} {x : Int} {o : Obj} (hB : B ≤ wr.heap.size)
    (hown : wr.ownsRow B 5 1 v k (xs.map (Value.int .u8))) (hnx : Below B w wr)
    (hown' : w1.ownsRow B 5 1 v' (k + 1) (xs.map (Value.int .u8) ++ [.int .u8 x])) (hgrow : (wr.alloc o).grownBy w1 v.ownBlock) :
    w1.ownsRow B 5 1 v' (k + 1) ((xs ++ [x]).map (Value.int .u8)) ∧ Below B w w1 :=
  ⟨by simpa using hown', (hnx.alloc hB o).grown hgrow (by simp; omega) (fun j hj => (hown.lt j hj).1)⟩

set_option maxHeartbeats 2000000 in
theorem digits_any (n : Int) (L : Nat) (w : World) (h0 : 0 ≤ n) (h1 : n ≤ 99999) (hL1 : 1 ≤ L) (hL2 : L ≤ 8) (hq : qd L n = 0) :
    Calls Tryd.prog 55 #[.int .i64 n, .int .i64 L] w fun e w' => e = .returned (.string (DsCal.bstr (rd L n).reverse)) ∧ Below w.heap.size w w' := by
  have HQ := hide hq
  clear hq
  obtain ⟨i0, hi, hz0, hz1, hz2⟩ := info_parts info5
  go_enter Tryd.func55, Tryd.ntmps55
  go_wp2
  go_loopw [0, 5] (fun t b wr => ∃ k : Nat, k ≤ L ∧ t = .int .i64 (qd k n) ∧ wr.ownsRow w.heap.size 5 1 b k ((rd k n).map (Value.int .u8)) ∧ Below w.heap.size w wr) (fun _ b _ => L - lenOf b)
  case atStart => exact ⟨0, by omega, rfl, World.ownsRow_nil _ _ _ _, Below.refl _ _⟩
  case round =>
    obtain ⟨k, hk, rfl, hown, hnx⟩ := hrel
    obtain ⟨q0, q1⟩ := qd_bd k n h0
    obtain ⟨ao, cap, rfl⟩ := owns_shape hown
    by_cases hlt : k < L
    · by_cases hp : 0 < qd k n
      all_goals
        go_wp2_with (at_builtin; refine wpList_append_own _ rfl _ _ 47 rfl w.heap.size 5 i0 (.int .u8 0) 1 1 Tryd.underlying47 hi hz0 hz1 hz2 rfl (by decide) _ _ _ rfl (hown.alloc _) ⟨_, 0, none⟩ 1 1 [.int .u8 (48 + qd k n % 10)] rfl rfl (cell_one_new _ _ _) (one_one _) (by unfold maxLen; omega) (by omega) (by have := hnx.size; simp; omega) ?_)
        intro v' w1 hown' hgrow _
        obtain ⟨R1, R2⟩ := rel_push hnx.size hown hnx hown' hgrow
        obtain ⟨ao', cap', rfl⟩ := owns_shape R1
        clear hown' hgrow hown
        go_wp2
        go_roundw
        case rel => exact ⟨k + 1, by omega, rfl, R1, R2⟩
        case measure => simp [lenOf]; omega
    · have ek : k = L := by omega
      have hq := HQ.out
      subst ek
      have hp : ¬ 0 < qd k n := by omega
      clear hq
      obtain ⟨g, cp, hv, hg1, hg2⟩ := owns_some hown (by omega)
      simp only [Value.slice.injEq] at hv
      obtain ⟨rfl, _, rfl⟩ := hv
      have hcell : ∀ j, j < k → wr.cell? ⟨g, j, none⟩ = some (.int .u8 ((rd k n).getD j 0)) := by
        intro j hj
        rw [hown.cellAt j (by omega)]
        simp [List.getD, rd_len, hj]
      have HC := hide hcell
      clear hcell
      rename World => wB
      go_wp2
      go_loopw [6, 7] (fun b t w2 => ∃ r : Nat, r ≤ k ∧ t = .int .i64 ((r : Int) - 1) ∧ w2.ownsRow wB.heap.size 5 1 b (k - r) ((rvt k r n).map (Value.int .u8)) ∧ Below wB.heap.size wB w2) (fun b _ _ => k - lenOf b)
      case atStart => exact ⟨k, Nat.le_refl _, rfl, by rw [Nat.sub_self, rvt_none]; exact World.ownsRow_nil _ _ _ _, Below.refl _ _⟩
      case round =>
        obtain ⟨r, hr, rfl, hown2, hnx2⟩ := hrel
        obtain ⟨ao2, cap2, rfl⟩ := owns_shape hown2
        cases r with
        | succ r =>
          have er : ((r + 1 : Nat) : Int) - 1 = (r : Int) := by omega
          rw [er]
          have hc := (hnx2.cell (p := ⟨g, r, none⟩) hg2).trans (HC.out r (by omega))
          generalize hx : (rd k n).getD r 0 = x at hc
          have HX := hide hx
          clear hx
          go_wp2_with (at_builtin; refine wpList_append_own _ rfl _ _ 47 rfl wB.heap.size 5 i0 (.int .u8 0) 1 1 Tryd.underlying47 hi hz0 hz1 hz2 rfl (by decide) _ _ _ rfl (hown2.alloc _) ⟨_, 0, none⟩ 1 1 [.int .u8 x] rfl rfl (cell_one_new _ _ _) (one_one _) (by unfold maxLen; omega) (by omega) (by have := hnx2.size; simp; omega) ?_)
          intro v' w1 hown' hgrow _
          obtain ⟨R1, R2⟩ := rel_push hnx2.size hown2 hnx2 hown' hgrow
          rw [← HX.out, rvt_step k r n (by omega), show k - (r + 1) + 1 = k - r by omega] at R1
          obtain ⟨ao', cap', rfl⟩ := owns_shape R1
          clear hown' hgrow hown2
          go_wp2
          go_roundw
          case rel => exact ⟨r, by omega, by go_num, R1, R2⟩
          case measure => simp [lenOf]; omega
        | zero =>
          rw [Nat.sub_zero, rvt_full] at hown2
          obtain ⟨g2, cp2, hv2, hg3, hg4⟩ := owns_some hown2 (by omega)
          simp only [Value.slice.injEq] at hv2
          obtain ⟨rfl, _, rfl⟩ := hv2
          have hcv := run_convL wr ⟨g2, 0, none⟩ cap2 k (rd k n).reverse (by simp [rd_len]) (fun j hj => by
            have e : (⟨g2, 0, none⟩ : Addr).add j = ⟨g2, j, none⟩ := by simp [Addr.add]; exact fun h => h.symm
            rw [e, hown2.cellAt j (by simp [rd_len] at hj; omega)]
            exact map_at _ j hj)
          have HB := hide (hnx.trans (hnx2.mono hnx.size))
          clear hown2 hnx2
          go_wp2
          go_ret
          exact ⟨rfl, HB.out⟩
end Go.Proofs.YtbkjcnkjlkjknaaDoor
