/- Fiscal periods, plain: first days are Mondays, the next one is 28, 35 or 42 days on. -/
import Derived.Test.YthbfjkdklnffjaaDoorJ8
namespace DsCal
theorem month_ex (y l : Int) (h0 : 0 ≤ l) : ∀ j : Nat, j ≤ 12 → l < cum y ((j : Int) + 1) → ∃ m : Int, 1 ≤ m ∧ m ≤ 12 ∧ 0 ≤ l - cum y m ∧ l - cum y m < dlen y m
  | 0, _, h => by
    have := cum_one y
    rw [show ((0 : Nat) : Int) + 1 = 1 by omega] at h
    omega
  | j + 1, hj, h => by
    by_cases c : l < cum y ((j : Int) + 1)
    · exact month_ex y l h0 j (by omega) c
    · have e := cum_succ (y := y) (m := (j : Int) + 1) (by omega) (by omega)
      rw [show ((j + 1 : Nat) : Int) + 1 = (j : Int) + 1 + 1 by omega] at h
      exact ⟨(j : Int) + 1, by omega, by omega, by omega, by omega⟩
/-- each day that can be has a date -/
theorem date_ex {n : Int} (h1 : 1 ≤ n) (h2 : n ≤ 3652059) : ∃ y m d, vld y m d ∧ num y m d = n := by
  obtain ⟨a, b, c, d0, e, f⟩ := y0_ahead h1
  obtain ⟨k, hk, hk2, hk3⟩ : ∃ k : Nat, k ≤ 3 ∧ (k = 3 ∨ r0 n - 365 * k < 365) ∧ 0 ≤ r0 n - 365 * k := by
    rcases Int.lt_or_le (r0 n) 365 with h | h
    · exact ⟨0, by omega, by omega, by omega⟩
    rcases Int.lt_or_le (r0 n) 730 with h' | h'
    · exact ⟨1, by omega, by omega, by omega⟩
    rcases Int.lt_or_le (r0 n) 1095 with h'' | h''
    · exact ⟨2, by omega, by omega, by omega⟩
    · exact ⟨3, by omega, by omega, by omega⟩
  obtain ⟨g1, g2, g3⟩ := yearOf_end h1 hk hk2 hk3
  have e13 := cum_end (y0 n + k)
  obtain ⟨m, m1, m2, c1, c2⟩ := month_ex (y0 n + k) (r0 n - 365 * k) hk3 12 (by omega) (by rw [show ((12 : Nat) : Int) + 1 = 13 by omega]; omega)
  have := month_end h2 g2 g1 hk3 g3 m1 m2 c1 (.inr c2)
  exact ⟨_, _, _, this.1, this.2⟩
/-- the same date of the next year -/
theorem num_year (y b : Int) (h1 : 1 ≤ b) (h2 : b ≤ 12) : num (y + 1) b 1 = num y b 1 + 365 ∨ num (y + 1) b 1 = num y b 1 + 366 := by
  have s := ahead_succ y
  have l0 := lp01 y
  have l1 := lp01 (y + 1)
  unfold num
  rcases months h1 h2 with rfl | rfl | rfl | rfl | rfl | rfl | rfl | rfl | rfl | rfl | rfl | rfl <;> simp [cum] <;> omega
end DsCal
namespace Go.DsMk
theorem fm_mod (b y : Int) : fm b y % 7 = 1 := by unfold fm DsCal.a0; omega
theorem fm_in (b y : Int) : DsCal.num y b 1 ≤ fm b y ∧ fm b y ≤ DsCal.num y b 1 + 6 := by unfold fm DsCal.a0; omega
theorem fm_next (b y : Int) (h1 : 1 ≤ b) (h2 : b ≤ 12) : fm b (y + 1) = fm b y + 364 ∨ fm b (y + 1) = fm b y + 371 := by
  have := fm_mod b y
  have := fm_mod b (y + 1)
  have := fm_in b y
  have := fm_in b (y + 1)
  have := DsCal.num_year y b h1 h2
  omega
theorem fm_mono (b y : Int) (h1 : 1 ≤ b) (h2 : b ≤ 12) : ∀ n : Nat, fm b y + 364 * n ≤ fm b (y + n)
  | 0 => by simp
  | n + 1 => by
    have := fm_mono b y h1 h2 n
    have := fm_next b (y + n) h1 h2
    rw [show y + ((n + 1 : Nat) : Int) = y + n + 1 by omega]
    omega
theorem cumW_end {p : Int} (h : okP p) : cumW p 12 = 52 := by
  rcases h with rfl | rfl | rfl <;> decide
theorem cumW_mono {p : Int} (h : okP p) (i : Nat) : ∀ n : Nat, cumW p i + 4 * n ≤ cumW p (i + n)
  | 0 => by simp
  | n + 1 => by
    have := cumW_mono h i n
    have := wk_bd h (i + n)
    show _ ≤ cumW p (i + n) + wk p (i + n)
    omega
/-- the first day of the next period -/
def nextF (b p y : Int) (k : Nat) : Int := if k < 11 then fday b p y (k + 1) else fday b p (y + 1) 0
theorem nextF_gap {b p y : Int} {k : Nat} (hp : okP p) (h1 : 1 ≤ b) (h2 : b ≤ 12) (hk : k < 12) : nextF b p y k = fday b p y k + 28 ∨ nextF b p y k = fday b p y k + 35 ∨ nextF b p y k = fday b p y k + 42 := by
  unfold nextF
  have hw := wk_bd hp k
  split
  · unfold fday; rw [cumW]; omega
  · obtain rfl : k = 11 := by omega
    have e : cumW p 12 = cumW p 11 + wk p 11 := rfl
    rw [cumW_end hp] at e
    have := fm_next b y h1 h2
    have e0 : cumW p 0 = 0 := rfl
    unfold fday
    rw [e0]
    omega
/-- no first day between -/
theorem nextF_least {b p y z : Int} {k j : Nat} (hp : okP p) (h1 : 1 ≤ b) (h2 : b ≤ 12) (hk : k < 12) (hj : j < 12) (h : fday b p y k < fday b p z j) : nextF b p y k ≤ fday b p z j := by
  have cj := cumW_bd hp j
  have ck := cumW_bd hp k
  have ce := cumW_end hp
  have mj := cumW_mono hp j (12 - j)
  have mk := cumW_mono hp k (12 - k)
  rw [show j + (12 - j) = 12 by omega] at mj
  rw [show k + (12 - k) = 12 by omega] at mk
  rcases Int.lt_trichotomy y z with c | rfl | c
  · have m := fm_mono b (y + 1) h1 h2 (z - (y + 1)).toNat
    rw [show y + 1 + (((z - (y + 1)).toNat : Nat) : Int) = z by omega] at m
    have n := fm_next b y h1 h2
    unfold nextF
    split
    · have mk1 := cumW_mono hp (k + 1) (12 - (k + 1))
      rw [show k + 1 + (12 - (k + 1)) = 12 by omega] at mk1
      unfold fday
      omega
    · have e0 : cumW p 0 = 0 := rfl
      unfold fday
      rw [e0]
      omega
  · have hkj : k < j := by
      by_cases hc : k < j
      · exact hc
      · have := cumW_mono hp j (k - j)
        rw [show j + (k - j) = k by omega] at this
        unfold fday at h
        omega
    unfold nextF
    rw [if_pos (by omega)]
    have := cumW_mono hp (k + 1) (j - (k + 1))
    rw [show k + 1 + (j - (k + 1)) = j by omega] at this
    unfold fday
    omega
  · have m := fm_mono b z h1 h2 (y - z).toNat
    rw [show z + (((y - z).toNat : Nat) : Int) = y by omega] at m
    unfold fday at h
    omega
end Go.DsMk
namespace Go.Proofs.YthbfjkdklnffjaaDoor
open Go.ChangeShapes Go.WideShapes Go.ChangeAt Go.RowKit Go.DsMem Go.DsMk
set_option linter.unusedVariables false

theorem mo_ex {d : Int} (h1 : 1 ≤ d) (h2 : d ≤ 3652059) : ∃ M : Mo, M.ok ∧ M.f ≤ d ∧ d < M.f + M.s := by
  obtain ⟨y, m, e, hv, rfl⟩ := DsCal.date_ex h1 h2
  obtain ⟨v1, v2, v3, v4⟩ := hv
  refine ⟨⟨y, m, DsCal.num y m 1, DsCal.dlen y m⟩, ⟨⟨v1, v2, by omega, Int.le_trans v3 v4⟩, rfl, rfl⟩, ?_, ?_⟩
  · show DsCal.num y m 1 ≤ _; unfold DsCal.num; omega
  · show _ < DsCal.num y m 1 + DsCal.dlen y m; unfold DsCal.num; omega
/-- a first day of a fiscal period -/
def IsF (p b d : Int) : Prop := ∃ (y : Int) (k : Nat), 1 ≤ y ∧ y ≤ 9999 ∧ k < 12 ∧ d = fday b p y k
theorem fisB {p b d : Int} {nm : ByteArray} (hp : okP p) (h1 : 1 ≤ b) (h2 : b ≤ 12) (d1 : 1 ≤ d) (d2 : d ≤ 3652059) (cs : List (ByteArray × Nd)) : inB cs 257 (.mk 6 [p, b] [] nm) d = true ↔ IsF p b d := by
  obtain ⟨M, hM, m1, m2⟩ := mo_ex d1 d2
  rw [← inB_eq hM m1 m2]
  obtain ⟨b1, b2, b3, b4, b5, b6, b7, b8⟩ := isMo_bd hM
  obtain ⟨hv, hf, hs⟩ := hM
  have hD : daysF cs M 257 (.mk 6 [p, b] [] nm) = fisN M.y M.f M.s p b := by rw [daysF]; simp
  rw [hD]
  have fb : ∀ (y : Int) (k : Nat), 1 ≤ y → y ≤ 9999 → k < 12 → -10000000 ≤ fday b p y k ∧ fday b p y k ≤ 10000000 := fun y k y1 y2 hk => by
    have e := DsCal.dlen_bd (y := y) (m := b) h1 h2
    have := fm_bd (b := b) (y := y) ⟨y1, y2, by omega, by omega⟩
    have := cumW_bd hp k
    unfold fday; omega
  unfold hasB fisN
  rw [Bool.and_eq_true, decide_eq_true_eq, fiY_bit]
  constructor
  · rintro ⟨-, j, k, hj, hk, hb⟩
    rw [theseN_bit _ _ _ _ (by omega) (by omega) (by intro x hx; simp at hx; subst hx; exact fb _ _ (by omega) (by omega) hk)] at hb
    have hb := of_decide_eq_true hb
    obtain ⟨c1, c2⟩ := hb
    simp at c2
    exact ⟨max (M.y - 1) 1 + (j : Int), k, by omega, by omega, hk, by rw [← c2]; omega⟩
  · rintro ⟨y, k, y1, y2, hk, e⟩
    have e1 := DsCal.dlen_bd (y := y) (m := b) h1 h2
    have hfm := fm_in b y
    have hcum := cumW_bd hp k
    have hcm := cumW_mono hp k (12 - k)
    rw [show k + (12 - k) = 12 by omega, cumW_end hp] at hcm
    have hfd : fday b p y k = fm b y + cumW p k * 7 := rfl
    have hcb := DsCal.cum_bd (y := y) (m := b) h1 (by omega)
    have hds := DsCal.doy_bd (y := y) (m := b) (d := 1) ⟨y1, y2, by omega, by omega⟩
    have hcb2 := DsCal.cum_bd (y := M.y) (m := M.m) b3 (by omega)
    have hl := DsCal.lp01 y
    have hdoy := DsCal.doy_bd (y := M.y) (m := M.m) (d := d - M.f + 1) ⟨b1, b2, by omega, by omega⟩
    have hl2 := DsCal.lp01 M.y
    have hn : DsCal.num y b 1 = DsCal.ahead y + DsCal.cum y b + 1 := rfl
    have hn2 : DsCal.num M.y M.m 1 = DsCal.ahead M.y + DsCal.cum M.y M.m + 1 := rfl
    have hy1 : y ≤ M.y := by
      rcases Int.lt_or_le M.y y with c | c
      · have a1 := DsCal.ahead_mono (a := M.y + 1) (b := y) (by omega)
        have a2 := DsCal.ahead_succ M.y
        omega
      · exact c
    have hy2 : M.y ≤ y + 1 := by
      rcases Int.lt_or_le (y + 1) M.y with c | c
      · have a1 := DsCal.ahead_mono (a := y + 2) (b := M.y) (by omega)
        have a2 := DsCal.ahead_succ y
        have a3 := DsCal.ahead_succ (y + 1)
        rw [show y + 1 + 1 = y + 2 by omega] at a3
        have hl3 := DsCal.lp01 (y + 1)
        have hl4 : DsCal.lp y + DsCal.lp (y + 1) ≤ 1 := by unfold DsCal.lp; split <;> split <;> omega
        omega
      · exact c
    refine ⟨by omega, (y - max (M.y - 1) 1).toNat, k, by omega, hk, ?_⟩
    rw [show max (M.y - 1) 1 + (((y - max (M.y - 1) 1).toNat : Nat) : Int) = y by omega]
    rw [theseN_bit _ _ _ _ (by omega) (by omega) (by intro x hx; simp at hx; subst hx; exact fb _ _ y1 y2 hk)]
    refine decide_eq_true ⟨by omega, ?_⟩
    simp
    omega
theorem fisR {p b d : Int} (hp : okP p) (h1 : 1 ≤ b) (h2 : b ≤ 12) (d1 : 1 ≤ d) (d2 : d ≤ 3652059) : refF [] (.mk 6 [p, b] [] ⟨#[]⟩) d = 0 := by
  have hm : (meetF [] 257 (.mk 6 [p, b] [] ⟨#[]⟩) 0 false 0).1 = 0 := by rfl
  have hr : rightN (.mk 6 [p, b] [] ⟨#[]⟩) = true := by
    rcases hp with rfl | rfl | rfl <;> rcases DsCal.months h1 h2 with rfl | rfl | rfl | rfl | rfl | rfl | rfl | rfl | rfl | rfl | rfl | rfl <;> decide +kernel
  unfold refF
  rw [if_neg (by simp), if_neg (by rw [hr]; decide), if_neg (by simp), if_neg (by rw [DsCal.rightB_yes d1 d2]; decide), hm]
end Go.Proofs.YthbfjkdklnffjaaDoor
