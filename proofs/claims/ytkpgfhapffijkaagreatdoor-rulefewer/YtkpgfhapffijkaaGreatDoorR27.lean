/- The walks of mask.Month's Prev and Nth. -/
import Derived.Test.YtkpgfhapffijkaaGreatDoorR25
import Derived.Test.YtkpgfhapffijkaaGreatDoorR26
import Derived.Laws.MakeOwn
namespace Go.Proofs.YtkpgfhapffijkaaGreatDoor
open Go.ChangeShapes Go.WideShapes Go.ChangeAt Go.RowKit Go.DsMem Go.DsMk
set_option linter.unusedVariables false
theorem TabT.drewN {w : World} (h : TabT w) (n : Nat) : TabT (w.drewN n) := h
theorem below_drewN (w : World) (n : Nat) : Below w.heap.size w (w.drewN n) := ⟨rfl, rfl, rfl, Nat.le_refl _, fun _ _ => rfl⟩
theorem drop_ne {x r j : Nat} (h : dl r = (dl x).drop j) (hj : j < (dl x).length) : r ≠ 0 := by
  rintro rfl
  have : (dl 0).length = 0 := by decide
  rw [h, List.length_drop] at this
  omega
theorem drop_next {x r j : Nat} (h : dl r = (dl x).drop j) : dl (r &&& (r - 1)) = (dl x).drop (j + 1) := by
  rw [dl_tail, h, List.tail_drop]
set_option maxHeartbeats 1000000 in
/-- mask.Month.Nth -/
theorem nth_any (x : Nat) (k : Int) (w : World) (hx : x < 4294967296) (ht : TabT w) (hk1 : -9223372036854775808 ≤ k) (hk2 : k ≤ 9223372036854775807) :
    Calls Tryz.prog 155 #[.int .u32 x, .int .i64 k] w fun e w' => e = .returned (.int .i64 (nthL (dl x) k)) ∧ ∃ n, w' = w.drewN n := by
  have hc := dl_le x
  obtain ⟨c, hce⟩ : ∃ c, c = (dl x).length := ⟨_, rfl⟩
  have HC := hide hce
  have HT := hide ht
  rw [← hce] at hc
  -- the place asked for, from the beginning
  have main : ∀ K : Nat, K < c → ∀ nn : Nat, ∀ (t : Nat), True := fun _ _ _ _ => trivial
  clear main ht hce
  by_cases hneg : k < 0
  · by_cases hin : 1 ≤ k + (c + 1)
    · have HE : Hid (nthL (dl x) k = (dl x)[(k + (c + 1) - 1).toNat]?.getD 0) := by show _ = _; rw [HC.out]; exact nthL_down _ _ hneg (by rw [← HC.out]; exact hin)
      have hle : k + (c + 1) ≤ c := by omega
      go_enter Tryz.func155, Tryz.ntmps155
      go_wp2_with (go_at_call 186; refine (count_any _ _ (by omega)).mono ?_; rw [← HC.out]; rintro e w' ⟨rfl, n1, rfl⟩)
      go_loop [6, 25] (fun r i => ∃ j rr : Nat, (j : Int) ≤ k + (c + 1) - 1 ∧ i = .int .i64 j ∧ r = .int .u32 rr ∧ rr < 4294967296 ∧ Hid (dl rr = (dl x).drop j)) (fun _ i => (k + (c + 1) - 1).toNat - (intOf i).toNat)
      case atStart => exact ⟨0, x, by omega, rfl, rfl, hx, by show _ = _; simp⟩
      case round =>
        obtain ⟨j, rr, hj, rfl, rfl, hr, HD⟩ := hrel
        by_cases hlt : (j : Int) < k + (c + 1) - 1
        · have h0 : rr ≠ 0 := drop_ne HD.out (by rw [← HC.out]; omega)
          have HD2 := hide (drop_next HD.out)
          have e := and32 rr (rr - 1) hr (by omega)
          rw [show ((rr - 1 : Nat) : Int) = (rr : Int) - 1 by omega] at e
          have hr2 : rr &&& (rr - 1) < 4294967296 := Nat.lt_of_le_of_lt Nat.and_le_left hr
          generalize rr &&& (rr - 1) = r2 at *
          go_wp2
          go_round
          case rel => exact ⟨j + 1, r2, by omega, by go_num, rfl, hr2, HD2⟩
          case measure => simp [intOf]; omega
        · go_wp2_with (go_at_call 187; refine (next_any _ _ _ (by omega) (HT.out.drewN _)).mono ?_; rintro e w' ⟨rfl, rfl⟩)
          go_ret
          exact ⟨ret_int (by rw [HE.out, nth_at x rr j HD.out]; congr 4; omega), _, rfl⟩
    · have HE : Hid (nthL (dl x) k = 0) := nthL_no _ _ (by rw [← HC.out]; omega)
      go_enter Tryz.func155, Tryz.ntmps155
      go_wp2_with (go_at_call 186; refine (count_any _ _ (by omega)).mono ?_; rw [← HC.out]; rintro e w' ⟨rfl, n1, rfl⟩)
      go_ret
      exact ⟨ret_int (by rw [HE.out]; rfl), _, rfl⟩
  · by_cases hin : 1 ≤ k ∧ k ≤ c
    · obtain ⟨hin1, hin2⟩ := hin
      have HE : Hid (nthL (dl x) k = (dl x)[(k - 1).toNat]?.getD 0) := nthL_up _ _ hin1
      go_enter Tryz.func155, Tryz.ntmps155
      go_wp2_with (go_at_call 186; refine (count_any _ _ (by omega)).mono ?_; rw [← HC.out]; rintro e w' ⟨rfl, n1, rfl⟩)
      go_loop [6, 25] (fun r i => ∃ j rr : Nat, (j : Int) ≤ k - 1 ∧ i = .int .i64 j ∧ r = .int .u32 rr ∧ rr < 4294967296 ∧ Hid (dl rr = (dl x).drop j)) (fun _ i => (k - 1).toNat - (intOf i).toNat)
      case atStart => exact ⟨0, x, by omega, rfl, rfl, hx, by show _ = _; simp⟩
      case round =>
        obtain ⟨j, rr, hj, rfl, rfl, hr, HD⟩ := hrel
        by_cases hlt : (j : Int) < k - 1
        · have h0 : rr ≠ 0 := drop_ne HD.out (by rw [← HC.out]; omega)
          have HD2 := hide (drop_next HD.out)
          have e := and32 rr (rr - 1) hr (by omega)
          rw [show ((rr - 1 : Nat) : Int) = (rr : Int) - 1 by omega] at e
          have hr2 : rr &&& (rr - 1) < 4294967296 := Nat.lt_of_le_of_lt Nat.and_le_left hr
          generalize rr &&& (rr - 1) = r2 at *
          go_wp2
          go_round
          case rel => exact ⟨j + 1, r2, by omega, by go_num, rfl, hr2, HD2⟩
          case measure => simp [intOf]; omega
        · go_wp2_with (go_at_call 187; refine (next_any _ _ _ (by omega) (HT.out.drewN _)).mono ?_; rintro e w' ⟨rfl, rfl⟩)
          go_ret
          exact ⟨ret_int (by rw [HE.out, nth_at x rr j HD.out]; congr 4; omega), _, rfl⟩
    · have HE : Hid (nthL (dl x) k = 0) := nthL_no _ _ (by rw [← HC.out]; omega)
      by_cases h1 : k < 1
      all_goals
        have h2 : k < 1 ∨ (c : Int) < k := by omega
        go_enter Tryz.func155, Tryz.ntmps155
        go_wp2_with (go_at_call 186; refine (count_any _ _ (by omega)).mono ?_; rw [← HC.out]; rintro e w' ⟨rfl, n1, rfl⟩)
        go_ret
        exact ⟨ret_int (by rw [HE.out]; rfl), _, rfl⟩
end Go.Proofs.YtkpgfhapffijkaaGreatDoor

/- The walk of mask.Week. -/
namespace Go.DsMk
/-- so many weeks, one behind the other -/
def rowN (b : Nat) : Nat → Nat
  | 0 => 0
  | j + 1 => rowN b j * 128 + b
theorem rowN_lt {b : Nat} (hb : b < 128) : ∀ j, rowN b j < 128 ^ j
  | 0 => by simp [rowN]
  | j + 1 => by have := rowN_lt hb j; unfold rowN; rw [Nat.pow_succ]; omega
/-- the days of weekdays -/
def weekN (bits : Nat) (first n : Int) : Nat := rowN (bits % 128) 6 / 2 ^ (first % 7).toNat % 4294967296 &&& allN n
theorem weekN_lt (bits : Nat) (first n : Int) : weekN bits first n < 2147483648 := Nat.lt_of_le_of_lt Nat.and_le_right (allN_lt n)
end Go.DsMk
namespace Go.Proofs.YtkpgfhapffijkaaGreatDoor
open Go.ChangeShapes Go.WideShapes Go.ChangeAt Go.RowKit Go.DsMem Go.DsMk
set_option linter.unusedVariables false
theorem or64 (a b : Nat) (ha : a < 18446744073709551616) (hb : b < 18446744073709551616) : bits .or .u64 (a : Int) (b : Int) = ((a ||| b : Nat) : Int) := by
  have hx : a ||| b < 2 ^ 64 := Nat.or_lt_two_pow (by omega) (by omega)
  have h1 : (BitVec.ofInt 64 (a : Int)).toNat = a := by rw [BitVec.ofInt_natCast, BitVec.toNat_ofNat]; exact Nat.mod_eq_of_lt (by omega)
  have h2 : (BitVec.ofInt 64 (b : Int)).toNat = b := by rw [BitVec.ofInt_natCast, BitVec.toNat_ofNat]; exact Nat.mod_eq_of_lt (by omega)
  show IntKind.u64.wrap ((BitVec.ofInt 64 (a : Int) ||| BitVec.ofInt 64 (b : Int)).toNat : Int) = _
  rw [BitVec.toNat_or, h1, h2, IntKind.wrap_u64]
  omega
theorem and8 (a b : Nat) (ha : a < 256) (hb : b < 256) : bits .and .u8 (a : Int) (b : Int) = ((a &&& b : Nat) : Int) := by
  have hx : a &&& b < 2 ^ 8 := Nat.and_lt_two_pow _ (by omega)
  have h1 : (BitVec.ofInt 8 (a : Int)).toNat = a := by rw [BitVec.ofInt_natCast, BitVec.toNat_ofNat]; exact Nat.mod_eq_of_lt (by omega)
  have h2 : (BitVec.ofInt 8 (b : Int)).toNat = b := by rw [BitVec.ofInt_natCast, BitVec.toNat_ofNat]; exact Nat.mod_eq_of_lt (by omega)
  show IntKind.u8.wrap ((BitVec.ofInt 8 (a : Int) &&& BitVec.ofInt 8 (b : Int)).toNat : Int) = _
  rw [BitVec.toNat_and, h1, h2, IntKind.wrap_u8]
  omega
theorem or_add (p b : Nat) (hb : b < 128) : p * 128 ||| b = p * 128 + b := by
  rw [show p * 128 = 2 ^ 7 * p by omega, Nat.two_pow_add_eq_or_of_lt hb]
theorem cast_div (r a : Nat) : (r : Int) / 2 ^ a % 4294967296 = ((r / 2 ^ a % 4294967296 : Nat) : Int) := by
  rw [pow_cast]; omega
set_option maxHeartbeats 1000000 in
/-- mask.Week -/
theorem week_any (bits : Nat) (first n : Int) (w : World) (hbits : bits < 256) (hf1 : -9223372036854775808 ≤ first) (hf2 : first ≤ 9223372036854775807) :
    Calls Tryz.prog 183 #[.int .u8 bits, .int .i64 first, .int .i64 n] w fun e w' => e = .returned (.int .u32 (weekN bits first n)) ∧ w' = w := by
  obtain ⟨b, hbe⟩ : ∃ b, b = bits % 128 := ⟨_, rfl⟩
  have hb : b < 128 := by omega
  have e8 : Go.bits .and .u8 (bits : Int) 127 = (b : Int) := by
    have := and8 bits 127 hbits (by decide)
    rw [show (127 : Nat) = 2 ^ 7 - 1 by decide, Nat.and_two_pow_sub_one_eq_mod] at this
    rw [hbe]; simpa using this
  obtain ⟨t, ht⟩ : ∃ t, first.tmod 7 = t := ⟨_, rfl⟩
  have htm := Int.tmod_eq_emod (a := first) (b := 7)
  have t1 : -7 < t ∧ t < 7 ∧ (t + 7) % 7 = first % 7 := by
    rw [ht] at htm
    split at htm
    · omega
    · have : ((7 : Int).natAbs : Int) = 7 := by decide
      omega
  obtain ⟨t1, t2, t3⟩ := t1
  obtain ⟨a, ha⟩ : ∃ a : Nat, a = (first % 7).toNat := ⟨_, rfl⟩
  have ha7 : a < 7 := by omega
  have t4 : (t + 7) % 7 = (a : Int) := by omega
  have HA := hide ha
  have HB := hide hbe
  have hall := allN_lt n
  have LT := hide (rowN_lt hb)
  clear htm t3 ha hbe
  go_enter Tryz.func183, Tryz.ntmps183
  go_wp2
  go_loop [8, 13] (fun r i => ∃ j : Nat, j ≤ 6 ∧ i = .int .i64 j ∧ r = .int .u64 (rowN b j)) (fun _ i => 6 - (intOf i).toNat)
  case atStart => exact ⟨0, by omega, rfl, rfl⟩
  case round =>
    obtain ⟨j, hj, rfl, rfl⟩ := hrel
    have hl := LT.out j
    have hl2 : rowN b j < 4398046511104 := Nat.lt_of_lt_of_le hl (by have := Nat.pow_le_pow_right (show 0 < 128 by decide) hj; simpa using this)
    by_cases hlt : j < 6
    · have HR : Hid (rowN b (j + 1) = rowN b j * 128 + b) := rfl
      have eo := or64 (rowN b j * 128) b (by omega) (by omega)
      rw [or_add _ _ hb] at eo
      clear hl
      generalize rowN b j = r at *
      push_cast at eo
      go_wp2
      go_round
      case rel => exact ⟨j + 1, by omega, by go_num, by rw [HR.out]; push_cast; rfl⟩
      case measure => simp [intOf]; omega
    · obtain rfl : j = 6 := by omega
      go_wp2_with (go_at_call 184; refine (all_any _ _).mono ?_; rintro e w' ⟨rfl, rfl⟩)
      go_ret
      refine ⟨ret_int ?_, rfl⟩
      rw [cast_div, and32 _ _ (by omega) (by omega), HB.out, HA.out]; rfl
end Go.Proofs.YtkpgfhapffijkaaGreatDoor

/- The walks of mask.Days and mask.Month.List. -/
namespace Go.DsMk
/-- the day of a number, in n days -/
def dayOf (n k : Int) : Int := if k < 0 then IntKind.i64.wrap (IntKind.i64.wrap (n + k) + 1) else k
/-- the days of numbers, all -/
def daysR (n : Int) (l : List Int) : Nat := l.foldl (fun m k => m ||| oneN (dayOf n k)) 0
theorem daysR_snoc (n : Int) (l : List Int) (k : Int) : daysR n (l ++ [k]) = daysR n l ||| oneN (dayOf n k) := by
  unfold daysR; rw [List.foldl_append]; rfl
theorem foldl_or_lt (n : Int) (l : List Int) : ∀ a, a < 2147483648 → l.foldl (fun m k => m ||| oneN (dayOf n k)) a < 2147483648 := by
  induction l with
  | nil => intro a h; exact h
  | cons k l ih => intro a h; exact ih _ (Nat.or_lt_two_pow (n := 31) h (oneN_lt _))
theorem daysR_lt (n : Int) (l : List Int) : daysR n l < 2147483648 := foldl_or_lt n l 0 (by decide)
/-- the days of numbers -/
def daysN (n : Int) (l : List Int) : Nat := daysR n l &&& allN n
theorem daysN_lt (n : Int) (l : List Int) : daysN n l < 2147483648 := Nat.lt_of_le_of_lt Nat.and_le_right (allN_lt n)
end Go.DsMk
namespace Go.Proofs.YtkpgfhapffijkaaGreatDoor
open Go.ChangeShapes Go.WideShapes Go.ChangeAt Go.RowKit Go.DsMem Go.DsMk
set_option linter.unusedVariables false
set_option maxHeartbeats 1000000 in
/-- mask.Days -/
theorem mlist_any (l : List Int) (n : Int) (sl : Value) (w : World) (h : RdI w sl l) (hl : l.length ≤ 140737488355328) (hn1 : -9223372036854775808 ≤ n) (hn2 : n ≤ 9223372036854775807) (hk : ∀ k ∈ l, -9223372036854775808 ≤ k ∧ k ≤ 9223372036854775807) :
    Calls Tryz.prog 152 #[sl, .int .i64 n] w fun e w' => e = .returned (.int .u32 (daysN n l)) ∧ w' = w := by
  obtain ⟨ao, cap, rfl, hlc, hnil, hrd⟩ := h
  have HK := hide hk
  clear hk
  have hall := allN_lt n
  go_enter Tryz.func152, Tryz.ntmps152
  go_wp2
  go_loop [5, 10] (fun m i => ∃ k : Nat, k ≤ l.length ∧ i = .int .i64 k ∧ m = .int .u32 (daysR n (l.take k))) (fun _ i => l.length - (intOf i).toNat)
  case atStart => exact ⟨0, Nat.zero_le _, rfl, rfl⟩
  case round =>
    obtain ⟨k, hk, rfl, rfl⟩ := hrel
    have hm := daysR_lt n (l.take k)
    by_cases hlt : k < l.length
    · obtain ⟨a, rfl⟩ : ∃ a, ao = some a := by
        cases ao with
        | none => have := hnil rfl; omega
        | some a => exact ⟨a, rfl⟩
      have hc := hrd a rfl k l[k] (List.getElem?_eq_getElem hlt)
      clear hrd hnil
      have hkb := HK.out l[k] (List.getElem_mem hlt)
      have HS : Hid (daysR n (l.take (k + 1)) = daysR n (l.take k) ||| oneN (dayOf n l[k])) := by show _ = _; rw [List.take_succ_eq_append_getElem hlt, daysR_snoc]
      generalize daysR n (l.take k) = m at *
      generalize l[k] = x at *
      obtain ⟨hx1, hx2⟩ := hkb
      have ho := oneN_lt (dayOf n x)
      have e := or32 m (oneN (dayOf n x)) (by omega) (by omega)
      have HE := hide e
      have HO := hide ho
      generalize hoe : oneN (dayOf n x) = o at *
      have HOE := hide hoe
      have hob : o < 2147483648 := HO.out
      have eo : bits .or .u32 (m : Int) (o : Int) = ((m ||| o : Nat) : Int) := HE.out
      clear HE HO e ho hoe
      have hmo : m ||| o < 4294967296 := Nat.or_lt_two_pow (n := 32) (by omega) (by omega)
      generalize m ||| o = mo at *
      by_cases hx : x < 0
      · have HD : Hid (oneN (wrap64 (wrap64 (n + x) + 1)) = o) := by
          show _ = _
          have := HOE.out
          unfold dayOf at this
          rw [if_pos hx, IntKind.wrap_i64, IntKind.wrap_i64] at this
          unfold wrap64
          exact this
        go_wp2_with (go_at_call 159; refine (one_any _ _).mono ?_; rw [HD.out]; rintro e w' ⟨rfl, rfl⟩)
        go_round
        case rel => exact ⟨k + 1, by omega, by go_num, by rw [HS.out]⟩
        case measure => simp [intOf]; omega
      · have HD : Hid (oneN x = o) := by show _ = _; have := HOE.out; unfold dayOf at this; rwa [if_neg hx] at this
        go_wp2_with (go_at_call 159; refine (one_any _ _).mono ?_; rw [HD.out]; rintro e w' ⟨rfl, rfl⟩)
        go_round
        case rel => exact ⟨k + 1, by omega, by go_num, by rw [HS.out]⟩
        case measure => simp [intOf]; omega
    · have HE : Hid (daysR n (l.take k) = daysR n l) := by show _ = _; rw [List.take_of_length_le (by omega)]
      have e := and32 (daysR n (l.take k)) (allN n) (by omega) (by omega)
      generalize hre : daysR n (l.take k) = m at *
      have HRE := hide hre
      clear hre
      go_wp2_with (go_at_call 184; refine (all_any _ _).mono ?_; rintro e w' ⟨rfl, rfl⟩)
      go_ret
      exact ⟨ret_int (by unfold daysN; rw [← HE.out]), rfl⟩
theorem info64 : (Tryz.prog.info? 2).map (fun i => (i.zero, i.size, i.bytes)) = some (some (.int .i64 0), 1, 8) := by kernel_rfl
theorem one_i64 (x : Int) : ∀ u ∈ [Value.int .i64 x], u.oneCell' = true := by
  intro u hu; simp at hu; subst hu; rfl
def i64s (l : List Int) : List Value := l.map (Value.int .i64)
theorem rel_push64 {B k : Nat} {w wr w1 : World} {v v' : Value} {xs : List Int} {x : Int} {o : Obj} (hB : B ≤ wr.heap.size)
    (hown : wr.ownsRow B 2 1 v k (i64s xs)) (hnx : Below B w wr)
    (hown' : w1.ownsRow B 2 1 v' (k + 1) (i64s xs ++ [.int .i64 x])) (hgrow : (wr.alloc o).grownBy w1 v.ownBlock) :
    w1.ownsRow B 2 1 v' (k + 1) (i64s (xs ++ [x])) ∧ Below B w w1 :=
  ⟨by simpa [i64s] using hown', (hnx.alloc hB o).grown hgrow (by simp; omega) (fun j hj => (hown.lt j hj).1)⟩
theorem RdI.own {w : World} {B : Nat} {v : Value} {n : Nat} {l : List Int} (h : w.ownsRow B 2 1 v n (i64s l)) : RdI w v l := by
  have hn : n = l.length := by have := h.1; simp [i64s] at this; omega
  subst hn
  rcases h.2 with ⟨rfl, h0⟩ | ⟨g, cap, cur, rfl, hb, hg, h1, h2, h3, h4⟩
  · exact ⟨none, 0, by rw [h0], by omega, fun _ => ⟨h0, rfl⟩, fun _ h => by cases h⟩
  · refine ⟨some ⟨g, 0, none⟩, cap, rfl, h1, fun h => (by cases h), fun a ha j u hu => ?_⟩
    obtain rfl : (⟨g, 0, none⟩ : Addr) = a := Option.some.inj ha
    exact h.cells (g := g) rfl j (.int .i64 u) (by simp [i64s, hu])
end Go.Proofs.YtkpgfhapffijkaaGreatDoor

/- What the laws of package mask hold on to: the table stands, nothing old has turned; package mask's contracts under it. The walk of known. -/
namespace Go.Proofs.YtkpgfhapffijkaaGreatDoor
open Go.ChangeShapes Go.WideShapes Go.ChangeAt Go.RowKit Go.DsMem Go.DsMk
set_option linter.unusedVariables false
/-- out of W, with the table there, has come w: nothing old has turned -/
structure Gd (W w : World) : Prop where
  tab : TabT W
  below : Below W.heap.size W w
theorem Gd.tabT {W w : World} (h : Gd W w) : TabT w := fun q hq => Below.keeps h.below (Nat.le_refl _) (h.tab q hq)
theorem Gd.more {W w w' : World} (h : Gd W w) (hb : Below w.heap.size w w') : Gd W w' := ⟨h.tab, h.below.trans (hb.mono h.below.size)⟩
theorem Gd.drewN {W w : World} (h : Gd W w) (n : Nat) : Gd W (w.drewN n) := h.more (below_drewN _ _)
theorem Gd.nth {W w : World} (h : Gd W w) (x : Nat) (k : Int) (hx : x < 4294967296) (hk1 : -9223372036854775808 ≤ k) (hk2 : k ≤ 9223372036854775807) {c : Nat} (hc : nthL (dl x) k = c) :
    Calls Tryz.prog 155 #[.int .u32 x, .int .i64 k] w fun e w' => e = .returned (.int .i64 c) ∧ Gd W w' :=
  (nth_any x k w hx h.tabT hk1 hk2).mono fun _ _ ⟨he, n, hw⟩ => ⟨by rw [he, hc], by rw [hw]; exact h.drewN n⟩
end Go.Proofs.YtkpgfhapffijkaaGreatDoor

/- The walks of dayshiftref05's None and Of: days as a row of Bools. -/
namespace Go.Proofs.YtkpgfhapffijkaaGreatDoor
open Go.ChangeShapes Go.WideShapes Go.ChangeAt Go.RowKit Go.DsMem Go.DsMk
set_option linter.unusedVariables false
theorem heap_keep {w : World} {o : Obj} {k : Nat} {x : Obj} (h : w.heap[k]? = some x) : (w.alloc o).heap[k]? = some x := by
  have hk := block_lt h
  rw [((Below.refl w.heap.size w).alloc (Nat.le_refl _) o).block k hk]; exact h
end Go.Proofs.YtkpgfhapffijkaaGreatDoor

/- The walks of dayshiftref05's All, Week, Bits, Has. -/

/- The walks of dayshiftref05's Bits, Has, List, Count. -/

/- The walk of MaskGoes. -/

/- The walks of dayshiftref05's Nth, Next, Prev. -/
