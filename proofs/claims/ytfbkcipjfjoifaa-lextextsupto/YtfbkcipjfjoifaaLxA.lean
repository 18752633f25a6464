/- Package lex: IndexByte; what a byte is; where digits, names, lines end. -/
import Derived.Test.YtfbkcipjfjoifaaProg
import Derived.Test.YtfbkcipjfjoifaaMem
import Derived.Lib.Strings
import Derived.Lib.Slices
import Derived.Lib.Walk
import Derived.Lib.Bytealg
namespace Go.DsLx
/-- the byte at a place, as a number -/
def bAt (s : ByteArray) (k : Nat) : Int := ((s.data.toList.getD k 0).toNat : Int)
theorem bAt_eq (s : ByteArray) (k : Nat) (h : k < s.size) : ((s[k].toNat : Nat) : Int) = bAt s k := by
  unfold bAt
  have hl : k < s.data.toList.length := by simpa using h
  rw [List.getD, List.getElem?_eq_getElem hl]
  rfl
theorem bAt_bd (s : ByteArray) (k : Nat) : 0 ≤ bAt s k ∧ bAt s k ≤ 255 := by
  unfold bAt
  have := (s.data.toList.getD k 0).toNat_lt
  omega
def signL : List UInt8 := [123, 125, 40, 41, 59, 44, 61, 43, 45, 46]
def blankL : List UInt8 := [32, 9, 10, 13]
def sgB (n : Int) : Bool := decide (0 ≤ Lib.indexByte signL n.toNat.toUInt8)
def blB (n : Int) : Bool := decide (0 ≤ Lib.indexByte blankL n.toNat.toUInt8)
/-- what a byte is: a letter 1, a digit 2, _ 3, a sign 4, else 0 -/
def clsF (n : Int) : Int := if (97 ≤ n ∧ n ≤ 122) ∨ (65 ≤ n ∧ n ≤ 90) then 1 else if 48 ≤ n ∧ n ≤ 57 then 2 else if n = 95 then 3 else if sgB n = true then 4 else 0
/-- whether it can stand in a name -/
def inB (n : Int) : Bool := decide (clsF n = 1 ∨ clsF n = 2 ∨ clsF n = 3)
/-- where bytes of a kind end, from k on, f at most -/
def runE (p : Int → Bool) (s : ByteArray) : Nat → Nat → Nat
  | 0, k => k
  | f + 1, k => if k < s.size ∧ p (bAt s k) = true then runE p s f (k + 1) else k
/-- where they end -/
def endE (p : Int → Bool) (s : ByteArray) (k : Nat) : Nat := runE p s (s.size - k) k
theorem endE_step {p : Int → Bool} {s : ByteArray} {k : Nat} (h : k < s.size) (hp : p (bAt s k) = true) : endE p s k = endE p s (k + 1) := by
  unfold endE
  rw [show s.size - k = (s.size - (k + 1)) + 1 by omega, runE, if_pos ⟨h, hp⟩]
theorem endE_stop {p : Int → Bool} {s : ByteArray} {k : Nat} (h : ¬ (k < s.size ∧ p (bAt s k) = true)) : endE p s k = k := by
  unfold endE
  cases hf : s.size - k with
  | zero => rfl
  | succ f => rw [runE, if_neg h]
def dgB (n : Int) : Bool := decide (clsF n = 2)
end Go.DsLx
namespace Go.Proofs.Ytfbkcipjfjoifaa
open Go.ChangeShapes Go.WideShapes Go.ChangeAt Go.RowKit Go.DsMem Go.DsLx
set_option linter.unusedVariables false
theorem ret_int {k : IntKind} {a b : Int} (h : a = b) : Ending.returned (.int k a) = .returned (.int k b) := by rw [h]
theorem ret_bool {a b : Bool} (h : a = b) : Ending.returned (.bool a) = .returned (.bool b) := by rw [h]

set_option maxHeartbeats 1000000 in
set_option maxRecDepth 100000 in
/-- internal/stringslite.IndexByte -/
theorem ibs_any (s : ByteArray) (c : Int) (w : World) :
    Calls Try.prog 43 #[.string s, .int .u8 c] w fun e w' => e = .returned (.int .i64 (Lib.indexByte s.data.toList c.toNat.toUInt8)) ∧ w' = w := by
  go_enter Try.func43, Try.ntmps43
  go_wp2
  rw [run_callFunc_extern Try.func51 (by kernel_rfl) (by kernel_rfl) (by kernel_rfl) (e := Extern.BytealgIndexByte.indexByte) (by kernel_rfl), Lib.run_indexByteString]
  simp only [Result.andThen]
  rw [Oper.upon_value]
  go_wp2
  go_ret
  exact ⟨rfl, rfl⟩
set_option maxHeartbeats 1000000 in
/-- strings.IndexByte -/
theorem ib_any (s : ByteArray) (c : Int) (w : World) :
    Calls Try.prog 34 #[.string s, .int .u8 c] w fun e w' => e = .returned (.int .i64 (Lib.indexByte s.data.toList c.toNat.toUInt8)) ∧ w' = w := by
  go_enter Try.func34, Try.ntmps34
  go_wp2_with (go_at_call 43; refine (ibs_any _ _ _).mono ?_; rintro e w' ⟨rfl, rfl⟩)
  go_ret
  exact ⟨rfl, rfl⟩
/-- .. of the signs, of the blanks -/
theorem ib_sign (n x : Int) (hx : Lib.indexByte signL n.toNat.toUInt8 = x) (w : World) :
    Calls Try.prog 34 #[.string ⟨#[123, 125, 40, 41, 59, 44, 61, 43, 45, 46]⟩, .int .u8 n] w fun e w' => e = .returned (.int .i64 x) ∧ w' = w := by
  rw [← hx]; exact ib_any ⟨#[123, 125, 40, 41, 59, 44, 61, 43, 45, 46]⟩ n w
theorem ib_blank (n x : Int) (hx : Lib.indexByte blankL n.toNat.toUInt8 = x) (w : World) :
    Calls Try.prog 34 #[.string ⟨#[32, 9, 10, 13]⟩, .int .u8 n] w fun e w' => e = .returned (.int .i64 x) ∧ w' = w := by
  rw [← hx]; exact ib_any ⟨#[32, 9, 10, 13]⟩ n w

set_option maxHeartbeats 2000000 in
/-- lex.classOf -/
theorem cls_any (n : Int) (w : World) (h0 : 0 ≤ n) (h1 : n ≤ 255) :
    Calls Try.prog 39 #[.int .u8 n] w fun e w' => e = .returned (.int .i64 (clsF n)) ∧ w' = w := by
  obtain ⟨x, hx⟩ : ∃ x, Lib.indexByte signL n.toNat.toUInt8 = x := ⟨_, rfl⟩
  have HX := hide hx
  have HS : Hid (sgB n = decide (0 ≤ x)) := by refine hide ?_; unfold sgB; rw [hx]
  obtain ⟨r, hr⟩ : ∃ r, clsF n = r := ⟨_, rfl⟩
  rw [hr]
  have HR := hide hr
  clear hx hr
  have hc : (97 ≤ n ∧ n ≤ 122) ∨ (65 ≤ n ∧ n ≤ 90 ∧ n < 97) ∨ (48 ≤ n ∧ n ≤ 57 ∧ n < 65) ∨ (n = 95) ∨ ((n < 48 ∨ (57 < n ∧ n < 65) ∨ (90 < n ∧ n < 95) ∨ n = 96 ∨ 122 < n) ∧ ¬ n = 95) := by omega
  rcases hc with ⟨a, b⟩ | ⟨a, b, c⟩ | ⟨a, b, c⟩ | rfl | ⟨hc, h95⟩
  · have hr : r = 1 := by rw [← HR.out]; unfold clsF; rw [if_pos (by omega)]
    subst hr
    go_enter Try.func39, Try.ntmps39
    go_wp2
    go_ret
    exact ⟨rfl, rfl⟩
  · have hr : r = 1 := by rw [← HR.out]; unfold clsF; rw [if_pos (by omega)]
    subst hr
    go_enter Try.func39, Try.ntmps39
    go_wp2
    go_ret
    exact ⟨rfl, rfl⟩
  · have hr : r = 2 := by rw [← HR.out]; unfold clsF; rw [if_neg (by omega), if_pos (by omega)]
    subst hr
    go_enter Try.func39, Try.ntmps39
    go_wp2
    go_ret
    exact ⟨rfl, rfl⟩
  · have hr : r = 3 := by rw [← HR.out]; rfl
    subst hr
    go_enter Try.func39, Try.ntmps39
    go_wp2
    go_ret
    exact ⟨rfl, rfl⟩
  · have hr0 : r = if 0 ≤ x then 4 else 0 := by
      rw [← HR.out]; unfold clsF; rw [if_neg (by omega), if_neg (by omega), if_neg h95, HS.out]
      by_cases h : 0 ≤ x <;> simp [h]
    have h95' : (n == 95) = false := by simpa using h95
    by_cases hx0 : 0 ≤ x
    · have hr : r = 4 := by rw [hr0, if_pos hx0]
      subst hr
      clear hr0
      rcases hc with c | ⟨c, d⟩ | ⟨c, d⟩ | rfl | c
      all_goals
        go_enter Try.func39, Try.ntmps39
        go_wp2_with (go_at_call 34; refine (ib_sign _ x HX.out _).mono ?_; rintro e w' ⟨rfl, rfl⟩)
        go_ret
        exact ⟨rfl, rfl⟩
    · have hr : r = 0 := by rw [hr0, if_neg hx0]
      have hx0' : x < 0 := by omega
      subst hr
      clear hr0 hx0
      rcases hc with c | ⟨c, d⟩ | ⟨c, d⟩ | rfl | c
      all_goals
        go_enter Try.func39, Try.ntmps39
        go_wp2_with (go_at_call 34; refine (ib_sign _ x HX.out _).mono ?_; rintro e w' ⟨rfl, rfl⟩)
        go_ret
        exact ⟨rfl, rfl⟩
set_option maxHeartbeats 1000000 in
/-- lex.inName -/
theorem inName_any (n : Int) (w : World) (h0 : 0 ≤ n) (h1 : n ≤ 255) :
    Calls Try.prog 44 #[.int .u8 n] w fun e w' => e = .returned (.bool (inB n)) ∧ w' = w := by
  obtain ⟨r, hr⟩ : ∃ r, clsF n = r := ⟨_, rfl⟩
  have HR : Hid (inB n = decide (r = 1 ∨ r = 2 ∨ r = 3)) := by refine hide ?_; unfold inB; rw [hr]
  have HC : Hid (∀ w, Calls Try.prog 39 #[.int .u8 n] w fun e w' => e = .returned (.int .i64 r) ∧ w' = w) := fun w => by rw [← hr]; exact cls_any n w h0 h1
  clear hr
  rw [HR.out]
  by_cases a : r = 1
  · subst a
    go_enter Try.func44, Try.ntmps44
    go_wp2_with (go_at_call 39; refine (HC.out _).mono ?_; rintro e w' ⟨rfl, rfl⟩)
    go_ret
    exact ⟨rfl, rfl⟩
  by_cases b : r = 2
  · subst b
    go_enter Try.func44, Try.ntmps44
    go_wp2_with (go_at_call 39; refine (HC.out _).mono ?_; rintro e w' ⟨rfl, rfl⟩)
    go_ret
    exact ⟨rfl, rfl⟩
  · have a' : (r == 1) = false := by simpa using a
    have b' : (r == 2) = false := by simpa using b
    go_enter Try.func44, Try.ntmps44
    go_wp2_with (go_at_call 39; refine (HC.out _).mono ?_; rintro e w' ⟨rfl, rfl⟩)
    go_ret
    exact ⟨ret_bool (by by_cases c : r = 3 <;> simp [a, b, c]), rfl⟩
set_option maxHeartbeats 1000000 in
/-- lex.digitsEnd -/
theorem digitsEnd_any (s : ByteArray) (k : Nat) (w : World) (hs : s.size ≤ 100000) (hk : k ≤ s.size) :
    Calls Try.prog 38 #[.string s, .int .i64 k] w fun e w' => e = .returned (.int .i64 (endE dgB s k)) ∧ w' = w := by
  obtain ⟨r, hr⟩ : ∃ r, endE dgB s k = r := ⟨_, rfl⟩
  rw [hr]
  have HR := hide hr
  clear hr
  go_enter Try.func38, Try.ntmps38
  go_wp2
  go_loopw [1] (fun tt wr => ∃ j : Nat, j ≤ s.size ∧ tt = .int .i64 j ∧ endE dgB s j = r ∧ wr = w) (fun tt _ => s.size - (intOf tt).toNat)
  case atStart => exact ⟨k, hk, rfl, HR.out, rfl⟩
  case round =>
    obtain ⟨j, hj, rfl, hjr, rfl⟩ := hrel
    have HJ := hide hjr
    clear hjr
    by_cases hlt : j < s.size
    · have hb := bAt_bd s j
      have HC : Hid (∀ (x : Int) (w : World), clsF (bAt s j) = x → Calls Try.prog 39 #[.int .u8 (s[j].toNat : Int)] w fun e w' => e = .returned (.int .i64 x) ∧ w' = w) := fun x w hx => by
        rw [bAt_eq s j hlt, ← hx]; exact cls_any _ w hb.1 hb.2
      obtain ⟨x, hx⟩ : ∃ x, clsF (bAt s j) = x := ⟨_, rfl⟩
      by_cases h2 : x = 2
      · subst h2
        have HE := hide (endE_step (p := dgB) hlt (by unfold dgB; simp [hx]))
        have HX := hide hx
        clear hx hb
        go_wp2_with (go_at_call 39; refine (HC.out 2 _ HX.out).mono ?_; rintro e w' ⟨rfl, rfl⟩)
        go_roundw
        case rel => exact ⟨j + 1, by omega, by go_num, by rw [← HE.out]; exact HJ.out, trivial⟩
        case measure => simp [intOf]; omega
      · have HE := hide (endE_stop (p := dgB) (s := s) (k := j) (by unfold dgB; simp [hx, h2]))
        have HX := hide hx
        have h2' : (x == 2) = false := by simpa using h2
        clear hx hb
        go_wp2_with (go_at_call 39; refine (HC.out x _ HX.out).mono ?_; rintro e w' ⟨rfl, rfl⟩)
        go_ret
        exact ⟨ret_int (by rw [← HJ.out, HE.out]), rfl⟩
    · have HE := hide (endE_stop (p := dgB) (s := s) (k := j) (by omega))
      go_wp2
      go_ret
      exact ⟨ret_int (by rw [← HJ.out, HE.out]), rfl⟩
end Go.Proofs.Ytfbkcipjfjoifaa
