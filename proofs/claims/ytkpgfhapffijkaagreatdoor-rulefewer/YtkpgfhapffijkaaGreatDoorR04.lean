/- Package lex: IndexByte; what a byte is; where digits, names, lines end. -/
import Derived.Test.YtkpgfhapffijkaaGreatDoorProg
import Derived.Test.YtkpgfhapffijkaaGreatDoorR01
import Derived.Lib.Strings
import Derived.Lib.Slices
import Derived.Lib.Walk
import Derived.Lib.Bytealg
namespace Go.DsLx
/-- the byte at a place, as a number -/
def bAt (s : ByteArray) (k : Nat) : Int := ((s.data.toList.getD k 0).toNat : Int)
theorem bAt_eq (s : ByteArray) (k : Nat) (h : k < s.size) : ((s[k].toNat : Nat) : Int) = bAt s k := by
  unfold bAt
  have hl : k < s.data.toList.length := by simpa using h
  rw [List.getD, List.getElem?_eq_getElem hl]
  rfl
theorem bAt_bd (s : ByteArray) (k : Nat) : 0 ≤ bAt s k ∧ bAt s k ≤ 255 := by
  unfold bAt
  have := (s.data.toList.getD k 0).toNat_lt
  omega
def signL : List UInt8 := [123, 125, 40, 41, 59, 44, 61, 43, 45, 46]
def blankL : List UInt8 := [32, 9, 10, 13]
def sgB (n : Int) : Bool := decide (0 ≤ Lib.indexByte signL n.toNat.toUInt8)
def blB (n : Int) : Bool := decide (0 ≤ Lib.indexByte blankL n.toNat.toUInt8)
/-- what a byte is: a letter 1, a digit 2, _ 3, a sign 4, else 0 -/
def clsF (n : Int) : Int := if (97 ≤ n ∧ n ≤ 122) ∨ (65 ≤ n ∧ n ≤ 90) then 1 else if 48 ≤ n ∧ n ≤ 57 then 2 else if n = 95 then 3 else if sgB n = true then 4 else 0
/-- whether it can stand in a name -/
def inB (n : Int) : Bool := decide (clsF n = 1 ∨ clsF n = 2 ∨ clsF n = 3)
/-- where bytes of a kind end, from k on, f at most -/
def runE (p : Int → Bool) (s : ByteArray) : Nat → Nat → Nat
  | 0, k => k
  | f + 1, k => if k < s.size ∧ p (bAt s k) = true then runE p s f (k + 1) else k
/-- where they end -/
def endE (p : Int → Bool) (s : ByteArray) (k : Nat) : Nat := runE p s (s.size - k) k
theorem endE_step {p : Int → Bool} {s : ByteArray} {k : Nat} (h : k < s.size) (hp : p (bAt s k) = true) : endE p s k = endE p s (k + 1) := by
  unfold endE
  rw [show s.size - k = (s.size - (k + 1)) + 1 by omega, runE, if_pos ⟨h, hp⟩]
theorem endE_stop {p : Int → Bool} {s : ByteArray} {k : Nat} (h : ¬ (k < s.size ∧ p (bAt s k) = true)) : endE p s k = k := by
  unfold endE
  cases hf : s.size - k with
  | zero => rfl
  | succ f => rw [runE, if_neg h]
def dgB (n : Int) : Bool := decide (clsF n = 2)
end Go.DsLx
namespace Go.Proofs.YtkpgfhapffijkaaGreatDoor
open Go.ChangeShapes Go.WideShapes Go.ChangeAt Go.RowKit Go.DsMem Go.DsLx
set_option linter.unusedVariables false
theorem ret_int {k : IntKind} {a b : Int} (h : a = b) : Ending.returned (.int k a) = .returned (.int k b) := by rw [h]
theorem ret_bool {a b : Bool} (h : a = b) : Ending.returned (.bool a) = .returned (.bool b) := by rw [h]
set_option maxHeartbeats 1000000 in
set_option maxRecDepth 100000 in
/-- internal/stringslite.IndexByte -/
theorem ibs_any (s : ByteArray) (c : Int) (w : World) :
    Calls Tryz.prog 91 #[.string s, .int .u8 c] w fun e w' => e = .returned (.int .i64 (Lib.indexByte s.data.toList c.toNat.toUInt8)) ∧ w' = w := by
  go_enter Tryz.func91, Tryz.ntmps91
  go_wp2
  rw [run_callFunc_extern Tryz.func130 (by kernel_rfl) (by kernel_rfl) (by kernel_rfl) (e := Extern.BytealgIndexByte.indexByte) (by kernel_rfl), Lib.run_indexByteString]
  simp only [Result.andThen]
  rw [Oper.upon_value]
  go_wp2
  go_ret
  exact ⟨rfl, rfl⟩
set_option maxHeartbeats 1000000 in
/-- strings.IndexByte -/
theorem ib_any (s : ByteArray) (c : Int) (w : World) :
    Calls Tryz.prog 69 #[.string s, .int .u8 c] w fun e w' => e = .returned (.int .i64 (Lib.indexByte s.data.toList c.toNat.toUInt8)) ∧ w' = w := by
  go_enter Tryz.func69, Tryz.ntmps69
  go_wp2_with (go_at_call 91; refine (ibs_any _ _ _).mono ?_; rintro e w' ⟨rfl, rfl⟩)
  go_ret
  exact ⟨rfl, rfl⟩
/-- .. of the signs, of the blanks -/
theorem ib_sign (n x : Int) (hx : Lib.indexByte signL n.toNat.toUInt8 = x) (w : World) :
    Calls Tryz.prog 69 #[.string ⟨#[123, 125, 40, 41, 59, 44, 61, 43, 45, 46]⟩, .int .u8 n] w fun e w' => e = .returned (.int .i64 x) ∧ w' = w := by
  rw [← hx]; exact ib_any ⟨#[123, 125, 40, 41, 59, 44, 61, 43, 45, 46]⟩ n w
theorem ib_blank (n x : Int) (hx : Lib.indexByte blankL n.toNat.toUInt8 = x) (w : World) :
    Calls Tryz.prog 69 #[.string ⟨#[32, 9, 10, 13]⟩, .int .u8 n] w fun e w' => e = .returned (.int .i64 x) ∧ w' = w := by
  rw [← hx]; exact ib_any ⟨#[32, 9, 10, 13]⟩ n w
set_option maxHeartbeats 2000000 in
/-- lex.classOf -/
theorem cls_any (n : Int) (w : World) (h0 : 0 ≤ n) (h1 : n ≤ 255) :
    Calls Tryz.prog 74 #[.int .u8 n] w fun e w' => e = .returned (.int .i64 (clsF n)) ∧ w' = w := by
  obtain ⟨x, hx⟩ : ∃ x, Lib.indexByte signL n.toNat.toUInt8 = x := ⟨_, rfl⟩
  have HX := hide hx
  have HS : Hid (sgB n = decide (0 ≤ x)) := by refine hide ?_; unfold sgB; rw [hx]
  obtain ⟨r, hr⟩ : ∃ r, clsF n = r := ⟨_, rfl⟩
  rw [hr]
  have HR := hide hr
  clear hx hr
  have hc : (97 ≤ n ∧ n ≤ 122) ∨ (65 ≤ n ∧ n ≤ 90 ∧ n < 97) ∨ (48 ≤ n ∧ n ≤ 57 ∧ n < 65) ∨ (n = 95) ∨ ((n < 48 ∨ (57 < n ∧ n < 65) ∨ (90 < n ∧ n < 95) ∨ n = 96 ∨ 122 < n) ∧ ¬ n = 95) := by omega
  rcases hc with ⟨a, b⟩ | ⟨a, b, c⟩ | ⟨a, b, c⟩ | rfl | ⟨hc, h95⟩
  · have hr : r = 1 := by rw [← HR.out]; unfold clsF; rw [if_pos (by omega)]
    subst hr
    go_enter Tryz.func74, Tryz.ntmps74
    go_wp2
    go_ret
    exact ⟨rfl, rfl⟩
  · have hr : r = 1 := by rw [← HR.out]; unfold clsF; rw [if_pos (by omega)]
    subst hr
    go_enter Tryz.func74, Tryz.ntmps74
    go_wp2
    go_ret
    exact ⟨rfl, rfl⟩
  · have hr : r = 2 := by rw [← HR.out]; unfold clsF; rw [if_neg (by omega), if_pos (by omega)]
    subst hr
    go_enter Tryz.func74, Tryz.ntmps74
    go_wp2
    go_ret
    exact ⟨rfl, rfl⟩
  · have hr : r = 3 := by rw [← HR.out]; rfl
    subst hr
    go_enter Tryz.func74, Tryz.ntmps74
    go_wp2
    go_ret
    exact ⟨rfl, rfl⟩
  · have hr0 : r = if 0 ≤ x then 4 else 0 := by
      rw [← HR.out]; unfold clsF; rw [if_neg (by omega), if_neg (by omega), if_neg h95, HS.out]
      by_cases h : 0 ≤ x <;> simp [h]
    have h95' : (n == 95) = false := by simpa using h95
    by_cases hx0 : 0 ≤ x
    · have hr : r = 4 := by rw [hr0, if_pos hx0]
      subst hr
      clear hr0
      rcases hc with c | ⟨c, d⟩ | ⟨c, d⟩ | rfl | c
      all_goals
        go_enter Tryz.func74, Tryz.ntmps74
        go_wp2_with (go_at_call 69; refine (ib_sign _ x HX.out _).mono ?_; rintro e w' ⟨rfl, rfl⟩)
        go_ret
        exact ⟨rfl, rfl⟩
    · have hr : r = 0 := by rw [hr0, if_neg hx0]
      have hx0' : x < 0 := by omega
      subst hr
      clear hr0 hx0
      rcases hc with c | ⟨c, d⟩ | ⟨c, d⟩ | rfl | c
      all_goals
        go_enter Tryz.func74, Tryz.ntmps74
        go_wp2_with (go_at_call 69; refine (ib_sign _ x HX.out _).mono ?_; rintro e w' ⟨rfl, rfl⟩)
        go_ret
        exact ⟨rfl, rfl⟩
set_option maxHeartbeats 1000000 in
/-- lex.inName -/
theorem inName_any (n : Int) (w : World) (h0 : 0 ≤ n) (h1 : n ≤ 255) :
    Calls Tryz.prog 92 #[.int .u8 n] w fun e w' => e = .returned (.bool (inB n)) ∧ w' = w := by
  obtain ⟨r, hr⟩ : ∃ r, clsF n = r := ⟨_, rfl⟩
  have HR : Hid (inB n = decide (r = 1 ∨ r = 2 ∨ r = 3)) := by refine hide ?_; unfold inB; rw [hr]
  have HC : Hid (∀ w, Calls Tryz.prog 74 #[.int .u8 n] w fun e w' => e = .returned (.int .i64 r) ∧ w' = w) := fun w => by rw [← hr]; exact cls_any n w h0 h1
  clear hr
  rw [HR.out]
  by_cases a : r = 1
  · subst a
    go_enter Tryz.func92, Tryz.ntmps92
    go_wp2_with (go_at_call 74; refine (HC.out _).mono ?_; rintro e w' ⟨rfl, rfl⟩)
    go_ret
    exact ⟨rfl, rfl⟩
  by_cases b : r = 2
  · subst b
    go_enter Tryz.func92, Tryz.ntmps92
    go_wp2_with (go_at_call 74; refine (HC.out _).mono ?_; rintro e w' ⟨rfl, rfl⟩)
    go_ret
    exact ⟨rfl, rfl⟩
  · have a' : (r == 1) = false := by simpa using a
    have b' : (r == 2) = false := by simpa using b
    go_enter Tryz.func92, Tryz.ntmps92
    go_wp2_with (go_at_call 74; refine (HC.out _).mono ?_; rintro e w' ⟨rfl, rfl⟩)
    go_ret
    exact ⟨ret_bool (by by_cases c : r = 3 <;> simp [a, b, c]), rfl⟩
set_option maxHeartbeats 1000000 in
/-- lex.digitsEnd -/
theorem digitsEnd_any (s : ByteArray) (k : Nat) (w : World) (hs : s.size ≤ 100000) (hk : k ≤ s.size) :
    Calls Tryz.prog 73 #[.string s, .int .i64 k] w fun e w' => e = .returned (.int .i64 (endE dgB s k)) ∧ w' = w := by
  obtain ⟨r, hr⟩ : ∃ r, endE dgB s k = r := ⟨_, rfl⟩
  rw [hr]
  have HR := hide hr
  clear hr
  go_enter Tryz.func73, Tryz.ntmps73
  go_wp2
  go_loopw [1] (fun tt wr => ∃ j : Nat, j ≤ s.size ∧ tt = .int .i64 j ∧ endE dgB s j = r ∧ wr = w) (fun tt _ => s.size - (intOf tt).toNat)
  case atStart => exact ⟨k, hk, rfl, HR.out, rfl⟩
  case round =>
    obtain ⟨j, hj, rfl, hjr, rfl⟩ := hrel
    have HJ := hide hjr
    clear hjr
    by_cases hlt : j < s.size
    · have hb := bAt_bd s j
      have HC : Hid (∀ (x : Int) (w : World), clsF (bAt s j) = x → Calls Tryz.prog 74 #[.int .u8 (s[j].toNat : Int)] w fun e w' => e = .returned (.int .i64 x) ∧ w' = w) := fun x w hx => by
        rw [bAt_eq s j hlt, ← hx]; exact cls_any _ w hb.1 hb.2
      obtain ⟨x, hx⟩ : ∃ x, clsF (bAt s j) = x := ⟨_, rfl⟩
      by_cases h2 : x = 2
      · subst h2
        have HE := hide (endE_step (p := dgB) hlt (by unfold dgB; simp [hx]))
        have HX := hide hx
        clear hx hb
        go_wp2_with (go_at_call 74; refine (HC.out 2 _ HX.out).mono ?_; rintro e w' ⟨rfl, rfl⟩)
        go_roundw
        case rel => exact ⟨j + 1, by omega, by go_num, by rw [← HE.out]; exact HJ.out, trivial⟩
        case measure => simp [intOf]; omega
      · have HE := hide (endE_stop (p := dgB) (s := s) (k := j) (by unfold dgB; simp [hx, h2]))
        have HX := hide hx
        have h2' : (x == 2) = false := by simpa using h2
        clear hx hb
        go_wp2_with (go_at_call 74; refine (HC.out x _ HX.out).mono ?_; rintro e w' ⟨rfl, rfl⟩)
        go_ret
        exact ⟨ret_int (by rw [← HJ.out, HE.out]), rfl⟩
    · have HE := hide (endE_stop (p := dgB) (s := s) (k := j) (by omega))
      go_wp2
      go_ret
      exact ⟨ret_int (by rw [← HJ.out, HE.out]), rfl⟩
end Go.Proofs.YtkpgfhapffijkaaGreatDoor

/- Package lex: where lines end, where words begin. -/
namespace Go.DsLx
theorem endE_le (p : Int → Bool) (s : ByteArray) : ∀ (f k : Nat), k ≤ s.size → k ≤ runE p s f k ∧ runE p s f k ≤ s.size
  | 0, k, h => ⟨Nat.le_refl _, h⟩
  | f + 1, k, h => by
    rw [runE]
    split
    · rename_i c
      have := endE_le p s f (k + 1) (by omega)
      omega
    · exact ⟨Nat.le_refl _, h⟩
theorem endE_bd (p : Int → Bool) (s : ByteArray) (k : Nat) (h : k ≤ s.size) : k ≤ endE p s k ∧ endE p s k ≤ s.size := endE_le p s _ k h
/-- where a line ends -/
def lnB (n : Int) : Bool := decide (n ≠ 10)
def lineE (s : ByteArray) (k : Nat) : Nat := endE lnB s k
theorem drop_cons (s : ByteArray) (k : Nat) (h : k < s.size) : s.data.toList.drop k = s.data.toList.getD k 0 :: s.data.toList.drop (k + 1) := by
  have hl : k < s.data.toList.length := by simpa using h
  rw [List.drop_eq_getElem_cons hl]
  simp [List.getD, List.getElem?_eq_getElem hl]
theorem idx_line (s : ByteArray) : ∀ (f k : Nat), s.size - k ≤ f → k ≤ s.size →
    (Lib.indexByte (s.data.toList.drop k) 10 = -1 ∧ lineE s k = s.size) ∨ (0 ≤ Lib.indexByte (s.data.toList.drop k) 10 ∧ (k : Int) + Lib.indexByte (s.data.toList.drop k) 10 = lineE s k)
  | 0, k, h, hk => by
    have : s.data.toList.drop k = [] := List.drop_of_length_le (by simp; omega)
    rw [this]
    exact .inl ⟨rfl, by unfold lineE; rw [endE_stop (by omega)]; omega⟩
  | f + 1, k, h, hk => by
    by_cases hlt : k < s.size
    · rw [drop_cons s k hlt, Lib.indexByte]
      have hb : bAt s k = ((s.data.toList.getD k 0).toNat : Int) := rfl
      generalize s.data.toList.getD k 0 = c at *
      by_cases hc : c = 10
      · subst hc
        refine .inr ⟨by simp, ?_⟩
        unfold lineE
        rw [endE_stop (by rw [hb]; simp [lnB])]
        simp
      · have hstep : lineE s k = lineE s (k + 1) := by
          unfold lineE
          refine endE_step hlt ?_
          rw [hb]
          unfold lnB
          have : c.toNat ≠ 10 := fun e => hc (UInt8.toNat_inj.1 (by simpa using e))
          simp; omega
        have hc' : (c == 10) = false := by simpa using hc
        rw [hc', hstep]
        rcases idx_line s f (k + 1) (by omega) (by omega) with ⟨h1, h2⟩ | ⟨h1, h2⟩
        · rw [h1]; exact .inl ⟨by simp, h2⟩
        · have h3 : (Lib.indexByte (s.data.toList.drop (k + 1)) 10 == -1) = false := by
            rw [beq_eq_false_iff_ne]; omega
          rw [h3]
          refine .inr ⟨by simp; omega, ?_⟩
          simp only [Bool.false_eq_true, if_false]
          omega
    · have : s.data.toList.drop k = [] := List.drop_of_length_le (by simp; omega)
      rw [this]
      exact .inl ⟨rfl, by unfold lineE; rw [endE_stop (by omega)]; omega⟩
/-- where the next word begins, f steps at most -/
def wordF (s : ByteArray) : Nat → Nat → Nat
  | 0, k => k
  | f + 1, k => if k < s.size then (if bAt s k = 35 then wordF s f (lineE s k) else if blB (bAt s k) = true then wordF s f (k + 1) else k) else k
def wordE (s : ByteArray) (k : Nat) : Nat := wordF s (s.size - k) k
theorem lineE_hash {s : ByteArray} {k : Nat} (h : k < s.size) (hb : bAt s k = 35) : k < lineE s k ∧ lineE s k ≤ s.size := by
  have e : lineE s k = lineE s (k + 1) := endE_step h (by rw [hb]; decide)
  have := endE_bd lnB s (k + 1) (by omega)
  rw [e]; unfold lineE; omega
theorem wordF_eq (s : ByteArray) : ∀ (f g k : Nat), s.size - k ≤ f → s.size - k ≤ g → wordF s f k = wordF s g k
  | 0, 0, k, _, _ => rfl
  | 0, g + 1, k, h, _ => by rw [wordF, wordF, if_neg (by omega)]
  | f + 1, 0, k, _, h => by rw [wordF, wordF, if_neg (by omega)]
  | f + 1, g + 1, k, h1, h2 => by
    rw [wordF, wordF]
    by_cases c : k < s.size
    · rw [if_pos c, if_pos c]
      by_cases d : bAt s k = 35
      · have := lineE_hash c d
        rw [if_pos d, if_pos d, wordF_eq s f g _ (by omega) (by omega)]
      · rw [if_neg d, if_neg d, wordF_eq s f g (k + 1) (by omega) (by omega)]
    · rw [if_neg c, if_neg c]
theorem wordE_hash {s : ByteArray} {k : Nat} (h : k < s.size) (hb : bAt s k = 35) : wordE s k = wordE s (lineE s k) := by
  have := lineE_hash h hb
  unfold wordE
  rw [show s.size - k = (s.size - k - 1) + 1 by omega, wordF, if_pos h, if_pos hb]
  exact wordF_eq s _ _ _ (by omega) (Nat.le_refl _)
theorem wordE_blank {s : ByteArray} {k : Nat} (h : k < s.size) (hb : ¬ bAt s k = 35) (hl : blB (bAt s k) = true) : wordE s k = wordE s (k + 1) := by
  unfold wordE
  rw [show s.size - k = (s.size - (k + 1)) + 1 by omega, wordF, if_pos h, if_neg hb, if_pos hl]
theorem wordE_stop {s : ByteArray} {k : Nat} (h : ¬ k < s.size ∨ (¬ bAt s k = 35 ∧ blB (bAt s k) = false)) : wordE s k = k := by
  unfold wordE
  cases hf : s.size - k with
  | zero => rfl
  | succ f =>
    rw [wordF]
    rcases h with h | ⟨h1, h2⟩
    · rw [if_neg h]
    · by_cases c : k < s.size
      · rw [if_pos c, if_neg h1, if_neg (by rw [h2]; decide)]
      · rw [if_neg c]
theorem extract_drop (s : ByteArray) (k : Nat) : (s.extract k s.size).data.toList = s.data.toList.drop k := by
  have : (s.data.toList.drop k).length ≤ s.size - k := by simp
  simp only [ByteArray.data_extract, Array.toList_extract, List.extract_eq_take_drop]
  exact List.take_of_length_le this
end Go.DsLx
namespace Go.Proofs.YtkpgfhapffijkaaGreatDoor
open Go.ChangeShapes Go.WideShapes Go.ChangeAt Go.RowKit Go.DsMem Go.DsLx
set_option linter.unusedVariables false
set_option maxHeartbeats 1000000 in
/-- lex.lineEnd -/
theorem lineEnd_any (s : ByteArray) (k : Nat) (w : World) (hs : s.size ≤ 100000) (hk : k ≤ s.size) :
    Calls Tryz.prog 68 #[.string s, .int .i64 k] w fun e w' => e = .returned (.int .i64 (DsLx.lineE s k)) ∧ w' = w := by
  have hi := idx_line s (s.size - k) k (Nat.le_refl _) hk
  have hbd := endE_bd lnB s k hk
  obtain ⟨x, hx⟩ : ∃ x, Lib.indexByte (s.data.toList.drop k) 10 = x := ⟨_, rfl⟩
  rw [hx] at hi
  have HC : Hid (∀ w : World, Calls Tryz.prog 69 #[.string (s.extract k s.size), .int .u8 10] w fun e w' => e = .returned (.int .i64 x) ∧ w' = w) := fun w => by
    have := ib_any (s.extract k s.size) 10 w
    rw [extract_drop] at this
    rw [← hx]; exact this
  clear hx
  rcases hi with ⟨rfl, he⟩ | ⟨h0, he⟩
  · have HE := hide he
    clear he
    go_enter Tryz.func68, Tryz.ntmps68
    go_wp2_with (go_at_call 69; refine (HC.out _).mono ?_; rintro e w' ⟨rfl, rfl⟩)
    go_ret
    exact ⟨ret_int (by rw [HE.out]), rfl⟩
  · have hx2 : x ≤ 100000 := by unfold DsLx.lineE at he; omega
    have HE := hide he
    clear he
    go_enter Tryz.func68, Tryz.ntmps68
    go_wp2_with (go_at_call 69; refine (HC.out _).mono ?_; rintro e w' ⟨rfl, rfl⟩)
    go_ret
    exact ⟨ret_int HE.out, rfl⟩
end Go.Proofs.YtkpgfhapffijkaaGreatDoor

/- Package lex: the walks of wordAt, shapeOf. -/
namespace Go.Proofs.YtkpgfhapffijkaaGreatDoor
open Go.ChangeShapes Go.WideShapes Go.ChangeAt Go.RowKit Go.DsMem Go.DsLx
set_option linter.unusedVariables false
set_option maxHeartbeats 2000000 in
/-- lex.wordAt -/
theorem wordAt_any (s : ByteArray) (k : Nat) (w : World) (hs : s.size ≤ 100000) (hk : k ≤ s.size) :
    Calls Tryz.prog 46 #[.string s, .int .i64 k] w fun e w' => e = .returned (.int .i64 (wordE s k)) ∧ w' = w := by
  obtain ⟨r, hr⟩ : ∃ r, wordE s k = r := ⟨_, rfl⟩
  rw [hr]
  have HR := hide hr
  clear hr
  go_enter Tryz.func46, Tryz.ntmps46
  go_wp2
  go_loopw [1] (fun tt wr => ∃ j : Nat, j ≤ s.size ∧ tt = .int .i64 j ∧ wordE s j = r ∧ wr = w) (fun tt _ => s.size - (intOf tt).toNat)
  case atStart => exact ⟨k, hk, rfl, HR.out, rfl⟩
  case round =>
    obtain ⟨j, hj, rfl, hjr, rfl⟩ := hrel
    have HJ := hide hjr
    clear hjr
    by_cases hlt : j < s.size
    · have hbe := bAt_eq s j hlt
      by_cases h35 : bAt s j = 35
      · have hl := lineE_hash hlt h35
        have HE := hide (wordE_hash hlt h35)
        have HL : Hid (∀ w : World, Calls Tryz.prog 68 #[.string s, .int .i64 j] w fun e w' => e = .returned (.int .i64 (DsLx.lineE s j)) ∧ w' = w) := fun w => lineEnd_any s j w hs hj
        have hc35 : (s[j].toNat : Int) = 35 := hbe.trans h35
        generalize DsLx.lineE s j = q at *
        clear hbe h35
        go_wp2_with (go_at_call 68; refine (HL.out _).mono ?_; rintro e w' ⟨rfl, rfl⟩)
        go_roundw
        case rel => exact ⟨q, by omega, rfl, by rw [← HE.out]; exact HJ.out, trivial⟩
        case measure => simp [intOf]; omega
      · have hc35 : ¬ (s[j].toNat : Int) = 35 := by rw [hbe]; exact h35
        obtain ⟨x, hx⟩ : ∃ x, Lib.indexByte blankL (bAt s j).toNat.toUInt8 = x := ⟨_, rfl⟩
        have HC : Hid (∀ w : World, Calls Tryz.prog 69 #[.string ⟨#[32, 9, 10, 13]⟩, .int .u8 (s[j].toNat : Int)] w fun e w' => e = .returned (.int .i64 x) ∧ w' = w) := fun w => ib_blank _ x (by rw [hbe]; exact hx) w
        by_cases h0 : 0 ≤ x
        · have HE := hide (wordE_blank hlt h35 (by unfold blB; rw [hx]; simpa using h0))
          clear hbe hx h35
          go_wp2_with (go_at_call 69; refine (HC.out _).mono ?_; rintro e w' ⟨rfl, rfl⟩)
          go_roundw
          case rel => exact ⟨j + 1, by omega, by go_num, by rw [← HE.out]; exact HJ.out, trivial⟩
          case measure => simp [intOf]; omega
        · have HE := hide (wordE_stop (s := s) (k := j) (.inr ⟨h35, by unfold blB; rw [hx]; simpa using h0⟩))
          have h0' : x < 0 := by omega
          clear hbe hx h35 h0
          go_wp2_with (go_at_call 69; refine (HC.out _).mono ?_; rintro e w' ⟨rfl, rfl⟩)
          go_ret
          exact ⟨ret_int (by rw [← HJ.out, HE.out]), rfl⟩
    · have HE := hide (wordE_stop (s := s) (k := j) (.inl hlt))
      go_wp2
      go_ret
      exact ⟨ret_int (by rw [← HJ.out, HE.out]), rfl⟩
/-- whether just two digits stand ahead of a colon -/
def colB (s : ByteArray) (k : Nat) : Bool := decide (endE DsLx.dgB s k = k + 2 ∧ k + 2 < s.size ∧ bAt s (k + 2) = 58)
def shpV (f : Int) (b : Bool) : Value := .agg #[.int .i64 f, .bool b]
set_option maxHeartbeats 2000000 in
/-- lex.shapeOf -/
theorem shapeOf_any (s : ByteArray) (k : Nat) (w : World) (hs : s.size ≤ 100000) (hk : k < s.size) :
    Calls Tryz.prog 48 #[.string s, .int .i64 k] w fun e w' => e = .returned (shpV (clsF (bAt s k)) (colB s k)) ∧ Below w.heap.size w w' := by
  have hbd := endE_bd DsLx.dgB s k (by omega)
  obtain ⟨e0, he0⟩ : ∃ e0, endE DsLx.dgB s k = e0 := ⟨_, rfl⟩
  have HD : Hid (∀ w : World, Calls Tryz.prog 73 #[.string s, .int .i64 k] w fun e w' => e = .returned (.int .i64 e0) ∧ w' = w) := fun w => by rw [← he0]; exact digitsEnd_any s k w hs (by omega)
  have hb := bAt_bd s k
  have HC : Hid (∀ w : World, Calls Tryz.prog 74 #[.int .u8 (s[k].toNat : Int)] w fun e w' => e = .returned (.int .i64 (clsF (bAt s k))) ∧ w' = w) := fun w => by
    rw [bAt_eq s k hk]; exact cls_any _ w hb.1 hb.2
  have HCB : Hid (colB s k = decide (e0 = k + 2 ∧ k + 2 < s.size ∧ bAt s (k + 2) = 58)) := by refine hide ?_; unfold colB; rw [he0]
  rw [he0] at hbd
  generalize clsF (bAt s k) = c at *
  clear he0 hb
  unfold shpV
  have key : ∀ b, colB s k = b → Calls Tryz.prog 48 #[.string s, .int .i64 k] w fun e w' => e = .returned (.agg #[.int .i64 c, .bool b]) ∧ Below w.heap.size w w' := fun b hb' => by
    by_cases h2 : e0 = k + 2
    · subst h2
      by_cases hl : k + 2 < s.size
      · have hbe := bAt_eq s (k + 2) hl
        by_cases h58 : bAt s (k + 2) = 58
        · have hbt : b = true := by rw [← hb', HCB.out]; simp [hl, h58]
          have hc58 : (s[k + 2].toNat : Int) = 58 := hbe.trans h58
          subst hbt
          clear hb' hbe h58
          go_enter Tryz.func48, Tryz.ntmps48
          go_wp2_with (first | (go_at_call 73; refine (HD.out _).mono ?_; rintro e w' ⟨rfl, rfl⟩) | (go_at_call 74; refine (HC.out _).mono ?_; rintro e w' ⟨rfl, rfl⟩))
          refine bodyPost_ret (v := .agg #[.int .i64 c, .bool true]) (by simp [results, Tryz.results48, go_sem]) rfl ⟨rfl, (Below.refl _ _).alloc (Nat.le_refl _) _⟩
        · have hbt : b = false := by rw [← hb', HCB.out]; simp [h58]
          have hc58 : ((s[k + 2].toNat : Int) == 58) = false := by rw [hbe]; simpa using h58
          subst hbt
          clear hb' hbe h58
          go_enter Tryz.func48, Tryz.ntmps48
          go_wp2_with (first | (go_at_call 73; refine (HD.out _).mono ?_; rintro e w' ⟨rfl, rfl⟩) | (go_at_call 74; refine (HC.out _).mono ?_; rintro e w' ⟨rfl, rfl⟩))
          refine bodyPost_ret (v := .agg #[.int .i64 c, .bool false]) (by simp [results, Tryz.results48, go_sem]) rfl ⟨rfl, (Below.refl _ _).alloc (Nat.le_refl _) _⟩
      · have hbt : b = false := by rw [← hb', HCB.out]; simp [hl]
        subst hbt
        clear hb'
        go_enter Tryz.func48, Tryz.ntmps48
        go_wp2_with (first | (go_at_call 73; refine (HD.out _).mono ?_; rintro e w' ⟨rfl, rfl⟩) | (go_at_call 74; refine (HC.out _).mono ?_; rintro e w' ⟨rfl, rfl⟩))
        refine bodyPost_ret (v := .agg #[.int .i64 c, .bool false]) (by simp [results, Tryz.results48, go_sem]) rfl ⟨rfl, (Below.refl _ _).alloc (Nat.le_refl _) _⟩
    · have hbt : b = false := by rw [← hb', HCB.out]; simp [h2]
      have hne : ((e0 : Int) - k == 2) = false := by simp; omega
      have hle : k ≤ e0 := hbd.1
      subst hbt
      clear hb'
      go_enter Tryz.func48, Tryz.ntmps48
      go_wp2_with (first | (go_at_call 73; refine (HD.out _).mono ?_; rintro e w' ⟨rfl, rfl⟩) | (go_at_call 74; refine (HC.out _).mono ?_; rintro e w' ⟨rfl, rfl⟩))
      refine bodyPost_ret (v := .agg #[.int .i64 c, .bool false]) (by simp [results, Tryz.results48, go_sem]) rfl ⟨rfl, (Below.refl _ _).alloc (Nat.le_refl _) _⟩
  exact key _ rfl
end Go.Proofs.YtkpgfhapffijkaaGreatDoor
