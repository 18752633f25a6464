/- Packages week, lex: twoDigits, Read; Fold. -/
import Derived.Test.YtkpgfhapffijkaaGreatDoorR05
import Derived.Test.YtkpgfhapffijkaaGreatDoorR06
import Derived.Laws.IdiomStrings
namespace Go.Proofs.YtkpgfhapffijkaaGreatDoor
open Go.ChangeShapes Go.WideShapes Go.ChangeAt Go.RowKit Go.DsMem Go.DsLx
set_option linter.unusedVariables false
theorem val_int {k : IntKind} {a b : Int} (h : a = b) : Value.int k a = .int k b := by rw [h]
theorem pair_of {a b : Int} {p : Int × Int} {w w' : World} (h : p = (a, b)) (hw : w' = w) : Ending.returned (.tuple #[.int .i64 a, .int .i64 b]) = .returned (.tuple #[.int .i64 p.1, .int .i64 p.2]) ∧ w' = w := by
  rw [h]; exact ⟨rfl, hw⟩
theorem pairB_of {a : Int} {b : Bool} {p : Int × Bool} {w w' : World} (h : p = (a, b)) (hw : w' = w) : Ending.returned (.tuple #[.int .i64 a, .bool b]) = .returned (.tuple #[.int .i64 p.1, .bool p.2]) ∧ w' = w := by
  rw [h]; exact ⟨rfl, hw⟩
set_option maxHeartbeats 1000000 in
theorem twoDigits_any (s : ByteArray) (w : World) (hs : s.size ≤ 2) :
    Calls Tryz.prog 131 #[.string s] w fun e w' => e = .returned (.tuple #[.int .i64 (DsCal.tdres s).1, .bool (DsCal.tdres s).2]) ∧ w' = w := by
  go_enter Tryz.func131, Tryz.ntmps131
  go_wp2
  go_loop [4, 8] (fun t i => ∃ k : Nat, k ≤ s.size ∧ i = .int .i64 k ∧ DsCal.alld (s.data.toList.take k) = true ∧ t = .int .i64 (DsCal.dval (s.data.toList.take k))) (fun _ i => s.size - (intOf i).toNat)
  case atStart => exact ⟨0, by omega, rfl, rfl, rfl⟩
  case round =>
    obtain ⟨k, hk, rfl, ha, rfl⟩ := hrel
    have HA := hide ha
    clear ha
    obtain ⟨b0, b1⟩ := DsCal.dval_take_bd s k 2 (by omega) HA.out
    have b2 : DsCal.dval (s.data.toList.take k) < 100 := b1
    clear b1
    by_cases hlt : k < s.size
    · have st := DsCal.dval_step s k hlt
      have ST := hide st
      clear st
      go_wp2
      · go_ret2
        exact pairB_of (DsCal.tdres_stop s (DsCal.alld_stop s k hlt (by assumption))) rfl
      · go_round
        case rel => exact ⟨k + 1, by omega, by go_num, DsCal.alld_step s k hlt HA.out (by omega) (by omega), val_int ST.out.symm⟩
        case measure => simp [intOf]; omega
      · go_ret2
        exact pairB_of (DsCal.tdres_stop s (DsCal.alld_stop s k hlt (.inl (by assumption)))) rfl
    · have E := hide (DsCal.take_all s k (by omega))
      have R := hide (DsCal.tdres_end s (by rw [← E.out]; exact HA.out))
      go_wp2
      go_ret2
      exact pairB_of (R.out.trans (congrArg (fun l => (DsCal.dval l, true)) E.out.symm)) rfl
theorem ex_sizes (s : ByteArray) (h : s.size = 5) : (s.extract 0 2).size = 2 ∧ (s.extract 3 s.size).size = 2 := by
  simp [ByteArray.size_extract, h]
theorem wRead_size (s : ByteArray) (w : World) (h : s.size ≠ 5) :
    Calls Tryz.prog 94 #[.string s] w fun e w' => e = .returned (.tuple #[.int .i64 (DsCal.tmres s).1, .int .i64 (DsCal.tmres s).2]) ∧ w' = w := by
  have R := hide (DsCal.tmres_size s h)
  have h5 : ((s.size : Int) != 5) = true := by simp; omega
  clear h
  go_enter Tryz.func94, Tryz.ntmps94
  go_wp2
  go_ret2
  exact pair_of R.out rfl
set_option maxHeartbeats 2000000 in
theorem wRead_five (s : ByteArray) (w : World) (h : s.size = 5) :
    Calls Tryz.prog 94 #[.string s] w fun e w' => e = .returned (.tuple #[.int .i64 (DsCal.tmres s).1, .int .i64 (DsCal.tmres s).2]) ∧ w' = w := by
  have h5 : ((s.size : Int) != 5) = false := by simp [h]
  have h4 : 4 < s.size := by omega
  have h6 : s.size < 6 := by omega
  have H := hide h
  have HZ := hide (ex_sizes s h)
  clear h
  go_enter Tryz.func94, Tryz.ntmps94
  go_wp2_with fail
  · go_ret2
    exact pair_of (DsCal.tmres_sign s (by omega) (by simpa using ‹((s[2].toNat : Int) != 58) = true›)) rfl
  · have hc : (s[2].toNat : Int) = 58 := by simpa using ‹((s[2].toNat : Int) != 58) = false›
    have R := hide (DsCal.tmres_parts s H.out (by omega) hc)
    clear hc
    refine (twoDigits_any _ _ (by have := HZ.out.1; omega)).mono ?_
    have BA := hide (DsCal.tdres_bd (s.extract 0 2) (by have := HZ.out.1; omega))
    generalize hp : DsCal.tdres (s.extract 0 2) = p at R BA ⊢
    clear hp
    obtain ⟨a1, a2⟩ := p
    rintro e w' ⟨rfl, rfl⟩
    go_wp2_with fail
    refine (twoDigits_any _ _ (by have := HZ.out.2; omega)).mono ?_
    have BB := hide (DsCal.tdres_bd (s.extract 3 s.size) (by have := HZ.out.2; omega))
    generalize hp : DsCal.tdres (s.extract 3 s.size) = p at R BB ⊢
    clear hp
    obtain ⟨b1, b2⟩ := p
    rintro e w' ⟨rfl, rfl⟩
    obtain ⟨x1, x2⟩ := BA.out
    obtain ⟨y1, y2⟩ := BB.out
    simp only [] at x1 x2 y1 y2
    clear BA BB
    cases a2
    · go_wp2
      go_ret2
      exact pair_of (R.out.trans (DsCal.tmOf_no1 _ _)) rfl
    · cases b2
      · go_wp2
        go_ret2
        exact pair_of (R.out.trans (DsCal.tmOf_no2 _ _)) rfl
      · by_cases c1 : 23 < a1
        · go_wp2
          go_ret2
          exact pair_of (R.out.trans (DsCal.tmOf_range (.inl c1))) rfl
        · by_cases c2 : 59 < b1
          · go_wp2
            go_ret2
            exact pair_of (R.out.trans (DsCal.tmOf_range (.inr c2))) rfl
          · go_wp2
            go_ret2
            exact pair_of (R.out.trans (DsCal.tmOf_yes (by omega) (by omega))) rfl
theorem wRead_any (s : ByteArray) (w : World) :
    Calls Tryz.prog 94 #[.string s] w fun e w' => e = .returned (.tuple #[.int .i64 (DsCal.tmres s).1, .int .i64 (DsCal.tmres s).2]) ∧ w' = w := by
  by_cases h : s.size = 5
  · exact wRead_five s w h
  · exact wRead_size s w h
end Go.Proofs.YtkpgfhapffijkaaGreatDoor

/- Package lex: the walk of Fold. -/
namespace Go.DsLx
def foldB (c : UInt8) : UInt8 := if 65 ≤ c ∧ c ≤ 90 then c + 32 else c
def foldN (n : Int) : Int := if 65 ≤ n ∧ n ≤ 90 then n + 32 else n
theorem foldB_N (c : UInt8) : ((foldB c).toNat : Int) = foldN (c.toNat : Int) := by
  unfold foldB foldN
  have hl := c.toNat_lt
  by_cases h : 65 ≤ c ∧ c ≤ 90
  · have h' : 65 ≤ (c.toNat : Int) ∧ (c.toNat : Int) ≤ 90 := by
      have := UInt8.le_iff_toNat_le.1 h.1
      have := UInt8.le_iff_toNat_le.1 h.2
      simp at *
      omega
    rw [if_pos h, if_pos h', UInt8.toNat_add]
    simp
    omega
  · have h' : ¬ (65 ≤ (c.toNat : Int) ∧ (c.toNat : Int) ≤ 90) := fun k => h ⟨UInt8.le_iff_toNat_le.2 (by simp; omega), UInt8.le_iff_toNat_le.2 (by simp; omega)⟩
    rw [if_neg h, if_neg h']
/-- great letters made small -/
def foldL (l : List UInt8) : List UInt8 := l.map foldB
def foldS (s : ByteArray) : ByteArray := ⟨(foldL s.data.toList).toArray⟩
theorem foldS_size (s : ByteArray) : (foldS s).size = s.size := by
  show (foldL s.data.toList).toArray.size = s.data.size
  simp [foldL]
def fo (s : ByteArray) (i j : Nat) : Int := if j < i then foldN (bAt s j) else bAt s j
end Go.DsLx
namespace Go.Proofs.YtkpgfhapffijkaaGreatDoor
open Go.ChangeShapes Go.WideShapes Go.ChangeAt Go.RowKit Go.DsMem Go.DsLx
set_option linter.unusedVariables false
/-- what Fold holds: the row in block p, its first i bytes folded -/
structure FoSt (w wr : World) (p : Nat) (s : ByteArray) (i : Nat) : Prop where
  row : ∃ (cur : Array Value) (fr : Nat × Nat), wr.heap[p]? = some (.cells cur 5 fr) ∧ cur.size ≤ fr.1 ∧ ∀ j, j < s.size → cur[j]? = some (.int .u8 (fo s i j))
  below : Below w.heap.size w wr
theorem FoSt.cell {w wr : World} {p : Nat} {s : ByteArray} {i : Nat} (h : FoSt w wr p s i) (j : Nat) (hj : j < s.size) : wr.cell? ⟨p, j, none⟩ = some (.int .u8 (fo s i j)) ∧ wr.frozen? ⟨p, j, none⟩ = false := by
  obtain ⟨cur, fr, h1, h2, h3⟩ := h.row
  have hlt := (Array.getElem?_eq_some_iff.1 (h3 j hj)).1
  refine ⟨by simp [World.cell?, h1, h3 j hj], ?_⟩
  simp [World.frozen?, h1]
  omega
theorem bAt_get (s : ByteArray) (j : Nat) (hj : j < s.size) : s.data[j]?.map (fun b => Value.int .u8 (b.toNat : Int)) = some (.int .u8 (bAt s j)) := by
  have hl : j < s.data.size := hj
  have hl2 : j < s.data.toList.length := by simpa using hl
  unfold bAt
  rw [Array.getElem?_eq_getElem hl]
  simp [List.getD, List.getElem?_eq_getElem hl2]
theorem FoSt.start (w : World) (s : ByteArray) (cap : Nat) : FoSt w (w.drew.alloc (.cells (bytesRow s cap) 5 ((bytesRow s cap).size, (bytesRow s cap).size + 1))) w.heap.size s 0 := by
  refine ⟨⟨_, _, heap_alloc_new w.drew _, Nat.le_refl _, fun j hj => ?_⟩, (Below.refl _ _).drew.alloc (Nat.le_refl _) _⟩
  have hl : j < s.data.size := hj
  unfold bytesRow fo
  rw [if_neg (by omega), Array.getElem?_append_left (by simpa using hl), Array.getElem?_map]
  exact bAt_get s j hj
theorem FoSt.step {w wr : World} {p : Nat} {s : ByteArray} {i : Nat} (h : FoSt w wr p s i) (hi : i < s.size) (hp : w.heap.size ≤ p) : FoSt w (wr.setCell ⟨p, i, none⟩ (.int .u8 (foldN (bAt s i)))) p s (i + 1) := by
  obtain ⟨cur, fr, h1, h2, h3⟩ := h.row
  have hlt := (Array.getElem?_eq_some_iff.1 (h3 i hi)).1
  refine ⟨⟨cur.setIfInBounds i (.int .u8 (foldN (bAt s i))), fr, by simp [World.setCell, Array.getElem?_modify, h1], by simpa using h2, fun j hj => ?_⟩, h.below.setCell hp _⟩
  rw [Array.getElem?_setIfInBounds]
  by_cases e : i = j
  · subst e
    rw [if_pos rfl, if_pos hlt]
    unfold fo
    rw [if_pos (by omega)]
  · rw [if_neg e, h3 j hj]
    unfold fo
    by_cases c : j < i
    · rw [if_pos c, if_pos (by omega)]
    · rw [if_neg c, if_neg (by omega)]
theorem FoSt.skip {w wr : World} {p : Nat} {s : ByteArray} {i : Nat} (h : FoSt w wr p s i) (hn : ¬ (65 ≤ bAt s i ∧ bAt s i ≤ 90)) : FoSt w wr p s (i + 1) := by
  obtain ⟨cur, fr, h1, h2, h3⟩ := h.row
  refine ⟨⟨cur, fr, h1, h2, fun j hj => ?_⟩, h.below⟩
  rw [h3 j hj]
  unfold fo
  by_cases c : j < i
  · rw [if_pos c, if_pos (by omega)]
  · by_cases e : j = i
    · subst e
      rw [if_neg c, if_pos (by omega)]
      unfold foldN
      rw [if_neg hn]
    · rw [if_neg c, if_neg (by omega)]
theorem FoSt.text {w wr : World} {p : Nat} {s : ByteArray} (h : FoSt w wr p s s.size) (cap : Nat) :
    (convert 151 9 (.slice (some ⟨p, 0, none⟩) s.size cap)).run Tryz.prog wr = .ok (.string (foldS s)) wr := by
  have hl : (foldL s.data.toList).length = s.size := by simp [foldL]
  have := run_convert_bytes_back (P := Tryz.prog) wr 151 9 5 ⟨p, 0, none⟩ cap (foldL s.data.toList) Tryz.underlying151 Tryz.underlying5 Tryz.underlying9 (fun j hj => by
    rw [hl] at hj
    have hl2 : j < s.data.toList.length := by simpa using hj
    rw [add_mk, Nat.zero_add, (h.cell j hj).1]
    unfold fo
    rw [if_pos hj]
    simp only [foldL, List.getElem_map]
    rw [foldB_N]
    unfold bAt
    simp [List.getD, List.getElem?_eq_getElem hl2])
  rw [hl] at this
  exact this
set_option maxHeartbeats 2000000 in
set_option maxRecDepth 20000 in
/-- lex.Fold -/
theorem fold_any (s : ByteArray) (w : World) (hs : s.size ≤ 140737488355328) : Calls Tryz.prog 93 #[.string s] w fun e w' => e = .returned (.string (foldS s)) ∧ Below w.heap.size w w' := by
  obtain ⟨T, hT⟩ : ∃ T, T = foldS s := ⟨_, rfl⟩
  rw [← hT]
  have HT := hide hT
  clear hT
  have hconv := run_bytes_of_string (P := Tryz.prog) w 9 151 5 s Tryz.underlying9 Tryz.underlying151 Tryz.underlying5
  have HS := hide (FoSt.start w s (grownCap w s.size 0 5))
  generalize grownCap w s.size 0 5 = cap at *
  generalize w.drew.alloc (.cells (bytesRow s cap) 5 ((bytesRow s cap).size, (bytesRow s cap).size + 1)) = w1 at *
  obtain ⟨p, hp⟩ : ∃ p, p = w.heap.size := ⟨_, rfl⟩
  rw [← hp] at hconv HS ⊢
  have HP := hide hp
  clear hp
  go_enter Tryz.func93, Tryz.ntmps93
  go_wp2
  go_loopw [10] (fun tt wr => ∃ i : Nat, i ≤ s.size ∧ tt = .int .i64 i ∧ FoSt w wr p s i) (fun tt _ => s.size - (intOf tt).toNat)
  case atStart => exact ⟨0, Nat.zero_le _, rfl, HS.out⟩
  case round =>
    obtain ⟨i, hi, rfl, hst⟩ := hrel
    have HST := hide hst
    by_cases hlt : i < s.size
    · obtain ⟨c1, c2⟩ := hst.cell i hlt
      have hb := bAt_bd s i
      have e : fo s i i = bAt s i := by unfold fo; rw [if_neg (by omega)]
      rw [e] at c1
      have HSP := hide (hst.step hlt (by rw [HP.out]; exact Nat.le_refl _))
      have HSK := hide (hst.skip (w := w) (wr := wr) (p := p) (s := s) (i := i))
      have HFN : Hid (65 ≤ bAt s i → bAt s i ≤ 90 → foldN (bAt s i) = bAt s i + 32) := fun a b => by unfold foldN; rw [if_pos ⟨a, b⟩]
      clear hst e
      generalize bAt s i = n at *
      by_cases hn : 65 ≤ n ∧ n ≤ 90
      · obtain ⟨n1, n2⟩ := hn
        have HF2 := hide (HFN.out n1 n2)
        rw [HF2.out, show n + 32 = n - 65 + 97 by omega] at HSP
        clear HFN HSK
        go_wp2
        go_roundw
        case rel => exact ⟨i + 1, by omega, by go_num, HSP.out⟩
        case measure => simp [intOf]; omega
      · have HK := hide (HSK.out hn)
        have hn' : n < 65 ∨ (65 ≤ n ∧ 90 < n) := by omega
        clear HSP HSK HFN hn
        rcases hn' with a | ⟨a, b⟩
        · go_wp2
          go_roundw
          case rel => exact ⟨i + 1, by omega, by go_num, HK.out⟩
          case measure => simp [intOf]; omega
        · go_wp2
          go_roundw
          case rel => exact ⟨i + 1, by omega, by go_num, HK.out⟩
          case measure => simp [intOf]; omega
    · obtain rfl : i = s.size := by omega
      have htx := hst.text cap
      rw [← HT.out] at htx
      clear hst
      go_wp2
      go_ret
      exact ⟨rfl, by rw [HP.out]; exact HST.out.below⟩
end Go.Proofs.YtkpgfhapffijkaaGreatDoor

/- Package lex: the walks of readName, readTime, readNumber. -/
namespace Go.DsLx
/-- a word -/
structure Tk where
  kind : Int
  text : ByteArray
  n : Int
  at_ : Nat
def tk0 : Tk := ⟨0, ⟨#[]⟩, 0, 0⟩
def nameF (s : ByteArray) (k : Nat) : Tk × Bool := if 20 < endE inB s k - k then (tk0, false) else (⟨1, foldS (s.extract k (endE inB s k)), 0, k⟩, true)
def numV (s : ByteArray) (k : Nat) : Nat → Int
  | 0 => 0
  | i + 1 => numV s k i * 10 + (bAt s (k + i) - 48)
def numF (s : ByteArray) (k : Nat) : Tk × Bool :=
  if 9 < endE dgB s k - k ∨ (endE dgB s k < s.size ∧ inB (bAt s (endE dgB s k)) = true) then (tk0, false) else (⟨2, s.extract k (endE dgB s k), numV s k (endE dgB s k - k), k⟩, true)
def timeF (s : ByteArray) (k : Nat) : Tk × Bool :=
  if ¬ (DsCal.tmres (s.extract k (min (k + 5) s.size))).2 = 0 ∨ (min (k + 5) s.size < s.size ∧ inB (bAt s (min (k + 5) s.size)) = true) then (tk0, false) else (⟨3, s.extract k (min (k + 5) s.size), (DsCal.tmres (s.extract k (min (k + 5) s.size))).1, k⟩, true)
theorem runE_all {p : Int → Bool} {s : ByteArray} : ∀ (f k j : Nat), k ≤ j → j < runE p s f k → p (bAt s j) = true
  | 0, k, j, h1, h2 => by simp [runE] at h2; omega
  | f + 1, k, j, h1, h2 => by
    rw [runE] at h2
    split at h2
    · rename_i c
      by_cases e : j = k
      · subst e; exact c.2
      · exact runE_all f (k + 1) j (by omega) h2
    · omega
theorem numV_bd {s : ByteArray} {k : Nat} : ∀ i, i ≤ 9 → (∀ j, j < i → dgB (bAt s (k + j)) = true) → 0 ≤ numV s k i ∧ numV s k i < (10 ^ i : Nat)
  | 0, _, _ => by simp [numV]
  | i + 1, hi, h => by
    have := numV_bd (s := s) (k := k) i (by omega) (fun j hj => h j (by omega))
    have hd := h i (by omega)
    have h2 : 48 ≤ bAt s (k + i) ∧ bAt s (k + i) ≤ 57 := by
      unfold dgB clsF at hd
      simp only [decide_eq_true_eq] at hd
      split at hd
      · omega
      · split at hd
        · assumption
        · split at hd
          · omega
          · split at hd <;> omega
    unfold numV
    rw [Nat.pow_succ]
    omega
end Go.DsLx
namespace Go.Proofs.YtkpgfhapffijkaaGreatDoor
open Go.ChangeShapes Go.WideShapes Go.ChangeAt Go.RowKit Go.DsMem Go.DsLx
set_option linter.unusedVariables false
/-- what read's parts answer -/
def tkE (r : Tk × Bool) : Ending := .returned (.tuple #[.agg #[.int .i64 r.1.kind, .string r.1.text, .int .i64 r.1.n, .int .i64 r.1.at_], .bool r.2])
/-- the answer's cell, still empty -/
def Res0 (w : World) (p : Nat) : Prop := w.heap[p]? = some (.cells #[.int .i64 0, .string ⟨#[]⟩, .int .i64 0, .int .i64 0] 127 (0, 0))
theorem Res0.all {w : World} {p : Nat} (h : Res0 w p) : (w.cell? ⟨p, 0, none⟩ = some (.int .i64 0) ∧ w.cell? ⟨p, 1, none⟩ = some (.string ⟨#[]⟩) ∧ w.cell? ⟨p, 2, none⟩ = some (.int .i64 0) ∧ w.cell? ⟨p, 3, none⟩ = some (.int .i64 0)) ∧ w.frozen? ⟨p, 0, none⟩ = false ∧ w.frozen? ⟨p, 1, none⟩ = false ∧ w.frozen? ⟨p, 2, none⟩ = false ∧ w.frozen? ⟨p, 3, none⟩ = false :=
  ⟨⟨by rw [cell_of h]; rfl, by rw [cell_of h]; rfl, by rw [cell_of h]; rfl, by rw [cell_of h]; rfl⟩, frozen_of h, frozen_of h, frozen_of h, frozen_of h⟩
theorem Res0.below {w w' : World} {p : Nat} (h : Res0 w p) (hb : Below w.heap.size w w') : Res0 w' p := by unfold Res0; rw [hb.block p (block_lt h)]; exact h
theorem below_set4 {w w' : World} {p : Nat} (hb : Below w.heap.size w w') (hp : w.heap.size ≤ p) (a b c d : Value) : Below w.heap.size w ((((w'.setCell ⟨p, 0, none⟩ a).setCell ⟨p, 1, none⟩ b).setCell ⟨p, 2, none⟩ c).setCell ⟨p, 3, none⟩ d) :=
  (((hb.setCell hp _).setCell hp _).setCell hp _).setCell hp _
set_option maxHeartbeats 2000000 in
/-- lex.readName -/
theorem readName_any (s : ByteArray) (k : Nat) (w : World) (hs : s.size ≤ 100000) (hk : k ≤ s.size) : Calls Tryz.prog 70 #[.string s, .int .i64 k] w fun e w' => e = tkE (nameF s k) ∧ Below w.heap.size w w' := by
  obtain ⟨r, hr⟩ : ∃ r, endE DsLx.inB s k = r := ⟨_, rfl⟩
  have hbd := endE_bd DsLx.inB s k hk
  have HN : Hid (nameF s k = if 20 < r - k then (tk0, false) else (⟨1, foldS (s.extract k r), 0, k⟩, true)) := by refine hide ?_; unfold nameF; rw [hr]
  rw [hr] at hbd
  have HR := hide hr
  clear hr
  obtain ⟨Z, hZ⟩ : ∃ Z, nameF s k = Z := ⟨_, rfl⟩
  rw [hZ] at HN ⊢
  clear hZ
  go_enter Tryz.func70, Tryz.ntmps70
  go_wp2
  obtain ⟨w1, hw1⟩ : ∃ w1, w1 = w.alloc (.cells #[.int .i64 0, .string ⟨#[]⟩, .int .i64 0, .int .i64 0] 127) := ⟨_, rfl⟩
  have HW1 : Hid (Below w.heap.size w w1) := by refine hide ?_; rw [hw1]; exact (Below.refl _ _).alloc (Nat.le_refl _) _
  have hX : w1.heap[w.heap.size]? = some (.cells #[.int .i64 0, .string ⟨#[]⟩, .int .i64 0, .int .i64 0] 127 (0, 0)) := by rw [hw1]; exact heap_alloc_new w _
  have HX := hide hX
  rw [← hw1]
  clear hw1 hX
  go_loopw [6] (fun tt wr => ∃ j : Nat, k ≤ j ∧ j ≤ s.size ∧ tt = .int .i64 j ∧ endE DsLx.inB s j = r ∧ wr = w1) (fun tt _ => s.size - (intOf tt).toNat)
  case atStart => exact ⟨k, Nat.le_refl _, hk, rfl, HR.out, rfl⟩
  case round =>
    obtain ⟨j, hkj, hj, rfl, hjr, rfl⟩ := hrel
    have HJ := hide hjr
    clear hjr
    by_cases hgo : j < s.size ∧ DsLx.inB (bAt s j) = true
    · obtain ⟨hlt, hin⟩ := hgo
      have hb := bAt_bd s j
      have HE := hide (endE_step hlt hin)
      have HC : Hid (∀ w : World, Calls Tryz.prog 92 #[.int .u8 (s[j].toNat : Int)] w fun e w' => e = .returned (.bool true) ∧ w' = w) := fun w => by
        rw [bAt_eq s j hlt, ← hin]; exact inName_any _ w hb.1 hb.2
      clear hin hb
      go_wp2_with (go_at_call 92; refine (HC.out _).mono ?_; rintro e w' ⟨rfl, rfl⟩)
      go_roundw
      case rel => exact ⟨j + 1, by omega, by omega, by go_num, by rw [← HE.out]; exact HJ.out, trivial⟩
      case measure => simp [intOf]; omega
    · have hjr : j = r := by rw [← HJ.out, endE_stop hgo]
      subst hjr
      have HRS : Hid (Res0 wr w.heap.size) := HX.out
      have hps : w.heap.size < wr.heap.size := block_lt HX.out
      obtain ⟨⟨q0, q1, q2, q3⟩, f0, f1, f2, f3⟩ := HRS.out.all
      have HC : Hid (∀ (hlt : j < s.size) (w : World), Calls Tryz.prog 92 #[.int .u8 (s[j].toNat : Int)] w fun e w' => e = .returned (.bool false) ∧ w' = w) := fun hlt w => by
        have hb := bAt_bd s j
        have hin : DsLx.inB (bAt s j) = false := by
          cases h : DsLx.inB (bAt s j) with
          | false => rfl
          | true => exact absurd ⟨hlt, h⟩ hgo
        rw [bAt_eq s j hlt, ← hin]; exact inName_any _ w hb.1 hb.2
      clear hgo
      by_cases h20 : 20 < j - k
      · have HZ : Hid (Z = (tk0, false)) := by refine hide ?_; rw [HN.out, if_pos h20]
        have h20' : (20 : Int) < (j : Int) - k := by omega
        by_cases hlt : j < s.size
        · go_wp2_with (go_at_call 92; refine (HC.out hlt _).mono ?_; rintro e w' ⟨rfl, rfl⟩)
          refine bodyPost_ret (v := .tuple #[.agg #[.int .i64 0, .string ⟨#[]⟩, .int .i64 0, .int .i64 0], .bool false]) (by simp [results, Tryz.results70, go_sem, q0, q1, q2, q3]) rfl ⟨by rw [HZ.out]; rfl, below_set4 HW1.out (Nat.le_refl _) _ _ _ _⟩
        · go_wp2
          refine bodyPost_ret (v := .tuple #[.agg #[.int .i64 0, .string ⟨#[]⟩, .int .i64 0, .int .i64 0], .bool false]) (by simp [results, Tryz.results70, go_sem, q0, q1, q2, q3]) rfl ⟨by rw [HZ.out]; rfl, below_set4 HW1.out (Nat.le_refl _) _ _ _ _⟩
      · have HZ : Hid (Z = (⟨1, foldS (s.extract k j), 0, k⟩, true)) := by refine hide ?_; rw [HN.out, if_neg h20]
        have h20' : (j : Int) - k ≤ 20 := by omega
        have HFO : Hid (∀ w : World, Calls Tryz.prog 93 #[.string (s.extract k j)] w fun e w' => e = .returned (.string (foldS (s.extract k j))) ∧ Below w.heap.size w w') := fun w => fold_any _ w (by simp; omega)
        clear q0 q1 q2 q3 f0 f1 f2 f3
        by_cases hlt : j < s.size
        · go_wp2_with (first | (go_at_call 92; refine (HC.out hlt _).mono ?_; rintro e w' ⟨rfl, rfl⟩) | (go_at_call 93; refine (HFO.out _).mono ?_; rintro e w2 ⟨rfl, hb2⟩; have HB2 := hide hb2; obtain ⟨⟨q0, q1, q2, q3⟩, f0, f1, f2, f3⟩ := (HRS.out.below hb2).all; clear hb2))
          refine bodyPost_ret (v := .tuple #[.agg #[.int .i64 1, .string (foldS (s.extract k j)), .int .i64 0, .int .i64 k], .bool true]) (by simp [results, Tryz.results70, go_sem, q0, q1, q2, q3]) rfl ⟨by rw [HZ.out]; rfl, below_set4 (HW1.out.trans (HB2.out.mono HW1.out.size)) (Nat.le_refl _) _ _ _ _⟩
        · go_wp2_with (go_at_call 93; refine (HFO.out _).mono ?_; rintro e w2 ⟨rfl, hb2⟩; have HB2 := hide hb2; obtain ⟨⟨q0, q1, q2, q3⟩, f0, f1, f2, f3⟩ := (HRS.out.below hb2).all; clear hb2)
          refine bodyPost_ret (v := .tuple #[.agg #[.int .i64 1, .string (foldS (s.extract k j)), .int .i64 0, .int .i64 k], .bool true]) (by simp [results, Tryz.results70, go_sem, q0, q1, q2, q3]) rfl ⟨by rw [HZ.out]; rfl, below_set4 (HW1.out.trans (HB2.out.mono HW1.out.size)) (Nat.le_refl _) _ _ _ _⟩
end Go.Proofs.YtkpgfhapffijkaaGreatDoor

/- Package lex: the walks of readTime, readNumber, read. -/
namespace Go.Proofs.YtkpgfhapffijkaaGreatDoor
open Go.ChangeShapes Go.WideShapes Go.ChangeAt Go.RowKit Go.DsMem Go.DsLx
set_option linter.unusedVariables false
set_option maxHeartbeats 2000000 in
/-- lex.readTime -/
theorem readTime_any (s : ByteArray) (k : Nat) (w : World) (hs : s.size ≤ 100000) (hk : k ≤ s.size) : Calls Tryz.prog 72 #[.string s, .int .i64 k] w fun e w' => e = tkE (timeF s k) ∧ Below w.heap.size w w' := by
  obtain ⟨E, hE⟩ : ∃ E, min (k + 5) s.size = E := ⟨_, rfl⟩
  obtain ⟨m, er, hm⟩ : ∃ m er, DsCal.tmres (s.extract k E) = (m, er) := ⟨_, _, rfl⟩
  obtain ⟨Z, hZ⟩ : ∃ Z, timeF s k = Z := ⟨_, rfl⟩
  have HN : Hid (Z = if ¬ er = 0 ∨ (E < s.size ∧ DsLx.inB (bAt s E) = true) then (tk0, false) else (⟨3, s.extract k E, m, k⟩, true)) := by refine hide ?_; rw [← hZ]; unfold timeF; rw [hE, hm]
  have HRD : Hid (∀ w : World, Calls Tryz.prog 94 #[.string (s.extract k E)] w fun e w' => e = .returned (.tuple #[.int .i64 m, .int .i64 er]) ∧ w' = w) := fun w => by
    have := wRead_any (s.extract k E) w
    rw [hm] at this
    exact this
  rw [hZ]
  have hEb : k ≤ E ∧ E ≤ s.size := by omega
  have HC : Hid (∀ (b : Bool) (hlt : E < s.size) (w : World), DsLx.inB (bAt s E) = b → Calls Tryz.prog 92 #[.int .u8 (s[E].toNat : Int)] w fun e w' => e = .returned (.bool b) ∧ w' = w) := fun b hlt w hin => by
    have hb := bAt_bd s E
    rw [bAt_eq s E hlt, ← hin]; exact inName_any _ w hb.1 hb.2
  clear hZ hm
  have HMN : Hid (min ((k : Int) + 5) (s.size : Int) = (E : Int)) := by refine hide ?_; omega
  obtain ⟨hE1, hE2⟩ := hEb
  clear hE
  by_cases her : er = 0
  · subst her
    by_cases hlt : E < s.size
    · cases hin : DsLx.inB (bAt s E) with
      | true =>
        have HZ : Hid (Z = (tk0, false)) := by refine hide ?_; rw [HN.out, if_pos (.inr ⟨hlt, hin⟩)]
        go_enter Tryz.func72, Tryz.ntmps72
        go_wp2_with fail
        rw [HMN.out, Int.toNat_natCast]
        refine (HRD.out _).mono ?_
        rintro e w' ⟨rfl, rfl⟩
        go_wp2_with (go_at_call 92; refine (HC.out true hlt _ hin).mono ?_; rintro e w' ⟨rfl, rfl⟩)
        refine bodyPost_ret (v := .tuple #[.agg #[.int .i64 0, .string ⟨#[]⟩, .int .i64 0, .int .i64 0], .bool false]) (by simp [results, Tryz.results72, go_sem]) rfl ⟨by rw [HZ.out]; rfl, (Below.refl _ _).alloc (Nat.le_refl _) _⟩
      | false =>
        have HZ : Hid (Z = (⟨3, s.extract k E, m, k⟩, true)) := by refine hide ?_; rw [HN.out, if_neg (by simp [hin])]
        go_enter Tryz.func72, Tryz.ntmps72
        go_wp2_with fail
        rw [HMN.out, Int.toNat_natCast]
        refine (HRD.out _).mono ?_
        rintro e w' ⟨rfl, rfl⟩
        go_wp2_with (go_at_call 92; refine (HC.out false hlt _ hin).mono ?_; rintro e w' ⟨rfl, rfl⟩)
        refine bodyPost_ret (v := .tuple #[.agg #[.int .i64 3, .string (s.extract k E), .int .i64 m, .int .i64 k], .bool true]) (by simp [results, Tryz.results72, go_sem]) rfl ⟨by rw [HZ.out]; rfl, (Below.refl _ _).alloc (Nat.le_refl _) _⟩
    · have HZ : Hid (Z = (⟨3, s.extract k E, m, k⟩, true)) := by refine hide ?_; rw [HN.out, if_neg (by simp [hlt])]
      go_enter Tryz.func72, Tryz.ntmps72
      go_wp2_with fail
      rw [HMN.out, Int.toNat_natCast]
      refine (HRD.out _).mono ?_
      rintro e w' ⟨rfl, rfl⟩
      go_wp2
      refine bodyPost_ret (v := .tuple #[.agg #[.int .i64 3, .string (s.extract k E), .int .i64 m, .int .i64 k], .bool true]) (by simp [results, Tryz.results72, go_sem]) rfl ⟨by rw [HZ.out]; rfl, (Below.refl _ _).alloc (Nat.le_refl _) _⟩
  · have HZ : Hid (Z = (tk0, false)) := by refine hide ?_; rw [HN.out, if_pos (.inl her)]
    have her' : (er == 0) = false := by simpa using her
    go_enter Tryz.func72, Tryz.ntmps72
    go_wp2_with fail
    rw [HMN.out, Int.toNat_natCast]
    refine (HRD.out _).mono ?_
    rintro e w' ⟨rfl, rfl⟩
    go_wp2
    refine bodyPost_ret (v := .tuple #[.agg #[.int .i64 0, .string ⟨#[]⟩, .int .i64 0, .int .i64 0], .bool false]) (by simp [results, Tryz.results72, go_sem]) rfl ⟨by rw [HZ.out]; rfl, (Below.refl _ _).alloc (Nat.le_refl _) _⟩
end Go.Proofs.YtkpgfhapffijkaaGreatDoor
