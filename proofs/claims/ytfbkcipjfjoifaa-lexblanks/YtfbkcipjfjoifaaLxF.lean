/- Package lex: the walk of Fold. -/
import Derived.Test.YtfbkcipjfjoifaaLxE
import Derived.Laws.IdiomStrings
namespace Go.DsLx
def foldB (c : UInt8) : UInt8 := if 65 ≤ c ∧ c ≤ 90 then c + 32 else c
def foldN (n : Int) : Int := if 65 ≤ n ∧ n ≤ 90 then n + 32 else n
theorem foldB_N (c : UInt8) : ((foldB c).toNat : Int) = foldN (c.toNat : Int) := by
  unfold foldB foldN
  have hl := c.toNat_lt
  by_cases h : 65 ≤ c ∧ c ≤ 90
  · have h' : 65 ≤ (c.toNat : Int) ∧ (c.toNat : Int) ≤ 90 := by
      have := UInt8.le_iff_toNat_le.1 h.1
      have := UInt8.le_iff_toNat_le.1 h.2
      simp at *
      omega
    rw [if_pos h, if_pos h', UInt8.toNat_add]
    simp
    omega
  · have h' : ¬ (65 ≤ (c.toNat : Int) ∧ (c.toNat : Int) ≤ 90) := fun k => h ⟨UInt8.le_iff_toNat_le.2 (by simp; omega), UInt8.le_iff_toNat_le.2 (by simp; omega)⟩
    rw [if_neg h, if_neg h']
/-- great letters made small -/
def foldL (l : List UInt8) : List UInt8 := l.map foldB
def foldS (s : ByteArray) : ByteArray := ⟨(foldL s.data.toList).toArray⟩
theorem foldS_size (s : ByteArray) : (foldS s).size = s.size := by
  show (foldL s.data.toList).toArray.size = s.data.size
  simp [foldL]
def fo (s : ByteArray) (i j : Nat) : Int := if j < i then foldN (bAt s j) else bAt s j
end Go.DsLx
namespace Go.Proofs.Ytfbkcipjfjoifaa
open Go.ChangeShapes Go.WideShapes Go.ChangeAt Go.RowKit Go.DsMem Go.DsLx
set_option linter.unusedVariables false
/-- what Fold holds: the row in block p, its first i bytes folded -/
structure FoSt (w wr : World) (p : Nat) (s : ByteArray) (i : Nat) : Prop where
  row : ∃ (cur : Array Value) (fr : Nat × Nat), wr.heap[p]? = some (.cells cur 5 fr) ∧ cur.size ≤ fr.1 ∧ ∀ j, j < s.size → cur[j]? = some (.int .u8 (fo s i j))
  below : Below w.heap.size w wr
theorem FoSt.cell {w wr : World} {p : Nat} {s : ByteArray} {i : Nat} (h : FoSt w wr p s i) (j : Nat) (hj : j < s.size) : wr.cell? ⟨p, j, none⟩ = some (.int .u8 (fo s i j)) ∧ wr.frozen? ⟨p, j, none⟩ = false := by
  obtain ⟨cur, fr, h1, h2, h3⟩ := h.row
  have hlt := (Array.getElem?_eq_some_iff.1 (h3 j hj)).1
  refine ⟨by simp [World.cell?, h1, h3 j hj], ?_⟩
  simp [World.frozen?, h1]
  omega
theorem bAt_get (s : ByteArray) (j : Nat) (hj : j < s.size) : s.data[j]?.map (fun b => Value.int .u8 (b.toNat : Int)) = some (.int .u8 (bAt s j)) := by
  have hl : j < s.data.size := hj
  have hl2 : j < s.data.toList.length := by simpa using hl
  unfold bAt
  rw [Array.getElem?_eq_getElem hl]
  simp [List.getD, List.getElem?_eq_getElem hl2]
theorem FoSt.start (w : World) (s : ByteArray) (cap : Nat) : FoSt w (w.drew.alloc (.cells (bytesRow s cap) 5 ((bytesRow s cap).size, (bytesRow s cap).size + 1))) w.heap.size s 0 := by
  refine ⟨⟨_, _, heap_alloc_new w.drew _, Nat.le_refl _, fun j hj => ?_⟩, (Below.refl _ _).drew.alloc (Nat.le_refl _) _⟩
  have hl : j < s.data.size := hj
  unfold bytesRow fo
  rw [if_neg (by omega), Array.getElem?_append_left (by simpa using hl), Array.getElem?_map]
  exact bAt_get s j hj
theorem FoSt.step {w wr : World} {p : Nat} {s : ByteArray} {i : Nat} (h : FoSt w wr p s i) (hi : i < s.size) (hp : w.heap.size ≤ p) : FoSt w (wr.setCell ⟨p, i, none⟩ (.int .u8 (foldN (bAt s i)))) p s (i + 1) := by
  obtain ⟨cur, fr, h1, h2, h3⟩ := h.row
  have hlt := (Array.getElem?_eq_some_iff.1 (h3 i hi)).1
  refine ⟨⟨cur.setIfInBounds i (.int .u8 (foldN (bAt s i))), fr, by simp [World.setCell, Array.getElem?_modify, h1], by simpa using h2, fun j hj => ?_⟩, h.below.setCell hp _⟩
  rw [Array.getElem?_setIfInBounds]
  by_cases e : i = j
  · subst e
    rw [if_pos rfl, if_pos hlt]
    unfold fo
    rw [if_pos (by omega)]
  · rw [if_neg e, h3 j hj]
    unfold fo
    by_cases c : j < i
    · rw [if_pos c, if_pos (by omega)]
    · rw [if_neg c, if_neg (by omega)]
theorem FoSt.skip {w wr : World} {p : Nat} {s : ByteArray} {i : Nat} (h : FoSt w wr p s i) (hn : ¬ (65 ≤ bAt s i ∧ bAt s i ≤ 90)) : FoSt w wr p s (i + 1) := by
  obtain ⟨cur, fr, h1, h2, h3⟩ := h.row
  refine ⟨⟨cur, fr, h1, h2, fun j hj => ?_⟩, h.below⟩
  rw [h3 j hj]
  unfold fo
  by_cases c : j < i
  · rw [if_pos c, if_pos (by omega)]
  · by_cases e : j = i
    · subst e
      rw [if_neg c, if_pos (by omega)]
      unfold foldN
      rw [if_neg hn]
    · rw [if_neg c, if_neg (by omega)]
theorem FoSt.text {w wr : World} {p : Nat} {s : ByteArray} (h : FoSt w wr p s s.size) (cap : Nat) :
    (convert 46 9 (.slice (some ⟨p, 0, none⟩) s.size cap)).run Try.prog wr = .ok (.string (foldS s)) wr := by
  have hl : (foldL s.data.toList).length = s.size := by simp [foldL]
  have := run_convert_bytes_back (P := Try.prog) wr 46 9 5 ⟨p, 0, none⟩ cap (foldL s.data.toList) Try.underlying46 Try.underlying5 Try.underlying9 (fun j hj => by
    rw [hl] at hj
    have hl2 : j < s.data.toList.length := by simpa using hj
    rw [add_mk, Nat.zero_add, (h.cell j hj).1]
    unfold fo
    rw [if_pos hj]
    simp only [foldL, List.getElem_map]
    rw [foldB_N]
    unfold bAt
    simp [List.getD, List.getElem?_eq_getElem hl2])
  rw [hl] at this
  exact this
set_option maxHeartbeats 2000000 in
set_option maxRecDepth 20000 in
/-- lex.Fold -/
theorem fold_any (s : ByteArray) (w : World) (hs : s.size ≤ 140737488355328) : Calls Try.prog 15 #[.string s] w fun e w' => e = .returned (.string (foldS s)) ∧ Below w.heap.size w w' := by
  obtain ⟨T, hT⟩ : ∃ T, T = foldS s := ⟨_, rfl⟩
  rw [← hT]
  have HT := hide hT
  clear hT
  have hconv := run_bytes_of_string (P := Try.prog) w 9 46 5 s Try.underlying9 Try.underlying46 Try.underlying5
  have HS := hide (FoSt.start w s (grownCap w s.size 0 5))
  generalize grownCap w s.size 0 5 = cap at *
  generalize w.drew.alloc (.cells (bytesRow s cap) 5 ((bytesRow s cap).size, (bytesRow s cap).size + 1)) = w1 at *
  obtain ⟨p, hp⟩ : ∃ p, p = w.heap.size := ⟨_, rfl⟩
  rw [← hp] at hconv HS ⊢
  have HP := hide hp
  clear hp
  go_enter Try.func15, Try.ntmps15
  go_wp2
  go_loopw [10] (fun tt wr => ∃ i : Nat, i ≤ s.size ∧ tt = .int .i64 i ∧ FoSt w wr p s i) (fun tt _ => s.size - (intOf tt).toNat)
  case atStart => exact ⟨0, Nat.zero_le _, rfl, HS.out⟩
  case round =>
    obtain ⟨i, hi, rfl, hst⟩ := hrel
    have HST := hide hst
    by_cases hlt : i < s.size
    · obtain ⟨c1, c2⟩ := hst.cell i hlt
      have hb := bAt_bd s i
      have e : fo s i i = bAt s i := by unfold fo; rw [if_neg (by omega)]
      rw [e] at c1
      have HSP := hide (hst.step hlt (by rw [HP.out]; exact Nat.le_refl _))
      have HSK := hide (hst.skip (w := w) (wr := wr) (p := p) (s := s) (i := i))
      have HFN : Hid (65 ≤ bAt s i → bAt s i ≤ 90 → foldN (bAt s i) = bAt s i + 32) := fun a b => by unfold foldN; rw [if_pos ⟨a, b⟩]
      clear hst e
      generalize bAt s i = n at *
      by_cases hn : 65 ≤ n ∧ n ≤ 90
      · obtain ⟨n1, n2⟩ := hn
        have HF2 := hide (HFN.out n1 n2)
        rw [HF2.out, show n + 32 = n - 65 + 97 by omega] at HSP
        clear HFN HSK
        go_wp2
        go_roundw
        case rel => exact ⟨i + 1, by omega, by go_num, HSP.out⟩
        case measure => simp [intOf]; omega
      · have HK := hide (HSK.out hn)
        have hn' : n < 65 ∨ (65 ≤ n ∧ 90 < n) := by omega
        clear HSP HSK HFN hn
        rcases hn' with a | ⟨a, b⟩
        · go_wp2
          go_roundw
          case rel => exact ⟨i + 1, by omega, by go_num, HK.out⟩
          case measure => simp [intOf]; omega
        · go_wp2
          go_roundw
          case rel => exact ⟨i + 1, by omega, by go_num, HK.out⟩
          case measure => simp [intOf]; omega
    · obtain rfl : i = s.size := by omega
      have htx := hst.text cap
      rw [← HT.out] at htx
      clear hst
      go_wp2
      go_ret
      exact ⟨rfl, by rw [HP.out]; exact HST.out.below⟩
end Go.Proofs.Ytfbkcipjfjoifaa
