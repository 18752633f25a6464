/- Layer 7's reference: Join, Fold, Place; package lex: Place. -/
import Derived.Test.YtfbkcipjfjoifaaLzA
namespace Go.Proofs.Ytfbkcipjfjoifaa
open Go.ChangeShapes Go.WideShapes Go.ChangeAt Go.RowKit Go.DsMem Go.DsLx
set_option linter.unusedVariables false
theorem ba_ext2 {a b : ByteArray} (h : a.data.toList = b.data.toList) : a = b := by
  cases a; cases b; congr 1; exact Array.toList_inj.1 h
theorem joinB_one (xs : List ByteArray) (x : ByteArray) (h : xs[0]? = some x) : joinB (xs.take 1) = x := by
  cases xs with
  | nil => simp at h
  | cons y r =>
    simp at h; subst h
    apply ba_ext2
    unfold joinB
    simp [Lib.join_one]
theorem joinB_more (xs : List ByteArray) (x : ByteArray) (i : Nat) (hi : 0 < i) (h : xs[i]? = some x) : joinB (xs.take (i + 1)) = joinB (xs.take i) ++ ⟨#[32]⟩ ++ x := by
  cases xs with
  | nil => simp at h
  | cons y r =>
    obtain ⟨k, rfl⟩ : ∃ k, i = k + 1 := ⟨i - 1, by omega⟩
    have h' : r[k]? = some x := by simpa using h
    apply ba_ext2
    rw [ByteArray.data_append, ByteArray.data_append, Array.toList_append, Array.toList_append]
    unfold joinB
    simp only [List.take_succ_cons, List.map_cons, Lib.join_cons, List.map_take]
    have := Lib.joinTail_take_succ [32] (r.map (·.data.toList)) k x.data.toList (by rw [List.getElem?_map, h']; rfl)
    rw [this]
    simp
theorem joinB_mono (xs : List ByteArray) (i : Nat) : (joinB (xs.take i)).size ≤ (joinB xs).size := by
  cases xs with
  | nil => simp
  | cons y r =>
    cases i with
    | zero => exact Nat.zero_le _
    | succ k =>
      have e : ∀ zs : List ByteArray, (joinB zs).size = (Lib.join (zs.map (·.data.toList)) [32]).length := fun zs => by unfold joinB; simp [ByteArray.size]
      rw [e, e]
      simp only [List.take_succ_cons, List.map_cons, Lib.join_cons, List.length_append, List.map_take]
      have := Lib.joinTail_take_le [32] (r.map (·.data.toList)) k
      omega
set_option maxHeartbeats 4000000 in
set_option maxRecDepth 20000 in
/-- dayshiftref07.Join -/
theorem refJoin (l : List Wd) (uo : Option Addr) (uc o : Nat) (w : World) (hl : l.length ≤ 1000000000000) (hat : WdAt w uo uc o l) (hj : (joinB (l.map (·.text))).size ≤ 140737488355328) :
    Calls Try.prog 12 #[.slice uo l.length uc] w fun e w' => e = .returned (.string (joinB (l.map (·.text)))) ∧ w' = w := by
  have HAT := hide hat
  have HM := hide (joinB_mono (l.map (·.text)))
  have HJ := hide hj
  clear hat hj
  go_enter Try.func12, Try.ntmps12
  go_wp2
  go_loopw [3, 4] (fun ts ti wr => ∃ (i : Nat), i ≤ l.length ∧ ts = .string (joinB ((l.map (·.text)).take i)) ∧ ti = .int .i64 i ∧ wr = w) (fun _ ti _ => l.length - (intOf ti).toNat)
  case atStart => exact ⟨0, Nat.zero_le _, rfl, rfl, rfl⟩
  case round =>
    obtain ⟨i, hi, rfl, rfl, rfl⟩ := hrel
    by_cases hlt : i < l.length
    · obtain ⟨t, ht⟩ : ∃ t, l[i]? = some t := ⟨_, List.getElem?_eq_getElem hlt⟩
      have htx : (l.map (·.text))[i]? = some t.text := by rw [List.getElem?_map, ht]; rfl
      obtain ⟨g, rfl, hc, hg, hcells⟩ := HAT.out (by omega)
      obtain ⟨a0, a1, a2, a3⟩ := hcells i t ht
      clear hcells a0 a2 a3
      have H1 : Hid (i = 0 → joinB ((l.map (·.text)).take 1) = t.text) := fun h => by subst h; exact joinB_one _ _ htx
      have H2 : Hid (0 < i → joinB ((l.map (·.text)).take (i + 1)) = joinB ((l.map (·.text)).take i) ++ ⟨#[32]⟩ ++ t.text) := fun h => joinB_more _ _ _ h htx
      have h1 := HM.out (i + 1)
      have h2 := HJ.out
      generalize l.map (·.text) = xs at *
      generalize t.text = tx at *
      by_cases h0 : i = 0
      · subst h0
        have h3 := H1.out rfl
        have e0 : joinB (xs.take 0) = ⟨#[]⟩ := rfl
        rw [e0]
        have hz1 : ¬ 9223372036854775807 < tx.size := by rw [h3] at h1; omega
        go_wp2
        go_roundw
        case rel => exact ⟨1, by omega, by rw [h3]; first | rfl | (congr 1; apply ba_ext2; rw [ByteArray.data_append]; simp), rfl, trivial⟩
        case measure => simp [intOf]; omega
      · have h3 := H2.out (by omega)
        have H3 := hide h3
        rw [h3] at h1
        clear h3
        generalize joinB (xs.take i) = acc at *
        have hsz : (acc ++ (⟨#[32]⟩ : ByteArray) ++ tx).size = acc.size + 1 + tx.size := by rw [ByteArray.size_append, ByteArray.size_append]; rfl
        have hz1 : ¬ 9223372036854775807 < acc.size + 1 := by omega
        have hz2 : ¬ 9223372036854775807 < acc.size + 1 + tx.size := by omega
        clear hsz
        go_wp2
        go_roundw
        case rel => exact ⟨i + 1, by omega, by rw [H3.out], rfl, trivial⟩
        case measure => simp [intOf]; omega
    · obtain rfl : i = l.length := by omega
      have e : (l.map (·.text)).take l.length = l.map (·.text) := by rw [List.take_of_length_le]; simp
      rw [e]
      go_wp2
      go_ret
      exact ⟨rfl, rfl⟩
end Go.Proofs.Ytfbkcipjfjoifaa
