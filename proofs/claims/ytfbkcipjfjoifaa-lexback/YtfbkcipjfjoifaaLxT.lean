/- Plain: two sources with a line's end between, as bytes. -/
import Derived.Test.YtfbkcipjfjoifaaLxS
namespace Go.Proofs.Ytfbkcipjfjoifaa
open Go.ChangeShapes Go.WideShapes Go.ChangeAt Go.RowKit Go.DsMem Go.DsLx
theorem bAt_app_l {a b : ByteArray} {k : Nat} (h : k < a.size) : bAt (a ++ b) k = bAt a k := by
  have hl : k < a.data.toList.length := by simpa using h
  unfold bAt
  rw [ByteArray.data_append, Array.toList_append, List.getD, List.getElem?_append_left hl, ← List.getD]
theorem bAt_app_r (a b : ByteArray) (k : Nat) : bAt (a ++ b) (k + a.size) = bAt b k := by
  have e : a.data.toList.length = a.size := by simp
  unfold bAt
  rw [ByteArray.data_append, Array.toList_append, List.getD, List.getElem?_append_right (by rw [e]; omega), e, Nat.add_sub_cancel, ← List.getD]
theorem ba_ext {a b : ByteArray} (h : a.data.toList = b.data.toList) : a = b := by
  cases a; cases b; congr 1; exact Array.toList_inj.1 h
theorem ext_app_l {a b : ByteArray} (i j : Nat) (h : j ≤ a.size) : (a ++ b).extract i j = a.extract i j := by
  apply ba_ext
  have e : a.data.toList.length = a.size := by simp
  rw [ext_toList, ext_toList, ByteArray.data_append, Array.toList_append]
  by_cases c : i ≤ a.size
  · rw [List.drop_append_of_le_length (by omega), List.take_append_of_le_length (by rw [List.length_drop]; omega)]
  · rw [show j - i = 0 by omega]; simp
theorem ext_app_r (a b : ByteArray) (i j : Nat) : (a ++ b).extract (i + a.size) (j + a.size) = b.extract i j := by
  apply ba_ext
  have e : a.data.toList.length = a.size := by simp
  rw [ext_toList, ext_toList, ByteArray.data_append, Array.toList_append, show j + a.size - (i + a.size) = j - i by omega, List.drop_append, e, Nat.add_sub_cancel, List.drop_eq_nil_of_le (by omega), List.nil_append]
theorem size_app (a b : ByteArray) : (a ++ b).size = a.size + b.size := ByteArray.size_append
theorem post_app (a b : ByteArray) : Post b (a ++ b) a.size :=
  ⟨by rw [size_app]; omega, fun k => bAt_app_r a b k, fun i j _ => ext_app_r a b i j⟩
/-- a source, a line's end, and what is behind -/
theorem pre_app (a b : ByteArray) : Pre a (a ++ ⟨#[10]⟩ ++ b) := by
  have e1 : (a ++ (⟨#[10]⟩ : ByteArray)).size = a.size + 1 := size_app _ _
  refine ⟨by rw [size_app, e1]; omega, fun k hk => ?_, ?_, fun i j hj => ?_⟩
  · rw [bAt_app_l (by omega), bAt_app_l hk]
  · rw [bAt_app_l (by omega)]
    have := bAt_app_r a ⟨#[10]⟩ 0
    rw [Nat.zero_add] at this
    rw [this]; rfl
  · rw [ext_app_l _ _ (by omega), ext_app_l _ _ hj]
theorem post_two (a b : ByteArray) : Post b (a ++ ⟨#[10]⟩ ++ b) (a.size + 1) := by
  have e1 : (a ++ (⟨#[10]⟩ : ByteArray)).size = a.size + 1 := size_app _ _
  have := post_app (a ++ ⟨#[10]⟩) b
  rw [e1] at this
  exact this
end Go.Proofs.Ytfbkcipjfjoifaa
