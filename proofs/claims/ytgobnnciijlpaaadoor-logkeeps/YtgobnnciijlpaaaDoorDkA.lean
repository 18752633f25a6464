/- The walks of the small functions of package disk: copied, areFiles, call, refuse, start. -/
import Derived.Test.YtgobnnciijlpaaaDoorRows
import Derived.Test.YtgobnnciijlpaaaDoorMem
import Derived.Test.YtgobnnciijlpaaaDoorDkM
namespace Go.Proofs.YtgobnnciijlpaaaDoor
open Go.ChangeShapes Go.WideShapes Go.ChangeAt Go.RowKit Go.DsMem Go.DsDk
set_option linter.unusedVariables false

theorem info5 : (Tryd.prog.info? 5).map (fun i => (i.zero, i.size, i.bytes)) = some (some (.int .u8 0), 1, 1) := by kernel_rfl
theorem size5 : (Tryd.prog.info? 5).map (·.size) = some 1 := by kernel_rfl

theorem copied_pos {w w1 : World} {l : List UInt8} {ao : Option Addr} {cap : Nat} (hb : Below w.heap.size w w1) (hnil : ao = none → l.length = 0 ∧ cap = 0)
    (hrd : ∀ a, ao = some a → ∀ j u, l[j]? = some u → w.cell? (a.add j) = some (bv u)) :
    0 < (bvs l).length → some (⟨w.heap.size, 0, none⟩ : Addr) = some ⟨w.heap.size, 0, none⟩ ∧ ∃ ad, ao = some ad ∧ ∀ j v, (bvs l)[j]? = some v → w1.cell? (ad.add j) = some v := by
  intro h0
  refine ⟨rfl, ?_⟩
  cases ao with
  | none => have := hnil rfl; rw [bvs_length] at h0; omega
  | some a =>
    refine ⟨a, rfl, fun j v hj => ?_⟩
    rw [bvs_get] at hj
    obtain ⟨u, hu, rfl⟩ := Option.map_eq_some_iff.1 hj
    exact Below.keeps hb (Nat.le_refl _) (hrd a rfl j u hu)

/-- disk.copied -/
theorem copied_any (l : List UInt8) (sl : Value) (w : World) (h : Rd w sl l) (hl : l.length ≤ 140737488355328) :
    Calls Tryd.prog 72 #[sl] w fun e w' => ∃ v, e = .returned v ∧ w'.ownsRow w.heap.size 5 1 v l.length (bvs l) ∧ Below w.heap.size w w' := by
  obtain ⟨i0, hi, hz0, hz1, hz2⟩ := info_parts info5
  obtain ⟨ao, cap, rfl, hlc, hnil, hrd⟩ := h
  go_enter Tryd.func72, Tryd.ntmps72
  go_wp2_with (first
    | (at_make; refine wpList_make_full _ rfl _ _ 28 rfl w.heap.size 5 i0 (.int .u8 0) 1 Tryd.underlying28 hi hz0 hz1 _ _ _ _ l.length rfl rfl rfl rfl (by rw [hz2]; omega) (by unfold maxLen; omega) (Nat.le_refl _) ?_; intro w1 hown1 hgrow1; obtain ⟨cur, hcur, hlen, _, _, _, _⟩ := own_row hown1; have hb1 := (Below.refl w.heap.size w).grown hgrow1 (Nat.le_refl _) (fun _ h => by cases h); clear hown1 hgrow1; have HC := hide hcur; clear hcur)
    | (refine wpList_copy_splice rfl (.tmp 7) (.tmp 8) 28 28 rfl 5 Tryd.underlying28 size5 _ _ _ _ _ _ rfl rfl w.heap.size 0 cur 5 HC.out (bvs l) (by rw [bvs_length]; exact (Nat.min_self _).symm) (copied_pos hb1 hnil hrd) (by rw [bvs_length]; omega) (bvs_one l) w.heap.size w hb1 (Nat.le_refl _) ?_; intro w2 hw2 hb2))


  go_ret
  refine ⟨_, rfl, own_mk hw2.out ?_ ?_ (Nat.le_refl _) (by unfold maxLen; omega) (Nat.le_refl _), hb2⟩
  · rw [length_splice _ _ _ (by rw [bvs_length]; omega)]; omega
  · rw [splice_all _ _ (by rw [bvs_length]; omega)]; exact List.take_of_length_le (by rw [bvs_length]; omega)

theorem ret_bool {a b : Bool} (h : a = b) : Ending.returned (.bool a) = .returned (.bool b) := by rw [h]
theorem ret_int {k : IntKind} {a b : Int} (h : a = b) : Ending.returned (.int k a) = .returned (.int k b) := by rw [h]

/-- disk.areFiles -/
theorem areFiles_any (ns : List Int) (sl : Value) (w : World) (h : RdI w sl ns) (hl : ns.length ≤ 2) :
    Calls Tryd.prog 71 #[sl] w fun e w' => e = .returned (.bool (ns.all okf)) ∧ w' = w := by
  obtain ⟨ao, cap, rfl, hlc, hnil, hrd⟩ := h
  go_enter Tryd.func71, Tryd.ntmps71
  go_wp2
  go_loop [7] (fun i => ∃ k : Nat, k ≤ ns.length ∧ i = .int .i64 k ∧ (ns.take k).all okf = true) (fun i => ns.length - (intOf i).toNat)
  case atStart => exact ⟨0, Nat.zero_le _, rfl, rfl⟩
  case round =>
    obtain ⟨k, hk, rfl, hall⟩ := hrel
    have HA := hide hall
    clear hall
    by_cases hlt : k < ns.length
    · obtain ⟨a, rfl⟩ : ∃ a, ao = some a := by
        cases ao with
        | none => have := hnil rfl; omega
        | some a => exact ⟨a, rfl⟩
      have hc := hrd a rfl k ns[k] (List.getElem?_eq_getElem hlt)
      clear hrd hnil
      obtain ⟨f, hf⟩ : ∃ f, f = ns[k] := ⟨_, rfl⟩
      rw [← hf] at hc
      have HF := hide hf
      clear hf
      by_cases hin : 0 ≤ f ∧ f < 8
      · obtain ⟨h0, h8⟩ := hin
        go_wp2
        go_round
        case rel => exact ⟨k + 1, by omega, by go_num, all_take HA.out hlt (by rw [← HF.out]; exact okf_yes (by omega) (by omega))⟩
        case measure => simp [intOf]; omega
      · have hno : okf f = false := by simp [okf]; omega
        have HNO := hide (all_no hlt (by rw [← HF.out]; exact hno))
        clear hno
        rcases (show f < 0 ∨ 8 ≤ f by omega) with h0 | h0
        all_goals
          clear hin
          go_wp2
          go_ret
          exact ⟨ret_bool HNO.out.symm, rfl⟩
    · go_wp2
      go_ret
      exact ⟨ret_bool (by have := HA.out; rw [List.take_of_length_le (by omega)] at this; exact this.symm), rfl⟩

/-- the answer of (*Disk).refuse, of a disk that is there -/
def refuses (ok dead : Bool) : Int := if ok then (if dead then 13 else 0) else 1

theorem refuse_nil (ns : List Int) (sl : Value) (w : World) :
    Calls Tryd.prog 54 #[.pointer none, sl] w fun e w' => e = .returned (.int .i64 2) ∧ w' = w := by
  go_enter Tryd.func54, Tryd.ntmps54
  go_wp2
  go_ret
  exact ⟨rfl, rfl⟩
theorem refuse_any (p : Nat) (dead : Bool) (ns : List Int) (sl : Value) (w : World) (h : RdI w sl ns) (hl : ns.length ≤ 2) (hd : w.cell? ⟨p, 17, none⟩ = some (.bool dead)) :
    Calls Tryd.prog 54 #[.pointer (some ⟨p, 0, none⟩), sl] w fun e w' => e = .returned (.int .i64 (refuses (ns.all okf) dead)) ∧ w' = w := by
  cases hok : ns.all okf <;> cases dead
  all_goals
    have HO := hide hok
    clear hok
    go_enter Tryd.func54, Tryd.ntmps54
    go_wp2_with (go_at_call 71; refine (areFiles_any ns _ _ h hl).mono ?_; rintro e w' ⟨rfl, rfl⟩; rw [HO.out])
    go_ret
    exact ⟨rfl, rfl⟩
end Go.Proofs.YtgobnnciijlpaaaDoor
