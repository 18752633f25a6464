/- Package rule: what stood already, in memory. -/
import Derived.Test.YtkpgfhapffijkaaGreatDoorProg
import Derived.Test.YtkpgfhapffijkaaGreatDoorR02
import Derived.DeepKeys4
import Derived.Carry
namespace Go.Proofs.YtkpgfhapffijkaaGreatDoor
open Go.ChangeShapes Go.WideShapes Go.ChangeAt Go.RowKit Go.DsMem Go.DsMap
set_option linter.unusedVariables false
set_option linter.unusedSimpArgs false
/-- what may stand once: what it is, its name, of which day -/
abbrev Sk := Int × (ByteArray × Int)
abbrev Sl := List (Sk × Int)
def twF (S : Sl) (k : Sk) : Bool := S.any (fun p => decide (p.1 = k))
theorem twF_iff {S : Sl} {k : Sk} : twF S k = true ↔ ∃ x, (k, x) ∈ S := by
  unfold twF
  rw [List.any_eq_true]
  constructor
  · rintro ⟨p, hp, h⟩
    obtain rfl := of_decide_eq_true h
    exact ⟨p.2, hp⟩
  · rintro ⟨x, hx⟩
    exact ⟨_, hx, decide_eq_true rfl⟩
theorem twF_not {S : Sl} {k : Sk} (h : twF S k = false) : ∀ x, (k, x) ∉ S := fun x hx => by
  have := twF_iff.2 ⟨x, hx⟩
  rw [h] at this; cases this
def skV (k : Sk) : Value := .agg #[.int .i64 k.1, .string k.2.1, .int .i64 k.2.2]
def inV (i : Int) : Value := .int .i64 i
def FitK (k : Sk) : Prop := k.2.1.size ≤ 140737488355000 ∧ (-9223372036854775808 ≤ k.1 ∧ k.1 ≤ 9223372036854775807) ∧ -9223372036854775808 ≤ k.2.2 ∧ k.2.2 ≤ 9223372036854775807
theorem skV_inj {a b : Sk} (h : skV a = skV b) : a = b := by
  unfold skV at h; simp at h; exact Prod.ext h.1 (Prod.ext h.2.1 h.2.2)
theorem inV_inj {a b : Int} (h : inV a = inV b) : a = b := by
  unfold inV at h; simpa using h
theorem laidOutR : laidOutB Tryz.prog = true := by kernel_rfl
theorem skRow : 146 < Tryz.prog.types.size := of_decide_eq_true (by kernel_rfl)
theorem skLaw : Maps.Keyed Tryz.prog 146 := Maps.Keyed.of_law (deep_law_laid laidOutR (m := 4) (by decide) skRow (by kernel_rfl) (by kernel_rfl))
theorem skType : Tryz.prog.keyType 146 = true := by kernel_rfl
theorem skCells : Tryz.prog.cellsOf 146 = 3 := by kernel_rfl
theorem skStr1 : Tryz.prog.cellsOf 9 = 1 := by kernel_rfl
theorem skInt1 : Tryz.prog.cellsOf 3 = 1 := by kernel_rfl
set_option maxRecDepth 20000 in
theorem sk_key (k : Sk) (hf : FitK k) : ∃ kl, keyOf Tryz.prog 146 (skV k) = some kl := by
  obtain ⟨h0, ⟨h1, h2⟩, h3, h4⟩ := hf
  have w1 : (Lit.int .i64 k.1).wf = true := WalkArith.wf_i64 ⟨h1, h2⟩
  have w2 : k.2.1.size ≤ maxLen := by unfold maxLen; omega
  have w3 : (Lit.int .i64 k.2.2).wf = true := WalkArith.wf_i64 ⟨h3, h4⟩
  unfold keyOf skV
  rw [Tryz.underlying146]
  simp only
  rw [if_pos (by rw [skType]; simp [Value.formed, Tryz.underlying146, skCells])]
  have hsz : ∃ m, Tryz.prog.types.size = m + 1 := ⟨Tryz.prog.types.size - 1, by have := skRow; omega⟩
  obtain ⟨m, hm⟩ := hsz
  rw [hm]
  unfold Program.keyLits
  rw [Tryz.underlying146]
  simp [Value.cells, skCells, Program.keyLits, Tryz.underlying9, Tryz.underlying3, skStr1, skInt1, w1, w2, w3]
set_option maxRecDepth 20000 in
theorem sk_inv {key : Value} {kl : Lit} (h : keyOf Tryz.prog 146 key = some kl) : ∃ c : Sk, key = skV c := by
  unfold keyOf at h
  rw [Tryz.underlying146] at h
  simp only at h
  split at h
  · rename_i hf
    rw [Bool.and_eq_true] at hf
    cases key with
    | agg cs =>
      obtain ⟨m, hm⟩ : ∃ m, Tryz.prog.types.size = m + 1 := ⟨Tryz.prog.types.size - 1, by have := skRow; omega⟩
      have h2 : cs.size = 3 := by have := hf.2; simpa [Value.formed, Tryz.underlying146, skCells] using this
      obtain ⟨l, rfl⟩ : ∃ l : List Value, cs = l.toArray := ⟨cs.toList, rfl⟩
      have h2 : l.length = 3 := by simpa using h2
      match l, h2 with
      | [a, b, c], _ =>
        rw [hm] at h
        unfold Program.keyLits at h
        rw [Tryz.underlying146] at h
        simp only [Value.cells, skCells] at h
        obtain ⟨n, rfl⟩ : ∃ n, a = .int .i64 n := by
          obtain ⟨q, n, rfl⟩ : ∃ q n, a = .int q n := by
            cases a <;> simp [skStr1, skInt1, Program.keyLits, Tryz.underlying3] at h
            exact ⟨_, _, rfl⟩
          by_cases hq : q = .i64
          · subst hq
            exact ⟨_, rfl⟩
          · simp [Program.keyLits, skInt1, Tryz.underlying3, hq] at h
        obtain ⟨s, rfl⟩ : ∃ s, b = .string s := by
          simp [skStr1, skInt1, Program.keyLits, Tryz.underlying3] at h
          by_cases hs : (Lit.int .i64 n).wf = true
          · rw [if_pos hs] at h
            cases b <;> simp [Program.keyLits, Tryz.underlying9] at h
            exact ⟨_, rfl⟩
          · rw [if_neg hs] at h
            simp at h
        obtain ⟨k, rfl⟩ : ∃ k, c = .int .i64 k := by
          simp [skStr1, skInt1, Program.keyLits, Tryz.underlying3, Tryz.underlying9] at h
          by_cases hs : (Lit.int .i64 n).wf = true
          · rw [if_pos hs] at h
            by_cases hz : s.size ≤ maxLen
            · rw [if_pos hz] at h
              obtain ⟨q, k, rfl⟩ : ∃ q k, c = .int q k := by
                cases c <;> simp at h
                exact ⟨_, _, rfl⟩
              by_cases hq : q = .i64
              · subst hq; exact ⟨_, rfl⟩
              · simp [hq] at h
            · rw [if_neg hz] at h; simp at h
          · rw [if_neg hs] at h
            simp at h
        exact ⟨(n, (s, k)), rfl⟩
    | _ => simp [Value.formed, Tryz.underlying146] at hf
  · cases h
theorem mkT : MK Tryz.prog 109 146 3 skV inV FitK :=
  ⟨skLaw, Tryz.underlying109, sk_key, fun key kl h => sk_inv h, fun a b => skV_inj, fun a b => inV_inj⟩
theorem zeroT (w : World) : (zeroValue 3).run Tryz.prog w = .ok (inV 0) w := by kernel_rfl
abbrev MpT (w : World) (B : Nat) (L : Sl) : Prop := Mp Tryz.prog 146 skV inV FitK w B L
/-- what stood, and this too -/
def twS (S : Sl) (k : Sk) (i : Int) : Sl := if twF S k then S else S ++ [(k, i)]
set_option maxHeartbeats 4000000 in
set_option maxRecDepth 20000 in
/-- rule.stood.twice -/
theorem twice_any {w : World} {B : Nat} {S : Sl} (h : MpT w B S) (k : Sk) (hk : FitK k) (i : Int) (hl : S.length ≤ 1000000) :
    Calls Tryz.prog 53 #[.map (some B), .agg #[.int .i64 k.1, .string k.2.1, .int .i64 k.2.2], .int .i64 i] w fun e w' => e = .returned (.bool (twF S k)) ∧ MpT w' B (twS S k i) ∧ Only (· = B) w w' := by
  obtain ⟨w1, hw1⟩ : ∃ w1, w.alloc (.cells #[.int .i64 k.1, .string k.2.1, .int .i64 k.2.2] 146) = w1 := ⟨_, rfl⟩
  have hb1 : Below w.heap.size w w1 := by rw [← hw1]; exact (Below.refl _ _).alloc (Nat.le_refl _) _
  have h1 : MpT w1 B S := h.below hb1
  have hblk : w1.heap[w.heap.size]? = some (.cells #[.int .i64 k.1, .string k.2.1, .int .i64 k.2.2] 146 (0, 0)) := by rw [← hw1]; exact heap_alloc_new w _
  have x0 := cell_of (k := 0) hblk
  have x1 := cell_of (k := 1) hblk
  have x2 := cell_of (k := 2) hblk
  simp at x0 x1 x2
  have HO1 : Hid (Only (· = B) w w1) := hide (Only.below hb1)
  have HM := hide h1
  clear hb1 hblk
  cases hb : twF S k with
  | true =>
    obtain ⟨x, hx⟩ := twF_iff.1 hb
    have hlk := h1.look mkT (zeroT w1) hx true
    unfold skV inV at hlk
    have hS : twS S k i = S := by unfold twS; rw [hb]; rfl
    rw [hS]
    clear h hk hb h1
    obtain ⟨a, s, c⟩ := k
    go_enter Tryz.func53, Tryz.ntmps53
    go_wp2
    go_ret
    exact ⟨rfl, HM.out, HO1.out⟩
  | false =>
    have hno := twF_not hb
    have hlk := h1.look_not mkT (zeroT w1) hk hno true
    obtain ⟨w2, hput, hm2, ho2⟩ := h1.put mkT hk hno i hl
    unfold skV inV at hlk hput
    have hS : twS S k i = S ++ [(k, i)] := by unfold twS; rw [hb]; rfl
    rw [hS]
    have HM2 := hide hm2
    have HO2 := hide (HO1.out.trans ho2 (fun _ _ h => h))
    clear h hk hb h1 hm2 ho2
    obtain ⟨a, s, c⟩ := k
    go_enter Tryz.func53, Tryz.ntmps53
    go_wp2
    go_ret
    exact ⟨rfl, HM2.out, HO2.out⟩
end Go.Proofs.YtkpgfhapffijkaaGreatDoor
