/- Package pool: values, maps, a pool in memory. -/
import Derived.Test.YtkpambipgcjaiaaPlA
import Derived.Test.YtkpambipgcjaiaaProg
import Derived.DeepKeys4
import Derived.Carry
import Derived.Maps.StringElems
import Derived.Sort.MapsRangeIn
namespace Go.Proofs.Ytkpambipgcjaiaa
open Go.ChangeShapes Go.WideShapes Go.ChangeAt Go.RowKit Go.DsMem Go.DsCo Go.DsPl Go.DsMap
set_option linter.unusedVariables false
set_option linter.unusedSimpArgs false
abbrev FitN (s : ByteArray) : Prop := s.size ≤ 140737488355000
def kdV : Kd → Value
  | .units n => .iface 93 (.agg #[.int .i64 n])
  | .lock => .iface 123 (.agg #[])
def shV (s : Sh) : Value := .agg #[.int .i64 s.1, .int .i64 s.2]
def usV (u : Us) : Value := .agg #[.int .i64 u.1, .int .i64 u.2.1, .int .i64 u.2.2]
def hkV (h : Hk) : Value := .agg #[.int .i64 h.1, .string h.2]
def neV (n : Ne) : Value := .agg #[.string n.nm, .int .i64 n.n, .int .i64 n.md]
def FitH (h : Hk) : Prop := h.2.size ≤ 140737488355000 ∧ -9223372036854775808 ≤ h.1 ∧ h.1 ≤ 9223372036854775807
theorem kdV_inj {a b : Kd} (h : kdV a = kdV b) : a = b := by
  cases a <;> cases b <;> simp [kdV] at h <;> simp [h]
theorem shV_inj {a b : Sh} (h : shV a = shV b) : a = b := by
  unfold shV at h; simp at h; exact Prod.ext h.1 h.2
theorem usV_inj {a b : Us} (h : usV a = usV b) : a = b := by
  unfold usV at h; simp at h; exact Prod.ext h.1 (Prod.ext h.2.1 h.2.2)
theorem hkV_inj {a b : Hk} (h : hkV a = hkV b) : a = b := by
  unfold hkV at h; simp at h; exact Prod.ext h.1 h.2
theorem strKeyed : Maps.Keyed Try.prog 9 := Maps.string_keyed Try.underlying9
theorem str_key (s : ByteArray) (h : FitN s) : ∃ kl, keyOf Try.prog 9 (.string s) = some kl := ⟨_, WideMaps.keyOf_string_mk Try.underlying9 (by unfold maxLen; unfold FitN at h; omega)⟩
theorem str_inj (a b : ByteArray) (h : Value.string a = Value.string b) : a = b := by simpa using h
theorem mkK : MK Try.prog 73 9 78 (fun s : ByteArray => Value.string s) kdV FitN :=
  ⟨strKeyed, Try.underlying73, str_key, fun key kl h => Maps.keyOf_string_inv Try.underlying9 h, str_inj, fun a b => kdV_inj⟩
theorem mkU : MK Try.prog 99 9 98 (fun s : ByteArray => Value.string s) usV FitN :=
  ⟨strKeyed, Try.underlying99, str_key, fun key kl h => Maps.keyOf_string_inv Try.underlying9 h, str_inj, fun a b => usV_inj⟩
theorem mkA : MK Try.prog 132 9 122 (fun s : ByteArray => Value.string s) (fun _ : Unit => Value.agg #[]) FitN :=
  ⟨strKeyed, Try.underlying132, str_key, fun key kl h => Maps.keyOf_string_inv Try.underlying9 h, str_inj, fun a b _ => rfl⟩
theorem laidOutH : laidOutB Try.prog = true := by kernel_rfl
theorem hkRow : 85 < Try.prog.types.size := of_decide_eq_true (by kernel_rfl)
theorem hkLaw : Maps.Keyed Try.prog 85 := Maps.Keyed.of_law (deep_law_laid laidOutH (m := 4) (by decide) hkRow (by kernel_rfl) (by kernel_rfl))
theorem hkType : Try.prog.keyType 85 = true := by kernel_rfl
theorem hkCells : Try.prog.cellsOf 85 = 2 := by kernel_rfl
theorem cStr1 : Try.prog.cellsOf 9 = 1 := by kernel_rfl
theorem cInt1 : Try.prog.cellsOf 2 = 1 := by kernel_rfl
set_option maxRecDepth 20000 in
theorem hk_key (h : Hk) (hf : FitH h) : ∃ kl, keyOf Try.prog 85 (hkV h) = some kl := by
  obtain ⟨h0, h1, h2⟩ := hf
  have w1 : (Lit.int .i64 h.1).wf = true := WalkArith.wf_i64 ⟨h1, h2⟩
  have w2 : h.2.size ≤ maxLen := by unfold maxLen; omega
  unfold keyOf hkV
  rw [Try.underlying85]
  simp only
  rw [if_pos (by rw [hkType]; simp [Value.formed, Try.underlying85, hkCells])]
  have hsz : ∃ m, Try.prog.types.size = m + 1 := ⟨Try.prog.types.size - 1, by have := hkRow; omega⟩
  obtain ⟨m, hm⟩ := hsz
  rw [hm]
  unfold Program.keyLits
  rw [Try.underlying85]
  simp [Value.cells, hkCells, Program.keyLits, Try.underlying9, Try.underlying2, cStr1, cInt1, w1, w2]
set_option maxRecDepth 20000 in
theorem hk_inv {key : Value} {kl : Lit} (h : keyOf Try.prog 85 key = some kl) : ∃ c : Hk, key = hkV c := by
  unfold keyOf at h
  rw [Try.underlying85] at h
  simp only at h
  split at h
  · rename_i hf
    rw [Bool.and_eq_true] at hf
    cases key with
    | agg cs =>
      obtain ⟨m, hm⟩ : ∃ m, Try.prog.types.size = m + 1 := ⟨Try.prog.types.size - 1, by have := hkRow; omega⟩
      have h2 : cs.size = 2 := by have := hf.2; simpa [Value.formed, Try.underlying85, hkCells] using this
      obtain ⟨l, rfl⟩ : ∃ l : List Value, cs = l.toArray := ⟨cs.toList, rfl⟩
      have h2 : l.length = 2 := by simpa using h2
      match l, h2 with
      | [a, b], _ =>
        rw [hm] at h
        unfold Program.keyLits at h
        rw [Try.underlying85] at h
        simp only [Value.cells, hkCells] at h
        obtain ⟨n, rfl⟩ : ∃ n, a = .int .i64 n := by
          obtain ⟨q, n, rfl⟩ : ∃ q n, a = .int q n := by
            cases a <;> simp [cStr1, cInt1, Program.keyLits, Try.underlying2] at h
            exact ⟨_, _, rfl⟩
          by_cases hq : q = .i64
          · subst hq
            exact ⟨_, rfl⟩
          · simp [Program.keyLits, cInt1, Try.underlying2, hq] at h
        obtain ⟨s, rfl⟩ : ∃ s, b = .string s := by
          simp [cStr1, cInt1, Program.keyLits, Try.underlying2] at h
          by_cases hs : (Lit.int .i64 n).wf = true
          · rw [if_pos hs] at h
            cases b <;> simp [Program.keyLits, Try.underlying9] at h
            exact ⟨_, rfl⟩
          · rw [if_neg hs] at h
            cases h
        exact ⟨(n, s), rfl⟩
    | _ => simp [Value.formed, Try.underlying85] at hf
  · cases h
theorem mkH : MK Try.prog 74 85 87 hkV shV FitH :=
  ⟨hkLaw, Try.underlying74, hk_key, fun key kl h => hk_inv h, fun a b => hkV_inj, fun a b => shV_inj⟩
theorem zeroK (w : World) : (zeroValue 78).run Try.prog w = .ok .nilIface w := by kernel_rfl
theorem zeroU (w : World) : (zeroValue 98).run Try.prog w = .ok (usV (0, 0, 0)) w := by kernel_rfl
theorem zeroS (w : World) : (zeroValue 87).run Try.prog w = .ok (shV (0, 0)) w := by kernel_rfl
theorem zeroE (w : World) : (zeroValue 122).run Try.prog w = .ok (.agg #[]) w := by kernel_rfl
abbrev MpK (w : World) (B : Nat) (L : List Rk) : Prop := Mp Try.prog 9 (fun s : ByteArray => Value.string s) kdV FitN w B L
abbrev MpH (w : World) (B : Nat) (L : List Hd) : Prop := Mp Try.prog 85 hkV shV FitH w B L
abbrev MpU (w : World) (B : Nat) (L : List (ByteArray × Us)) : Prop := Mp Try.prog 9 (fun s : ByteArray => Value.string s) usV FitN w B L
abbrev MpS (w : World) (B : Nat) (L : List (ByteArray × Unit)) : Prop := Mp Try.prog 9 (fun s : ByteArray => Value.string s) (fun _ : Unit => Value.agg #[]) FitN w B L
def ptr (p : Nat) : Value := .pointer (some ⟨p, 0, none⟩)
/-- a pool in block p, its maps in a and b -/
structure PoAt (w : World) (p a b : Nat) (R : List Rk) (H : List Hd) : Prop where
  blk : w.heap[p]? = some (.cells #[.map (some a), .map (some b)] 76 (0, 0))
  mks : MpK w a R
  mhs : MpH w b H
  ab : a ≠ b
  fine : FineP R H
theorem PoAt.pa {w : World} {p a b : Nat} {R : List Rk} {H : List Hd} (h : PoAt w p a b R H) : p ≠ a := fun e => by
  obtain ⟨es, clock, hm⟩ := h.mks.map
  have := h.blk
  rw [e, hm] at this; cases this
theorem PoAt.pb {w : World} {p a b : Nat} {R : List Rk} {H : List Hd} (h : PoAt w p a b R H) : p ≠ b := fun e => by
  obtain ⟨es, clock, hm⟩ := h.mhs.map
  have := h.blk
  rw [e, hm] at this; cases this
theorem PoAt.lt {w : World} {p a b : Nat} {R : List Rk} {H : List Hd} (h : PoAt w p a b R H) : p < w.heap.size ∧ a < w.heap.size ∧ b < w.heap.size := ⟨block_lt h.blk, h.mks.lt, h.mhs.lt⟩
theorem PoAt.only {T : Nat → Prop} {w w' : World} {p a b : Nat} {R : List Rk} {H : List Hd} (h : PoAt w p a b R H) (ho : Only T w w') (h1 : ¬ T p) (h2 : ¬ T a) (h3 : ¬ T b) : PoAt w' p a b R H :=
  ⟨by rw [ho.block p h.lt.1 h1]; exact h.blk, h.mks.only ho h2, h.mhs.only ho h3, h.ab, h.fine⟩
theorem PoAt.below {w w' : World} {p a b : Nat} {R : List Rk} {H : List Hd} (h : PoAt w p a b R H) (hb : Below w.heap.size w w') : PoAt w' p a b R H :=
  ⟨by rw [hb.block p h.lt.1]; exact h.blk, h.mks.below hb, h.mhs.below hb, h.ab, h.fine⟩
theorem PoAt.drew {w : World} {p a b : Nat} {R : List Rk} {H : List Hd} (h : PoAt w p a b R H) : PoAt w.drew p a b R H := ⟨h.blk, h.mks.drew, h.mhs.drew, h.ab, h.fine⟩
theorem PoAt.c0 {w : World} {p a b : Nat} {R : List Rk} {H : List Hd} (h : PoAt w p a b R H) : w.cell? ⟨p, 0, none⟩ = some (.map (some a)) := by rw [cell_of h.blk]; rfl
theorem PoAt.c1 {w : World} {p a b : Nat} {R : List Rk} {H : List Hd} (h : PoAt w p a b R H) : w.cell? ⟨p, 1, none⟩ = some (.map (some b)) := by rw [cell_of h.blk]; rfl
/-- a kind looked up -/
theorem lookK {w : World} {a : Nat} {R : List Rk} (h : MpK w a R) (nm : ByteArray) (hn : FitN nm) (c : Bool) : (Instr.lookup 73 (.map (some a)) (.string nm) c).run Try.prog w = .ok (if c then .tuple #[((findK R nm).map kdV).getD .nilIface, .bool (findK R nm).isSome] else ((findK R nm).map kdV).getD .nilIface) w := by
  cases hk : findK R nm with
  | none => exact h.look_not mkK (zeroK w) hn (findK_none hk) c
  | some k => exact h.look mkK (zeroK w) (findK_in hk) c
end Go.Proofs.Ytkpambipgcjaiaa
