/- Package cal: calendars, where they lie; Find. -/
import Derived.Test.YthbfjkdklnffjaaDoorCdA
namespace Go.Proofs.YthbfjkdklnffjaaDoor
open Go.ChangeShapes Go.WideShapes Go.ChangeAt Go.RowKit Go.DsMem Go.DsMk
set_option linter.unusedVariables false

/-- the slice (co, its length, cc) is these calendars -/
structure CalsAt (w : World) (co : Option Addr) (cc : Nat) (cs : List (ByteArray × Nd)) (g o : Nat) (V : Nat → NVal) : Prop where
  len : cs.length ≤ 17592186043904
  cap : cs.length ≤ cc
  at_ : 0 < cs.length → co = some ⟨g, o, none⟩
  name : ∀ j (hj : j < cs.length), w.cell? ⟨g, o + j * 5, none⟩ = some (.string cs[j].1)
  cell : ∀ j, j < cs.length → NIn w g (o + j * 5 + 1) (V j)
  node : ∀ j (hj : j < cs.length), NdAt w (V j) cs[j].2
theorem CalsAt.grew {w w' : World} {co : Option Addr} {cc : Nat} {cs : List (ByteArray × Nd)} {g o : Nat} {V : Nat → NVal} (h : CalsAt w co cc cs g o V) (hb : Below w.heap.size w w') : CalsAt w' co cc cs g o V :=
  ⟨h.len, h.cap, h.at_, fun j hj => Below.keeps hb (Nat.le_refl _) (h.name j hj), fun j hj => (h.cell j hj).mono fun _ _ hc => Below.keeps hb (Nat.le_refl _) hc, fun j hj => (h.node j hj).grew hb⟩

/-- the place of the first calendar with a name; their number, if there is none -/
def fiC (cs : List (ByteArray × Nd)) (nm : ByteArray) : Nat := cs.findIdx fun c => c.1.toList == nm.toList
def fiV (cs : List (ByteArray × Nd)) (nm : ByteArray) : Int := if fiC cs nm < cs.length then (fiC cs nm : Int) else -1
theorem fiC_le (cs : List (ByteArray × Nd)) (nm : ByteArray) : fiC cs nm ≤ cs.length := List.findIdx_le_length
theorem fiV_at {cs : List (ByteArray × Nd)} {nm : ByteArray} {i : Nat} (hi : i < cs.length) (h1 : (cs[i].1.toList == nm.toList) = true) (h2 : ∀ j (hj : j < cs.length), j < i → (cs[j].1.toList == nm.toList) = false) : fiV cs nm = i := by
  have : fiC cs nm = i := (List.findIdx_eq hi).2 ⟨h1, fun j hj => h2 j (by omega) hj⟩
  unfold fiV; rw [this, if_pos hi]
theorem fiV_none {cs : List (ByteArray × Nd)} {nm : ByteArray} (h2 : ∀ j (hj : j < cs.length), (cs[j].1.toList == nm.toList) = false) : fiV cs nm = -1 := by
  have : fiC cs nm = cs.length := by
    unfold fiC; rw [List.findIdx_eq_length]
    intro x hx
    obtain ⟨j, hj, rfl⟩ := List.getElem_of_mem hx
    exact h2 j hj
  unfold fiV; rw [this, if_neg (by omega)]

set_option maxHeartbeats 4000000 in
set_option maxRecDepth 20000 in
/-- cal.Find -/
theorem Gc.find {W w : World} (h : Gc W w) (co : Option Addr) (cc : Nat) (cs : List (ByteArray × Nd)) (g o : Nat) (V : Nat → NVal) (hc : CalsAt w co cc cs g o V) (nm : ByteArray) :
    Calls Tryd.prog 49 #[.slice co cs.length cc, .string nm] w fun e w' => e = .returned (.int .i64 (fiV cs nm)) ∧ Gc W w' := by
  have HG := hide h
  have HC := hide hc
  have hlen := hc.len
  clear h hc
  go_enter Tryd.func49, Tryd.ntmps49
  go_wp2
  go_loopw [9] (fun t wr => ∃ i : Nat, i ≤ cs.length ∧ t = .int .i64 i ∧ (∀ j (hj : j < cs.length), j < i → (cs[j].1.toList == nm.toList) = false) ∧ Gc w wr) (fun t _ => cs.length - (intOf t).toNat)
  case atStart => exact ⟨0, Nat.zero_le _, rfl, fun j _ hj => by omega, HG.out.here⟩
  case round =>
    obtain ⟨i, hi, rfl, hall, hg⟩ := hrel
    have HA := hide hall
    have HGr := hide hg
    clear hall hg
    by_cases hlt : i < cs.length
    · obtain rfl := HC.out.at_ (by omega)
      have HCr := hide (HC.out.grew HGr.out.below)
      have k := HCr.out.name i hlt
      obtain ⟨k0, k1, k2, k3⟩ := HCr.out.cell i hlt
      generalize V i = kv at *
      obtain ⟨b, hb⟩ : ∃ b, (cs[i].1.toList == nm.toList) = b := ⟨_, rfl⟩
      have HB := hide hb
      have HS : Hid ((cs[i].1.toList == nm.toList) = false → ∀ j (hj : j < cs.length), j < i + 1 → (cs[j].1.toList == nm.toList) = false) := fun hq j hj hji => by
        by_cases e : j = i
        · subst e; exact hq
        · exact HA.out j hj (by omega)
      have HE : Hid ((cs[i].1.toList == nm.toList) = true → fiV cs nm = i) := fun hq => fiV_at hlt hq HA.out
      generalize cs[i].1 = cn at *
      cases b
      · go_wp2
        go_roundw
        case rel => exact ⟨i + 1, by omega, by go_num, HS.out HB.out, HGr.out.alloc _⟩
        case measure => simp [intOf]; omega
      · go_wp2
        go_ret
        exact ⟨ret_int (by rw [HE.out HB.out]), (HG.out.more HGr.out.below).alloc _⟩
    · have HE : Hid (fiV cs nm = -1) := fiV_none fun j hj => HA.out j hj (by omega)
      go_wp2
      go_ret
      exact ⟨ret_int (by rw [HE.out]), HG.out.more HGr.out.below⟩
end Go.Proofs.YthbfjkdklnffjaaDoor
