/- Law PoolGives of layer 13. -/
import Derived.Test.YtkpambipgcjaiaaPmC
namespace Go.Proofs.Ytkpambipgcjaiaa
open Go.ChangeShapes Go.WideShapes Go.ChangeAt Go.RowKit Go.DsMem Go.DsCo Go.DsPl Go.DsMap
set_option linter.unusedVariables false
set_option linter.unusedSimpArgs false
theorem freeF_nil (R : List Rk) (nm : ByteArray) : freeF R [] nm = unitsF R nm := by
  unfold freeF unitsF
  cases findK R nm with
  | none => rfl
  | some k => cases k with
    | lock => rfl
    | units n => simp [useF]
theorem take_own {R : List Rk} {H : List Hd} {o : Int} {l : List Ne} {P : Int → Prop} (h : ∀ x ∈ H, P x.1.1) (ho : P o) : ∀ x ∈ (takeF R H o l).1, P x.1.1 := by
  have hl : ∀ (l : List Ne) (H : List Hd), (∀ x ∈ H, P x.1.1) → ∀ x ∈ takeL R o H l, P x.1.1 := by
    intro l
    induction l with
    | nil => exact fun H h => h
    | cons n r ih =>
      intro H h
      refine ih _ (fun x hx => ?_)
      rcases mem_insH.1 hx with rfl | hx
      · exact ho
      · exact h x hx
  unfold takeF
  split
  · exact h
  · exact hl l H h
theorem give_own {H : List Hd} {o : Int} {P : Int → Prop} (h : ∀ x ∈ H, x.1.1 = o ∨ P x.1.1) : ∀ x ∈ giveF H o, P x.1.1 := fun x hx => by
  obtain ⟨hm, hn⟩ := List.mem_filter.1 hx
  rcases h x hm with e | e
  · simp at hn; exact absurd e hn
  · exact e
theorem give_len (H : List Hd) (o : Int) : (giveF H o).length ≤ H.length := List.length_filter_le _ _
end Go.Proofs.Ytkpambipgcjaiaa
