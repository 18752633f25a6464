/- Law PoolSafe of layer 13. Written by gen_pmf.py. -/
import Derived.Test.YtkpambipgcjaiaaPmD
import Derived.Test.YtkpambipgcjaiaaPmE
import Derived.BigQuiet
namespace Go.Proofs.Ytkpambipgcjaiaa
open Go.ChangeShapes Go.WideShapes Go.ChangeAt Go.RowKit Go.DsMem Go.DsCo Go.DsPl Go.DsMap
set_option linter.unusedVariables false
set_option linter.unusedSimpArgs false
theorem str_neP {y x : ByteArray} (h : ¬ y = x) : (y.toList == x.toList) = false := by
  rw [Lib.toList_data, Lib.toList_data]
  cases hb : y.data.toList == x.data.toList with
  | false => rfl
  | true => exact absurd (nm_of_k (by simpa using hb)) h
theorem below_drewNP (w : World) (n : Nat) : Below w.heap.size w (w.drewN n) := ⟨rfl, rfl, rfl, Nat.le_refl _, fun _ _ => rfl⟩
theorem HdRow.cell {w : World} {b g cap : Nat} {l : List Hd} (h : HdRow w b g cap l) (i k : Nat) (hi : i < l.length) (hk : k < 4) : w.cell? ⟨g, i * 4 + k, none⟩ = (encH l[i])[k]? := by
  obtain ⟨cur, hg, hb, h1, h2, h3, h4⟩ := h.block
  have hlt : i * 4 + k < l.length * 4 := by omega
  rw [cell_of hg]
  have e : cur[i * 4 + k]? = (cur.toList.take (l.length * 4))[i * 4 + k]? := by
    rw [List.getElem?_take, if_pos hlt]; simp
  rw [e, h4, hdRows_get l _ hlt, show (i * 4 + k) / 4 = i by omega, show (i * 4 + k) % 4 = k by omega, getElem!_pos l i hi]
end Go.Proofs.Ytkpambipgcjaiaa
