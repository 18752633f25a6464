/- The walk of dayshiftlaw06.given: a copy of a tree. -/
import Derived.Test.YthbfjkdklnffjaaDoorCgA
namespace Go.Proofs.YthbfjkdklnffjaaDoor
open Go.ChangeShapes Go.WideShapes Go.ChangeAt Go.RowKit Go.DsMem Go.DsMk
set_option linter.unusedVariables false

theorem infoNode : (Tryd.prog.info? 31).map (fun i => (i.zero, i.size, i.bytes)) = some (some (.agg #[.int .i64 0, .slice none 0 0, .slice none 0 0, .string ⟨#[]⟩]), 4, 72) := by kernel_rfl
theorem infoI64' : (Tryd.prog.info? 2).map (fun i => (i.zero, i.size, i.bytes)) = some (some (.int .i64 0), 1, 8) := by kernel_rfl
theorem own_same4 {w w' : World} {B : Nat} {e : TypeId} {sz : Nat} {v : Value} {n : Nat} {xs : List Value} (h : w.ownsRow B e sz v n xs) (hk : ∀ k, v.ownBlock = some k → w'.heap[k]? = w.heap[k]?) : w'.ownsRow B e sz v n xs := by
  refine ⟨h.1, ?_⟩
  rcases h.2 with h0 | ⟨g, cap, cur, rfl, hb, hg, r⟩
  · exact .inl h0
  · exact .inr ⟨g, cap, cur, rfl, hb, by rw [hk g rfl]; exact hg, r⟩

/-- what given holds while it copies: its argument's box in p, the result in p + 1, the copy in p + 2; i kids are copied -/
structure GvSt (w wr : World) (p : Nat) (v : NVal) (ns : List Int) (kids : List Nd) (no : Option Addr) (nc : Nat) (uo : Option Addr) (uc i : Nat) (K : Nat → NVal) : Prop where
  box : wr.heap[p]? = some (.cells #[.int .i64 v.op, .slice v.no v.nl v.nc, .slice v.ko v.kl v.kc, .string v.nm] 26 (0, 0))
  res : wr.heap[p + 1]? = some (.cells #[.int .i64 0, .slice none 0 0, .slice none 0 0, .string ⟨#[]⟩] 31 (0, 0))
  x : wr.heap[p + 2]? = some (.cells #[.int .i64 v.op, .slice no ns.length nc, .slice uo i uc, .string v.nm] 31 (0, 0))
  nums : RdI wr (.slice no ns.length nc) ns
  numB : ∀ a, no = some a → p + 3 ≤ a.block ∧ a.block < wr.heap.size ∧ (Value.slice uo i uc).ownBlock ≠ some a.block
  row : wr.ownsRow (p + 3) 31 4 (.slice uo i uc) i (rowC K i)
  sub : ∀ j (hj : j < i) (hk : j < kids.length), NdOn (fun b => p + 3 ≤ b ∧ b < wr.heap.size ∧ (Value.slice uo i uc).ownBlock ≠ some b) wr (K j) kids[j]
  below : Below w.heap.size w wr
theorem GvSt.start {w wA w1 : World} {p : Nat} {v : NVal} {ns : List Int} {kids : List Nd} {no : Option Addr} {nc : Nat} (hp : p = w.heap.size)
    (box : wA.heap[p]? = some (.cells #[.int .i64 v.op, .slice v.no v.nl v.nc, .slice v.ko v.kl v.kc, .string v.nm] 26 (0, 0)))
    (res : wA.heap[p + 1]? = some (.cells #[.int .i64 0, .slice none 0 0, .slice none 0 0, .string ⟨#[]⟩] 31 (0, 0)))
    (x : wA.heap[p + 2]? = some (.cells #[.int .i64 v.op, .slice none 0 0, .slice none 0 0, .string v.nm] 31 (0, 0)))
    (hb : Below w.heap.size w wA) (hg : wA.grownBy w1 none) (hown : w1.ownsRow (p + 3) 2 1 (.slice no ns.length nc) ns.length (i64s ns)) :
    GvSt w (w1.setCell ⟨p + 2, 1, none⟩ (.slice no ns.length nc)) p v ns kids no nc none 0 0 (fun _ => v) := by
  have l0 := block_lt box
  have l1 := block_lt res
  have l2 := block_lt x
  have ho : Only (· = p + 2) w1 (w1.setCell ⟨p + 2, 1, none⟩ (.slice no ns.length nc)) := Only.set w1 (p + 2) 1 _
  have hsz : (w1.setCell ⟨p + 2, 1, none⟩ (.slice no ns.length nc)).heap.size = w1.heap.size := by simp [World.setCell]
  have hs := hg.size
  have hx1 : w1.heap[p + 2]? = _ := (hg.block (p + 2) l2 (by simp)).trans x
  refine ⟨?_, ?_, ?_, ?_, ?_, World.ownsRow_nil _ _ _ _, fun j hj => by omega, ?_⟩
  · rw [ho.block p (by omega) (by omega), hg.block p l0 (by simp)]; exact box
  · rw [ho.block (p + 1) (by omega) (by omega), hg.block (p + 1) l1 (by simp)]; exact res
  · exact hset_same hx1 _
  · exact rdI_on (B := fun b => p + 3 ≤ b) (RdI.own hown) (fun a ha => by subst ha; exact (hown.lt a.block rfl).1) (fun a u hB hc => ho.cell hc (by omega))
  · intro a ha
    subst ha
    have := hown.lt a.block rfl
    exact ⟨this.1, by rw [hsz]; exact this.2, by simp [Value.ownBlock]⟩
  · refine hb.trans ?_
    have hb1 : Below w.heap.size wA w1 := (Only.grown hg).toBelow hb.size (fun i hi => by cases hi)
    exact hb1.trans (ho.toBelow (Nat.le_trans hb.size hg.size) (fun i hi => by omega))
theorem GvSt.step {w wr w1 w2 : World} {p : Nat} {v v1 : NVal} {ns : List Int} {kids : List Nd} {no : Option Addr} {nc : Nat} {uo : Option Addr} {uc i g cap : Nat} {K : Nat → NVal} (hp : p = w.heap.size)
    (h : GvSt w wr p v ns kids no nc uo uc i K) (hi : i < kids.length) (hb1 : Below wr.heap.size wr w1) (hon : NdOn (fun b => wr.heap.size ≤ b ∧ b < w1.heap.size) w1 v1 kids[i]) (o : Obj)
    (hown : w2.ownsRow (p + 3) 31 4 (.slice (some ⟨g, 0, none⟩) (i + 1) cap) (i + 1) (rowC K i ++ nvC v1)) (hgr : (w1.alloc o).grownBy w2 (Value.slice uo i uc).ownBlock)
    (hat : (Value.slice uo i uc).ownBlock = some g ∨ g = w1.heap.size + 1) :
    GvSt w (w2.setCell ⟨p + 2, 2, none⟩ (.slice (some ⟨g, 0, none⟩) (i + 1) cap)) p v ns kids no nc (some ⟨g, 0, none⟩) cap (i + 1) (fun j => if j = i then v1 else K j) := by
  have l0 := block_lt h.box
  have l1 := block_lt h.res
  have l2 := block_lt h.x
  have hs1 := hb1.size
  have hsA : (w1.alloc o).heap.size = w1.heap.size + 1 := by simp
  have hs2 := hgr.size
  have ho : Only (· = p + 2) w2 (w2.setCell ⟨p + 2, 2, none⟩ (.slice (some ⟨g, 0, none⟩) (i + 1) cap)) := Only.set w2 (p + 2) 2 _
  have hsz : (w2.setCell ⟨p + 2, 2, none⟩ (.slice (some ⟨g, 0, none⟩) (i + 1) cap)).heap.size = w2.heap.size := by simp [World.setCell]
  have hrow : ∀ k, (Value.slice uo i uc).ownBlock = some k → p + 3 ≤ k ∧ k < wr.heap.size := h.row.lt
  have hA : Only (fun k => (Value.slice uo i uc).ownBlock = some k) w1 w2 := (Only.alloc _ w1 o).trans (Only.grown hgr) (fun i _ hi => hi)
  have hB : Only (fun k => (Value.slice uo i uc).ownBlock = some k) wr w2 := (Only.below hb1).trans hA (fun i _ hi => hi)
  have hC : Only (fun k => (Value.slice uo i uc).ownBlock = some k ∨ k = p + 2) wr (w2.setCell ⟨p + 2, 2, none⟩ (.slice (some ⟨g, 0, none⟩) (i + 1) cap)) :=
    (hB.mono (fun i _ hi => .inl hi)).trans ho (fun i _ hi => .inr hi)
  have hD : Only (fun k => (Value.slice uo i uc).ownBlock = some k ∨ k = p + 2) w1 (w2.setCell ⟨p + 2, 2, none⟩ (.slice (some ⟨g, 0, none⟩) (i + 1) cap)) :=
    (hA.mono (fun i _ hi => .inl hi)).trans ho (fun i _ hi => .inr hi)
  have hx2 : w2.heap[p + 2]? = _ := (hB.block (p + 2) l2 (fun e => by have := hrow _ e; omega)).trans h.x
  have hgl := hown.lt g rfl
  refine ⟨?_, ?_, ?_, ?_, ?_, ?_, ?_, ?_⟩
  · rw [hC.block p l0 (by rintro (e | e) <;> first | (have := hrow _ e; omega) | omega)]; exact h.box
  · rw [hC.block (p + 1) l1 (by rintro (e | e) <;> first | (have := hrow _ e; omega) | omega)]; exact h.res
  · exact hset_same hx2 _
  · exact rdI_on (B := fun b => p + 3 ≤ b ∧ b < wr.heap.size ∧ (Value.slice uo i uc).ownBlock ≠ some b) h.nums h.numB (fun a u hB' hc => hC.cell hc (by rintro (e | e) <;> first | exact hB'.2.2 e | omega))
  · intro a ha
    obtain ⟨q1, q2, q3⟩ := h.numB a ha
    refine ⟨q1, by rw [hsz]; omega, ?_⟩
    show some g ≠ some a.block
    intro e
    obtain rfl := Option.some.inj e
    rcases hat with c | c
    · exact q3 c
    · omega
  · have : rowC (fun j => if j = i then v1 else K j) (i + 1) = rowC K i ++ nvC v1 := by
      rw [rowC, rowC_cong i (K' := K) (fun j hj => if_neg (by omega))]; simp
    rw [this]
    exact own_same4 hown (fun k hk => ho.block k (hown.lt k hk).2 (by have := (hown.lt k hk).1; omega))
  · intro j hj hk
    by_cases e : j = i
    · subst e
      simp only [if_true]
      refine hon.mono (fun b hb => ⟨by omega, by rw [hsz]; omega, ?_⟩) (fun a u hB' hc => hD.cell hc (by rintro (e | e) <;> first | (have := hrow _ e; omega) | omega))
      show some g ≠ some b
      intro e
      obtain rfl := Option.some.inj e
      rcases hat with c | c
      · have := hrow _ c; omega
      · omega
    · simp only [if_neg e]
      refine (h.sub j (by omega) hk).mono (fun b hb => ⟨hb.1, by rw [hsz]; omega, ?_⟩) (fun a u hB' hc => hC.cell hc (by rintro (e | e) <;> first | exact hB'.2.2 e | omega))
      show some g ≠ some b
      intro e
      obtain rfl := Option.some.inj e
      rcases hat with c | c
      · exact hb.2.2 c
      · omega
  · exact h.below.trans (hC.toBelow h.below.size (fun k hk => by rcases hk with e | e <;> first | (have := hrow _ e; omega) | omega))
theorem GvSt.finish {w wr w' : World} {p : Nat} {v : NVal} {ns : List Int} {kids : List Nd} {no : Option Addr} {nc : Nat} {uo : Option Addr} {uc : Nat} {K : Nat → NVal} (hp : p = w.heap.size)
    (h : GvSt w wr p v ns kids no nc uo uc kids.length K) (hn : ns.length ≤ 17592186043904) (hk : kids.length ≤ 17592186043904) (ho : Only (· = p + 1) wr w') :
    NdOn (fun b => w.heap.size ≤ b ∧ b < w'.heap.size) w' ⟨v.op, no, ns.length, nc, uo, kids.length, uc, v.nm⟩ (.mk v.op ns kids v.nm) := by
  have hs := ho.size
  have hkc : kids.length ≤ uc := by
    rcases h.row.2 with ⟨e, e0⟩ | ⟨g, cap, cur, e, _, _, hc, _⟩
    · omega
    · simp only [Value.slice.injEq] at e; omega
  have hkeep : ∀ a u, (p + 3 ≤ a.block ∧ a.block < wr.heap.size ∧ (Value.slice uo kids.length uc).ownBlock ≠ some a.block) → wr.cell? a = some u → w'.cell? a = some u := fun a u hB hc => ho.cell hc (by omega)
  have hin : ∀ b, (p + 3 ≤ b ∧ b < wr.heap.size ∧ (Value.slice uo kids.length uc).ownBlock ≠ some b) → w.heap.size ≤ b ∧ b < w'.heap.size := fun b hb => by omega
  rcases h.row.2 with ⟨e, e0⟩ | ⟨g, cap, cur, e, hg1, hg2, hc, _⟩
  · exact .mk _ _ _ _ _ _ _ _ 0 K (rdI_on (B := fun b => p + 3 ≤ b ∧ b < wr.heap.size ∧ (Value.slice uo kids.length uc).ownBlock ≠ some b) h.nums h.numB hkeep) (fun a ha => hin _ (h.numB a ha)) hn hk hkc (fun h0 => by omega) (fun h0 => by omega) (fun j hj => by omega) (fun j hj => by omega)
  · simp only [Value.slice.injEq] at e
    obtain ⟨rfl, -, rfl⟩ := e
    have hlt := h.row.lt g rfl
    refine .mk _ _ _ _ _ _ _ _ g K (rdI_on (B := fun b => p + 3 ≤ b ∧ b < wr.heap.size ∧ (Value.slice (some ⟨g, 0, none⟩) kids.length uc).ownBlock ≠ some b) h.nums h.numB hkeep) (fun a ha => hin _ (h.numB a ha)) hn hk hkc (fun _ => rfl) (fun _ => by omega) (fun j hj => ?_) (fun j hj => (h.sub j hj hj).mono hin hkeep)
    have := rowN h.row j hj
    exact ⟨ho.cell this.c0 (by show ¬ g = p + 1; omega), ho.cell this.c1 (by show ¬ g = p + 1; omega), ho.cell this.c2 (by show ¬ g = p + 1; omega), ho.cell this.c3 (by show ¬ g = p + 1; omega)⟩
end Go.Proofs.YthbfjkdklnffjaaDoor
