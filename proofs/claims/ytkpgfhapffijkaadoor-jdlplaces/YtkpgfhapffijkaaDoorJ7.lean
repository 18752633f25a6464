/- Some parts of the proof, one behind the other. -/
import Derived.Test.YtkpgfhapffijkaaDoorJ6
import Derived.Deep.AppendLies
/- Nodes as trees, where they lie (out of CdA and CgA, for seats without package cal). -/
namespace Go.DsMk
/-- a node -/
inductive Nd where
  | mk (op : Int) (ns : List Int) (kids : List Nd) (name : ByteArray)
def Nd.op : Nd → Int | .mk o _ _ _ => o
def Nd.ns : Nd → List Int | .mk _ n _ _ => n
def Nd.kids : Nd → List Nd | .mk _ _ k _ => k
def Nd.name : Nd → ByteArray | .mk _ _ _ n => n
end Go.DsMk
namespace Go.Proofs.YtkpgfhapffijkaaDoor
open Go.ChangeShapes Go.WideShapes Go.ChangeAt Go.RowKit Go.DsMem Go.DsMk
set_option linter.unusedVariables false

def ndV (op : Int) (no : Option Addr) (nl nc : Nat) (ko : Option Addr) (kl kc : Nat) (nm : ByteArray) : Value := .agg #[.int .i64 op, .slice no nl nc, .slice ko kl kc, .string nm]
/-- a node's value -/
structure NVal where
  op : Int
  no : Option Addr
  nl : Nat
  nc : Nat
  ko : Option Addr
  kl : Nat
  kc : Nat
  nm : ByteArray
def NVal.val (v : NVal) : Value := ndV v.op v.no v.nl v.nc v.ko v.kl v.kc v.nm
/-- the node's value lies at this place -/
structure NIn (w : World) (g o : Nat) (v : NVal) : Prop where
  c0 : w.cell? ⟨g, o, none⟩ = some (.int .i64 v.op)
  c1 : w.cell? ⟨g, o + 1, none⟩ = some (.slice v.no v.nl v.nc)
  c2 : w.cell? ⟨g, o + 2, none⟩ = some (.slice v.ko v.kl v.kc)
  c3 : w.cell? ⟨g, o + 3, none⟩ = some (.string v.nm)
theorem NIn.mono {w w' : World} {g o : Nat} {v : NVal} (h : NIn w g o v) (hc : ∀ a u, w.cell? a = some u → w'.cell? a = some u) : NIn w' g o v := ⟨hc _ _ h.c0, hc _ _ h.c1, hc _ _ h.c2, hc _ _ h.c3⟩
/-- the value v reads as the node t -/
inductive NdAt (w : World) : NVal → Nd → Prop
  | mk (op : Int) (ns : List Int) (kids : List Nd) (nm : ByteArray) (no : Option Addr) (nc : Nat) (ko : Option Addr) (kc : Nat) (g o : Nat) (K : Nat → NVal)
      (hn : RdI w (.slice no ns.length nc) ns) (hnl : ns.length ≤ 17592186043904) (hkl : kids.length ≤ 17592186043904) (hkc : kids.length ≤ kc) (hko : 0 < kids.length → ko = some ⟨g, o, none⟩)
      (hc : ∀ j, j < kids.length → NIn w g (o + j * 4) (K j)) (hk : ∀ j (hj : j < kids.length), NdAt w (K j) kids[j]) :
      NdAt w ⟨op, no, ns.length, nc, ko, kids.length, kc, nm⟩ (.mk op ns kids nm)
theorem NdAt.mono {w w' : World} (hc : ∀ a u, w.cell? a = some u → w'.cell? a = some u) {v : NVal} {t : Nd} (h : NdAt w v t) : NdAt w' v t := by
  induction h with
  | mk op ns kids nm no nc ko kc g o K hn hnl hkl hkc hko hcs _ ih => exact .mk op ns kids nm no nc ko kc g o K (hn.mono hc) hnl hkl hkc hko (fun j hj => (hcs j hj).mono hc) ih
theorem NdAt.grew {w w' : World} {v : NVal} {t : Nd} (h : NdAt w v t) (hb : Below w.heap.size w w') : NdAt w' v t := h.mono fun _ _ hc => Below.keeps hb (Nat.le_refl _) hc
theorem add_block (a : Addr) (j : Nat) : (a.add j).block = a.block := by unfold Addr.add; split <;> rfl
/-- v reads as t, all of it in blocks of B -/
inductive NdOn (B : Nat → Prop) (w : World) : NVal → Nd → Prop
  | mk (op : Int) (ns : List Int) (kids : List Nd) (nm : ByteArray) (no : Option Addr) (nc : Nat) (ko : Option Addr) (kc : Nat) (g : Nat) (K : Nat → NVal)
      (hn : RdI w (.slice no ns.length nc) ns) (hnB : ∀ a, no = some a → B a.block) (hnl : ns.length ≤ 17592186043904) (hkl : kids.length ≤ 17592186043904) (hkc : kids.length ≤ kc)
      (hko : 0 < kids.length → ko = some ⟨g, 0, none⟩) (hkB : 0 < kids.length → B g)
      (hc : ∀ j, j < kids.length → NIn w g (0 + j * 4) (K j)) (hk : ∀ j (hj : j < kids.length), NdOn B w (K j) kids[j]) :
      NdOn B w ⟨op, no, ns.length, nc, ko, kids.length, kc, nm⟩ (.mk op ns kids nm)
theorem NdOn.at_ {B : Nat → Prop} {w : World} {v : NVal} {t : Nd} (h : NdOn B w v t) : NdAt w v t := by
  induction h with
  | mk op ns kids nm no nc ko kc g K hn hnB hnl hkl hkc hko hkB hc _ ih => exact .mk op ns kids nm no nc ko kc g 0 K hn hnl hkl hkc hko hc ih
theorem rdI_on {w w' : World} {no : Option Addr} {n c : Nat} {l : List Int} {B : Nat → Prop} (h : RdI w (.slice no n c) l) (hB : ∀ a, no = some a → B a.block) (hc : ∀ a u, B a.block → w.cell? a = some u → w'.cell? a = some u) : RdI w' (.slice no n c) l := by
  obtain ⟨ao, cap, hs, hl, hn, hr⟩ := h
  refine ⟨ao, cap, hs, hl, hn, fun a ha j u hu => hc _ _ ?_ (hr a ha j u hu)⟩
  rw [add_block]
  simp only [Value.slice.injEq] at hs
  exact hB a (by rw [hs.1, ha])
theorem NdOn.mono {B B' : Nat → Prop} {w w' : World} (hB : ∀ b, B b → B' b) (hc : ∀ a u, B a.block → w.cell? a = some u → w'.cell? a = some u) {v : NVal} {t : Nd} (h : NdOn B w v t) : NdOn B' w' v t := by
  induction h with
  | mk op ns kids nm no nc ko kc g K hn hnB hnl hkl hkc hko hkB hcs _ ih =>
    exact .mk op ns kids nm no nc ko kc g K (rdI_on hn hnB hc) (fun a ha => hB _ (hnB a ha)) hnl hkl hkc hko (fun h0 => hB _ (hkB h0))
      (fun j hj => by
        have hb := hkB (by omega)
        have := hcs j hj
        exact ⟨hc _ _ hb this.c0, hc _ _ hb this.c1, hc _ _ hb this.c2, hc _ _ hb this.c3⟩) ih

/-- a node's cells -/
def nvC (v : NVal) : List Value := [.int .i64 v.op, .slice v.no v.nl v.nc, .slice v.ko v.kl v.kc, .string v.nm]
def rowC (K : Nat → NVal) : Nat → List Value
  | 0 => []
  | i + 1 => rowC K i ++ nvC (K i)
theorem rowC_len (K : Nat → NVal) : ∀ i, (rowC K i).length = i * 4
  | 0 => rfl
  | i + 1 => by rw [rowC, List.length_append, rowC_len K i]; simp [nvC]; omega
theorem rowC_at (K : Nat → NVal) (k : Nat) (hk : k < 4) : ∀ i j, j < i → (rowC K i)[j * 4 + k]? = (nvC (K j))[k]?
  | 0, j, h => by omega
  | i + 1, j, h => by
    have hl := rowC_len K i
    rw [rowC]
    by_cases e : j = i
    · subst e
      rw [List.getElem?_append_right (by omega), hl]
      congr 1; omega
    · rw [List.getElem?_append_left (by omega)]
      exact rowC_at K k hk i j (by omega)
theorem rowC_cong {K K' : Nat → NVal} : ∀ i, (∀ j, j < i → K j = K' j) → rowC K i = rowC K' i
  | 0, _ => rfl
  | i + 1, h => by rw [rowC, rowC, rowC_cong i (fun j hj => h j (by omega)), h i (by omega)]
theorem nvC_one (v : NVal) : ∀ u ∈ nvC v, u.oneCell' = true := by
  intro u hu
  simp only [nvC, List.mem_cons, List.not_mem_nil, or_false] at hu
  rcases hu with rfl | rfl | rfl | rfl <;> rfl
/-- a row of nodes holds each -/
theorem rowN {w : World} {B : Nat} {e : TypeId} {g n c : Nat} {K : Nat → NVal} (h : w.ownsRow B e 4 (.slice (some ⟨g, 0, none⟩) n c) n (rowC K n)) (j : Nat) (hj : j < n) : NIn w g (0 + j * 4) (K j) := by
  have key : ∀ k u, k < 4 → (nvC (K j))[k]? = some u → w.cell? ⟨g, 0 + j * 4 + k, none⟩ = some u := fun k u hk hu => by
    have := h.cells (g := g) rfl (j * 4 + k) u (by rw [rowC_at K k hk n j hj]; exact hu)
    rw [add_mk] at this
    rw [← this]; congr 2; omega
  exact ⟨key 0 _ (by decide) rfl, key 1 _ (by decide) rfl, key 2 _ (by decide) rfl, key 3 _ (by decide) rfl⟩
end Go.Proofs.YtkpgfhapffijkaaDoor

/- Conditions as trees, where they lie. -/
namespace Go.DsMk
/-- what must be true of conditions -/
inductive Ex where
  | mk (op : Int) (name : ByteArray) (wh : Int) (kids : List Ex)
end Go.DsMk
namespace Go.Proofs.YtkpgfhapffijkaaDoor
open Go.ChangeShapes Go.WideShapes Go.ChangeAt Go.RowKit Go.DsMem Go.DsMk
set_option linter.unusedVariables false
structure EVal where
  op : Int
  nm : ByteArray
  wh : Int
  ko : Option Addr
  kl : Nat
  kc : Nat
def exV (op : Int) (nm : ByteArray) (wh : Int) (ko : Option Addr) (kl kc : Nat) : Value := .agg #[.int .i64 op, .string nm, .int .i64 wh, .slice ko kl kc]
def EVal.val (v : EVal) : Value := exV v.op v.nm v.wh v.ko v.kl v.kc
structure EIn (w : World) (g o : Nat) (v : EVal) : Prop where
  c0 : w.cell? ⟨g, o, none⟩ = some (.int .i64 v.op)
  c1 : w.cell? ⟨g, o + 1, none⟩ = some (.string v.nm)
  c2 : w.cell? ⟨g, o + 2, none⟩ = some (.int .i64 v.wh)
  c3 : w.cell? ⟨g, o + 3, none⟩ = some (.slice v.ko v.kl v.kc)
theorem EIn.mono {w w' : World} {g o : Nat} {v : EVal} (h : EIn w g o v) (hc : ∀ a u, w.cell? a = some u → w'.cell? a = some u) : EIn w' g o v := ⟨hc _ _ h.c0, hc _ _ h.c1, hc _ _ h.c2, hc _ _ h.c3⟩
/-- v reads as t, all of it in blocks of B -/
inductive ExOn (B : Nat → Prop) (w : World) : EVal → Ex → Prop
  | mk (op : Int) (nm : ByteArray) (wh : Int) (kids : List Ex) (ko : Option Addr) (kc : Nat) (g : Nat) (K : Nat → EVal)
      (hkl : kids.length ≤ 17592186043904) (hkc : kids.length ≤ kc)
      (hko : 0 < kids.length → ko = some ⟨g, 0, none⟩) (hkB : 0 < kids.length → B g)
      (hc : ∀ j, j < kids.length → EIn w g (0 + j * 4) (K j)) (hk : ∀ j (hj : j < kids.length), ExOn B w (K j) kids[j]) :
      ExOn B w ⟨op, nm, wh, ko, kids.length, kc⟩ (.mk op nm wh kids)
theorem ExOn.mono {B B' : Nat → Prop} {w w' : World} (hB : ∀ b, B b → B' b) (hc : ∀ a u, B a.block → w.cell? a = some u → w'.cell? a = some u) {v : EVal} {t : Ex} (h : ExOn B w v t) : ExOn B' w' v t := by
  induction h with
  | mk op nm wh kids ko kc g K hkl hkc hko hkB hcs _ ih =>
    exact .mk op nm wh kids ko kc g K hkl hkc hko (fun h0 => hB _ (hkB h0))
      (fun j hj => by
        have hb := hkB (by omega)
        have := hcs j hj
        exact ⟨hc _ _ hb this.c0, hc _ _ hb this.c1, hc _ _ hb this.c2, hc _ _ hb this.c3⟩) ih
def evC (v : EVal) : List Value := [.int .i64 v.op, .string v.nm, .int .i64 v.wh, .slice v.ko v.kl v.kc]
def rowE (K : Nat → EVal) : Nat → List Value
  | 0 => []
  | i + 1 => rowE K i ++ evC (K i)
theorem rowE_len (K : Nat → EVal) : ∀ i, (rowE K i).length = i * 4
  | 0 => rfl
  | i + 1 => by rw [rowE, List.length_append, rowE_len K i]; simp [evC]; omega
theorem rowE_at (K : Nat → EVal) (k : Nat) (hk : k < 4) : ∀ i j, j < i → (rowE K i)[j * 4 + k]? = (evC (K j))[k]?
  | 0, j, h => by omega
  | i + 1, j, h => by
    have hl := rowE_len K i
    rw [rowE]
    by_cases e : j = i
    · subst e
      rw [List.getElem?_append_right (by omega), hl]
      congr 1; omega
    · rw [List.getElem?_append_left (by omega)]
      exact rowE_at K k hk i j (by omega)
theorem rowE_cong {K K' : Nat → EVal} : ∀ i, (∀ j, j < i → K j = K' j) → rowE K i = rowE K' i
  | 0, _ => rfl
  | i + 1, h => by rw [rowE, rowE, rowE_cong i (fun j hj => h j (by omega)), h i (by omega)]
theorem evC_one (v : EVal) : ∀ u ∈ evC v, u.oneCell' = true := by
  intro u hu
  simp only [evC, List.mem_cons, List.not_mem_nil, or_false] at hu
  rcases hu with rfl | rfl | rfl | rfl <;> rfl
theorem rowEx {w : World} {B : Nat} {e : TypeId} {g n c : Nat} {K : Nat → EVal} (h : w.ownsRow B e 4 (.slice (some ⟨g, 0, none⟩) n c) n (rowE K n)) (j : Nat) (hj : j < n) : EIn w g (0 + j * 4) (K j) := by
  have key : ∀ k u, k < 4 → (evC (K j))[k]? = some u → w.cell? ⟨g, 0 + j * 4 + k, none⟩ = some u := fun k u hk hu => by
    have := h.cells (g := g) rfl (j * 4 + k) u (by rw [rowE_at K k hk n j hj]; exact hu)
    rw [add_mk] at this
    rw [← this]; congr 2; omega
  exact ⟨key 0 _ (by decide) rfl, key 1 _ (by decide) rfl, key 2 _ (by decide) rfl, key 3 _ (by decide) rfl⟩
end Go.Proofs.YtkpgfhapffijkaaDoor

