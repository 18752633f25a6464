/- Maps whose keys and elements are plain things: what they hold is a list of pairs, no key twice. -/
import Derived.Test.YtkpgfhapffijkaaGreatDoorR01
import Derived.Maps.OwnSet
import Derived.Maps.RangeWalk
import Derived.Maps.Views
namespace Go.DsMap
open Go.ChangeShapes Go.WideShapes Go.ChangeAt Go.RowKit Go.DsMem
set_option linter.unusedVariables false
/-- an element reads as itself -/
def heldE (v : Value) : Option (DataW Value × List MemPlace) := some (.held v, [])
theorem heldE_inv {v : Value} {y : DataW Value × List MemPlace} (h : heldE v = some y) : y = (.held v, []) := (Option.some.inj h).symm
/-- what a map's types are: t the map's, k its keys', e its elements'; kv, ev: keys and elements as values; fit: which things are keys -/
structure MK (P : Program) (t k e : TypeId) {κ ν : Type} (kv : κ → Value) (ev : ν → Value) (fit : κ → Prop) : Prop where
  law : Maps.Keyed P k
  und : P.underlying t = some (.map k e)
  key : ∀ c, fit c → ∃ kl, keyOf P k (kv c) = some kl
  inv : ∀ key kl, keyOf P k key = some kl → ∃ c, key = kv c
  kinj : ∀ c d, kv c = kv d → c = d
  einj : ∀ x y, ev x = ev y → x = y
section
variable {P : Program} {t k e : TypeId} {κ ν : Type} {kv : κ → Value} {ev : ν → Value} {fit : κ → Prop}
theorem MK.keys (K : MK P t k e kv ev fit) {c d : κ} {kl : Lit} (h : keyOf P k (kv c) = some kl) (h' : keyOf P k (kv d) = some kl) : c = d := K.kinj _ _ (K.law.inj h h')
/-- the map in block B holds just the pairs of L -/
structure Mp (P : Program) (k : TypeId) (kv : κ → Value) (ev : ν → Value) (fit : κ → Prop) (w : World) (B : Nat) (L : List (κ × ν)) : Prop where
  own : ∃ D : DataW Value, w.ownsMap P k heldE B L.length D ∧ Maps.size D = L.length ∧ ∀ (c : κ) (kl : Lit), keyOf P k (kv c) = some kl → (Maps.has D kl = true ↔ ∃ x, (c, x) ∈ L) ∧ ∀ x, (c, x) ∈ L → ∀ zd, D.atKey kl zd = .held (ev x)
  nd : (L.map (·.1)).Nodup
  ok : ∀ p ∈ L, fit p.1
theorem Mp.same {w w' : World} {B : Nat} {L : List (κ × ν)} (h : Mp P k kv ev fit w B L) (hb : w'.heap[B]? = w.heap[B]?) : Mp P k kv ev fit w' B L := by
  obtain ⟨⟨D, ⟨es, clock, h1, h2⟩, h3⟩, h4, h5⟩ := h
  exact ⟨⟨D, ⟨es, clock, by rw [hb]; exact h1, h2⟩, h3⟩, h4, h5⟩
theorem Mp.map {w : World} {B : Nat} {L : List (κ × ν)} (h : Mp P k kv ev fit w B L) : ∃ es clock, w.heap[B]? = some (.map es clock) := by
  obtain ⟨⟨D, ⟨es, clock, h1, h2⟩, h3⟩, h4, h5⟩ := h
  exact ⟨es, clock, h1⟩
theorem Mp.lt {w : World} {B : Nat} {L : List (κ × ν)} (h : Mp P k kv ev fit w B L) : B < w.heap.size := by
  obtain ⟨es, clock, h1⟩ := h.map
  exact block_lt h1
theorem Mp.below {w w' : World} {B : Nat} {L : List (κ × ν)} (h : Mp P k kv ev fit w B L) (hb : Below w.heap.size w w') : Mp P k kv ev fit w' B L := h.same (hb.block B h.lt)
theorem Mp.made (w : World) : Mp P k kv ev fit (w.alloc (.map #[] 0)) w.heap.size [] :=
  ⟨⟨.map [], World.ownsMap_made (H := Value) w P k heldE, rfl, fun c kl _ => ⟨by simp [Maps.has], fun x hx => by simp at hx⟩⟩, by simp, fun p hp => by simp at hp⟩
/-- 'm[k]' and 'v, ok := m[k]' where the key is there -/
theorem Mp.look {w : World} {B : Nat} {L : List (κ × ν)} (h : Mp P k kv ev fit w B L) (K : MK P t k e kv ev fit) {z : Value} (hz : (zeroValue e).run P w = .ok z w) {c : κ} {x : ν} (hx : (c, x) ∈ L) (b : Bool) :
    (Instr.lookup t (.map (some B)) (kv c) b).run P w = .ok (if b then .tuple #[ev x, .bool true] else ev x) w := by
  obtain ⟨kl, hk⟩ := K.key c (h.ok _ hx)
  obtain ⟨⟨D, ⟨es, clock, hb, F, _, rfl⟩, h2, h3⟩, h4, h5⟩ := h
  obtain ⟨h6, h7⟩ := h3 c kl hk
  rcases Maps.fit_look b K.law K.und hz hb F hk with ⟨_, _, hat⟩ | ⟨e0, y, _, _, hrun, hR, hat, _⟩
  · have := hat (.held z)
    rw [h7 x hx] at this
    have h8 := hat .nil
    rw [h7 x hx] at h8
    cases h8
  · obtain rfl := heldE_inv hR
    have := hat .nil
    rw [h7 x hx] at this
    simp only [DataW.held.injEq] at this
    rw [hrun, this]
/-- .. where it is not -/
theorem Mp.look_not {w : World} {B : Nat} {L : List (κ × ν)} (h : Mp P k kv ev fit w B L) (K : MK P t k e kv ev fit) {z : Value} (hz : (zeroValue e).run P w = .ok z w) {c : κ} (hc : fit c) (hx : ∀ x, (c, x) ∉ L) (b : Bool) :
    (Instr.lookup t (.map (some B)) (kv c) b).run P w = .ok (if b then .tuple #[z, .bool false] else z) w := by
  obtain ⟨kl, hk⟩ := K.key c hc
  obtain ⟨⟨D, ⟨es, clock, hb, F, _, rfl⟩, h2, h3⟩, h4, h5⟩ := h
  obtain ⟨h6, h7⟩ := h3 c kl hk
  rcases Maps.fit_look b K.law K.und hz hb F hk with ⟨hrun, _, _⟩ | ⟨e0, y, _, _, hrun, hR, hat, _⟩
  · exact hrun
  · obtain ⟨x, hx'⟩ := h6.1 (Maps.has_true_of_atKey (y := y.1) hat)
    exact absurd hx' (hx x)
theorem turned_onlyM {w w' : World} {B : Nat} (h : w.mapTurned w' B) : Only (· = B) w w' := by
  obtain ⟨es, clock, es', clock', hb, rfl⟩ := h
  refine ⟨rfl, rfl, rfl, by simp [ChangeMaps.setBlock], fun i hi hne => ?_⟩
  simp only [ChangeMaps.setBlock, Array.getElem?_setIfInBounds]
  rw [if_neg (fun e => hne e.symm)]
/-- 'm[k] = v', a key more -/
theorem Mp.put {w : World} {B : Nat} {L : List (κ × ν)} (h : Mp P k kv ev fit w B L) (K : MK P t k e kv ev fit) {c : κ} (hc : fit c) (hn : ∀ x, (c, x) ∉ L) (x : ν) (hl : L.length ≤ 1000000) :
    ∃ w', (Instr.mapUpdate t (.map (some B)) (kv c) (ev x)).run P w = .ok () w' ∧ Mp P k kv ev fit w' B (L ++ [(c, x)]) ∧ Only (· = B) w w' := by
  obtain ⟨⟨D, h1, h2, h3⟩, h4, h5⟩ := h
  obtain ⟨kl, hkl⟩ := K.key c hc
  obtain ⟨w', hrun, hown, hturn⟩ := h1.store K.law K.und (by unfold maxLen; omega) hkl (show heldE (ev x) = some (.held (ev x), []) from rfl)
  have hnot : ¬ Maps.has D kl = true := fun e => by obtain ⟨y, hy⟩ := (h3 c kl hkl).1.1 e; exact hn y hy
  refine ⟨w', hrun, ⟨⟨_, by simpa using hown, ?_, fun d kd hkd => ?_⟩, ?_, fun p hp => ?_⟩, turned_onlyM hturn⟩
  · rw [Maps.size_put (h1.tidy K.law), if_neg hnot]; simp [h2]
  · by_cases e : kd = kl
    · subst e
      obtain rfl := K.keys hkd hkl
      refine ⟨by simp [Maps.has_put_same h1.isMap (K.law.key hkl)], fun y hy zd => ?_⟩
      rw [Maps.atKey_put_same h1.isMap (K.law.key hkl)]
      rcases List.mem_append.1 hy with hy | hy
      · exact absurd hy (hn y)
      · simp at hy; rw [hy]
    · have hne : ¬ d = c := fun e' => by subst e'; exact e (Option.some.inj (hkd.symm.trans hkl))
      obtain ⟨a, b⟩ := h3 d kd hkd
      rw [Maps.has_put_other e, a]
      refine ⟨by simp [hne], fun y hy zd => ?_⟩
      rw [Maps.atKey_put_other e]
      rcases List.mem_append.1 hy with hy | hy
      · exact b y hy zd
      · simp at hy; exact absurd hy.1 hne
  · rw [List.map_append, List.nodup_append]
    refine ⟨h4, by simp, fun a ha b hb => ?_⟩
    simp only [List.map_cons, List.map_nil, List.mem_singleton] at hb
    subst hb
    obtain ⟨p, hp, rfl⟩ := List.mem_map.1 ha
    intro e
    exact hn p.2 (by rw [← e]; exact hp)
  · rcases List.mem_append.1 hp with hp | hp
    · exact h5 p hp
    · simp at hp; subst hp; exact hc
section
variable (w : World) {ops : Array Oper} {rest : List Oper} {o : Oper} {a : Act} {Q : Exit → Act → World → Prop}
end
end
end Go.DsMap
