/- Maps whose keys and elements are plain things: what they hold is a list of pairs, no key twice. -/
import Derived.Test.YtkpambipgcjaiaaMem
import Derived.Maps.OwnSet
import Derived.Maps.RangeWalk
import Derived.Maps.Views
namespace Go.DsMap
open Go.ChangeShapes Go.WideShapes Go.ChangeAt Go.RowKit Go.DsMem
set_option linter.unusedVariables false

/-- an element reads as itself -/
def heldE (v : Value) : Option (DataW Value × List MemPlace) := some (.held v, [])
theorem heldE_inv {v : Value} {y : DataW Value × List MemPlace} (h : heldE v = some y) : y = (.held v, []) := (Option.some.inj h).symm

/-- what a map's types are: t the map's, k its keys', e its elements'; kv, ev: keys and elements as values; fit: which things are keys -/
structure MK (P : Program) (t k e : TypeId) {κ ν : Type} (kv : κ → Value) (ev : ν → Value) (fit : κ → Prop) : Prop where
  law : Maps.Keyed P k
  und : P.underlying t = some (.map k e)
  key : ∀ c, fit c → ∃ kl, keyOf P k (kv c) = some kl
  inv : ∀ key kl, keyOf P k key = some kl → ∃ c, key = kv c
  kinj : ∀ c d, kv c = kv d → c = d
  einj : ∀ x y, ev x = ev y → x = y

section
variable {P : Program} {t k e : TypeId} {κ ν : Type} {kv : κ → Value} {ev : ν → Value} {fit : κ → Prop}
theorem MK.keys (K : MK P t k e kv ev fit) {c d : κ} {kl : Lit} (h : keyOf P k (kv c) = some kl) (h' : keyOf P k (kv d) = some kl) : c = d := K.kinj _ _ (K.law.inj h h')

/-- the map in block B holds just the pairs of L -/
structure Mp (P : Program) (k : TypeId) (kv : κ → Value) (ev : ν → Value) (fit : κ → Prop) (w : World) (B : Nat) (L : List (κ × ν)) : Prop where
  own : ∃ D : DataW Value, w.ownsMap P k heldE B L.length D ∧ Maps.size D = L.length ∧ ∀ (c : κ) (kl : Lit), keyOf P k (kv c) = some kl → (Maps.has D kl = true ↔ ∃ x, (c, x) ∈ L) ∧ ∀ x, (c, x) ∈ L → ∀ zd, D.atKey kl zd = .held (ev x)
  nd : (L.map (·.1)).Nodup
  ok : ∀ p ∈ L, fit p.1
theorem Mp.same {w w' : World} {B : Nat} {L : List (κ × ν)} (h : Mp P k kv ev fit w B L) (hb : w'.heap[B]? = w.heap[B]?) : Mp P k kv ev fit w' B L := by
  obtain ⟨⟨D, ⟨es, clock, h1, h2⟩, h3⟩, h4, h5⟩ := h
  exact ⟨⟨D, ⟨es, clock, by rw [hb]; exact h1, h2⟩, h3⟩, h4, h5⟩
theorem Mp.map {w : World} {B : Nat} {L : List (κ × ν)} (h : Mp P k kv ev fit w B L) : ∃ es clock, w.heap[B]? = some (.map es clock) := by
  obtain ⟨⟨D, ⟨es, clock, h1, h2⟩, h3⟩, h4, h5⟩ := h
  exact ⟨es, clock, h1⟩
theorem Mp.lt {w : World} {B : Nat} {L : List (κ × ν)} (h : Mp P k kv ev fit w B L) : B < w.heap.size := by
  obtain ⟨es, clock, h1⟩ := h.map
  exact block_lt h1
theorem Mp.below {w w' : World} {B : Nat} {L : List (κ × ν)} (h : Mp P k kv ev fit w B L) (hb : Below w.heap.size w w') : Mp P k kv ev fit w' B L := h.same (hb.block B h.lt)
theorem Mp.only {S : Nat → Prop} {w w' : World} {B : Nat} {L : List (κ × ν)} (h : Mp P k kv ev fit w B L) (ho : Only S w w') (hs : ¬ S B) : Mp P k kv ev fit w' B L := h.same (ho.block B h.lt hs)
theorem Mp.drew {w : World} {B : Nat} {L : List (κ × ν)} (h : Mp P k kv ev fit w B L) : Mp P k kv ev fit w.drew B L := h.same rfl
theorem Mp.made (w : World) : Mp P k kv ev fit (w.alloc (.map #[] 0)) w.heap.size [] :=
  ⟨⟨.map [], World.ownsMap_made (H := Value) w P k heldE, rfl, fun c kl _ => ⟨by simp [Maps.has], fun x hx => by simp at hx⟩⟩, by simp, fun p hp => by simp at hp⟩
theorem own_tightM {R : Value → Option (DataW Value × List MemPlace)} {w : World} {b n : Nat} {D : DataW Value} (h : w.ownsMap P k R b n D) : w.ownsMap P k R b (Maps.size D) D := by
  obtain ⟨es, clock, hb, F, hs, rfl⟩ := h
  exact ⟨es, clock, hb, F, by simp [Maps.size, length_sorted], rfl⟩
theorem nodup_of_keys {L : List (κ × ν)} (h : (L.map (·.1)).Nodup) : L.Nodup := by
  unfold List.Nodup at h ⊢
  rw [List.pairwise_map] at h
  exact h.imp (fun hne e => hne (congrArg Prod.fst e))
theorem perm_of_pairs {L M : List (κ × ν)} (hL : (L.map (·.1)).Nodup) (hM : (M.map (·.1)).Nodup) (h : ∀ p, p ∈ M ↔ p ∈ L) : M.Perm L :=
  (List.perm_ext_iff_of_nodup (nodup_of_keys hM) (nodup_of_keys hL)).2 h
/-- what is there in another order -/
theorem Mp.perm {w : World} {B : Nat} {L M : List (κ × ν)} (h : Mp P k kv ev fit w B L) (hp : M.Perm L) : Mp P k kv ev fit w B M := by
  obtain ⟨⟨D, h1, h2, h3⟩, h4, h5⟩ := h
  refine ⟨⟨D, by rw [hp.length_eq]; exact h1, by rw [hp.length_eq]; exact h2, fun c kl hk => ?_⟩, ((hp.map _).nodup_iff).2 h4, fun p hm => h5 p (hp.mem_iff.1 hm)⟩
  obtain ⟨a, b⟩ := h3 c kl hk
  exact ⟨a.trans ⟨fun ⟨x, hx⟩ => ⟨x, hp.mem_iff.2 hx⟩, fun ⟨x, hx⟩ => ⟨x, hp.mem_iff.1 hx⟩⟩, fun x hx => b x (hp.mem_iff.1 hx)⟩
/-- one key, one element -/
theorem Mp.one {w : World} {B : Nat} {L : List (κ × ν)} (h : Mp P k kv ev fit w B L) {c : κ} {x y : ν} (hx : (c, x) ∈ L) (hy : (c, y) ∈ L) : x = y := by
  have hn := h.nd
  clear h
  induction L with
  | nil => simp at hx
  | cons p L ih =>
    rw [List.map_cons, List.nodup_cons] at hn
    rcases List.mem_cons.1 hx with e | hx
    · rcases List.mem_cons.1 hy with e' | hy
      · exact congrArg Prod.snd (e.trans e'.symm)
      · exact absurd (List.mem_map.2 ⟨_, hy, by rw [← e]⟩) hn.1
    · rcases List.mem_cons.1 hy with e' | hy
      · exact absurd (List.mem_map.2 ⟨_, hx, by rw [← e']⟩) hn.1
      · exact ih hx hy hn.2

/-- 'm[k]' and 'v, ok := m[k]' where the key is there -/
theorem Mp.look {w : World} {B : Nat} {L : List (κ × ν)} (h : Mp P k kv ev fit w B L) (K : MK P t k e kv ev fit) {z : Value} (hz : (zeroValue e).run P w = .ok z w) {c : κ} {x : ν} (hx : (c, x) ∈ L) (b : Bool) :
    (Instr.lookup t (.map (some B)) (kv c) b).run P w = .ok (if b then .tuple #[ev x, .bool true] else ev x) w := by
  obtain ⟨kl, hk⟩ := K.key c (h.ok _ hx)
  obtain ⟨⟨D, ⟨es, clock, hb, F, _, rfl⟩, h2, h3⟩, h4, h5⟩ := h
  obtain ⟨h6, h7⟩ := h3 c kl hk
  rcases Maps.fit_look b K.law K.und hz hb F hk with ⟨_, _, hat⟩ | ⟨e0, y, _, _, hrun, hR, hat, _⟩
  · have := hat (.held z)
    rw [h7 x hx] at this
    have h8 := hat .nil
    rw [h7 x hx] at h8
    cases h8
  · obtain rfl := heldE_inv hR
    have := hat .nil
    rw [h7 x hx] at this
    simp only [DataW.held.injEq] at this
    rw [hrun, this]
/-- .. where it is not -/
theorem Mp.look_not {w : World} {B : Nat} {L : List (κ × ν)} (h : Mp P k kv ev fit w B L) (K : MK P t k e kv ev fit) {z : Value} (hz : (zeroValue e).run P w = .ok z w) {c : κ} (hc : fit c) (hx : ∀ x, (c, x) ∉ L) (b : Bool) :
    (Instr.lookup t (.map (some B)) (kv c) b).run P w = .ok (if b then .tuple #[z, .bool false] else z) w := by
  obtain ⟨kl, hk⟩ := K.key c hc
  obtain ⟨⟨D, ⟨es, clock, hb, F, _, rfl⟩, h2, h3⟩, h4, h5⟩ := h
  obtain ⟨h6, h7⟩ := h3 c kl hk
  rcases Maps.fit_look b K.law K.und hz hb F hk with ⟨hrun, _, _⟩ | ⟨e0, y, _, _, hrun, hR, hat, _⟩
  · exact hrun
  · obtain ⟨x, hx'⟩ := h6.1 (Maps.has_true_of_atKey (y := y.1) hat)
    exact absurd hx' (hx x)
theorem turned_onlyM {w w' : World} {B : Nat} (h : w.mapTurned w' B) : Only (· = B) w w' := by
  obtain ⟨es, clock, es', clock', hb, rfl⟩ := h
  refine ⟨rfl, rfl, rfl, by simp [ChangeMaps.setBlock], fun i hi hne => ?_⟩
  simp only [ChangeMaps.setBlock, Array.getElem?_setIfInBounds]
  rw [if_neg (fun e => hne e.symm)]
/-- 'm[k] = v', a key more -/
theorem Mp.put {w : World} {B : Nat} {L : List (κ × ν)} (h : Mp P k kv ev fit w B L) (K : MK P t k e kv ev fit) {c : κ} (hc : fit c) (hn : ∀ x, (c, x) ∉ L) (x : ν) (hl : L.length ≤ 1000000) :
    ∃ w', (Instr.mapUpdate t (.map (some B)) (kv c) (ev x)).run P w = .ok () w' ∧ Mp P k kv ev fit w' B (L ++ [(c, x)]) ∧ Only (· = B) w w' := by
  obtain ⟨⟨D, h1, h2, h3⟩, h4, h5⟩ := h
  obtain ⟨kl, hkl⟩ := K.key c hc
  obtain ⟨w', hrun, hown, hturn⟩ := h1.store K.law K.und (by unfold maxLen; omega) hkl (show heldE (ev x) = some (.held (ev x), []) from rfl)
  have hnot : ¬ Maps.has D kl = true := fun e => by obtain ⟨y, hy⟩ := (h3 c kl hkl).1.1 e; exact hn y hy
  refine ⟨w', hrun, ⟨⟨_, by simpa using hown, ?_, fun d kd hkd => ?_⟩, ?_, fun p hp => ?_⟩, turned_onlyM hturn⟩
  · rw [Maps.size_put (h1.tidy K.law), if_neg hnot]; simp [h2]
  · by_cases e : kd = kl
    · subst e
      obtain rfl := K.keys hkd hkl
      refine ⟨by simp [Maps.has_put_same h1.isMap (K.law.key hkl)], fun y hy zd => ?_⟩
      rw [Maps.atKey_put_same h1.isMap (K.law.key hkl)]
      rcases List.mem_append.1 hy with hy | hy
      · exact absurd hy (hn y)
      · simp at hy; rw [hy]
    · have hne : ¬ d = c := fun e' => by subst e'; exact e (Option.some.inj (hkd.symm.trans hkl))
      obtain ⟨a, b⟩ := h3 d kd hkd
      rw [Maps.has_put_other e, a]
      refine ⟨by simp [hne], fun y hy zd => ?_⟩
      rw [Maps.atKey_put_other e]
      rcases List.mem_append.1 hy with hy | hy
      · exact b y hy zd
      · simp at hy; exact absurd hy.1 hne
  · rw [List.map_append, List.nodup_append]
    refine ⟨h4, by simp, fun a ha b hb => ?_⟩
    simp only [List.map_cons, List.map_nil, List.mem_singleton] at hb
    subst hb
    obtain ⟨p, hp, rfl⟩ := List.mem_map.1 ha
    intro e
    exact hn p.2 (by rw [← e]; exact hp)
  · rcases List.mem_append.1 hp with hp | hp
    · exact h5 p hp
    · simp at hp; subst hp; exact hc
open Classical in
/-- the list with another element at a key -/
noncomputable def setL (L : List (κ × ν)) (c : κ) (x : ν) : List (κ × ν) := L.map fun p => if p.1 = c then (c, x) else p
theorem setL_keys (L : List (κ × ν)) (c : κ) (x : ν) : (setL L c x).map (·.1) = L.map (·.1) := by
  unfold setL
  rw [List.map_map]
  apply List.map_congr_left
  intro p hp
  simp only [Function.comp]
  split
  · next h => exact h.symm
  · rfl
theorem mem_setL {L : List (κ × ν)} {c : κ} {x : ν} {d : κ} {y : ν} : (d, y) ∈ setL L c x ↔ (d = c ∧ y = x ∧ ∃ z, (c, z) ∈ L) ∨ (d ≠ c ∧ (d, y) ∈ L) := by
  unfold setL
  rw [List.mem_map]
  constructor
  · rintro ⟨p, hp, he⟩
    split at he
    · next h =>
      obtain ⟨rfl, rfl⟩ := Prod.mk.inj he
      exact .inl ⟨rfl, rfl, p.2, by rw [← h]; exact hp⟩
    · next h =>
      subst he
      exact .inr ⟨h, hp⟩
  · rintro (⟨rfl, rfl, z, hz⟩ | ⟨h, hp⟩)
    · exact ⟨_, hz, by simp⟩
    · exact ⟨_, hp, by simp [h]⟩
/-- 'm[k] = v', a key that is there -/
theorem Mp.set {w : World} {B : Nat} {L : List (κ × ν)} (h : Mp P k kv ev fit w B L) (K : MK P t k e kv ev fit) {c : κ} {x0 : ν} (hn : (c, x0) ∈ L) (x : ν) (hl : L.length ≤ 1000000) :
    ∃ w', (Instr.mapUpdate t (.map (some B)) (kv c) (ev x)).run P w = .ok () w' ∧ Mp P k kv ev fit w' B (setL L c x) ∧ Only (· = B) w w' := by
  have hc : fit c := h.ok _ hn
  obtain ⟨⟨D, h1, h2, h3⟩, h4, h5⟩ := h
  obtain ⟨kl, hkl⟩ := K.key c hc
  obtain ⟨w', hrun, hown, hturn⟩ := h1.store K.law K.und (by unfold maxLen; omega) hkl (show heldE (ev x) = some (.held (ev x), []) from rfl)
  have hyes : Maps.has D kl = true := (h3 c kl hkl).1.2 ⟨x0, hn⟩
  have hlen : (setL L c x).length = L.length := by simp [setL]
  have hsz : Maps.size (D.put kl (.held (ev x))) = L.length := by rw [Maps.size_put (h1.tidy K.law), if_pos hyes, h2]
  refine ⟨w', hrun, ⟨⟨_, by rw [hlen, ← hsz]; exact own_tightM hown, by rw [hlen, hsz], fun d kd hkd => ?_⟩, by rw [setL_keys]; exact h4, fun p hp => ?_⟩, turned_onlyM hturn⟩
  · by_cases e : kd = kl
    · subst e
      obtain rfl := K.keys hkd hkl
      refine ⟨by simp only [Maps.has_put_same h1.isMap (K.law.key hkl), true_iff]; exact ⟨x, mem_setL.2 (.inl ⟨rfl, rfl, x0, hn⟩)⟩, fun y hy zd => ?_⟩
      rw [Maps.atKey_put_same h1.isMap (K.law.key hkl)]
      rcases mem_setL.1 hy with ⟨_, rfl, _⟩ | ⟨hd, _⟩
      · rfl
      · exact absurd rfl hd
    · have hne : ¬ d = c := fun e' => by subst e'; exact e (Option.some.inj (hkd.symm.trans hkl))
      obtain ⟨a, b⟩ := h3 d kd hkd
      rw [Maps.has_put_other e, a]
      refine ⟨⟨fun ⟨y, hy⟩ => ⟨y, mem_setL.2 (.inr ⟨hne, hy⟩)⟩, fun ⟨y, hy⟩ => ?_⟩, fun y hy zd => ?_⟩
      · rcases mem_setL.1 hy with ⟨hd, _⟩ | ⟨_, hy⟩
        · exact absurd hd hne
        · exact ⟨y, hy⟩
      · rw [Maps.atKey_put_other e]
        rcases mem_setL.1 hy with ⟨hd, _⟩ | ⟨_, hy⟩
        · exact absurd hd hne
        · exact b y hy zd
  · obtain ⟨d, y⟩ := p
    rcases mem_setL.1 hp with ⟨rfl, _, z, hz⟩ | ⟨_, hy⟩
    · exact hc
    · exact h5 _ hy
open Classical in
/-- without a key -/
noncomputable def delL (L : List (κ × ν)) (c : κ) : List (κ × ν) := L.filter fun p => decide (p.1 ≠ c)
theorem mem_delL {L : List (κ × ν)} {c : κ} {p : κ × ν} : p ∈ delL L c ↔ p ∈ L ∧ p.1 ≠ c := by simp [delL, List.mem_filter]
theorem delL_not {L : List (κ × ν)} {c : κ} (h : ∀ x, (c, x) ∉ L) : delL L c = L := by
  unfold delL
  exact List.filter_eq_self.2 fun p hp => by
    have hne : p.1 ≠ c := fun e => h p.2 (by rw [← e]; exact hp)
    simp [hne]
theorem delL_len {L : List (κ × ν)} {c : κ} {x : ν} (hn : (L.map (·.1)).Nodup) (hx : (c, x) ∈ L) : (delL L c).length + 1 = L.length := by
  induction L with
  | nil => simp at hx
  | cons p L ih =>
    rw [List.map_cons, List.nodup_cons] at hn
    rcases List.mem_cons.1 hx with e | hx
    · subst e
      have : delL ((c, x) :: L) c = delL L c := by simp [delL]
      rw [this, delL_not (fun y hy => hn.1 (List.mem_map.2 ⟨_, hy, rfl⟩))]
      rfl
    · have hpc : ¬ p.1 = c := fun e => hn.1 (List.mem_map.2 ⟨_, hx, e.symm⟩)
      have : delL (p :: L) c = p :: delL L c := by simp [delL, hpc]
      rw [this]
      simp [ih hn.2 hx]
theorem delL_nd {L : List (κ × ν)} {c : κ} (hn : (L.map (·.1)).Nodup) : ((delL L c).map (·.1)).Nodup := hn.sublist ((List.filter_sublist).map _)
/-- 'delete(m, k)' -/
theorem Mp.del {w : World} {B : Nat} {L : List (κ × ν)} (h : Mp P k kv ev fit w B L) (K : MK P t k e kv ev fit) {c : κ} (hc : fit c) (ty : TypeId) :
    ∃ w', (Builtin.delete_ #[t, k] ty #[.map (some B), kv c]).run P w = .ok (.tuple #[]) w' ∧ Mp P k kv ev fit w' B (delL L c) ∧ Only (· = B) w w' := by
  obtain ⟨⟨D, h1, h2, h3⟩, h4, h5⟩ := h
  obtain ⟨kl, hkl⟩ := K.key c hc
  obtain ⟨w', hrun, hown, hturn⟩ := h1.drop K.law K.und hkl ty
  have hsz : Maps.size (D.del kl) = (delL L c).length := by
    have hd := Maps.size_del (k := kl) (h1.tidy K.law)
    have hi := (h3 c kl hkl).1
    rw [h2] at hd
    by_cases hm : ∃ x, (c, x) ∈ L
    · rw [if_pos (hi.2 hm)] at hd
      obtain ⟨x, hm⟩ := hm
      have := delL_len h4 hm
      omega
    · rw [if_neg (fun e => hm (hi.1 e))] at hd
      rw [delL_not (fun x hx => hm ⟨x, hx⟩)]
      omega
  refine ⟨w', hrun, ⟨⟨_, by rw [← hsz]; exact own_tightM hown, hsz, fun d kd hkd => ?_⟩, delL_nd h4, fun p hp => h5 p (mem_delL.1 hp).1⟩, turned_onlyM hturn⟩
  by_cases e : kd = kl
  · subst e
    obtain rfl := K.keys hkd hkl
    exact ⟨by simp [Maps.has_del_same, mem_delL], fun x hx => absurd rfl (mem_delL.1 hx).2⟩
  · have hne : ¬ d = c := fun e' => by subst e'; exact e (Option.some.inj (hkd.symm.trans hkl))
    obtain ⟨a, b⟩ := h3 d kd hkd
    rw [Maps.has_del_other e, a]
    exact ⟨by simp [mem_delL, hne], fun x hx zd => by rw [Maps.atKey_del_other e]; exact b x (mem_delL.1 hx).1 zd⟩
/-- 'len(m)' -/
theorem Mp.len {w : World} {B : Nat} {L : List (κ × ν)} (h : Mp P k kv ev fit w B L) (K : MK P t k e kv ev fit) (ty : TypeId) : (Builtin.len_ #[t] ty #[.map (some B)]).run P w = .ok (.int .i64 L.length) w := by
  obtain ⟨⟨D, h1, h2, h3⟩, h4, h5⟩ := h
  rw [h1.len K.und ty, h2]

/-- a loop over the map in block B is under way: L is there, T is still to come -/
structure Rg (P : Program) (k : TypeId) (kv : κ → Value) (ev : ν → Value) (fit : κ → Prop) (w : World) (B r : Nat) (L T : List (κ × ν)) : Prop where
  rng : ∃ (D : DataW Value) (n : Nat) (lf : Lit → Bool) (cnt : Nat), w.ranges P k heldE B r n D lf cnt ∧ Maps.size D = L.length ∧
    (∀ (c : κ) (kl : Lit), keyOf P k (kv c) = some kl → (Maps.has D kl = true ↔ ∃ x, (c, x) ∈ L) ∧ ∀ x, (c, x) ∈ L → ∀ zd, D.atKey kl zd = .held (ev x)) ∧
    ∀ (c : κ) (kl : Lit), keyOf P k (kv c) = some kl → (lf kl = true ↔ ∃ x, (c, x) ∈ T)
  nd : (L.map (·.1)).Nodup
  ok : ∀ p ∈ L, fit p.1
  sub : ∀ p ∈ T, p ∈ L
  ndT : (T.map (·.1)).Nodup
theorem Rg.mp {w : World} {B r : Nat} {L T : List (κ × ν)} (h : Rg P k kv ev fit w B r L T) : Mp P k kv ev fit w B L := by
  obtain ⟨⟨D, n, lf, cnt, h1, h2, h3, h4⟩, h5, h6, _⟩ := h
  exact ⟨⟨D, by rw [← h2]; exact own_tightM h1.owns, h2, h3⟩, h5, h6⟩
theorem Rg.lt {w : World} {B r : Nat} {L T : List (κ × ν)} (h : Rg P k kv ev fit w B r L T) : r < w.heap.size := by
  obtain ⟨⟨D, n, lf, cnt, h1, _⟩, _⟩ := h
  exact h1.lt
theorem Rg.ne {w : World} {B r : Nat} {L T : List (κ × ν)} (h : Rg P k kv ev fit w B r L T) : r ≠ B := by
  obtain ⟨⟨D, n, lf, cnt, h1, _⟩, _⟩ := h
  exact h1.ne
theorem Rg.same {w w' : World} {B r : Nat} {L T : List (κ × ν)} (h : Rg P k kv ev fit w B r L T) (hB : w'.heap[B]? = w.heap[B]?) (hr : w'.heap[r]? = w.heap[r]?) : Rg P k kv ev fit w' B r L T ∧ w'.rangeLeft B r = w.rangeLeft B r := by
  refine ⟨?_, by unfold World.rangeLeft; rw [hB, hr]⟩
  obtain ⟨⟨D, n, lf, cnt, ⟨es, clock, since, seen, c0, a1, a2, a3, a4, a5, a6⟩, h2⟩, h3, h4, h5, h6⟩ := h
  exact ⟨⟨D, n, lf, cnt, ⟨es, clock, since, seen, c0, by rw [hB]; exact a1, a2, a3, a4, by rw [hr]; exact a5, a6⟩, h2⟩, h3, h4, h5, h6⟩
theorem Rg.only {S : Nat → Prop} {w w' : World} {B r : Nat} {L T : List (κ × ν)} (h : Rg P k kv ev fit w B r L T) (ho : Only S w w') (h1 : ¬ S B) (h2 : ¬ S r) : Rg P k kv ev fit w' B r L T ∧ w'.rangeLeft B r = w.rangeLeft B r :=
  h.same (ho.block B h.mp.lt h1) (ho.block r h.lt h2)
theorem Rg.below {w w' : World} {B r : Nat} {L T : List (κ × ν)} (h : Rg P k kv ev fit w B r L T) (hb : Below w.heap.size w w') : Rg P k kv ev fit w' B r L T ∧ w'.rangeLeft B r = w.rangeLeft B r := h.same (hb.block B h.mp.lt) (hb.block r h.lt)
section
variable (w : World) {ops : Array Oper} {rest : List Oper} {o : Oper} {a : Act} {Q : Exit → Act → World → Prop}
/-- 'range m' -/
theorem wpList_range_mp (K : MK P t k e kv ev fit) (hg : o.guard = none) (m : Operand) (hop : o.op = Op.range t m) (B : Nat) (L : List (κ × ν))
    (hm : a.eval m = .map (some B)) (h : Mp P k kv ev fit w B L)
    (hK : ∀ w', Rg P k kv ev fit w' B w.heap.size L L → Below w.heap.size w w' → w'.heap.size = w.heap.size + 1 → wpList P ops Q rest (a.put o.dst (.pointer (some ⟨w.heap.size, 0, none⟩))) w') :
    wpList P ops Q (o :: rest) a w := by
  have hnd := h.nd
  have hok := h.ok
  obtain ⟨⟨D, h1, h2, h3⟩, _, _⟩ := h
  refine wpList_range_own w hg m _ hop _ _ K.law K.und _ B _ D hm h1 fun w' r1 r2 r3 => hK w' ⟨⟨D, _, _, _, r1, h2, h3, fun c kl hk => (h3 c kl hk).1⟩, hnd, hok, fun _ h => h, hnd⟩ ?_ r3
  exact ⟨r2.os, r2.tape, r2.output, r2.size, fun i hi => r2.block i hi (by simp)⟩
/-- the step -/
theorem wpList_next_mp (K : MK P t k e kv ev fit) (hg : o.guard = none) (it : Operand) (hop : o.op = Op.next it false) (B r : Nat) (L T : List (κ × ν)) (hit : a.eval it = .pointer (some ⟨r, 0, none⟩)) (h : Rg P k kv ev fit w B r L T)
    (hDone : T = [] → wpList P ops Q rest (a.put o.dst (.tuple #[.bool false])) w)
    (hMore : ∀ (c : κ) (x : ν) (w' : World), (c, x) ∈ T → Rg P k kv ev fit w' B r L (delL T c) → w'.rangeLeft B r < w.rangeLeft B r → Only (· = r) w w' → w'.heap.size = w.heap.size →
      (Instr.entry (.pointer (some ⟨r, 0, none⟩))).run P w' = .ok (.tuple #[kv c, ev x]) w' → wpList P ops Q rest (a.put o.dst (.tuple #[.bool true, kv c, ev x])) w') :
    wpList P ops Q (o :: rest) a w := by
  obtain ⟨⟨D, n, lf, cnt, h1, h2, h3, h4⟩, h5, h6, h7, h8⟩ := h
  refine wpList_next_ranges w hg it hop _ K.law heldE kv (fun v : Value => v) K.inv (fun v y hv => ⟨v, rfl⟩) B r n D lf cnt hit h1 (fun _ hl => hDone ?_) fun c v kl y w' cnt' hk hl hR hat hr hlt hgr hsz hen => ?_
  · cases T with
    | nil => rfl
    | cons p T =>
      obtain ⟨kl, hk⟩ := K.key p.1 (h6 p (h7 p (by simp)))
      have := (h4 p.1 kl hk).2 ⟨p.2, by simp⟩
      rw [hl kl] at this
      cases this
  · obtain ⟨x, hx⟩ := (h4 c kl hk).1 hl
    obtain rfl := heldE_inv hR
    have hv : v = ev x := by
      have := hat .nil
      rw [(h3 c kl hk).2 x (h7 _ hx)] at this
      simp only [DataW.held.injEq] at this
      exact this.symm
    subst hv
    refine hMore c x w' hx ⟨⟨D, n, _, cnt', hr, h2, h3, fun d kd hkd => ?_⟩, h5, h6, fun d hd => h7 d (mem_delL.1 hd).1, delL_nd h8⟩ (by rw [hr.left_eq, h1.left_eq]; exact hlt) ?_ hsz hen
    · rw [Bool.and_eq_true, h4 d kd hkd]
      constructor
      · rintro ⟨⟨y, hy⟩, hb⟩
        refine ⟨y, mem_delL.2 ⟨hy, fun e => ?_⟩⟩
        simp only at e
        subst e
        obtain rfl : kd = kl := Option.some.inj (hkd.symm.trans hk)
        rw [WideAt.sameKey_self (K.law.key hk)] at hb
        cases hb
      · rintro ⟨y, hy⟩
        obtain ⟨hy, hne⟩ := mem_delL.1 hy
        refine ⟨⟨y, hy⟩, ?_⟩
        have hne' : ¬ kd = kl := fun e => by subst e; exact hne (K.keys hkd hk)
        rw [Maps.sameKey_ne hne']
        rfl
    · exact ⟨hgr.os, hgr.tape, hgr.output, hgr.size, fun i hi hs => hgr.block i hi (fun e => hs (Option.some.inj e))⟩
end
end
end Go.DsMap
