/- Bytes in memory, said plainly: slices that read as bytes, rows that a call owns, what stays as it was. No program in sight. -/
import Derived.WalkKit
import Derived.ProofKit
import Derived.OpenShut
import Derived.Handy
import Derived.WalkSpells
import Derived.Laws.CopyOwn
import Derived.Laws.AppendOwnNone
import Derived.Laws.BytesString
import Derived.Laws.IdiomStrings
import Derived.Laws.BytesArg
namespace Go.DsMem
open Go.RowKit

theorem hide {p : Prop} (h : p) : Hid p := h

/-- a byte as a value -/
def bv (u : UInt8) : Value := .int .u8 (u.toNat : Int)
def bvs (l : List UInt8) : List Value := l.map bv
theorem bvs_length (l : List UInt8) : (bvs l).length = l.length := by simp [bvs]
theorem bvs_get (l : List UInt8) (j : Nat) : (bvs l)[j]? = l[j]?.map bv := by simp [bvs]
theorem bvs_append (a b : List UInt8) : bvs (a ++ b) = bvs a ++ bvs b := by simp [bvs]
theorem bvs_take (a : List UInt8) (n : Nat) : bvs (a.take n) = (bvs a).take n := by simp [bvs, List.map_take]
theorem bvs_one (l : List UInt8) : ∀ u ∈ bvs l, u.oneCell' = true := by
  intro u hu; simp [bvs] at hu; obtain ⟨a, _, rfl⟩ := hu; rfl
theorem add_mk (g o j : Nat) : (⟨g, o, none⟩ : Addr).add j = ⟨g, o + j, none⟩ := by unfold Addr.add; split <;> simp_all

/-- the slice value sl reads as the bytes l -/
def Rd (w : World) (sl : Value) (l : List UInt8) : Prop :=
  ∃ ao cap, sl = .slice ao l.length cap ∧ l.length ≤ cap ∧ (ao = none → l.length = 0 ∧ cap = 0) ∧ ∀ a, ao = some a → ∀ j u, l[j]? = some u → w.cell? (a.add j) = some (bv u)

theorem Rd.nil (w : World) : Rd w (.slice none 0 0) [] := ⟨none, 0, rfl, Nat.le_refl _, fun _ => ⟨rfl, rfl⟩, fun _ h => by cases h⟩

/-- all that a slice reads lies in blocks that stand as they stood -/
theorem Rd.mono {w w' : World} {sl : Value} {l : List UInt8} (h : Rd w sl l) (hc : ∀ a v, w.cell? a = some v → w'.cell? a = some v) : Rd w' sl l := by
  obtain ⟨ao, cap, hs, hl, hn, hr⟩ := h
  exact ⟨ao, cap, hs, hl, hn, fun a ha j u hu => hc _ _ (hr a ha j u hu)⟩

theorem Below.keeps {B : Nat} {w w' : World} (h : Below B w w') (hB : w.heap.size ≤ B) {a : Addr} {v : Value} (hc : w.cell? a = some v) : w'.cell? a = some v :=
  (h.cell (Nat.lt_of_lt_of_le (World.block_lt_of_cell? w a hc) hB)).trans hc

theorem Rd.below {w w' : World} {sl : Value} {l : List UInt8} (h : Rd w sl l) (hb : Below w.heap.size w w') : Rd w' sl l :=
  h.mono fun _ _ hc => Below.keeps hb (Nat.le_refl _) hc

/-- a row of bytes that is owned reads as them -/
theorem Rd.own {w : World} {B : Nat} {e : TypeId} {v : Value} {n : Nat} {l : List UInt8} (h : w.ownsRow B e 1 v n (bvs l)) : Rd w v l := by
  have hn : n = l.length := by have := h.1; simp [bvs] at this; omega
  subst hn
  rcases h.2 with ⟨rfl, h0⟩ | ⟨g, cap, cur, rfl, hb, hg, h1, h2, h3, h4⟩
  · exact ⟨none, 0, by rw [h0], by omega, fun _ => ⟨h0, rfl⟩, fun _ h => by cases h⟩
  · refine ⟨some ⟨g, 0, none⟩, cap, rfl, h1, fun h => (by cases h), fun a ha j u hu => ?_⟩
    obtain rfl : (⟨g, 0, none⟩ : Addr) = a := Option.some.inj ha
    exact h.cells (g := g) rfl j (bv u) (by rw [bvs_get, hu]; rfl)

theorem own_len {w : World} {B : Nat} {e : TypeId} {v : Value} {n : Nat} {l : List UInt8} (h : w.ownsRow B e 1 v n (bvs l)) : n = l.length := by
  have := h.1; simp [bvs] at this; omega

theorem own_base {w : World} {B B' : Nat} {e : TypeId} {v : Value} {n : Nat} {xs : List Value} (h : w.ownsRow B e 1 v n xs) (hB : B' ≤ B) : w.ownsRow B' e 1 v n xs := by
  refine ⟨h.1, ?_⟩
  rcases h.2 with h0 | ⟨g, cap, cur, hv, hb, r⟩
  · exact .inl h0
  · exact .inr ⟨g, cap, cur, hv, by omega, r⟩

/-- what is owned stays owned where its block stands as it stood -/
theorem own_same {w w' : World} {B : Nat} {e : TypeId} {v : Value} {n : Nat} {xs : List Value} (h : w.ownsRow B e 1 v n xs) (hk : ∀ k, v.ownBlock = some k → w'.heap[k]? = w.heap[k]?) : w'.ownsRow B e 1 v n xs := by
  refine ⟨h.1, ?_⟩
  rcases h.2 with h0 | ⟨g, cap, cur, rfl, hb, hg, r⟩
  · exact .inl h0
  · exact .inr ⟨g, cap, cur, rfl, hb, by rw [hk g rfl]; exact hg, r⟩

theorem own_below {w w' : World} {B : Nat} {e : TypeId} {v : Value} {n : Nat} {xs : List Value} (h : w.ownsRow B e 1 v n xs) (hb : Below w.heap.size w w') : w'.ownsRow B e 1 v n xs :=
  own_same h fun k hk => hb.block k (h.lt k hk).2

theorem own_shape {w : World} {B : Nat} {e : TypeId} {v : Value} {n : Nat} {xs : List Value} (h : w.ownsRow B e 1 v n xs) : ∃ ao cap, v = .slice ao n cap ∧ n ≤ cap := by
  rcases h.2 with ⟨rfl, rfl⟩ | ⟨g, cap, cur, rfl, _, _, hc, _⟩
  · exact ⟨none, 0, rfl, Nat.le_refl _⟩
  · exact ⟨some ⟨g, 0, none⟩, cap, rfl, hc⟩

/-- the row of a slice at its block's head whose length is its capacity -/
theorem own_row {w : World} {B : Nat} {e : TypeId} {g n c : Nat} {xs : List Value} (h : w.ownsRow B e 1 (.slice (some ⟨g, 0, none⟩) n c) n xs) : ∃ cur : List Value, w.heap[g]? = some (.cells cur.toArray e (0, 0)) ∧ cur.length = c ∧ cur.take n = xs ∧ n ≤ c ∧ c ≤ maxLen ∧ B ≤ g := by
  rcases h.2 with ⟨h0, _⟩ | ⟨g', cap, cur, hv, hb, hg, h1, h2, h3, h4⟩
  · cases h0
  · obtain ⟨rfl, rfl⟩ : g = g' ∧ c = cap := by simpa using hv
    exact ⟨cur.toList, by simpa using hg, by simpa using h3, by simpa using h4, h1, h2, hb⟩
theorem own_mk {w : World} {B : Nat} {e : TypeId} {g n c : Nat} {xs cur : List Value} (hg : w.heap[g]? = some (.cells cur.toArray e (0, 0))) (hc : cur.length = c) (hx : cur.take n = xs) (h1 : n ≤ c) (h2 : c ≤ maxLen) (hB : B ≤ g) :
    w.ownsRow B e 1 (.slice (some ⟨g, 0, none⟩) n c) n xs := by
  refine ⟨?_, .inr ⟨g, c, cur.toArray, rfl, hB, hg, h1, h2, by simpa using hc, by simpa using hx⟩⟩
  rw [← hx]; simp; omega

theorem splice_all {α : Type} (L cs : List α) (h : cs.length = L.length) : splice L 0 cs = cs := by
  unfold splice; simp [h]

/-- the slice value sl reads as the numbers ns -/
def RdI (w : World) (sl : Value) (ns : List Int) : Prop :=
  ∃ ao cap, sl = .slice ao ns.length cap ∧ ns.length ≤ cap ∧ (ao = none → ns.length = 0 ∧ cap = 0) ∧ ∀ a, ao = some a → ∀ j u, ns[j]? = some u → w.cell? (a.add j) = some (.int .i64 u)
theorem RdI.nil (w : World) : RdI w (.slice none 0 0) [] := ⟨none, 0, rfl, Nat.le_refl _, fun _ => ⟨rfl, rfl⟩, fun _ h => by cases h⟩
theorem RdI.mono {w w' : World} {sl : Value} {l : List Int} (h : RdI w sl l) (hc : ∀ a v, w.cell? a = some v → w'.cell? a = some v) : RdI w' sl l := by
  obtain ⟨ao, cap, hs, hl, hn, hr⟩ := h
  exact ⟨ao, cap, hs, hl, hn, fun a ha j u hu => hc _ _ (hr a ha j u hu)⟩
theorem RdI.below {w w' : World} {sl : Value} {l : List Int} (h : RdI w sl l) (hb : Below w.heap.size w w') : RdI w' sl l :=
  h.mono fun _ _ hc => Below.keeps hb (Nat.le_refl _) hc
theorem RdI.new1 (w : World) (f : Int) (t : TypeId) : RdI (w.alloc (.cells #[.int .i64 f] t)) (.slice (some ⟨w.heap.size, 0, none⟩) 1 1) [f] := by
  refine ⟨_, 1, rfl, Nat.le_refl _, fun h => (by cases h), fun a ha j u hu => ?_⟩
  obtain rfl : (⟨w.heap.size, 0, none⟩ : Addr) = a := Option.some.inj ha
  rw [add_mk, World.cell?_alloc_mark]
  match j, hu with
  | 0, hu => simp at hu; subst hu; rfl
theorem RdI.new2 (w : World) (f g : Int) (t : TypeId) : RdI (w.alloc (.cells #[.int .i64 f, .int .i64 g] t)) (.slice (some ⟨w.heap.size, 0, none⟩) 2 2) [f, g] := by
  refine ⟨_, 2, rfl, Nat.le_refl _, fun h => (by cases h), fun a ha j u hu => ?_⟩
  obtain rfl : (⟨w.heap.size, 0, none⟩ : Addr) = a := Option.some.inj ha
  rw [add_mk, World.cell?_alloc_mark]
  match j, hu with
  | 0, hu => simp at hu; subst hu; rfl
  | 1, hu => simp at hu; subst hu; rfl

/-- bytes as a text -/
def bstr (l : List UInt8) : ByteArray := ⟨l.toArray⟩
theorem bstr_inj {a b : List UInt8} (h : bstr a = bstr b) : a = b := by
  have := congrArg (fun s : ByteArray => s.data.toList) h
  simpa [bstr] using this

theorem ofNat_bv (l : List UInt8) : (l.map fun u => (u.toNat : Int)).map (fun n => UInt8.ofNat n.toNat) = l := by
  induction l with
  | nil => rfl
  | cons a l ih => simp only [List.map_cons, ih]; simp

/-- string(b) of a slice that reads as l -/
theorem run_conv_rd {P : Program} {src dst e : TypeId} (hs : P.underlying src = some (.slice e)) (he : P.underlying e = some (.int .u8)) (hd : P.underlying dst = some .string)
    {w : World} {sl : Value} {l : List UInt8} (h : Rd w sl l) : (convert src dst sl).run P w = .ok (.string (bstr l)) w := by
  obtain ⟨ao, cap, rfl, hl, hn, hr⟩ := h
  cases ao with
  | none =>
    obtain ⟨h0, _⟩ := hn rfl
    obtain rfl : l = [] := List.eq_nil_of_length_eq_zero h0
    exact run_convert_bytes_nil w src e hs he _ _ dst hd
  | some a =>
    have hl : (loadCells a l.length).run P w = .ok ((l.map fun u => (u.toNat : Int)).map (Value.int .u8)).toArray w := by
      have := run_loadCells_list (P := P) w a (bvs l) (fun j v hj => by
        rw [bvs_get] at hj
        obtain ⟨u, hu, rfl⟩ := Option.map_eq_some_iff.1 hj
        exact hr a rfl j u hu)
      rw [bvs_length] at this
      rw [this, List.map_map]
      rfl
    rw [run_convert_bytes_string w src dst e _ _ cap hs he hd, run_bytesToString w _ _ cap _ hl, foldl_push_bytes, ofNat_bv]
    simp [bstr, ByteArray.empty, ByteArray.emptyWithCapacity]
    rfl

/-- but for the blocks of S, and new ones, the world w' is as w was -/
structure Only (S : Nat → Prop) (w w' : World) : Prop where
  os : w'.os = w.os
  tape : w'.tape = w.tape
  output : w'.output = w.output
  size : w.heap.size ≤ w'.heap.size
  block : ∀ k, k < w.heap.size → ¬ S k → w'.heap[k]? = w.heap[k]?
theorem Only.refl (S : Nat → Prop) (w : World) : Only S w w := ⟨rfl, rfl, rfl, Nat.le_refl _, fun _ _ _ => rfl⟩
theorem Only.trans {S T : Nat → Prop} {a b c : World} (h : Only S a b) (k : Only T b c) (hT : ∀ i, i < a.heap.size → T i → S i) : Only S a c :=
  ⟨k.os.trans h.os, k.tape.trans h.tape, k.output.trans h.output, Nat.le_trans h.size k.size, fun i hi hs => (k.block i (Nat.lt_of_lt_of_le hi h.size) (fun ht => hs (hT i hi ht))).trans (h.block i hi hs)⟩
theorem Only.mono {S T : Nat → Prop} {a b : World} (h : Only S a b) (hS : ∀ i, i < a.heap.size → S i → T i) : Only T a b :=
  ⟨h.os, h.tape, h.output, h.size, fun i hi ht => h.block i hi (fun hs => ht (hS i hi hs))⟩
theorem Only.below {S : Nat → Prop} {a b : World} (h : Below a.heap.size a b) : Only S a b := ⟨h.os, h.tape, h.output, h.size, fun i hi _ => h.block i hi⟩
theorem Only.toBelow {S : Nat → Prop} {a b : World} {B : Nat} (h : Only S a b) (hB : B ≤ a.heap.size) (hS : ∀ i, S i → B ≤ i) : Below B a b :=
  ⟨h.os, h.tape, h.output, h.size, fun i hi => h.block i (by omega) (fun hs => by have := hS i hs; omega)⟩
theorem Only.setCell (w : World) (p : Addr) (x : Value) : Only (· = p.block) w (w.setCell p x) :=
  ⟨rfl, rfl, rfl, by simp [World.setCell], fun i _ hi => Below.heap_setCell _ _ _ _ hi⟩
theorem Only.set (w : World) (p k : Nat) (x : Value) : Only (· = p) w (w.setCell ⟨p, k, none⟩ x) := Only.setCell w ⟨p, k, none⟩ x
theorem Only.grown {w w' : World} {row : Option Nat} (h : w.grownBy w' row) : Only (fun k => row = some k) w w' :=
  ⟨h.os, h.tape, h.output, h.size, fun i hi hs => h.block i hi (fun e => hs e.symm)⟩
theorem Only.alloc (S : Nat → Prop) (w : World) (o : Obj) : Only S w (w.alloc o) := Only.below ((Below.refl _ _).alloc (Nat.le_refl _) o)
theorem Only.drew {S : Nat → Prop} {a w : World} (h : Only S a w) : Only S a w.drew := ⟨h.os, h.tape, h.output, h.size, h.block⟩
theorem Only.cell {S : Nat → Prop} {w w' : World} (h : Only S w w') {a : Addr} {v : Value} (hc : w.cell? a = some v) (hn : ¬ S a.block) : w'.cell? a = some v :=
  (World.cell?_of_block (w := w) (h.block a.block (World.block_lt_of_cell? w a hc) hn)).trans hc
theorem own_only {S : Nat → Prop} {w w' : World} {B : Nat} {e : TypeId} {v : Value} {n : Nat} {xs : List Value} (h : w.ownsRow B e 1 v n xs) (ho : Only S w w') (hn : ∀ k, v.ownBlock = some k → ¬ S k) : w'.ownsRow B e 1 v n xs :=
  own_same h fun k hk => ho.block k (h.lt k hk).2 (hn k hk)

theorem hset_same {w : World} {p k : Nat} {cur : Array Value} {e : TypeId} (h : w.heap[p]? = some (.cells cur e (0, 0))) (x : Value) :
    (w.setCell ⟨p, k, none⟩ x).heap[p]? = some (.cells (cur.setIfInBounds k x) e (0, 0)) := by
  simp [World.setCell, Array.getElem?_modify, h]
theorem block_lt {w : World} {p : Nat} {o : Obj} (h : w.heap[p]? = some o) : p < w.heap.size := (Array.getElem?_eq_some_iff.1 h).1
theorem cell_of {w : World} {p k : Nat} {cur : Array Value} {e : TypeId} (h : w.heap[p]? = some (.cells cur e (0, 0))) : w.cell? ⟨p, k, none⟩ = cur[k]? := by
  simp [World.cell?, h]
theorem frozen_of {w : World} {p k : Nat} {cur : Array Value} {e : TypeId} (h : w.heap[p]? = some (.cells cur e (0, 0))) : w.frozen? ⟨p, k, none⟩ = false := by
  simp [World.frozen?, h]
theorem own_drew {w : World} {B : Nat} {e : TypeId} {v : Value} {n : Nat} {xs : List Value} (h : w.ownsRow B e 1 v n xs) : w.drew.ownsRow B e 1 v n xs := h
theorem Rd.drew {w : World} {sl : Value} {l : List UInt8} (h : Rd w sl l) : Rd w.drew sl l := h
end Go.DsMem
